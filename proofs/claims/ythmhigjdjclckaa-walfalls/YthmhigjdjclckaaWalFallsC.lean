/-
  Proved: for every list of acts the call WalFalls(l, f) returns true, for every fall f, and each argument reads afterwards as it read before. No condition.
-/
import Derived.Test.YthmhigjdjclckaaRows
import Derived.Test.YthmhigjdjclckaaWalFWC
import Derived.ProofKit
import Derived.OpenShut
import Derived.ShutString
import Derived.ChangeOld
import Derived.SizedLaws
import Derived.Deep.Slices
import Derived.Lib.SmallJoins
namespace Go.Proofs.Ythmhigjdjclckaa.LawFalls
open Go.ChangeShapes Go.WideShapes Go.ChangeAt Go.RowKit Go.Deep
open Go.ChangeMaps (open_string shut_string)
set_option linter.unusedVariables false

theorem own : ownKnob Try.prog.godebug = none := by kernel_rfl
theorem laidOut : laidOutB Try.prog = true := by kernel_rfl
theorem cellsA : Try.prog.cellsOf 40 = 9 := by kernel_rfl
theorem cellsF : Try.prog.cellsOf 38 = 5 := by kernel_rfl
theorem cellsI : Try.prog.cellsOf 3 = 1 := by kernel_rfl
theorem cellsU : Try.prog.cellsOf 32 = 1 := by kernel_rfl
theorem cellsS : Try.prog.cellsOf 9 = 1 := by kernel_rfl

theorem struct5 {H : Type} {enc : TypeId × Value → H} {P : Program} {w : World} {base : Nat} {spare : Nat → Bool} {held : Bool} {t : TypeId} {f0 f1 f2 f3 f4 : Field} {fuel : Nat} {cs : List Value} {x : DataW H × List MemPlace} (ht : P.underlying t = some (.struct #[f0, f1, f2, f3, f4])) (h : DataW.trod enc P w base spare held fuel t cs = some x) :
    ∃ y0 y1 y2 y3 y4 n, DataW.trod enc P w base spare held n f0.type ((cs.drop f0.offset).take (P.cellsOf f0.type)) = some y0 ∧
      DataW.trod enc P w base spare held n f1.type ((cs.drop f1.offset).take (P.cellsOf f1.type)) = some y1 ∧ DataW.trod enc P w base spare held n f2.type ((cs.drop f2.offset).take (P.cellsOf f2.type)) = some y2 ∧
      DataW.trod enc P w base spare held n f3.type ((cs.drop f3.offset).take (P.cellsOf f3.type)) = some y3 ∧ DataW.trod enc P w base spare held n f4.type ((cs.drop f4.offset).take (P.cellsOf f4.type)) = some y4 := by
  obtain ⟨xs, n, _, rfl, hl, hlen, hf⟩ := DataW.trod_struct ht h
  match xs, hlen with
  | [y0, y1, y2, y3, y4], _ => exact ⟨y0, y1, y2, y3, y4, n, by simpa using hf 0 f0 rfl, by simpa using hf 1 f1 rfl, by simpa using hf 2 f2 rfl, by simpa using hf 3 f3 rfl, by simpa using hf 4 f4 rfl⟩

theorem add_off (b o i : Nat) : (⟨b, o, none⟩ : Addr).add i = ⟨b, o + i, none⟩ := by
  by_cases h0 : i = 0
  · subst h0; simp [Addr.add]
  · simp [Addr.add, h0]

theorem list9 {α : Type} {cs : List α} (h : cs.length = 9) : ∃ c0 c1 c2 c3 c4 c5 c6 c7 c8, cs = [c0, c1, c2, c3, c4, c5, c6, c7, c8] := by
  match cs, h with
  | [c0, c1, c2, c3, c4, c5, c6, c7, c8], _ => exact ⟨c0, c1, c2, c3, c4, c5, c6, c7, c8, rfl⟩

theorem u64b {n : Int} (h : Lit.wf (.int .u64 n) = true) : 0 ≤ n ∧ n ≤ 18446744073709551615 := by
  have e1 : IntKind.u64.min = 0 := by decide
  have e2 : IntKind.u64.max = 18446744073709551615 := by decide
  simpa [Lit.wf, e1, e2] using h

set_option maxHeartbeats 1600000 in
set_option maxRecDepth 60000 in
theorem open_act {H : Type} {enc : TypeId × Value → H} {w : World} {base : Nat} {spare : Nat → Bool} {held : Bool} {fuel i b o : Nat} {cs : List Value} {D : DataW H} {Pl : List MemPlace}
    (h1 : w.cells? base ((⟨b, o, none⟩ : Addr).add (i * 9)) 9 = some cs) (h2 : DataW.trod enc Try.prog w base spare held fuel 40 cs = some (D, Pl)) :
    ∃ v : AcV, b < w.heap.size ∧ AcAt w b (o + i * 9) v ∧ AcOk v := by
  obtain ⟨_, hlen, hcell⟩ := World.cells?_some h1
  obtain ⟨y0, y1, y2, y3, y4, n, g0, g1, g2, g3, g4⟩ := struct5 Try.underlying40 h2
  obtain ⟨v0, v1, v2, v3, v4, v5, v6, v7, v8, rfl⟩ := list9 hlen
  simp only [cellsI, cellsS, cellsU, cellsF] at g0 g1 g2 g3 g4
  obtain ⟨z0, z1, z2, z3, z4, n', q0, q1, q2, q3, q4⟩ := struct5 Try.underlying38 g4
  simp only [cellsI, cellsU] at q0 q1 q2 q3 q4
  obtain ⟨a0, e0, rfl, _⟩ := DataW.trod_int Try.underlying3 g0
  obtain ⟨a1, e1, rfl, _⟩ := DataW.trod_int Try.underlying3 g1
  obtain ⟨a2, e2, rfl, k2⟩ := DataW.trod_string Try.underlying9 g2
  obtain ⟨a3, e3, rfl, k3⟩ := DataW.trod_int Try.underlying32 g3
  obtain ⟨a4, e4, rfl, _⟩ := DataW.trod_int Try.underlying3 q0
  obtain ⟨a5, e5, rfl, k5⟩ := DataW.trod_int Try.underlying32 q1
  obtain ⟨a6, e6, rfl, _⟩ := DataW.trod_int Try.underlying3 q2
  obtain ⟨a7, e7, rfl, _⟩ := DataW.trod_int Try.underlying3 q3
  obtain ⟨a8, e8, rfl, _⟩ := DataW.trod_int Try.underlying3 q4
  simp at e0 e1 e2 e3 e4 e5 e6 e7 e8
  subst e0 e1 e2 e3 e4 e5 e6 e7 e8
  have b3 := u64b k3
  have b5 := u64b k5
  obtain ⟨x, rfl⟩ := Int.eq_ofNat_of_zero_le b3.1
  obtain ⟨f2, rfl⟩ := Int.eq_ofNat_of_zero_le b5.1
  have c0 := hcell 0 (by omega)
  have c1 := hcell 1 (by omega)
  have c2 := hcell 2 (by omega)
  have c3 := hcell 3 (by omega)
  have c4 := hcell 4 (by omega)
  have c5 := hcell 5 (by omega)
  have c6 := hcell 6 (by omega)
  have c7 := hcell 7 (by omega)
  have c8 := hcell 8 (by omega)
  simp only [add_off, List.getElem?_cons_zero, List.getElem?_cons_succ] at c0 c1 c2 c3 c4 c5 c6 c7 c8
  exact ⟨⟨a0, a1, a2, x, a4, f2, a6, a7, a8⟩, World.block_lt_of_cell? _ _ c0, ⟨c0, c1, c2, c3, c4, c5, c6, c7, c8⟩, ⟨k2, by show x < _; omega, by show f2 < _; omega⟩⟩

theorem open_args {H : Type} {enc : TypeId × Value → H} {w : World} {base : Nat} {spare : Nat → Bool} {held : Bool} {a : Option Addr} {len cap : Nat} {d : DataW H} {pl : List MemPlace}
    (h : DataW.Trod enc Try.prog w base spare held 22 (.slice a len cap) d pl) : ∃ A : Nat → AcV, ArgAcs w a len A ∧ len ≤ 9223372036854775807 := by
  obtain ⟨fuel, hf⟩ := h
  rcases open_slice Try.underlying22 hf with ⟨hcs, hx⟩ | ⟨a', len', cap', m, n, D, Pl, hcs, _, hl, hm, hmm, hx, hel⟩
  · simp [Value.cells] at hcs
    obtain ⟨rfl, rfl, rfl⟩ := hcs
    exact ⟨fun _ => ⟨0, 0, ⟨#[]⟩, 0, 0, 0, 0, 0, 0⟩, .inl rfl, by omega⟩
  · simp [Value.cells] at hcs
    obtain ⟨rfl, rfl, rfl⟩ := hcs
    have hlm : len ≤ m := by rw [hmm]; split <;> omega
    rw [cellsA] at hel
    have hbig : len ≤ 9223372036854775807 := by unfold maxLen at hm; omega
    by_cases h0 : len = 0
    · exact ⟨fun _ => ⟨0, 0, ⟨#[]⟩, 0, 0, 0, 0, 0, 0⟩, .inl h0, hbig⟩
    · obtain ⟨cs0, q0, _⟩ := hel 0 (by omega)
      obtain ⟨_, hlen0, hc0⟩ := World.cells?_some q0
      have hc00 := hc0 0 (by omega)
      obtain ⟨v0, v1, v2, v3, v4, v5, v6, v7, v8, rfl⟩ := list9 hlen0
      have hsp : a'.spot = none := by
        have := World.cell?_spot (show w.cell? a' = some v0 by simpa [Addr.add] using hc00)
        exact this
      obtain ⟨b, o, sp⟩ := a'
      simp only at hsp
      subst hsp
      have hex : ∀ i, ∃ v : AcV, i < len → b < w.heap.size ∧ AcAt w b (o + i * 9) v ∧ AcOk v := fun i => by
        by_cases hi : i < len
        · obtain ⟨cs, q1, q2⟩ := hel i (by omega)
          obtain ⟨v, hv⟩ := open_act q1 q2
          exact ⟨v, fun _ => hv⟩
        · exact ⟨⟨0, 0, ⟨#[]⟩, 0, 0, 0, 0, 0, 0⟩, fun x => absurd x hi⟩
      refine ⟨fun i => Classical.choose (hex i), .inr ⟨b, o, rfl, ?_, fun i hi => (Classical.choose_spec (hex i) hi).2⟩, hbig⟩
      exact (Classical.choose_spec (hex 0) (by omega)).1

theorem i64b {n : Int} (h : Lit.wf (.int .i64 n) = true) : -9223372036854775808 ≤ n ∧ n ≤ 9223372036854775807 := by
  have e1 : IntKind.i64.min = -9223372036854775808 := by decide
  have e2 : IntKind.i64.max = 9223372036854775807 := by decide
  simpa [Lit.wf, e1, e2] using h

set_option maxRecDepth 100000 in
theorem open_fall {H : Type} {enc : TypeId × Value → H} {w : World} {base b0 : Nat} {r : Reach} {spare : Nat → Bool} {held : Bool} {v : Value} {d : DataW H} {pl : List MemPlace}
    (hv : Value.okWide Try.prog w r b0 38 v) (h : DataW.Trod enc Try.prog w base spare held 38 v d pl) : ∃ (f1 : Int) (f2 : Nat) (f3 f4 f5 : Int), v = .agg #[.int .i64 f1, .int .u64 f2, .int .i64 f3, .int .i64 f4, .int .i64 f5] ∧ f2 < 18446744073709551616 ∧ -9223372036854775808 ≤ f1 ∧ f1 ≤ 9223372036854775807 := by
  obtain ⟨fuel, hf⟩ := h
  obtain ⟨cs, rfl, hsz⟩ := okWide_struct Try.underlying38 hv
  rw [cellsF] at hsz
  obtain ⟨cl⟩ := cs
  match cl, hsz with
  | [x0, x1, x2, x3, x4], _ =>
  simp only [Value.cells] at hf
  obtain ⟨z0, z1, z2, z3, z4, n', q0, q1, q2, q3, q4⟩ := struct5 Try.underlying38 hf
  simp only [cellsI, cellsU] at q0 q1 q2 q3 q4
  obtain ⟨a4, e4, _, k4⟩ := DataW.trod_int Try.underlying3 q0
  obtain ⟨a5, e5, _, k5⟩ := DataW.trod_int Try.underlying32 q1
  obtain ⟨a6, e6, _, _⟩ := DataW.trod_int Try.underlying3 q2
  obtain ⟨a7, e7, _, _⟩ := DataW.trod_int Try.underlying3 q3
  obtain ⟨a8, e8, _, _⟩ := DataW.trod_int Try.underlying3 q4
  simp at e4 e5 e6 e7 e8
  subst e4 e5 e6 e7 e8
  have b5 := u64b k5
  obtain ⟨f2, rfl⟩ := Int.eq_ofNat_of_zero_le b5.1
  have b4 := i64b k4
  exact ⟨a4, f2, a6, a7, a8, rfl, by omega, b4.1, b4.2⟩

set_option maxRecDepth 100000 in
theorem lifted (os : Os) (started : os.Started) (H : Type) (enc : TypeId × Value → H) :
    ReturnsInHanded {} Try.checked os 4 .any (Rows.walFallsSpec.pre6 enc Try.prog Try.f4 Rows.walFallsRow.domain false) (Rows.walFallsSpec.post enc Try.prog Try.f4 false true false false) := by
  refine returnsInHanded_of_change_sized (C := Try.checked) own started (by kernel_rfl) Try.func4
    (ChangeSpec.witness6 (enc := enc) (C := Try.checked) false ⟨#[], #[.slice none 0 0, .agg #[.int .i64 0, .int .u64 0, .int .i64 0, .int .i64 0, .int .i64 0]], []⟩ 8 (by kernel_rfl) (by kernel_rfl) (by kernel_rfl) (by kernel_rfl)) ?_
  intro W base args ds gs before hval0 hW hcnd hsz0 _
  have hval : ∀ (j : Nat) t v, Try.f4.params[j]? = some t → args[j]? = some v → Value.okWide Try.prog W .any base t v := hval0
  have hW' := hW
  obtain ⟨p, q, hA0, hV, rfl, hfz, hnd⟩ := hW
  have hA : DataW.TrodAll enc Try.prog W 0 (fun _ => true) true Try.f4.params.toList args.toList ds p := hA0
  rw [Try.params4] at hA hval
  obtain ⟨v0, v1, d0, d1, p0, p1, rfl, rfl, rfl, h0, h1⟩ := trodAll_two hA
  obtain ⟨rfl, rfl⟩ := trodVars_none hV
  obtain ⟨a0, len0, cap0, rfl⟩ := okWide_slice Try.underlying22 (hval 0 22 v0 rfl rfl)
  have k1 := h1
  have lt1 : ∀ x ∈ p1, x.block < W.heap.size := by obtain ⟨m, hm⟩ := k1; exact DataW.trod_lt m _ _ _ hm
  obtain ⟨f1, f2, f3, f4, f5, rfl, hb2, hb1⟩ := open_fall (hval 1 38 v1 rfl rfl) h1
  have k0 := h0
  have lt0 : ∀ x ∈ p0, x.block < W.heap.size := by obtain ⟨m, hm⟩ := k0; exact DataW.trod_lt m _ _ _ hm
  obtain ⟨A0, hA1, hn1⟩ := open_args h0
  clear hA0 hval0 hsz0
  refine (falls_walk a0 len0 cap0 A0 f1 f2 f3 f4 f5 W hA1 hn1 hb2 hb1).mono fun e W' ⟨he, bel⟩ => ?_
  subst he
  exact ⟨_, rfl, _, _, _, [], _, [], hW', trodAll_mk1 (shut_bool Try.underlying4 _), trodAll_mk2 (Below.trod laidOut (by kernel_rfl) (of_decide_eq_true (by kernel_rfl)) k0 bel lt0) (Below.trod laidOut (by kernel_rfl) (of_decide_eq_true (by kernel_rfl)) k1 bel lt1), rfl, bel.frame _, fun h => by cases h⟩

theorem over : Rows.walFallsRow.holds Try.pinned (OpenSpec.ofChange Rows.walFallsSpec) :=
  OpenClaim.holds_of_wide 4 Try.f4 rfl rfl rfl rfl rfl rfl rfl ⟨rfl, rfl, rfl, rfl, rfl⟩ rfl rfl rfl rfl rfl (by kernel_rfl) Try.func4 (by kernel_rfl)
    (of_decide_eq_true (by kernel_rfl)) (by unfold Func.isWrapper; first | (rw [if_pos (by decide +kernel)]; kernel_rfl) | (rw [if_neg (by decide +kernel)]; exact ⟨rfl, rfl⟩))
    (fun os started H enc _ => lifted os started H enc)

end Go.Proofs.Ythmhigjdjclckaa.LawFalls

namespace Go.Proofs.Ythmhigjdjclckaa
theorem walFalls_holds : Rows.WalFallsSaid := LawFalls.over
#print axioms walFalls_holds
end Go.Proofs.Ythmhigjdjclckaa
