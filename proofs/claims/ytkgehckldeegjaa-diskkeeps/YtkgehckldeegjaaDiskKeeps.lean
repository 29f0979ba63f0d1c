/-
  DiskKeeps: the claim.
-/
import Derived.Test.YtkgehckldeegjaaRows
import Derived.Test.YtkgehckldeegjaaKeepsWalk
import Derived.ProofKit
import Derived.OpenShut
import Derived.ShutString
import Derived.ChangeOld
import Derived.SizedLaws
namespace Go.Proofs.Ytkgehckldeegjaa.LawKeeps
open Go.ChangeShapes Go.WideShapes Go.ChangeAt Go.RowKit
open Go.ChangeMaps (open_string shut_string)
set_option linter.unusedVariables false

theorem own : ownKnob Try.prog.godebug = none := by kernel_rfl
theorem laidOut : laidOutB Try.prog = true := by kernel_rfl

theorem fallCells : Try.prog.cellTypes Try.prog.depth 34 = some [3, 32, 3, 3, 3] := by kernel_rfl

theorem cell_val {P : Program} {w : World} {r : Reach} {base : Nat} {u : TypeId} {v : Value} {td : TypeDesc} (hu : P.underlying u = some td) (h1 : ∀ fs, td ≠ .struct fs) (h2 : ∀ x y, td ≠ .array x y) (h : Cell.okWide P w r base u v) : Value.okWide P w r base u v := by
  unfold Value.okWide
  rw [hu]
  split
  · rename_i e; exact absurd (Option.some.inj e) (h1 _)
  · rename_i e; exact absurd (Option.some.inj e) (h2 _ _)
  · exact h

set_option maxRecDepth 100000 in
theorem u64_cell {w : World} {r : Reach} {base : Nat} {v : Value} (h : Cell.okWide Try.prog w r base 32 v) : ∃ n : Nat, v = .int .u64 n ∧ n < 18446744073709551616 := by
  obtain ⟨n, rfl⟩ := okWide_int Try.underlying32 (cell_val Try.underlying32 (by intro _ e; cases e) (by intro _ _ e; cases e) h)
  unfold Cell.okWide at h
  rw [Try.underlying32] at h
  simp only [Cell.ok, Try.underlying32] at h
  have e1 : IntKind.u64.min = 0 := by decide
  have e2 : IntKind.u64.max = 18446744073709551615 := by decide
  simp only [IntKind.has, e1, e2, true_and] at h
  exact ⟨n.toNat, by congr 1; omega, by omega⟩

set_option maxRecDepth 100000 in
theorem fall_shape {w : World} {r : Reach} {base : Nat} {v : Value} (h : Value.okWide Try.prog w r base 34 v) : ∃ f : FG, v = .agg (fcells f).toArray ∧ f.keep < 18446744073709551616 := by
  unfold Value.okWide at h
  rw [Try.underlying34] at h
  obtain ⟨cs, rfl, hsz, ts, hts, _, hc⟩ := h
  rw [fallCells] at hts
  cases hts
  have hc5 : Try.prog.cellsOf 34 = 5 := by kernel_rfl
  rw [hc5] at hsz
  obtain ⟨l⟩ := cs
  obtain ⟨x0, x1, x2, x3, x4, rfl⟩ : ∃ x0 x1 x2 x3 x4, l = [x0, x1, x2, x3, x4] := by
    match l, hsz with
    | [x0, x1, x2, x3, x4], _ => exact ⟨_, _, _, _, _, rfl⟩
  have int : ∀ {x : Value}, Cell.okWide Try.prog w r base 3 x → ∃ n, x = .int .i64 n := fun hx => okWide_int Try.underlying3 (cell_val Try.underlying3 (by intro _ e; cases e) (by intro _ _ e; cases e) hx)
  obtain ⟨u0, e0, q0⟩ := hc 0 x0 rfl
  obtain ⟨u1, e1, q1⟩ := hc 1 x1 rfl
  obtain ⟨u2, e2, q2⟩ := hc 2 x2 rfl
  obtain ⟨u3, e3, q3⟩ := hc 3 x3 rfl
  obtain ⟨u4, e4, q4⟩ := hc 4 x4 rfl
  cases e0; cases e1; cases e2; cases e3; cases e4
  obtain ⟨f1, rfl⟩ := int q0
  obtain ⟨f2, rfl, hf⟩ := u64_cell q1
  obtain ⟨f3, rfl⟩ := int q2
  obtain ⟨f4, rfl⟩ := int q3
  obtain ⟨f5, rfl⟩ := int q4
  exact ⟨⟨f1, f2, f3, f4, f5⟩, rfl, hf⟩

theorem cells16 : Try.prog.cellsOf 44 = 1 := by kernel_rfl

theorem open_u16 {H : Type} {enc : TypeId × Value → H} {w : World} {base : Nat} {spare : Nat → Bool} {held : Bool} {a : Option Addr} {len cap : Nat} {d : DataW H} {pl : List MemPlace}
    (h : DataW.Trod enc Try.prog w base spare held 42 (.slice a len cap) d pl) : ∃ A : Nat → Nat, IsU16 w a len A := by
  obtain ⟨fuel, hf⟩ := h
  rcases open_ints Try.underlying42 Try.underlying44 cells16 hf with ⟨hcs, _⟩ | ⟨a', len', cap', zs, hcs, _, hl, hm, hss, _, hc, hz⟩
  · simp [Value.cells] at hcs
    obtain ⟨rfl, rfl, rfl⟩ := hcs
    exact ⟨fun _ => 0, by omega, .inl rfl⟩
  · simp [Value.cells] at hcs
    obtain ⟨rfl, rfl, rfl⟩ := hcs
    unfold maxLen at hm
    have hlm : len ≤ zs.length := by rw [hss]; split <;> omega
    refine ⟨fun i => (zs.getD i 0).toNat, by omega, ?_⟩
    by_cases h0 : len = 0
    · exact .inl h0
    · right
      have hc0 := hc 0 (by omega)
      obtain ⟨b, o, sp⟩ := a'
      cases sp with
      | some z => simp [Addr.add, World.cell?] at hc0; split at hc0 <;> simp_all
      | none =>
        refine ⟨b, o, rfl, World.block_lt_of_cell? w _ hc0, fun i hi => ?_⟩
        have hci := hc i (by omega)
        rw [Addr.add_lit] at hci
        have hmem : zs.getD i 0 ∈ zs := by
          rw [List.getD_eq_getElem?_getD, List.getElem?_eq_getElem (by omega)]
          exact List.getElem_mem _
        have hw := hz _ hmem
        have e1 : IntKind.u16.min = 0 := by decide
        have e2 : IntKind.u16.max = 65535 := by decide
        simp only [Lit.wf, e1, e2, Bool.and_eq_true, decide_eq_true_eq] at hw
        refine ⟨?_, by show (zs.getD i 0).toNat < 65536; omega⟩
        rw [hci]
        have e3 : zs.getD i 0 = (((zs.getD i 0).toNat : Nat) : Int) := by omega
        show some (Value.int .u16 (zs.getD i 0)) = some (.int .u16 (((zs.getD i 0).toNat : Nat) : Int))
        rw [← e3]

set_option maxRecDepth 100000 in
theorem lifted (os : Os) (started : os.Started) (H : Type) (enc : TypeId × Value → H) :
    ReturnsInHanded {} Try.checked os 4 .any (Rows.diskKeepsSpec.pre6 enc Try.prog Try.f4 Rows.diskKeepsRow.domain false) (Rows.diskKeepsSpec.post enc Try.prog Try.f4 false true false false) := by
  refine returnsInHanded_of_change_sized (C := Try.checked) own started (by kernel_rfl) Try.func4
    (ChangeSpec.witness6 (enc := enc) (C := Try.checked) false ⟨#[], #[.slice none 0 0, .string ByteArray.empty, .agg #[.int .i64 0, .int .u64 0, .int .i64 0, .int .i64 0, .int .i64 0]], []⟩ 8 (by kernel_rfl) (by kernel_rfl) (by kernel_rfl) (by kernel_rfl)) ?_
  intro W base args ds gs before hval0 hW hcnd hsz0 _
  have hval : ∀ (j : Nat) t v, Try.f4.params[j]? = some t → args[j]? = some v → Value.okWide Try.prog W .any base t v := hval0
  have hsz : (DataW.weightsEach Try.prog (Try.f4.params.toList ++ Rows.diskKeepsSpec.plain.varTypes Try.prog) (ds ++ gs)).all (· ≤ reachBytes) = true := hsz0
  have hW' := hW
  obtain ⟨p, q, hA0, hV, rfl, hfz, hnd⟩ := hW
  have hA : DataW.TrodAll enc Try.prog W 0 (fun _ => true) true Try.f4.params.toList args.toList ds p := hA0
  rw [Try.params4] at hA hval hsz
  obtain ⟨v0, v1, v2, d0, d1, d2, p0, p1, p2, rfl, rfl, rfl, h0, h1, h2⟩ := trodAll_three hA
  obtain ⟨rfl, rfl⟩ := trodVars_none hV
  obtain ⟨a0, len0, cap0, rfl⟩ := okWide_slice Try.underlying42 (hval 0 42 v0 rfl rfl)
  obtain ⟨s, rfl, rfl, rfl, ws⟩ := open_string Try.underlying9 (hval 1 9 v1 rfl rfl) h1
  have r1 : s.size ≤ 140737488351232 := by simpa [reachBytes] using sized_string hsz (j := 1) rfl rfl
  obtain ⟨f, rfl, hf⟩ := fall_shape (hval 2 34 v2 rfl rfl)
  have k0 := h0
  have k2 := h2
  have lt0 : ∀ x ∈ p0, x.block < W.heap.size := by obtain ⟨m, hm⟩ := k0; exact DataW.trod_lt m _ _ _ hm
  have lt2 : ∀ x ∈ p2, x.block < W.heap.size := by obtain ⟨m, hm⟩ := k2; exact DataW.trod_lt m _ _ _ hm
  obtain ⟨A0, hs0⟩ := open_u16 h0
  clear hA0 hval0 hsz0 hsz
  refine (keeps_walk a0 len0 cap0 A0 s (by omega) f hf W hs0).mono fun e W' ⟨he, bel⟩ => ?_
  subst he
  exact ⟨_, rfl, _, _, _, [], _, [], hW', trodAll_mk1 (shut_bool Try.underlying4 _), trodAll_mk3 (Below.trod laidOut (by kernel_rfl) (of_decide_eq_true (by kernel_rfl)) k0 bel lt0) (shut_string Try.underlying9 ws) (Below.trod laidOut (by kernel_rfl) (of_decide_eq_true (by kernel_rfl)) k2 bel lt2), rfl, bel.frame _, fun h => by cases h⟩

theorem over : Rows.diskKeepsRow.holds Try.pinned (OpenSpec.ofChange Rows.diskKeepsSpec) :=
  OpenClaim.holds_of_wide 4 Try.f4 rfl rfl rfl rfl rfl rfl rfl ⟨rfl, rfl, rfl, rfl, rfl⟩ rfl rfl rfl rfl rfl (by kernel_rfl) Try.func4 (by kernel_rfl)
    (of_decide_eq_true (by kernel_rfl)) (by unfold Func.isWrapper; first | (rw [if_pos (by decide +kernel)]; kernel_rfl) | (rw [if_neg (by decide +kernel)]; exact ⟨rfl, rfl⟩))
    (fun os started H enc _ => lifted os started H enc)

end Go.Proofs.Ytkgehckldeegjaa.LawKeeps

namespace Go.Proofs.Ytkgehckldeegjaa
theorem diskKeeps_holds : Rows.DiskKeepsSaid := LawKeeps.over
#print axioms diskKeeps_holds
end Go.Proofs.Ytkgehckldeegjaa
