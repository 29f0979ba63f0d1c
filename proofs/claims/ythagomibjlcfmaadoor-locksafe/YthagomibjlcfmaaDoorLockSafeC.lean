/-
  Proved: for any list of acts the call LockSafe(l) returns true, and the argument reads afterwards as it read before. No condition but that the two tables of package lock hold what the program's text lays there (the card ties them).
-/
import Derived.Test.YthagomibjlcfmaaDoorRows
import Derived.Test.YthagomibjlcfmaaDoorCards
import Derived.Test.YthagomibjlcfmaaDoorTie
import Derived.Test.YthagomibjlcfmaaDoorLkFrameC
import Derived.SevenTiedAt
import Derived.Test.YthagomibjlcfmaaDoorLkSafeC
import Derived.Test.YthagomibjlcfmaaDoorLkSort3C
import Derived.Deep.Slices
import Derived.Lib.SmallJoins
import Derived.Test.YthagomibjlcfmaaDoorLkOpenC
import Derived.ChangeOld
import Derived.SizedLaws
import Derived.ChangeSlices
namespace Go.Proofs.YthagomibjlcfmaaDoor.LawLockSafe
open Go.ChangeShapes Go.WideShapes Go.ChangeAt Go.RowKit Go.Deep
set_option linter.unusedVariables false

theorem cellsA : Tryd.prog.cellsOf 27 = 4 := by kernel_rfl
theorem cellsI : Tryd.prog.cellsOf 3 = 1 := by kernel_rfl

theorem add_off (b o i : Nat) : (⟨b, o, none⟩ : Addr).add i = ⟨b, o + i, none⟩ := by
  by_cases h0 : i = 0
  · subst h0; simp [Addr.add]
  · simp [Addr.add, h0]

theorem list4 {α : Type} {cs : List α} (h : cs.length = 4) : ∃ c0 c1 c2 c3, cs = [c0, c1, c2, c3] := by
  match cs, h with
  | [c0, c1, c2, c3], _ => exact ⟨c0, c1, c2, c3, rfl⟩

set_option maxHeartbeats 800000 in
set_option maxRecDepth 60000 in
theorem open_act {H : Type} {enc : TypeId × Value → H} {w : World} {base : Nat} {spare : Nat → Bool} {held : Bool} {fuel i b o : Nat} {cs : List Value} {D : DataW H} {Pl : List MemPlace}
    (h1 : w.cells? base ((⟨b, o, none⟩ : Addr).add (i * 4)) 4 = some cs) (h2 : DataW.trod enc Tryd.prog w base spare held fuel 27 cs = some (D, Pl)) :
    ∃ v : Int × Int × Int × Int, b < w.heap.size ∧ ActIn w b (o + i * 4) v := by
  obtain ⟨_, hlen, hcell⟩ := World.cells?_some h1
  obtain ⟨y0, y1, y2, y3, n, hx, _, g0, g1, g2, g3⟩ := Joins.trod_struct4 Tryd.underlying27 h2
  obtain ⟨v0, v1, v2, v3, rfl⟩ := list4 hlen
  simp only [cellsI] at g0 g1 g2 g3
  obtain ⟨a0, e0, rfl, _⟩ := DataW.trod_int Tryd.underlying3 g0
  obtain ⟨a1, e1, rfl, _⟩ := DataW.trod_int Tryd.underlying3 g1
  obtain ⟨a2, e2, rfl, _⟩ := DataW.trod_int Tryd.underlying3 g2
  obtain ⟨a3, e3, rfl, _⟩ := DataW.trod_int Tryd.underlying3 g3
  simp at e0 e1 e2 e3
  subst e0 e1 e2 e3
  have c0 := hcell 0 (by omega)
  have c1 := hcell 1 (by omega)
  have c2 := hcell 2 (by omega)
  have c3 := hcell 3 (by omega)
  simp only [add_off, List.getElem?_cons_zero, List.getElem?_cons_succ] at c0 c1 c2 c3
  exact ⟨(a0, a1, a2, a3), World.block_lt_of_cell? w _ c0, ⟨c0, c1, c2, c3⟩⟩

theorem open_argActs {H : Type} {enc : TypeId × Value → H} {w : World} {base : Nat} {spare : Nat → Bool} {held : Bool} {a : Option Addr} {len cap : Nat} {d : DataW H} {pl : List MemPlace}
    (h : DataW.Trod enc Tryd.prog w base spare held 22 (.slice a len cap) d pl) : ∃ A : Nat → Int × Int × Int × Int, ArgActs w a len A ∧ len ≤ 9223372036854775807 := by
  obtain ⟨fuel, hf⟩ := h
  rcases open_slice Tryd.underlying22 hf with ⟨hcs, hx⟩ | ⟨a', len', cap', m, n, D, Pl, hcs, _, hl, hm, hmm, hx, hel⟩
  · simp [Value.cells] at hcs
    obtain ⟨rfl, rfl, rfl⟩ := hcs
    exact ⟨fun _ => (0, 0, 0, 0), .inl rfl, by omega⟩
  · simp [Value.cells] at hcs
    obtain ⟨rfl, rfl, rfl⟩ := hcs
    have hlm : len ≤ m := by rw [hmm]; split <;> omega
    rw [cellsA] at hel
    have hbig : len ≤ 9223372036854775807 := by unfold maxLen at hm; omega
    by_cases h0 : len = 0
    · exact ⟨fun _ => (0, 0, 0, 0), .inl h0, hbig⟩
    · obtain ⟨cs0, q0, _⟩ := hel 0 (by omega)
      obtain ⟨_, hlen0, hc0⟩ := World.cells?_some q0
      have hc00 := hc0 0 (by omega)
      obtain ⟨v0, v1, v2, v3, rfl⟩ := list4 hlen0
      have hsp : a'.spot = none := by
        have := World.cell?_spot (show w.cell? a' = some v0 by simpa [Addr.add] using hc00)
        exact this
      obtain ⟨b, o, sp⟩ := a'
      simp only at hsp
      subst hsp
      have hex : ∀ i, ∃ v : Int × Int × Int × Int, i < len → b < w.heap.size ∧ ActIn w b (o + i * 4) v := fun i => by
        by_cases hi : i < len
        · obtain ⟨cs, q1, q2⟩ := hel i (by omega)
          obtain ⟨v, hv⟩ := open_act q1 q2
          exact ⟨v, fun _ => hv⟩
        · exact ⟨(0, 0, 0, 0), fun x => absurd x hi⟩
      refine ⟨fun i => Classical.choose (hex i), .inr ⟨b, o, rfl, ?_, fun i hi => (Classical.choose_spec (hex i) hi).2⟩, hbig⟩
      exact (Classical.choose_spec (hex 0) (by omega)).1

set_option maxRecDepth 100000 in
theorem lifted (os : Os) (started : os.Started) (H : Type) (enc : TypeId × Value → H) :
    ReturnsInHanded {} Tryd.checked os 3 .any (fun w args => (Rows.lockSafeSpec.pre enc Tryd.prog Tryd.f3 [] false w args ∧ laidMetH Tryd.prog lkLaid2 w) ∧ sizedMet enc Tryd.prog Tryd.f3 (OpenSpec.ofChange Rows.lockSafeSpec) false w args)
      (Rows.lockSafeSpec.post enc Tryd.prog Tryd.f3 false true false false) := by
  refine returnsInHanded_of_change_and (C := Tryd.checked) (X := fun w _ => laidMetH Tryd.prog lkLaid2 w) (fun _ _ _ hh h => h.of_heap hh) lkOwn started (by kernel_rfl) Tryd.func3
    (ChangeSpec.witness_shaped (enc := enc) (C := Tryd.checked) (os := os) (X := fun w _ => laidMetH Tryd.prog lkLaid2 w) false (World.doorLaid Tryd.prog 400 os) #[.slice none 0 0] 8 rfl (World.shaped_of_RefB (by kernel_rfl) (by kernel_rfl)) (by kernel_rfl) (by kernel_rfl) (by kernel_rfl) (lk_door os _)) ?_
  intro W base args ds gs before hval0 hW _ hsz0 hL _
  have hval : ∀ (j : Nat) t v, Tryd.f3.params[j]? = some t → args[j]? = some v → Value.okWide Tryd.prog W .any base t v := hval0
  have hsz : (DataW.weightsEach Tryd.prog (Tryd.f3.params.toList ++ Rows.lockSafeSpec.plain.varTypes Tryd.prog) (ds ++ gs)).all (· ≤ reachBytes) = true := hsz0
  have hW' := hW
  obtain ⟨p, q, hA0, hV, rfl, hfz, hnd⟩ := hW
  have hA : DataW.TrodAll enc Tryd.prog W 0 (fun _ => true) true Tryd.f3.params.toList args.toList ds p := hA0
  rw [Tryd.params3] at hA hval hsz
  obtain ⟨v0, d0, rfl, rfl, h0⟩ := trodAll_one hA
  obtain ⟨rfl, rfl⟩ := trodVars_none hV
  have k0 := h0
  have lt0 : ∀ x ∈ p, x.block < W.heap.size := by obtain ⟨m, hm⟩ := k0; exact DataW.trod_lt m _ _ _ hm
  obtain ⟨la, ln, lc, rfl⟩ := okWide_slice Tryd.underlying22 (hval 0 22 v0 rfl rfl)
  obtain ⟨A0, hA1, hn1⟩ := open_argActs h0
  have hlk := lk_of_laid hL
  clear hA0 hval0 hsz0
  refine (safe_walk (fun m hm => nsorts_all m (by omega)) la ln lc A0 W hlk hA1 hn1).mono fun e W' ⟨he, bel⟩ => ?_
  subst he
  exact ⟨_, rfl, _, _, _, [], _, [], hW', trodAll_mk1 (shut_bool Tryd.underlying4 _), trodAll_mk1 (Below.trod lkLaidOut (by kernel_rfl) (of_decide_eq_true (by kernel_rfl)) k0 bel lt0), rfl, bel.frame _, fun h => by cases h⟩

theorem over : Rows.lockSafeRow.holds Tryd.pinned (OpenSpec.ofChange Rows.lockSafeSpec) :=
  OpenClaim.holds_of_wide 3 Tryd.f3 rfl rfl rfl rfl rfl rfl rfl ⟨rfl, rfl, rfl, rfl, rfl⟩ rfl rfl rfl rfl rfl (by kernel_rfl) Tryd.func3 (by kernel_rfl)
    (of_decide_eq_true (by kernel_rfl)) (by unfold Func.isWrapper; first | (rw [if_pos (by decide +kernel)]; kernel_rfl) | (rw [if_neg (by decide +kernel)]; exact ⟨rfl, rfl⟩))
    (fun os started H enc _ => lifted os started H enc)

theorem card : Rows.LockSafeCardSaid :=
  Claim7.holds_tied_plain_at .later [] [.data, .data] true (true, "7bcb0995365e5f1f9a0919046b32c4316a2240bc36ceebaa08f63e523f1accf3") true
    over (fun _ h => by cases h) (by kernel_rfl) (fun _ h => by cases h) lockSafe_row_tie rfl ⟨rfl, rfl⟩ (by kernel_rfl) rfl
    (fun f fn hf hfn => by
      obtain rfl : f = 3 := Option.some.inj ((show Tryd.prog.funcNamed "girder/girderlaw08.LockSafe" = some 3 by kernel_rfl).symm.trans hf) |>.symm
      obtain rfl : fn = Tryd.f3 := (Option.some.inj (Tryd.func3.symm.trans hfn)).symm
      exact ⟨by kernel_rfl, fun j t ht => by
        rw [Tryd.params3] at ht
        have hm : t ∈ [22] := by simpa using Array.mem_of_getElem? ht
        have hall : ([22].all fun u => !Tryd.prog.wantsStandIn u) = true := by kernel_rfl
        exact (show Tryd.prog.wantsStandIn t = false by simpa using List.all_eq_true.1 hall t hm)⟩)
    (by kernel_rfl)

end Go.Proofs.YthagomibjlcfmaaDoor.LawLockSafe

namespace Go.Proofs.YthagomibjlcfmaaDoor
theorem lockSafe_holds : Rows.LockSafeCardSaid := LawLockSafe.card
#print axioms lockSafe_holds
end Go.Proofs.YthagomibjlcfmaaDoor
