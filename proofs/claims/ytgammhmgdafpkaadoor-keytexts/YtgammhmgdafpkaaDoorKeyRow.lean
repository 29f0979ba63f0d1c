/-
  The walk of key.Row.
-/
import Derived.Test.YtgammhmgdafpkaaDoorKeyLay
namespace Go.Proofs.YtgammhmgdafpkaaDoor
open Go.RowKit Go.Sort
set_option linter.unusedVariables false
set_option linter.unusedSimpArgs false

/-- The bytes of a row that may be. -/
def rowR (L : List ValV) : List UInt8 := putL L.length 1 ++ rowsL L

/-- The error of Row. -/
def rowE (L : List ValV) : Int := if L.length < 1 ∨ 4 < L.length then 111 else if L.all ValV.may = false then 110 else if 60 < (rowR L).length then 101 else 0

/-- The bytes of Row. -/
def rowB (L : List ValV) : List UInt8 := if rowE L = 0 then rowR L else []

theorem rowE_len {L : List ValV} (h : L.length < 1 ∨ 4 < L.length) : rowE L = 111 := by unfold rowE; rw [if_pos h]
theorem rowE_val {L : List ValV} (h : ¬ (L.length < 1 ∨ 4 < L.length)) (k : L.all ValV.may = false) : rowE L = 110 := by unfold rowE; rw [if_neg h, if_pos k]
theorem rowE_long {L : List ValV} (h : ¬ (L.length < 1 ∨ 4 < L.length)) (k : L.all ValV.may = true) (m : 60 < (rowR L).length) : rowE L = 101 := by unfold rowE; rw [if_neg h, if_neg (by simp [k]), if_pos m]
theorem rowE_ok {L : List ValV} (h : ¬ (L.length < 1 ∨ 4 < L.length)) (k : L.all ValV.may = true) (m : ¬ 60 < (rowR L).length) : rowE L = 0 := by unfold rowE; rw [if_neg h, if_neg (by simp [k]), if_neg m]
theorem rowB_bad {L : List ValV} (h : rowE L ≠ 0) : rowB L = [] := by unfold rowB; rw [if_neg h]
theorem rowB_ok {L : List ValV} (h : rowE L = 0) : rowB L = rowR L := by unfold rowB; rw [if_pos h]

theorem ret_row {x y : List UInt8} {a b : Int} (h : x = y) (k : a = b) : Ending.returned (.tuple #[.string ⟨x.toArray⟩, .int .i64 a]) = .returned (.tuple #[.string ⟨y.toArray⟩, .int .i64 b]) := by rw [h, k]

set_option maxHeartbeats 1600000 in
theorem row_any (a : Option Addr) (c : Nat) (L : List ValV) (w : World) (hL : ValsAt w a L) (hl : L.length ≤ 9223372036854775807) (hS : ∀ v ∈ L, v.S.size ≤ 9223372036854775807) :
    Calls Tryd.prog 31 #[.slice a L.length c] w fun e w' =>
      e = .returned (.tuple #[.string ⟨(rowB L).toArray⟩, .int .i64 (rowE L)]) ∧ Below w.heap.size w w' := by
  by_cases h0 : L.length < 1
  · have hE := hidk (rowE_len (L := L) (Or.inl h0))
    go_enter Tryd.func31, Tryd.ntmps31
    go_wp2
    go_ret2
    exact ⟨ret_row (x := []) (rowB_bad (by rw [hE.out]; omega)).symm hE.out.symm, Below.refl _ _⟩
  by_cases h4 : 4 < L.length
  · have hE := hidk (rowE_len (L := L) (Or.inr h4))
    go_enter Tryd.func31, Tryd.ntmps31
    go_wp2
    go_ret2
    exact ⟨ret_row (x := []) (rowB_bad (by rw [hE.out]; omega)).symm hE.out.symm, Below.refl _ _⟩
  have hor : ¬ (L.length < 1 ∨ 4 < L.length) := by omega
  have HCk := hidk (checkAll_any a c L w hL hl hS)
  by_cases hm : L.all ValV.may = true
  rotate_left
  · have hm' : L.all ValV.may = false := by simpa using hm
    have hE := hidk (rowE_val hor hm')
    have hC : chkAll L = 110 := by unfold chkAll; rw [hm']; rfl
    rw [hC] at HCk
    clear hC hor
    go_enter Tryd.func31, Tryd.ntmps31
    go_wp2_with fail
    refine HCk.out.mono ?_
    rintro e w1 ⟨rfl, b1⟩
    go_wp2
    go_ret2
    exact ⟨ret_row (x := []) (rowB_bad (by rw [hE.out]; omega)).symm hE.out.symm, b1⟩
  have hC : chkAll L = 0 := by unfold chkAll; rw [hm]; rfl
  have hmm := chkAll_ok hC
  rw [hC] at HCk
  clear hC
  have hu : IntKind.u64.wrap (L.length : Int) = (L.length : Int) := by rw [IntKind.wrap_u64]; omega
  obtain ⟨X, HX⟩ : ∃ X, Hid (rowR L = X) := ⟨_, rfl⟩
  have HX0 := HX
  have Hbad : Hid (60 < X.length → rowE L = 101) := fun q => rowE_long hor hm (by rw [HX.out]; exact q)
  have Hok : Hid (¬ 60 < X.length → rowE L = 0) := fun q => rowE_ok hor hm (by rw [HX.out]; exact q)
  clear hor hm
  go_enter Tryd.func31, Tryd.ntmps31
  go_wp2_with fail
  refine HCk.out.mono ?_
  rintro e w1 ⟨rfl, b1⟩
  go_wp2_with fail
  refine (new_writer w1).mono ?_
  rintro e w2 ⟨rfl, h2, b2⟩
  obtain ⟨W, HW⟩ : ∃ W, Hid (W = w2.alloc (.cells #[.pointer (some ⟨w1.heap.size, 0, none⟩)] 49)) := ⟨_, rfl⟩
  have hz2 : w1.heap.size < w2.heap.size := h2.lt
  have H3 : Hid (LayAt W w1.heap.size w2.heap.size [] none 0) := by
    show LayAt _ _ _ _ _ _
    rw [HW.out]
    exact ⟨h2.below ((Below.refl _ _).alloc (Nat.le_refl _) _), heap_alloc_new _ _, by omega⟩
  have B3 : Hid (Below w1.heap.size w1 W) := by show Below _ _ _; rw [HW.out]; exact b2.alloc (by omega) _
  have k0 := H3.out.cell
  go_wp2_with fail
  rw [← HW.out]
  clear HW h2 b2 HCk
  refine (wnumber_s H3.out.wr L.length 1 (by omega) (by simp)).mono ?_
  rintro e w4 ⟨rfl, ⟨a4, c4, h4'⟩, b4, s4⟩
  have H4 := hidk (H3.out.safe h4' s4)
  have B4 := hidk (B3.out.trans b4)
  have k4 := H4.out.cell
  clear H3 B3 k0 h4' b4 s4
  have hmf : ∀ (fn : Fn) (first cap : Array Value) (w : World), (Instr.makeFunc fn first cap).run Tryd.prog w = .ok (.func fn first cap) w := fun _ _ _ _ => rfl
  go_wp2_with fail
  refine (layRow_any H4.out a c L (fun wr k => hL.below (below_chain b1 (B4.out.trans k))) hmm (by rw [List.nil_append, putL_length]; unfold longOf; omega)).mono ?_
  rintro e w5 ⟨rfl, ⟨a5, c5, h5⟩, b5⟩
  have k5 := h5.cell
  have hr : [] ++ putL L.length (longOf 1) ++ rowsL L = X := by rw [List.nil_append]; exact HX.out
  rw [hr] at h5
  have H5 := hidk h5
  have B5 := hidk (below_chain b1 (B4.out.trans b5))
  clear h5 hr HX b5 B4 H4 k4
  by_cases hX : 60 < X.length
  · have hXi : (60 : Int) < (X.length : Int) := by omega
    go_wp2_with fail
    refine (wlen_any H5.out.wr).mono ?_
    rintro e w6 ⟨rfl, e6⟩
    obtain rfl := e6.symm
    go_wp2
    go_ret2
    have hE := Hbad.out hX
    exact ⟨ret_row (x := []) (rowB_bad (by rw [hE]; omega)).symm hE.symm, B5.out⟩
  · have hXi : ¬ (60 : Int) < (X.length : Int) := by omega
    go_wp2_with fail
    refine (wlen_any H5.out.wr).mono ?_
    rintro e w6 ⟨rfl, e6⟩
    obtain rfl := e6.symm
    go_wp2_with fail
    refine (wall_any H5.out.wr).mono ?_
    rintro e w7 ⟨rfl, e7⟩
    obtain rfl := e7.symm
    go_wp2
    go_ret2
    have hE := Hok.out hX
    exact ⟨ret_row (by rw [rowB_ok hE]; exact HX0.out.symm) hE.symm, B5.out⟩

end Go.Proofs.YtgammhmgdafpkaaDoor
