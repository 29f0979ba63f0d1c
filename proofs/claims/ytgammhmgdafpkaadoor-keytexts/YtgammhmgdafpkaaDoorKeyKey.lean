/-
  The walk of key.Key.
-/
import Derived.Test.YtgammhmgdafpkaaDoorKeyKLay
namespace Go.Proofs.YtgammhmgdafpkaaDoor
open Go.RowKit Go.Sort
set_option linter.unusedVariables false
set_option linter.unusedSimpArgs false

/-- The error of Key. -/
def keyE (L : List ValV) : Int := if L.all ValV.may = false then 110 else if 64 < (keysL L).length then 112 else 0

/-- The bytes of Key. -/
def keyB (L : List ValV) : List UInt8 := if keyE L = 0 then keysL L else []

theorem keyE_val {L : List ValV} (k : L.all ValV.may = false) : keyE L = 110 := by unfold keyE; rw [if_pos k]
theorem keyE_long {L : List ValV} (k : L.all ValV.may = true) (m : 64 < (keysL L).length) : keyE L = 112 := by unfold keyE; rw [if_neg (by simp [k]), if_pos m]
theorem keyE_ok {L : List ValV} (k : L.all ValV.may = true) (m : ¬ 64 < (keysL L).length) : keyE L = 0 := by unfold keyE; rw [if_neg (by simp [k]), if_neg m]
theorem keyB_bad {L : List ValV} (h : keyE L ≠ 0) : keyB L = [] := by unfold keyB; rw [if_neg h]
theorem keyB_ok {L : List ValV} (h : keyE L = 0) : keyB L = keysL L := by unfold keyB; rw [if_pos h]
theorem keyE_may {L : List ValV} (h : keyE L = 0) : (∀ v ∈ L, v.may = true) ∧ (keysL L).length ≤ 64 := by
  by_cases k : L.all ValV.may = true
  · by_cases m : 64 < (keysL L).length
    · rw [keyE_long k m] at h; omega
    · exact ⟨fun v hv => List.all_eq_true.1 k v hv, by omega⟩
  · rw [keyE_val (by simpa using k)] at h; omega

set_option maxHeartbeats 1600000 in
theorem key_any (a : Option Addr) (c : Nat) (L : List ValV) (m : Int) (w : World) (hmx : w.cell? maxLenAt = some (.int .i64 m)) (hL : ValsAt w a L) (hl : L.length ≤ 1099511627776) (hS : ∀ v ∈ L, v.S.size ≤ 9223372036854775807) :
    Calls Tryd.prog 6 #[.slice a L.length c] w fun e w' =>
      e = .returned (.tuple #[.string ⟨(keyB L).toArray⟩, .int .i64 (keyE L)]) ∧ Below w.heap.size w w' := by
  have HCk := hidk (checkAll_any a c L w hL (by omega) hS)
  have hmb : maxLenAt.block < w.heap.size := World.block_lt_of_cell? _ _ hmx
  by_cases hm : L.all ValV.may = true
  rotate_left
  · have hm' : L.all ValV.may = false := by simpa using hm
    have hE := hidk (keyE_val hm')
    have hC : chkAll L = 110 := by unfold chkAll; rw [hm']; rfl
    rw [hC] at HCk
    clear hC
    go_enter Tryd.func6, Tryd.ntmps6
    go_wp2_with fail
    refine HCk.out.mono ?_
    rintro e w1 ⟨rfl, b1⟩
    go_wp2
    go_ret2
    exact ⟨ret_row (x := []) (keyB_bad (by rw [hE.out]; omega)).symm hE.out.symm, b1⟩
  have hC : chkAll L = 0 := by unfold chkAll; rw [hm]; rfl
  have hmm := chkAll_ok hC
  rw [hC] at HCk
  clear hC
  obtain ⟨X, HX⟩ : ∃ X, Hid (keysL L = X) := ⟨_, rfl⟩
  have HX0 := HX
  have Hbad : Hid (64 < X.length → keyE L = 112) := fun q => keyE_long hm (by rw [HX.out]; exact q)
  have Hok : Hid (¬ 64 < X.length → keyE L = 0) := fun q => keyE_ok hm (by rw [HX.out]; exact q)
  clear hm
  have HMX := hidk hmx
  clear hmx
  go_enter Tryd.func6, Tryd.ntmps6
  go_wp2_with fail
  refine HCk.out.mono ?_
  rintro e w1 ⟨rfl, b1⟩
  go_wp2_with fail
  refine (new_writer w1).mono ?_
  rintro e w2 ⟨rfl, h2, b2⟩
  obtain ⟨W, HW⟩ : ∃ W, Hid (W = w2.alloc (.cells #[.pointer (some ⟨w1.heap.size, 0, none⟩)] 49)) := ⟨_, rfl⟩
  have hz2 : w1.heap.size < w2.heap.size := h2.lt
  have H3 : Hid (LayAt W w1.heap.size w2.heap.size [] none 0) := by
    show LayAt _ _ _ _ _ _
    rw [HW.out]
    exact ⟨h2.below ((Below.refl _ _).alloc (Nat.le_refl _) _), heap_alloc_new _ _, by omega⟩
  have B3 : Hid (Below w1.heap.size w1 W) := by show Below _ _ _; rw [HW.out]; exact b2.alloc (by omega) _
  have k0 := H3.out.cell
  have HM3 : Hid (W.cell? maxLenAt = some (.int .i64 m)) := ((below_chain b1 B3.out).cell (p := maxLenAt) hmb).trans HMX.out
  have hmf : ∀ (fn : Fn) (first cap : Array Value) (w : World), (Instr.makeFunc fn first cap).run Tryd.prog w = .ok (.func fn first cap) w := fun _ _ _ _ => rfl
  have hzw : w.heap.size ≤ w1.heap.size := b1.size
  go_wp2_with fail
  rw [← HW.out]
  clear HW h2 b2 HCk
  refine (layKey_any H3.out a c L (fun wr k => hL.below (below_chain b1 (B3.out.trans k))) hmm m HM3.out (by omega) (by simp; omega)).mono ?_
  rintro e w5 ⟨rfl, ⟨a5, c5, h5⟩, b5⟩
  have k5 := h5.cell
  have hr : [] ++ keysL L = X := by rw [List.nil_append]; exact HX.out
  rw [hr] at h5
  have H5 := hidk h5
  have B5 := hidk (below_chain b1 (B3.out.trans b5))
  clear h5 hr HX b5 B3 H3 k0 HM3
  by_cases hX : 64 < X.length
  · have hXi : (64 : Int) < (X.length : Int) := by omega
    go_wp2_with fail
    refine (wlen_any H5.out.wr).mono ?_
    rintro e w6 ⟨rfl, e6⟩
    obtain rfl := e6.symm
    go_wp2
    go_ret2
    have hE := Hbad.out hX
    exact ⟨ret_row (x := []) (keyB_bad (by rw [hE]; omega)).symm hE.symm, B5.out⟩
  · have hXi : ¬ (64 : Int) < (X.length : Int) := by omega
    go_wp2_with fail
    refine (wlen_any H5.out.wr).mono ?_
    rintro e w6 ⟨rfl, e6⟩
    obtain rfl := e6.symm
    go_wp2_with fail
    refine (wall_any H5.out.wr).mono ?_
    rintro e w7 ⟨rfl, e7⟩
    obtain rfl := e7.symm
    go_wp2
    go_ret2
    have hE := Hok.out hX
    exact ⟨ret_row (by rw [keyB_ok hE]; exact HX0.out.symm) hE.symm, B5.out⟩

end Go.Proofs.YtgammhmgdafpkaaDoor
