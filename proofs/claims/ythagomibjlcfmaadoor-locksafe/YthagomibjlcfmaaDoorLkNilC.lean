/-
  The walks of LockModes and LockNil: a nil table.
-/
import Derived.Test.YthagomibjlcfmaaDoorLkAwakeC
import Derived.Test.YthagomibjlcfmaaDoorLkRefC
namespace Go.Proofs.YthagomibjlcfmaaDoor
open Go.RowKit
set_option linter.unusedVariables false
set_option linter.unusedSimpArgs false



set_option maxHeartbeats 800000 in
set_option maxRecDepth 60000 in
theorem has_nil (t : Int) (n : NameV) (w : World) : Calls Tryd.prog 14 #[.pointer none, .int .i64 t, nval n] w fun e w' => e = .returned (.int .i64 0) ∧ Below w.heap.size w w' := by
  obtain ⟨n0, n1, n2, n3⟩ := n
  unfold nval
  go_enter Tryd.func14, Tryd.ntmps14
  go_wp2
  go_ret
  exact ⟨rfl, (Below.refl _ _).alloc (Nat.le_refl _) _⟩

set_option maxHeartbeats 800000 in
set_option maxRecDepth 60000 in
theorem free_nil (t : Int) (n : NameV) (w : World) : Calls Tryd.prog 44 #[.pointer none, .int .i64 t, nval n] w fun e w' => e = .returned (.bool true) ∧ Below w.heap.size w w' := by
  obtain ⟨n0, n1, n2, n3⟩ := n
  unfold nval
  go_enter Tryd.func44, Tryd.ntmps44
  go_wp2
  go_ret
  exact ⟨rfl, (Below.refl _ _).alloc (Nat.le_refl _) _⟩

set_option maxHeartbeats 800000 in
set_option maxRecDepth 60000 in
theorem release_nil (t : Int) (w : World) : Calls Tryd.prog 8 #[.pointer none, .int .i64 t] w fun e w' => e = .returned (.slice none 0 0) ∧ w' = w := by
  go_enter Tryd.func8, Tryd.ntmps8
  go_wp2
  go_ret
  exact ⟨rfl, rfl⟩

set_option maxHeartbeats 800000 in
set_option maxRecDepth 60000 in
theorem held_nil (t : Int) (w : World) : Calls Tryd.prog 41 #[.pointer none, .int .i64 t] w fun e w' => e = .returned (.slice none 0 0) ∧ w' = w := by
  go_enter Tryd.func41, Tryd.ntmps41
  go_wp2
  go_ret
  exact ⟨rfl, rfl⟩

set_option maxHeartbeats 800000 in
set_option maxRecDepth 60000 in
theorem len_nil (w : World) : Calls Tryd.prog 37 #[.pointer none] w fun e w' => e = .returned (.int .i64 0) ∧ w' = w := by
  go_enter Tryd.func37, Tryd.ntmps37
  go_wp2
  go_ret
  exact ⟨rfl, rfl⟩

set_option maxHeartbeats 800000 in
set_option maxRecDepth 60000 in
theorem clone_nil (w : World) : Calls Tryd.prog 35 #[.pointer none] w fun e w' => e = .returned (.pointer none) ∧ w' = w := by
  go_enter Tryd.func35, Tryd.ntmps35
  go_wp2
  go_ret
  exact ⟨rfl, rfl⟩

set_option maxHeartbeats 800000 in
set_option maxRecDepth 60000 in
theorem cancel_nil (t : Int) (w : World) : Calls Tryd.prog 9 #[.pointer none, .int .i64 t] w fun e w' => e = .returned (.slice none 0 0) ∧ Below w.heap.size w w' := by
  have hf := for_nil w t
  unfold zeroN at hf
  go_enter Tryd.func9, Tryd.ntmps9
  go_wp2_with fail
  refine hf.mono ?_
  rintro e w1 ⟨rfl, b1⟩
  go_wp2
  go_ret
  exact ⟨rfl, b1.alloc b1.size _⟩

set_option maxHeartbeats 800000 in
set_option maxRecDepth 60000 in
theorem blockers_nil (t : Int) (w : World) : Calls Tryd.prog 13 #[.pointer none, .int .i64 t] w fun e w' => e = .returned (.slice none 0 0) ∧ Below w.heap.size w w' := by
  have hf := for_nil w t
  unfold zeroN at hf
  go_enter Tryd.func13, Tryd.ntmps13
  go_wp2_with fail
  refine hf.mono ?_
  rintro e w1 ⟨rfl, b1⟩
  go_wp2
  go_ret
  exact ⟨rfl, b1.alloc b1.size _⟩

set_option maxHeartbeats 800000 in
set_option maxRecDepth 60000 in
theorem firstNew_nil (t : Int) (m : Value) (w : World) : Calls Tryd.prog 29 #[.pointer none, .int .i64 t, m] w fun e w' => e = .returned (.int .i64 0) ∧ Below w.heap.size w w' := by
  have hb := blockers_nil t w
  go_enter Tryd.func29, Tryd.ntmps29
  go_wp2_with fail
  refine hb.mono ?_
  rintro e w1 ⟨rfl, b1⟩
  go_wp2_with fail
  go_loopw [15] (fun i wr => i = .int .i64 0 ∧ Below w.heap.size w wr) (fun _ _ => 0)
  case atStart => exact ⟨rfl, b1⟩
  case round =>
    obtain ⟨rfl, b2⟩ := hrel
    go_wp2
    go_ret
    exact ⟨rfl, b2⟩

set_option maxHeartbeats 1600000 in
set_option maxRecDepth 60000 in
theorem cycle_nil (t : Int) (w : World) : Calls Tryd.prog 12 #[.pointer none, .int .i64 t] w fun e w' => e = .returned (.slice none 0 0) ∧ Below w.heap.size w w' := by
  have HF : Hid (∀ (m : Value) wx, Calls Tryd.prog 29 #[.pointer none, .int .i64 t, m] wx fun e w' => e = .returned (.int .i64 0) ∧ Below wx.heap.size wx w') := fun m wx => firstNew_nil t m wx
  have hmm := @run_makeMap Tryd.prog
  have W1 : Below w.heap.size w ((w.alloc (.cells #[.int .i64 t] 3)).alloc (.map #[] 0)) := (((Below.refl _ _).alloc (Nat.le_refl _) _).alloc (by simp) _)
  have c1 : ((w.alloc (.cells #[.int .i64 t] 3)).alloc (.map #[] 0)).cell? ⟨w.heap.size, 0, none⟩ = some (.int .i64 t) := by
    have := ((Below.refl (w.alloc (.cells #[.int .i64 t] 3)).heap.size (w.alloc (.cells #[.int .i64 t] 3))).alloc (Nat.le_refl _) (.map #[] 0)).cell (p := ⟨w.heap.size, 0, none⟩) (by simp)
    rw [this]; simp
  have s1 : w.heap.size < ((w.alloc (.cells #[.int .i64 t] 3)).alloc (.map #[] 0)).heap.size := by simp; omega
  go_enter Tryd.func12, Tryd.ntmps12
  go_wp2_with fail
  go_loopw [5] (fun t5 wr => ∃ k : Nat, k ≤ 1 ∧ t5 = .slice (some ⟨w.heap.size, 0, none⟩) k 1 ∧ Below w.heap.size w wr ∧ w.heap.size < wr.heap.size ∧ wr.cell? ⟨w.heap.size, 0, none⟩ = some (.int .i64 t)) (fun t5 _ => match t5 with | .slice _ k _ => k | _ => 0)
  case atStart => exact ⟨1, by omega, rfl, W1, s1, c1⟩
  case round =>
    obtain ⟨k, hk, rfl, bel, hlt, hc⟩ := hrel
    clear W1 c1 s1
    by_cases h0 : k = 0
    · subst h0
      go_wp2
      go_ret
      exact ⟨rfl, bel⟩
    · obtain rfl : k = 1 := by omega
      go_wp2_with fail
      refine (HF.out _ _).mono ?_
      rintro e w1 ⟨rfl, b1⟩
      have bel1 := bel.trans (b1.mono bel.size)
      have hc1 := (b1.cell (p := ⟨w.heap.size, 0, none⟩) hlt).trans hc
      have hlt1 := Nat.lt_of_lt_of_le hlt b1.size
      clear bel hc hlt b1
      go_wp2
      go_roundw
      case rel => exact ⟨0, by omega, rfl, bel1, hlt1, hc1⟩
      case measure => simp



end Go.Proofs.YthagomibjlcfmaaDoor
