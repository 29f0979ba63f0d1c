/-
  The walks of LockModes and LockNil: a nil table.
-/
import Derived.Test.YtfniepccldkahaaDoorLkAwakeC
import Derived.Test.YtfniepccldkahaaDoorLkRefC
namespace Go.Proofs.YtfniepccldkahaaDoor
open Go.RowKit
set_option linter.unusedVariables false
set_option linter.unusedSimpArgs false

set_option maxHeartbeats 1600000 in
set_option maxRecDepth 60000 in
theorem lockModes_walk (a b : Int) (w : World) (hl : LkLaid w) : Calls Tryd.prog 4 #[.int .i64 a, .int .i64 b] w fun e w' => e = .returned (.bool true) ∧ Below w.heap.size w w' := by
  have h1 := awake_any w hl
  have h2 := mode_any a
  have h3 := rmode_any a
  have h4 : Hid (∀ wx, Below w.heap.size w wx → Calls Tryd.prog 15 #[.int .i64 a, .int .i64 b] wx fun e w' => e = .returned (.bool (modB a && modB b && togB a b)) ∧ w' = wx) := fun wx k => compat_any a b wx (hl.below hl.lt k)
  have h5 := rtog_any a b
  have h6 : Hid (∀ wx, Below w.heap.size w wx → Calls Tryd.prog 17 #[.int .i64 a, .int .i64 b] wx fun e w' => e = .returned (.int .i64 (joinF a b)) ∧ w' = wx) := fun wx k => join_any a b wx (hl.below hl.lt k)
  have h7 := ljoin_any a b
  generalize (modB a && modB b && togB a b) = R at *
  generalize modB a = Q at *
  generalize joinF a b = J at *
  go_enter Tryd.func4, Tryd.ntmps4
  go_wp2_with fail
  refine h1.mono ?_
  rintro e w1 ⟨rfl, b1⟩
  go_wp2_with fail
  refine (h2 _).mono ?_
  rintro e w2 ⟨rfl, rfl⟩
  go_wp2_with fail
  refine (h3 _).mono ?_
  rintro e w2 ⟨rfl, rfl⟩
  go_wp2_with fail
  refine (h4.out _ b1).mono ?_
  rintro e w2 ⟨rfl, rfl⟩
  go_wp2_with fail
  refine (h5 _).mono ?_
  rintro e w2 ⟨rfl, rfl⟩
  go_wp2_with fail
  refine (h6.out _ b1).mono ?_
  rintro e w2 ⟨rfl, rfl⟩
  go_wp2_with fail
  refine (h7 _).mono ?_
  rintro e w2 ⟨rfl, rfl⟩
  go_wp2
  go_ret
  exact ⟨rfl, b1⟩

set_option maxHeartbeats 800000 in
set_option maxRecDepth 60000 in
theorem has_nil (t : Int) (n : NameV) (w : World) : Calls Tryd.prog 26 #[.pointer none, .int .i64 t, nval n] w fun e w' => e = .returned (.int .i64 0) ∧ Below w.heap.size w w' := by
  obtain ⟨n0, n1, n2, n3⟩ := n
  unfold nval
  go_enter Tryd.func26, Tryd.ntmps26
  go_wp2
  go_ret
  exact ⟨rfl, (Below.refl _ _).alloc (Nat.le_refl _) _⟩

set_option maxHeartbeats 800000 in
set_option maxRecDepth 60000 in
theorem free_nil (t : Int) (n : NameV) (w : World) : Calls Tryd.prog 28 #[.pointer none, .int .i64 t, nval n] w fun e w' => e = .returned (.bool true) ∧ Below w.heap.size w w' := by
  obtain ⟨n0, n1, n2, n3⟩ := n
  unfold nval
  go_enter Tryd.func28, Tryd.ntmps28
  go_wp2
  go_ret
  exact ⟨rfl, (Below.refl _ _).alloc (Nat.le_refl _) _⟩

set_option maxHeartbeats 800000 in
set_option maxRecDepth 60000 in
theorem release_nil (t : Int) (w : World) : Calls Tryd.prog 20 #[.pointer none, .int .i64 t] w fun e w' => e = .returned (.slice none 0 0) ∧ w' = w := by
  go_enter Tryd.func20, Tryd.ntmps20
  go_wp2
  go_ret
  exact ⟨rfl, rfl⟩

set_option maxHeartbeats 800000 in
set_option maxRecDepth 60000 in
theorem held_nil (t : Int) (w : World) : Calls Tryd.prog 29 #[.pointer none, .int .i64 t] w fun e w' => e = .returned (.slice none 0 0) ∧ w' = w := by
  go_enter Tryd.func29, Tryd.ntmps29
  go_wp2
  go_ret
  exact ⟨rfl, rfl⟩

set_option maxHeartbeats 800000 in
set_option maxRecDepth 60000 in
theorem len_nil (w : World) : Calls Tryd.prog 30 #[.pointer none] w fun e w' => e = .returned (.int .i64 0) ∧ w' = w := by
  go_enter Tryd.func30, Tryd.ntmps30
  go_wp2
  go_ret
  exact ⟨rfl, rfl⟩

set_option maxHeartbeats 800000 in
set_option maxRecDepth 60000 in
theorem clone_nil (w : World) : Calls Tryd.prog 31 #[.pointer none] w fun e w' => e = .returned (.pointer none) ∧ w' = w := by
  go_enter Tryd.func31, Tryd.ntmps31
  go_wp2
  go_ret
  exact ⟨rfl, rfl⟩

set_option maxHeartbeats 800000 in
set_option maxRecDepth 60000 in
theorem cancel_nil (t : Int) (w : World) : Calls Tryd.prog 21 #[.pointer none, .int .i64 t] w fun e w' => e = .returned (.slice none 0 0) ∧ Below w.heap.size w w' := by
  have hf := for_nil w t
  unfold zeroN at hf
  go_enter Tryd.func21, Tryd.ntmps21
  go_wp2_with fail
  refine hf.mono ?_
  rintro e w1 ⟨rfl, b1⟩
  go_wp2
  go_ret
  exact ⟨rfl, b1.alloc b1.size _⟩

set_option maxHeartbeats 800000 in
set_option maxRecDepth 60000 in
theorem blockers_nil (t : Int) (w : World) : Calls Tryd.prog 25 #[.pointer none, .int .i64 t] w fun e w' => e = .returned (.slice none 0 0) ∧ Below w.heap.size w w' := by
  have hf := for_nil w t
  unfold zeroN at hf
  go_enter Tryd.func25, Tryd.ntmps25
  go_wp2_with fail
  refine hf.mono ?_
  rintro e w1 ⟨rfl, b1⟩
  go_wp2
  go_ret
  exact ⟨rfl, b1.alloc b1.size _⟩

set_option maxHeartbeats 800000 in
set_option maxRecDepth 60000 in
theorem firstNew_nil (t : Int) (m : Value) (w : World) : Calls Tryd.prog 51 #[.pointer none, .int .i64 t, m] w fun e w' => e = .returned (.int .i64 0) ∧ Below w.heap.size w w' := by
  have hb := blockers_nil t w
  go_enter Tryd.func51, Tryd.ntmps51
  go_wp2_with fail
  refine hb.mono ?_
  rintro e w1 ⟨rfl, b1⟩
  go_wp2_with fail
  go_loopw [15] (fun i wr => i = .int .i64 0 ∧ Below w.heap.size w wr) (fun _ _ => 0)
  case atStart => exact ⟨rfl, b1⟩
  case round =>
    obtain ⟨rfl, b2⟩ := hrel
    go_wp2
    go_ret
    exact ⟨rfl, b2⟩

set_option maxHeartbeats 1600000 in
set_option maxRecDepth 60000 in
theorem cycle_nil (t : Int) (w : World) : Calls Tryd.prog 24 #[.pointer none, .int .i64 t] w fun e w' => e = .returned (.slice none 0 0) ∧ Below w.heap.size w w' := by
  have HF : Hid (∀ (m : Value) wx, Calls Tryd.prog 51 #[.pointer none, .int .i64 t, m] wx fun e w' => e = .returned (.int .i64 0) ∧ Below wx.heap.size wx w') := fun m wx => firstNew_nil t m wx
  have hmm := @run_makeMap Tryd.prog
  have W1 : Below w.heap.size w ((w.alloc (.cells #[.int .i64 t] 3)).alloc (.map #[] 0)) := (((Below.refl _ _).alloc (Nat.le_refl _) _).alloc (by simp) _)
  have c1 : ((w.alloc (.cells #[.int .i64 t] 3)).alloc (.map #[] 0)).cell? ⟨w.heap.size, 0, none⟩ = some (.int .i64 t) := by
    have := ((Below.refl (w.alloc (.cells #[.int .i64 t] 3)).heap.size (w.alloc (.cells #[.int .i64 t] 3))).alloc (Nat.le_refl _) (.map #[] 0)).cell (p := ⟨w.heap.size, 0, none⟩) (by simp)
    rw [this]; simp
  have s1 : w.heap.size < ((w.alloc (.cells #[.int .i64 t] 3)).alloc (.map #[] 0)).heap.size := by simp; omega
  go_enter Tryd.func24, Tryd.ntmps24
  go_wp2_with fail
  go_loopw [5] (fun t5 wr => ∃ k : Nat, k ≤ 1 ∧ t5 = .slice (some ⟨w.heap.size, 0, none⟩) k 1 ∧ Below w.heap.size w wr ∧ w.heap.size < wr.heap.size ∧ wr.cell? ⟨w.heap.size, 0, none⟩ = some (.int .i64 t)) (fun t5 _ => match t5 with | .slice _ k _ => k | _ => 0)
  case atStart => exact ⟨1, by omega, rfl, W1, s1, c1⟩
  case round =>
    obtain ⟨k, hk, rfl, bel, hlt, hc⟩ := hrel
    clear W1 c1 s1
    by_cases h0 : k = 0
    · subst h0
      go_wp2
      go_ret
      exact ⟨rfl, bel⟩
    · obtain rfl : k = 1 := by omega
      go_wp2_with fail
      refine (HF.out _ _).mono ?_
      rintro e w1 ⟨rfl, b1⟩
      have bel1 := bel.trans (b1.mono bel.size)
      have hc1 := (b1.cell (p := ⟨w.heap.size, 0, none⟩) hlt).trans hc
      have hlt1 := Nat.lt_of_lt_of_le hlt b1.size
      clear bel hc hlt b1
      go_wp2
      go_roundw
      case rel => exact ⟨0, by omega, rfl, bel1, hlt1, hc1⟩
      case measure => simp

set_option maxHeartbeats 3200000 in
set_option maxRecDepth 20000 in
theorem lockNil_walk (t m : Int) (n : NameV) (w : World) (hl : LkLaid w) : Calls Tryd.prog 6 #[.int .i64 t, .int .i64 m, nval n] w fun e w' => e = .returned (.bool true) ∧ Below w.heap.size w w' := by
  have HA : Hid (∀ wx, Calls Tryd.prog 22 #[.pointer none, .int .i64 t, nval n, .int .i64 m, .bool false, .bool true] wx fun e w' => e = .returned (.tuple #[.bool false, .int .i64 1]) ∧ Below wx.heap.size wx w') := fun wx => ask_arg _ (.inl rfl) t n m false true wx (.inl rfl)
  have HF : Hid (∀ wx, Calls Tryd.prog 27 #[.pointer none, .int .i64 t] wx fun e w' => e = .returned (.tuple #[.agg #[.int .i64 0, .int .i64 0, .int .u32 0, .int .i64 0], .bool false]) ∧ Below wx.heap.size wx w') := fun wx => for_nil wx t
  have HK : Hid (∀ wx, Below w.heap.size w wx → Calls Tryd.prog 10 #[] wx fun e w' => e = .returned (.bool true) ∧ Below wx.heap.size wx w') := fun wx k => awake_any wx (hl.below hl.lt k)
  have HW : Hid (∀ wx, Calls Tryd.prog 23 #[.pointer none, .int .i64 t] wx fun e w' => e = .returned (.bool false) ∧ Below wx.heap.size wx w') := fun wx => waits_nil wx t
  have HH : Hid (∀ wx, Calls Tryd.prog 26 #[.pointer none, .int .i64 t, nval n] wx fun e w' => e = .returned (.int .i64 0) ∧ Below wx.heap.size wx w') := fun wx => has_nil t n wx
  have HR : Hid (∀ wx, Calls Tryd.prog 28 #[.pointer none, .int .i64 t, nval n] wx fun e w' => e = .returned (.bool true) ∧ Below wx.heap.size wx w') := fun wx => free_nil t n wx
  have HRe : Hid (∀ wx, Calls Tryd.prog 20 #[.pointer none, .int .i64 t] wx fun e w' => e = .returned (.slice none 0 0) ∧ w' = wx) := fun wx => release_nil t wx
  have HCa : Hid (∀ wx, Calls Tryd.prog 21 #[.pointer none, .int .i64 t] wx fun e w' => e = .returned (.slice none 0 0) ∧ Below wx.heap.size wx w') := fun wx => cancel_nil t wx
  have HB : Hid (∀ wx, Calls Tryd.prog 25 #[.pointer none, .int .i64 t] wx fun e w' => e = .returned (.slice none 0 0) ∧ Below wx.heap.size wx w') := fun wx => blockers_nil t wx
  have HC : Hid (∀ wx, Calls Tryd.prog 24 #[.pointer none, .int .i64 t] wx fun e w' => e = .returned (.slice none 0 0) ∧ Below wx.heap.size wx w') := fun wx => cycle_nil t wx
  have HHe : Hid (∀ wx, Calls Tryd.prog 29 #[.pointer none, .int .i64 t] wx fun e w' => e = .returned (.slice none 0 0) ∧ w' = wx) := fun wx => held_nil t wx
  have HL : Hid (∀ wx, Calls Tryd.prog 30 #[.pointer none] wx fun e w' => e = .returned (.int .i64 0) ∧ w' = wx) := fun wx => len_nil wx
  have HCl : Hid (∀ wx, Calls Tryd.prog 31 #[.pointer none] wx fun e w' => e = .returned (.pointer none) ∧ w' = wx) := fun wx => clone_nil wx
  have h0 := AskIn.start w n
  obtain ⟨n0, n1, n2, n3⟩ := n
  unfold nval at *
  simp only at *
  clear hl
  go_enter Tryd.func6, Tryd.ntmps6
  go_wp2_with fail
  refine (HA.out _).mono ?_
  rintro e w1 ⟨rfl, b1⟩
  have h1 := h0.below b1
  clear h0 b1
  go_wp2_with fail
  refine (HF.out _).mono ?_
  rintro e w2 ⟨rfl, b2⟩
  have h2 := (h1.below b2).below ((Below.refl _ _).alloc (Nat.le_refl _) (.cells #[.int .i64 0, .int .i64 0, .int .u32 0, .int .i64 0] 42))
  clear h1 b2
  go_wp2_with fail
  refine (HK.out _ h2.bel).mono ?_
  rintro e w3 ⟨rfl, b3⟩
  have h3 := h2.below b3
  clear h2 b3
  go_wp2_with fail
  refine (HW.out _).mono ?_
  rintro e w4 ⟨rfl, b4⟩
  have h4 := h3.below b4
  clear h3 b4
  obtain ⟨c0, c1, c2, c3⟩ := h4.cells
  have hlt4 := h4.lt
  go_wp2_with fail
  refine (HH.out _).mono ?_
  rintro e w5 ⟨rfl, b5⟩
  have h5 := h4.below b5
  clear h4 b5 c0 c1 c2 c3 hlt4
  obtain ⟨c0, c1, c2, c3⟩ := h5.cells
  have hlt5 := h5.lt
  go_wp2_with fail
  refine (HR.out _).mono ?_
  rintro e w6 ⟨rfl, b6⟩
  have h6 := h5.below b6
  clear h5 b6 c0 c1 c2 c3 hlt5
  go_wp2_with fail
  refine (HRe.out _).mono ?_
  rintro e w7 ⟨rfl, rfl⟩
  go_wp2_with fail
  refine (HCa.out _).mono ?_
  rintro e w7 ⟨rfl, b7⟩
  have h7 := h6.below b7
  clear h6 b7
  go_wp2_with fail
  refine (HB.out _).mono ?_
  rintro e w8 ⟨rfl, b8⟩
  have h8 := h7.below b8
  clear h7 b8
  go_wp2_with fail
  refine (HC.out _).mono ?_
  rintro e w9 ⟨rfl, b9⟩
  have h9 := h8.below b9
  clear h8 b9
  go_wp2_with fail
  refine (HHe.out _).mono ?_
  rintro e w10 ⟨rfl, rfl⟩
  go_wp2_with fail
  refine (HL.out _).mono ?_
  rintro e w10 ⟨rfl, rfl⟩
  go_wp2_with fail
  refine (HCl.out _).mono ?_
  rintro e w10 ⟨rfl, rfl⟩
  go_wp2
  go_ret
  exact ⟨rfl, h9.bel⟩

end Go.Proofs.YtfniepccldkahaaDoor
