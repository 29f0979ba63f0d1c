/-
  The walk of girderlaw07.awake.
-/
import Derived.Test.YtkknglcckjhngaaSpaceBegunC
namespace Go.Proofs.Ytkknglcckjhngaa
open Go.RowKit Go.Sort
set_option linter.unusedVariables false

theorem tkL_first (s : ByteArray) (m : Nat) (h : ∀ n, tkB s n = decide (1 ≤ n ∧ n ≤ m)) (K : Nat) : (tkL s K).length = if K ≤ m then K else m := by
  induction K with
  | zero => simp [tkL]
  | succ K ih =>
    rw [tkL_snoc, List.length_append, ih, len_if, h]
    by_cases c : K + 1 ≤ m
    · rw [if_pos (by omega), if_pos c]
      simp [c]
    · rw [if_neg c]
      by_cases d : K ≤ m
      · have : K = m := by omega
        rw [if_pos d]
        simp [this]
      · rw [if_neg d]
        simp [c]

/-- The map in which just 3 pages are taken. -/
theorem three_tk (n : Nat) : tkB (flipS (freshS 2) 3) n = decide (1 ≤ n ∧ n ≤ 3) := by
  rw [flip_tk (freshS_size 2) (by omega) (by omega), fresh_tk, fresh_tk]
  by_cases c : n = 3
  · subst c; simp
  · rw [if_neg c]
    rw [Bool.eq_iff_iff]
    simp only [decide_eq_true_eq]
    omega

theorem three_cnt : cntN (flipS (freshS 2) 3) 256 = 3 := by
  rw [← tkL_len _ 256 (Nat.le_refl _), tkL_first _ 3 three_tk]
  rw [if_neg (by omega)]

theorem two_take : takeN (mapV 1 (freshS 2)) 64 = 3 := by
  unfold takeN
  rw [mapV_slot, show roomN 64 = 61 + 1 + 1 + 1 from by decide]
  rw [freeF_tk _ _ _ (by rw [fresh_tk]; decide), freeF_tk _ _ _ (by rw [fresh_tk]; decide), freeF_no _ _ _ (by rw [fresh_tk]; decide)]

set_option maxHeartbeats 1600000 in
set_option maxRecDepth 60000 in
theorem awake_any (w : World) : Calls Try.prog 7 #[] w fun e w' => e = .returned (.bool true) ∧ Below w.heap.size w w' := by
  have HB : Hid (∀ wx, Calls Try.prog 6 #[.int .i64 2] wx fun e w' => ∃ a c, e = .returned (.tuple #[(mapV 1 (freshS 2)).val a c, .bool true]) ∧ Below wx.heap.size wx w' ∧ StrsFrom (wx.heap.size + 1) w' a [freshS 2]) := fun wx => begun_ok 2 wx (by omega) (by omega)
  have f1 := mapV_fits 1 (freshS 2) (by omega) (freshS_size 2)
  have hs3 := flip_size (n := 3) (freshS_size 2) (by omega)
  have f2 := mapV_fits 2 (flipS (freshS 2) 3) (by omega) hs3
  have HT : Hid (∀ (a : Option Addr) (c : Nat) wx, StrsAt wx a [freshS 2] → Calls Try.prog 11 #[(mapV 1 (freshS 2)).val a c, .int .i64 64] wx fun e w' => e = .returned (.tuple #[.int .u32 3, turnV (freshS 2) 3, .int .i64 0]) ∧ Below wx.heap.size wx w') := fun a c wx h => by
    have := take_map (c := c) (Fits.lies f1 h) 64 (mapV_is 1 _ (freshS_size 2)) (by omega) (by omega)
    unfold takeE at this
    rw [two_take, mapV_is 1 _ (freshS_size 2)] at this
    exact this
  have HA : Hid (∀ (a : Option Addr) (c : Nat) wx, StrsAt wx a [freshS 2] → Calls Try.prog 12 #[(mapV 1 (freshS 2)).val a c, turnV (freshS 2) 3, .int .u64 2] wx fun e w' => ∃ a' c', e = .returned (.tuple #[(mapV 2 (flipS (freshS 2) 3)).val a' c', .int .i64 0]) ∧ Below wx.heap.size wx w' ∧ StrsFrom wx.heap.size w' a' [flipS (freshS 2) 3]) := fun a c wx h => apply_turn 2 3 (by omega) (freshS_size 2) (by omega) h
  have HK : Hid (∀ (a : Option Addr) (c : Nat) wx, StrsAt wx a [flipS (freshS 2) 3] → Calls Try.prog 15 #[(mapV 2 (flipS (freshS 2) 3)).val a c, .int .u32 3] wx fun e w' => e = .returned (.bool true) ∧ Below wx.heap.size wx w') := fun a c wx h => by
    have := taken_any (c := c) (Fits.lies f2 h) 3 (by omega)
    rw [show tkP (mapV 2 (flipS (freshS 2) 3)) 3 = true from by unfold tkP; rw [mapV_is 2 _ hs3, mapV_slot, three_tk]; rfl] at this
    exact this
  have HC : Hid (∀ (a : Option Addr) (c : Nat) wx, StrsAt wx a [flipS (freshS 2) 3] → Calls Try.prog 17 #[(mapV 2 (flipS (freshS 2) 3)).val a c] wx fun e w' => e = .returned (.int .i64 3) ∧ Below wx.heap.size wx w') := fun a c wx h => by
    have := count_any (c := c) (Fits.lies f2 h)
    rw [show cntP (mapV 2 (flipS (freshS 2) 3)) = 3 from by unfold cntP; rw [mapV_is 2 _ hs3, mapV_slot, three_cnt]; rfl] at this
    exact this
  clear f1 f2 hs3
  unfold turnV at HT HA
  simp only [SheetV.val, mapV, List.length_cons, List.length_nil, Nat.zero_add] at HB HT HA HK HC
  generalize one (bytN (freshS 2) (atN 3) ^^^ pwN 3) = S1 at *
  generalize one (bytN (freshS 2) (atN 3)) = S2 at *
  generalize flipS (freshS 2) 3 = s2 at *
  generalize freshS 2 = s1 at *
  generalize ((atN 3 : Nat) : Int) = A at *
  go_enter Try.func7, Try.ntmps7
  go_wp2_with fail
  refine (HB.out _).mono ?_
  rintro e w1 ⟨a, c, rfl, b1, hs1⟩
  obtain ⟨W1, HW1⟩ : ∃ W1, Hid (W1 = w1.alloc (.cells #[.int .u32 1, .int .u64 1, .int .i64 1, .string ⟨#[]⟩, .slice a 1 c] 29)) := ⟨_, rfl⟩
  have m1 : RowV W1 w1.heap.size 5 (five (.int .u32 1) (.int .u64 1) (.int .i64 1) (.string ⟨#[]⟩) (.slice a 1 c)) := by rw [HW1.out]; exact RowV.five_new _ _ _ _ _ _ _
  have k1 : Below w1.heap.size w1 W1 := by rw [HW1.out]; exact (Below.refl _ _).alloc (Nat.le_refl _) _
  have z1 : w1.heap.size < W1.heap.size := by rw [HW1.out]; simp
  have t1 := (hs1.below k1).at
  have B1 := below_chain b1 k1
  go_wp2_with fail
  rw [← HW1.out]
  obtain ⟨x0, x1, x2, x3, x4⟩ := m1.cells5
  clear HW1 hs1 k1 b1
  go_wp2_with fail
  refine (HT.out _ _ _ t1).mono ?_
  rintro e w2 ⟨rfl, b2⟩
  obtain ⟨W2, HW2⟩ : ∃ W2, Hid (W2 = w2.alloc (.cells #[.int .i64 6, .int .i64 A, .string S1, .string S2] 41)) := ⟨_, rfl⟩
  have k2 : Below w2.heap.size w2 W2 := by rw [HW2.out]; exact (Below.refl _ _).alloc (Nat.le_refl _) _
  have m2 : RowV W2 w2.heap.size 4 (four (.int .i64 6) (.int .i64 A) (.string S1) (.string S2)) := by rw [HW2.out]; exact RowV.four_new _ _ _ _ _ _
  have c2 := below_chain b2 k2
  have m1' := m1.below c2 z1
  have t2 := t1.below c2
  have B2 := below_chain B1 c2
  have z2 : w2.heap.size < W2.heap.size := by rw [HW2.out]; simp
  have z1' := Nat.lt_of_lt_of_le z1 c2.size
  obtain ⟨u0, u1, u2, u3, u4⟩ := m1'.cells5
  rw [HW2.out] at u0 u1 u2 u3 u4
  go_wp2_with fail
  rw [← HW2.out]
  clear HW2 x0 x1 x2 x3 x4 u0 u1 u2 u3 u4 m1 t1 B1 k2 b2 c2
  obtain ⟨x0, x1, x2, x3, x4⟩ := m1'.cells5
  obtain ⟨y0, y1, y2, y3⟩ := m2.cells4
  go_wp2_with fail
  refine (HA.out _ _ _ t2).mono ?_
  rintro e w3 ⟨a', c', rfl, b3, hs3⟩
  obtain ⟨W3, HW3⟩ : ∃ W3, Hid (W3 = w3.alloc (.cells #[.int .u32 1, .int .u64 2, .int .i64 1, .string ⟨#[]⟩, .slice a' 1 c'] 29)) := ⟨_, rfl⟩
  have k3 : Below w3.heap.size w3 W3 := by rw [HW3.out]; exact (Below.refl _ _).alloc (Nat.le_refl _) _
  have m3 : RowV W3 w3.heap.size 5 (five (.int .u32 1) (.int .u64 2) (.int .i64 1) (.string ⟨#[]⟩) (.slice a' 1 c')) := by rw [HW3.out]; exact RowV.five_new _ _ _ _ _ _ _
  have t3 := (hs3.below k3).at
  have B3 := below_chain B2 (below_chain b3 k3)
  have z3 : w3.heap.size < W3.heap.size := by rw [HW3.out]; simp
  go_wp2_with fail
  rw [← HW3.out]
  clear HW3 x0 x1 x2 x3 x4 y0 y1 y2 y3 m1' m2 t2 B2 k3 b3 hs3
  obtain ⟨x0, x1, x2, x3, x4⟩ := m3.cells5
  go_wp2_with fail
  refine (HK.out _ _ _ t3).mono ?_
  rintro e w4 ⟨rfl, b4⟩
  have m4 := m3.below b4 z3
  have t4 := t3.below b4
  have B4 := below_chain B3 b4
  clear x0 x1 x2 x3 x4 m3 t3 B3 b4
  obtain ⟨x0, x1, x2, x3, x4⟩ := m4.cells5
  go_wp2_with fail
  refine (HC.out _ _ _ t4).mono ?_
  rintro e w5 ⟨rfl, b5⟩
  go_wp2
  go_ret
  exact ⟨rfl, below_chain B4 b5⟩

end Go.Proofs.Ytkknglcckjhngaa
