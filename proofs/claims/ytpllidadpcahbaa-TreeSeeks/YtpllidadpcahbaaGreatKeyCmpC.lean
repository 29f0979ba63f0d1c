/-
  The walks of cmp.Compare, cmp.Or of three numbers, key.Entries and the function that key.Compare hands on.
-/
import Derived.Test.YtpllidadpcahbaaGreatBase2C
import Derived.Deep.RegionHeld3
import Derived.Deep.QuietTactic
namespace Go.Proofs.YtpllidadpcahbaaGreat
open Go.RowKit Go.Sort
set_option linter.unusedVariables false
set_option linter.unusedSimpArgs false

/-- Two numbers held against one another. -/
def kcmpF (x y : Int) : Int := if x < y then -1 else if y < x then 1 else 0

/-- Two texts held against one another. -/
def scmpF (x y : ByteArray) : Int := if Go.Op.bytesLess x.toList y.toList = true then -1 else if x = y then 0 else 1

set_option maxHeartbeats 800000 in
set_option maxRecDepth 60000 in
theorem kcmp_int (x y : Int) (w : World) : Calls Tryz.prog 64 #[.int .i64 x, .int .i64 y] w fun e w' => e = .returned (.int .i64 (kcmpF x y)) ∧ w' = w := by
  have hn : ∀ (z : Int) wx, Calls Tryz.prog 103 #[.int .i64 z] wx fun e w' => e = .returned (.bool false) ∧ w' = wx := fun z wx => by
    go_enter Tryz.func103, Tryz.ntmps103
    go_wp2
    go_ret
    exact ⟨rfl, rfl⟩
  unfold kcmpF
  rcases Int.lt_trichotomy x y with h | h | h
  · rw [if_pos h]
    go_enter Tryz.func64, Tryz.ntmps64
    go_wp2_with (go_at_call 103; refine (hn _ _).mono ?_; rintro e w' ⟨rfl, rfl⟩)
    go_ret
    exact ⟨rfl, rfl⟩
  · subst h
    rw [if_neg (by omega), if_neg (by omega)]
    go_enter Tryz.func64, Tryz.ntmps64
    go_wp2_with (go_at_call 103; refine (hn _ _).mono ?_; rintro e w' ⟨rfl, rfl⟩)
    go_ret
    exact ⟨rfl, rfl⟩
  · have h1 : ¬ x < y := by omega
    rw [if_neg h1, if_pos h]
    go_enter Tryz.func64, Tryz.ntmps64
    go_wp2_with (go_at_call 103; refine (hn _ _).mono ?_; rintro e w' ⟨rfl, rfl⟩)
    go_ret
    exact ⟨rfl, rfl⟩

set_option maxHeartbeats 800000 in
set_option maxRecDepth 60000 in
theorem kcmp_page (x y : Int) (w : World) : Calls Tryz.prog 63 #[.int .u32 x, .int .u32 y] w fun e w' => e = .returned (.int .i64 (kcmpF x y)) ∧ w' = w := by
  have hn : ∀ (z : Int) wx, Calls Tryz.prog 102 #[.int .u32 z] wx fun e w' => e = .returned (.bool false) ∧ w' = wx := fun z wx => by
    go_enter Tryz.func102, Tryz.ntmps102
    go_wp2
    go_ret
    exact ⟨rfl, rfl⟩
  unfold kcmpF
  rcases Int.lt_trichotomy x y with h | h | h
  · rw [if_pos h]
    go_enter Tryz.func63, Tryz.ntmps63
    go_wp2_with (go_at_call 102; refine (hn _ _).mono ?_; rintro e w' ⟨rfl, rfl⟩)
    go_ret
    exact ⟨rfl, rfl⟩
  · subst h
    rw [if_neg (by omega), if_neg (by omega)]
    go_enter Tryz.func63, Tryz.ntmps63
    go_wp2_with (go_at_call 102; refine (hn _ _).mono ?_; rintro e w' ⟨rfl, rfl⟩)
    go_ret
    exact ⟨rfl, rfl⟩
  · have h1 : ¬ x < y := by omega
    rw [if_neg h1, if_pos h]
    go_enter Tryz.func63, Tryz.ntmps63
    go_wp2_with (go_at_call 102; refine (hn _ _).mono ?_; rintro e w' ⟨rfl, rfl⟩)
    go_ret
    exact ⟨rfl, rfl⟩

set_option maxHeartbeats 800000 in
set_option maxRecDepth 60000 in
theorem kcmp_str (x y : ByteArray) (w : World) : Calls Tryz.prog 62 #[.string x, .string y] w fun e w' => e = .returned (.int .i64 (scmpF x y)) ∧ w' = w := by
  have hn : ∀ (z : ByteArray) wx, Calls Tryz.prog 101 #[.string z] wx fun e w' => e = .returned (.bool false) ∧ w' = wx := fun z wx => by
    have hz : (z.toList == z.toList) = true := by simp
    go_enter Tryz.func101, Tryz.ntmps101
    go_wp2
    go_ret
    exact ⟨rfl, rfl⟩
  unfold scmpF
  by_cases h : Go.Op.bytesLess x.toList y.toList = true
  · rw [if_pos h]
    go_enter Tryz.func62, Tryz.ntmps62
    go_wp2_with (go_at_call 101; refine (hn _ _).mono ?_; rintro e w' ⟨rfl, rfl⟩)
    go_ret
    exact ⟨rfl, rfl⟩
  · have h' : Go.Op.bytesLess x.toList y.toList = false := by simpa using h
    rw [if_neg h]
    by_cases e : x = y
    · subst e
      have he : (x.toList == x.toList) = true := by simp
      rw [if_pos rfl]
      go_enter Tryz.func62, Tryz.ntmps62
      go_wp2_with (go_at_call 101; refine (hn _ _).mono ?_; rintro e w' ⟨rfl, rfl⟩)
      go_ret
      exact ⟨rfl, rfl⟩
    · have he := kstr_ne e
      rw [if_neg e]
      go_enter Tryz.func62, Tryz.ntmps62
      go_wp2_with (go_at_call 101; refine (hn _ _).mono ?_; rintro e w' ⟨rfl, rfl⟩)
      go_ret
      exact ⟨rfl, rfl⟩

/-- The first of three numbers that is not 0. -/
def or3 (a b c : Int) : Int := if a ≠ 0 then a else if b ≠ 0 then b else c

set_option maxHeartbeats 800000 in
set_option maxRecDepth 60000 in
theorem or3_any (g : Nat) (a b c : Int) (w : World) (h0 : w.cell? ⟨g, 0, none⟩ = some (.int .i64 a)) (h1 : w.cell? ⟨g, 1, none⟩ = some (.int .i64 b)) (h2 : w.cell? ⟨g, 2, none⟩ = some (.int .i64 c)) :
    Calls Tryz.prog 61 #[.slice (some ⟨g, 0, none⟩) 3 3] w fun e w' => e = .returned (.int .i64 (or3 a b c)) ∧ w' = w := by
  obtain ⟨R, HR⟩ : ∃ R, Hid (or3 a b c = R) := ⟨_, rfl⟩
  rw [HR.out]
  go_enter Tryz.func61, Tryz.ntmps61
  go_wp2_with fail
  refine wp_loop_rounds 4 ?_
  by_cases a0 : a = 0
  · subst a0
    by_cases b0 : b = 0
    · subst b0
      by_cases c0 : c = 0
      · subst c0
        obtain rfl : R = 0 := by rw [← HR.out]; rfl
        rw [rounds_succ]
        go_wp2_with fail
        rw [rounds_succ]
        go_wp2_with fail
        rw [rounds_succ]
        go_wp2_with fail
        rw [rounds_succ]
        go_wp2
        go_ret
        exact ⟨rfl, rfl⟩
      · obtain rfl : R = c := by rw [← HR.out]; rfl
        have c1 : (R != 0) = true := by rw [bne_iff_ne]; exact c0
        rw [rounds_succ]
        go_wp2_with fail
        rw [rounds_succ]
        go_wp2_with fail
        rw [rounds_succ]
        go_wp2
        go_ret
        exact ⟨rfl, rfl⟩
    · obtain rfl : R = b := by rw [← HR.out]; unfold or3; rw [if_neg (by simp), if_pos b0]
      have b1 : (R != 0) = true := by rw [bne_iff_ne]; exact b0
      rw [rounds_succ]
      go_wp2_with fail
      rw [rounds_succ]
      go_wp2
      go_ret
      exact ⟨rfl, rfl⟩
  · obtain rfl : R = a := by rw [← HR.out]; unfold or3; rw [if_pos a0]
    have a1 : (R != 0) = true := by rw [bne_iff_ne]; exact a0
    rw [rounds_succ]
    go_wp2
    go_ret
    exact ⟨rfl, rfl⟩

set_option maxHeartbeats 3200000 in
set_option maxRecDepth 20000 in
theorem entries_any (k1 k2 : ByteArray) (p1 p2 : Nat) (s1 s2 : Int) (w : World) : Calls Tryz.prog 32 #[.agg #[.string k1, .int .u32 p1, .int .i64 s1], .agg #[.string k2, .int .u32 p2, .int .i64 s2]] w fun e w' => e = .returned (.int .i64 (or3 (scmpF k1 k2) (kcmpF p1 p2) (kcmpF s1 s2))) ∧ Below w.heap.size w w' := by
  obtain ⟨c0, hc0⟩ : ∃ c0, Hid (scmpF k1 k2 = c0) := ⟨_, rfl⟩
  obtain ⟨c1, hc1⟩ : ∃ c1, Hid (kcmpF p1 p2 = c1) := ⟨_, rfl⟩
  obtain ⟨c2, hc2⟩ : ∃ c2, Hid (kcmpF s1 s2 = c2) := ⟨_, rfl⟩
  rw [hc0.out, hc1.out, hc2.out]
  have h0 : Hid (∀ wx : World, Calls Tryz.prog 62 #[.string k1, .string k2] wx fun e w' => e = .returned (.int .i64 c0) ∧ w' = wx) := fun wx => by have := kcmp_str k1 k2 wx; rw [hc0.out] at this; exact this
  have h1 : Hid (∀ wx : World, Calls Tryz.prog 63 #[.int .u32 p1, .int .u32 p2] wx fun e w' => e = .returned (.int .i64 c1) ∧ w' = wx) := fun wx => by have := kcmp_page p1 p2 wx; rw [hc1.out] at this; exact this
  have h2 : Hid (∀ wx : World, Calls Tryz.prog 64 #[.int .i64 s1, .int .i64 s2] wx fun e w' => e = .returned (.int .i64 c2) ∧ w' = wx) := fun wx => by have := kcmp_int s1 s2 wx; rw [hc2.out] at this; exact this
  obtain ⟨R, HR⟩ : ∃ R, Hid (or3 c0 c1 c2 = R) := ⟨_, rfl⟩
  rw [HR.out]
  go_enter Tryz.func32, Tryz.ntmps32
  go_wp2_with fail
  obtain ⟨W, HW⟩ : ∃ W, Hid (W = (w.alloc (.cells #[.string k1, .int .u32 p1, .int .i64 s1] 28)).alloc (.cells #[.string k2, .int .u32 p2, .int .i64 s2] 28)) := ⟨_, rfl⟩
  have a0 : W.cell? ⟨w.heap.size, 0, none⟩ = some (.string k1) := by rw [HW.out]; simp
  have a1 : W.cell? ⟨w.heap.size, 1, none⟩ = some (.int .u32 p1) := by rw [HW.out]; simp
  have a2 : W.cell? ⟨w.heap.size, 2, none⟩ = some (.int .i64 s1) := by rw [HW.out]; simp
  have b0 : W.cell? ⟨w.heap.size + 1, 0, none⟩ = some (.string k2) := by rw [HW.out]; simp
  have b1 : W.cell? ⟨w.heap.size + 1, 1, none⟩ = some (.int .u32 p2) := by rw [HW.out]; simp
  have b2 : W.cell? ⟨w.heap.size + 1, 2, none⟩ = some (.int .i64 s2) := by rw [HW.out]; simp
  have bel : Below w.heap.size w W := by rw [HW.out]; exact ((Below.refl _ _).alloc (Nat.le_refl _) _).alloc (by simp) _
  have hlt0 : w.heap.size < W.heap.size := by rw [HW.out]; simp; omega
  have hlt1 : w.heap.size + 1 < W.heap.size := by rw [HW.out]; simp
  have HO : Hid (Calls Tryz.prog 61 #[.slice (some ⟨W.heap.size, 0, none⟩) 3 3] (W.alloc (.cells #[.int .i64 c0, .int .i64 c1, .int .i64 c2] 3)).drew fun e w' => e = .returned (.int .i64 R) ∧ w' = (W.alloc (.cells #[.int .i64 c0, .int .i64 c1, .int .i64 c2] 3)).drew) := by
    have := or3_any W.heap.size c0 c1 c2 (W.alloc (.cells #[.int .i64 c0, .int .i64 c1, .int .i64 c2] 3)).drew (by simp) (by simp) (by simp)
    rw [HR.out] at this
    exact this
  have HB2 : Hid (Below w.heap.size w (W.alloc (.cells #[.int .i64 c0, .int .i64 c1, .int .i64 c2] 3)).drew) := (bel.alloc (by omega) _).drew
  rw [← HW.out]
  clear HW bel
  go_region_held3 (fun wy => (wy.cell? ⟨w.heap.size, 0, none⟩ = some (.string k1) ∧ wy.cell? ⟨w.heap.size, 1, none⟩ = some (.int .u32 p1) ∧ wy.cell? ⟨w.heap.size, 2, none⟩ = some (.int .i64 s1)) ∧ (wy.cell? ⟨w.heap.size + 1, 0, none⟩ = some (.string k2) ∧ wy.cell? ⟨w.heap.size + 1, 1, none⟩ = some (.int .u32 p2) ∧ wy.cell? ⟨w.heap.size + 1, 2, none⟩ = some (.int .i64 s2))) (first | go_keep)
    (first
      | (go_at_call 62; refine (h0.out _).mono ?_; rintro e w' ⟨rfl, rfl⟩)
      | (go_at_call 63; refine (h1.out _).mono ?_; rintro e w' ⟨rfl, rfl⟩)
      | (go_at_call 64; refine (h2.out _).mono ?_; rintro e w' ⟨rfl, rfl⟩)
      | (go_at_call 61; refine HO.out.mono ?_; rintro e w' ⟨rfl, rfl⟩))
  go_wp2
  go_ret
  exact ⟨rfl, HB2.out⟩

end Go.Proofs.YtpllidadpcahbaaGreat
