/-
  The walks of cmp.Compare, cmp.Or of three numbers, key.Entries and the function that key.Compare hands on.
-/
import Derived.Test.YtgammhmgdafpkaaDoorKeyMem
import Derived.Deep.RegionHeld3
import Derived.Deep.QuietTactic
namespace Go.Proofs.YtgammhmgdafpkaaDoor
open Go.RowKit Go.Sort
set_option linter.unusedVariables false
set_option linter.unusedSimpArgs false

/-- Two numbers held against one another. -/
def kcmpF (x y : Int) : Int := if x < y then -1 else if y < x then 1 else 0

/-- Two texts held against one another. -/
def scmpF (x y : ByteArray) : Int := if Go.Op.bytesLess x.toList y.toList = true then -1 else if x = y then 0 else 1

set_option maxHeartbeats 800000 in
theorem kcmp_int (x y : Int) (w : World) : Calls Tryd.prog 36 #[.int .i64 x, .int .i64 y] w fun e w' => e = .returned (.int .i64 (kcmpF x y)) ∧ w' = w := by
  have hn : ∀ (z : Int) wx, Calls Tryd.prog 53 #[.int .i64 z] wx fun e w' => e = .returned (.bool false) ∧ w' = wx := fun z wx => by
    go_enter Tryd.func53, Tryd.ntmps53
    go_wp2
    go_ret
    exact ⟨rfl, rfl⟩
  unfold kcmpF
  rcases Int.lt_trichotomy x y with h | h | h
  · rw [if_pos h]
    go_enter Tryd.func36, Tryd.ntmps36
    go_wp2_with (go_at_call 53; refine (hn _ _).mono ?_; rintro e w' ⟨rfl, rfl⟩)
    go_ret
    exact ⟨rfl, rfl⟩
  · subst h
    rw [if_neg (by omega), if_neg (by omega)]
    go_enter Tryd.func36, Tryd.ntmps36
    go_wp2_with (go_at_call 53; refine (hn _ _).mono ?_; rintro e w' ⟨rfl, rfl⟩)
    go_ret
    exact ⟨rfl, rfl⟩
  · have h1 : ¬ x < y := by omega
    rw [if_neg h1, if_pos h]
    go_enter Tryd.func36, Tryd.ntmps36
    go_wp2_with (go_at_call 53; refine (hn _ _).mono ?_; rintro e w' ⟨rfl, rfl⟩)
    go_ret
    exact ⟨rfl, rfl⟩

set_option maxHeartbeats 800000 in
theorem kcmp_i64 (x y : Int) (w : World) : Calls Tryd.prog 37 #[.int .i64 x, .int .i64 y] w fun e w' => e = .returned (.int .i64 (kcmpF x y)) ∧ w' = w := by
  have hn : ∀ (z : Int) wx, Calls Tryd.prog 54 #[.int .i64 z] wx fun e w' => e = .returned (.bool false) ∧ w' = wx := fun z wx => by
    go_enter Tryd.func54, Tryd.ntmps54
    go_wp2
    go_ret
    exact ⟨rfl, rfl⟩
  unfold kcmpF
  rcases Int.lt_trichotomy x y with h | h | h
  · rw [if_pos h]
    go_enter Tryd.func37, Tryd.ntmps37
    go_wp2_with (go_at_call 54; refine (hn _ _).mono ?_; rintro e w' ⟨rfl, rfl⟩)
    go_ret
    exact ⟨rfl, rfl⟩
  · subst h
    rw [if_neg (by omega), if_neg (by omega)]
    go_enter Tryd.func37, Tryd.ntmps37
    go_wp2_with (go_at_call 54; refine (hn _ _).mono ?_; rintro e w' ⟨rfl, rfl⟩)
    go_ret
    exact ⟨rfl, rfl⟩
  · have h1 : ¬ x < y := by omega
    rw [if_neg h1, if_pos h]
    go_enter Tryd.func37, Tryd.ntmps37
    go_wp2_with (go_at_call 54; refine (hn _ _).mono ?_; rintro e w' ⟨rfl, rfl⟩)
    go_ret
    exact ⟨rfl, rfl⟩



set_option maxHeartbeats 800000 in
theorem kcmp_str (x y : ByteArray) (w : World) : Calls Tryd.prog 38 #[.string x, .string y] w fun e w' => e = .returned (.int .i64 (scmpF x y)) ∧ w' = w := by
  have hn : ∀ (z : ByteArray) wx, Calls Tryd.prog 55 #[.string z] wx fun e w' => e = .returned (.bool false) ∧ w' = wx := fun z wx => by
    have hz : (z.toList == z.toList) = true := by simp
    go_enter Tryd.func55, Tryd.ntmps55
    go_wp2
    go_ret
    exact ⟨rfl, rfl⟩
  unfold scmpF
  by_cases h : Go.Op.bytesLess x.toList y.toList = true
  · rw [if_pos h]
    go_enter Tryd.func38, Tryd.ntmps38
    go_wp2_with (go_at_call 55; refine (hn _ _).mono ?_; rintro e w' ⟨rfl, rfl⟩)
    go_ret
    exact ⟨rfl, rfl⟩
  · have h' : Go.Op.bytesLess x.toList y.toList = false := by simpa using h
    rw [if_neg h]
    by_cases e : x = y
    · subst e
      have he : (x.toList == x.toList) = true := by simp
      rw [if_pos rfl]
      go_enter Tryd.func38, Tryd.ntmps38
      go_wp2_with (go_at_call 55; refine (hn _ _).mono ?_; rintro e w' ⟨rfl, rfl⟩)
      go_ret
      exact ⟨rfl, rfl⟩
    · have he := kstr_ne e
      rw [if_neg e]
      go_enter Tryd.func38, Tryd.ntmps38
      go_wp2_with (go_at_call 55; refine (hn _ _).mono ?_; rintro e w' ⟨rfl, rfl⟩)
      go_ret
      exact ⟨rfl, rfl⟩

/-- The first of three numbers that is not 0. -/
def or3 (a b c : Int) : Int := if a ≠ 0 then a else if b ≠ 0 then b else c

set_option maxHeartbeats 800000 in
theorem or3_any (g : Nat) (a b c : Int) (w : World) (h0 : w.cell? ⟨g, 0, none⟩ = some (.int .i64 a)) (h1 : w.cell? ⟨g, 1, none⟩ = some (.int .i64 b)) (h2 : w.cell? ⟨g, 2, none⟩ = some (.int .i64 c)) :
    Calls Tryd.prog 35 #[.slice (some ⟨g, 0, none⟩) 3 3] w fun e w' => e = .returned (.int .i64 (or3 a b c)) ∧ w' = w := by
  obtain ⟨R, HR⟩ : ∃ R, Hid (or3 a b c = R) := ⟨_, rfl⟩
  rw [HR.out]
  go_enter Tryd.func35, Tryd.ntmps35
  go_wp2_with fail
  refine wp_loop_rounds 4 ?_
  by_cases a0 : a = 0
  · subst a0
    by_cases b0 : b = 0
    · subst b0
      by_cases c0 : c = 0
      · subst c0
        obtain rfl : R = 0 := by rw [← HR.out]; rfl
        rw [rounds_succ]
        go_wp2_with fail
        rw [rounds_succ]
        go_wp2_with fail
        rw [rounds_succ]
        go_wp2_with fail
        rw [rounds_succ]
        go_wp2
        go_ret
        exact ⟨rfl, rfl⟩
      · obtain rfl : R = c := by rw [← HR.out]; rfl
        have c1 : (R != 0) = true := by rw [bne_iff_ne]; exact c0
        rw [rounds_succ]
        go_wp2_with fail
        rw [rounds_succ]
        go_wp2_with fail
        rw [rounds_succ]
        go_wp2
        go_ret
        exact ⟨rfl, rfl⟩
    · obtain rfl : R = b := by rw [← HR.out]; unfold or3; rw [if_neg (by simp), if_pos b0]
      have b1 : (R != 0) = true := by rw [bne_iff_ne]; exact b0
      rw [rounds_succ]
      go_wp2_with fail
      rw [rounds_succ]
      go_wp2
      go_ret
      exact ⟨rfl, rfl⟩
  · obtain rfl : R = a := by rw [← HR.out]; unfold or3; rw [if_pos a0]
    have a1 : (R != 0) = true := by rw [bne_iff_ne]; exact a0
    rw [rounds_succ]
    go_wp2
    go_ret
    exact ⟨rfl, rfl⟩

set_option maxHeartbeats 3200000 in
set_option maxRecDepth 20000 in
theorem cmpOne_any (x y : ValV) (w : World) : Calls Tryd.prog 34 #[.agg #[.int .i64 x.kind, .int .i64 x.n, .string x.S], .agg #[.int .i64 y.kind, .int .i64 y.n, .string y.S]] w fun e w' => e = .returned (.int .i64 (or3 (kcmpF x.kind y.kind) (kcmpF x.n y.n) (scmpF x.S y.S))) ∧ Below w.heap.size w w' := by
  obtain ⟨c0, hc0⟩ : ∃ c0, Hid (kcmpF x.kind y.kind = c0) := ⟨_, rfl⟩
  obtain ⟨c1, hc1⟩ : ∃ c1, Hid (kcmpF x.n y.n = c1) := ⟨_, rfl⟩
  obtain ⟨c2, hc2⟩ : ∃ c2, Hid (scmpF x.S y.S = c2) := ⟨_, rfl⟩
  rw [hc0.out, hc1.out, hc2.out]
  have h0 : Hid (∀ wx : World, Calls Tryd.prog 36 #[.int .i64 x.kind, .int .i64 y.kind] wx fun e w' => e = .returned (.int .i64 c0) ∧ w' = wx) := fun wx => by have := kcmp_int x.kind y.kind wx; rw [hc0.out] at this; exact this
  have h1 : Hid (∀ wx : World, Calls Tryd.prog 37 #[.int .i64 x.n, .int .i64 y.n] wx fun e w' => e = .returned (.int .i64 c1) ∧ w' = wx) := fun wx => by have := kcmp_i64 x.n y.n wx; rw [hc1.out] at this; exact this
  have h2 : Hid (∀ wx : World, Calls Tryd.prog 38 #[.string x.S, .string y.S] wx fun e w' => e = .returned (.int .i64 c2) ∧ w' = wx) := fun wx => by have := kcmp_str x.S y.S wx; rw [hc2.out] at this; exact this
  obtain ⟨R, HR⟩ : ∃ R, Hid (or3 c0 c1 c2 = R) := ⟨_, rfl⟩
  rw [HR.out]
  go_enter Tryd.func34, Tryd.ntmps34
  go_wp2_with fail
  obtain ⟨W, HW⟩ : ∃ W, Hid (W = (w.alloc (.cells #[.int .i64 x.kind, .int .i64 x.n, .string x.S] 35)).alloc (.cells #[.int .i64 y.kind, .int .i64 y.n, .string y.S] 35)) := ⟨_, rfl⟩
  have a0 : W.cell? ⟨w.heap.size, 0, none⟩ = some (.int .i64 x.kind) := by rw [HW.out]; simp
  have a1 : W.cell? ⟨w.heap.size, 1, none⟩ = some (.int .i64 x.n) := by rw [HW.out]; simp
  have a2 : W.cell? ⟨w.heap.size, 2, none⟩ = some (.string x.S) := by rw [HW.out]; simp
  have b0 : W.cell? ⟨w.heap.size + 1, 0, none⟩ = some (.int .i64 y.kind) := by rw [HW.out]; simp
  have b1 : W.cell? ⟨w.heap.size + 1, 1, none⟩ = some (.int .i64 y.n) := by rw [HW.out]; simp
  have b2 : W.cell? ⟨w.heap.size + 1, 2, none⟩ = some (.string y.S) := by rw [HW.out]; simp
  have bel : Below w.heap.size w W := by rw [HW.out]; exact ((Below.refl _ _).alloc (Nat.le_refl _) _).alloc (by simp) _
  have hlt0 : w.heap.size < W.heap.size := by rw [HW.out]; simp; omega
  have hlt1 : w.heap.size + 1 < W.heap.size := by rw [HW.out]; simp
  have HO : Hid (Calls Tryd.prog 35 #[.slice (some ⟨W.heap.size, 0, none⟩) 3 3] (W.alloc (.cells #[.int .i64 c0, .int .i64 c1, .int .i64 c2] 3)).drew fun e w' => e = .returned (.int .i64 R) ∧ w' = (W.alloc (.cells #[.int .i64 c0, .int .i64 c1, .int .i64 c2] 3)).drew) := by
    have := or3_any W.heap.size c0 c1 c2 (W.alloc (.cells #[.int .i64 c0, .int .i64 c1, .int .i64 c2] 3)).drew (by simp) (by simp) (by simp)
    rw [HR.out] at this
    exact this
  have HB2 : Hid (Below w.heap.size w (W.alloc (.cells #[.int .i64 c0, .int .i64 c1, .int .i64 c2] 3)).drew) := (bel.alloc (by omega) _).drew
  rw [← HW.out]
  clear HW bel
  go_region_held3 (fun wy => (wy.cell? ⟨w.heap.size, 0, none⟩ = some (.int .i64 x.kind) ∧ wy.cell? ⟨w.heap.size, 1, none⟩ = some (.int .i64 x.n) ∧ wy.cell? ⟨w.heap.size, 2, none⟩ = some (.string x.S)) ∧ (wy.cell? ⟨w.heap.size + 1, 0, none⟩ = some (.int .i64 y.kind) ∧ wy.cell? ⟨w.heap.size + 1, 1, none⟩ = some (.int .i64 y.n) ∧ wy.cell? ⟨w.heap.size + 1, 2, none⟩ = some (.string y.S))) (first | go_keep)
    (first
      | (go_at_call 36; refine (h0.out _).mono ?_; rintro e w' ⟨rfl, rfl⟩)
      | (go_at_call 37; refine (h1.out _).mono ?_; rintro e w' ⟨rfl, rfl⟩)
      | (go_at_call 38; refine (h2.out _).mono ?_; rintro e w' ⟨rfl, rfl⟩)
      | (go_at_call 35; refine HO.out.mono ?_; rintro e w' ⟨rfl, rfl⟩))
  go_wp2
  go_ret
  exact ⟨rfl, HB2.out⟩



end Go.Proofs.YtgammhmgdafpkaaDoor
