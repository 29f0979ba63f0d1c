/-
  The walk of PageSmall.
-/
import Derived.Test.YtbkdedkifbffhaaPageAwake
namespace Go.Proofs.Ytbkdedkifbffhaa
open Go.RowKit Go.Sort
set_option linter.unusedVariables false

/-- A blank page. -/
def sheetB (n : Nat) : SheetV := ⟨n, 0, 0, ⟨#[]⟩, []⟩
theorem sheetB_ok (n : Nat) (h : n < 4294967296) (w : World) (a : Option Addr) : (sheetB n).Ok w a := ⟨h, by show (0 : Nat) < _; omega, by show (-9223372036854775808 : Int) ≤ 0 ∧ (0 : Int) ≤ _; omega, by show (0 : Nat) ≤ _; omega, by show (0 : Nat) ≤ _; omega, (fun s hs => nomatch hs), .inl rfl⟩

set_option maxHeartbeats 3200000 in
set_option maxRecDepth 20000 in
theorem small_walk (p q : SheetV) (a1 a2 : Option Addr) (c d : Nat) (n : Nat) (hn : n < 4294967296) (w : World) (hp : p.Ok w a1) (hq : q.Ok w a2) :
    Calls Try.prog 6 #[p.val a1 c, q.val a2 d, .int .u32 n] w fun e w' => e = .returned (.bool true) ∧ Below w.heap.size w w' := by
  have hh := hp.head
  have HBL : Hid (∀ wx, Calls Try.prog 27 #[.int .u32 n] wx fun x w' => x = .returned (.agg #[.int .u32 n, .int .u64 0, .int .i64 0, .string ⟨#[]⟩, .slice none 0 0]) ∧ Below wx.heap.size wx w') := fun wx => blank_any n wx
  have HSB : Hid (∀ wx, Calls Try.prog 17 #[.agg #[.int .u32 n, .int .u64 0, .int .i64 0, .string ⟨#[]⟩, .slice none 0 0], .agg #[.int .u32 n, .int .u64 0, .int .i64 0, .string ⟨#[]⟩, .slice none 0 0]] wx fun e w' => e = .returned (.bool true) ∧ Below wx.heap.size wx w') := fun wx => by
    have := lsame_any (sheetB n) (sheetB n) none none 0 0 wx (sheetB_ok n hn wx _) (sheetB_ok n hn wx _)
    rw [show (decide ((sheetB n).lsn = (sheetB n).lsn) && sameB (sheetB n) (sheetB n)) = true from by simp [sameB]] at this
    exact this
  have HPQ : Hid (∀ wx, Below w.heap.size w wx → Calls Try.prog 18 #[p.val a1 c, q.val a2 d] wx fun e w' => e = .returned (.bool (sameB p q)) ∧ Below wx.heap.size wx w') := fun wx hb => same_any p q a1 a2 c d wx (hp.below hb) (hq.below hb)
  have HPP : Hid (∀ wx, Below w.heap.size w wx → Calls Try.prog 18 #[p.val a1 c, p.val a1 c] wx fun e w' => e = .returned (.bool true) ∧ Below wx.heap.size wx w') := fun wx hb => by
    have := same_any p p a1 a1 c c wx (hp.below hb) (hp.below hb)
    rw [show sameB p p = true from by simp [sameB]] at this
    exact this
  have HRS : Hid (∀ wx, Below w.heap.size w wx → Calls Try.prog 30 #[p.val a1 c, q.val a2 d] wx fun e w' => e = .returned (.bool (sameB p q)) ∧ Below wx.heap.size wx w') := fun wx hb => refSame_any p q a1 a2 c d wx (hp.below hb) (hq.below hb)
  have HR1 : Hid (∀ wx, Calls Try.prog 11 #[p.val a1 c] wx fun e w' => e = .returned (p.val a1 c) ∧ Below wx.heap.size wx w') := fun wx => ref_any p a1 c wx
  have HR2 : Hid (∀ wx, Calls Try.prog 11 #[q.val a2 d] wx fun e w' => e = .returned (q.val a2 d) ∧ Below wx.heap.size wx w') := fun wx => ref_any q a2 d wx
  generalize sameB p q = R at *
  simp only [SheetV.val] at *
  have HB0 : ∃ W0, Hid (W0 = (w.alloc (.cells #[.int .u32 p.num, .int .u64 p.lsn, .int .i64 p.kind, .string p.head, .slice a1 p.slots.length c] 28)).alloc (.cells #[.int .u32 q.num, .int .u64 q.lsn, .int .i64 q.kind, .string q.head, .slice a2 q.slots.length d] 28)) := ⟨_, rfl⟩
  obtain ⟨W0, HW0⟩ := HB0
  have bel0 : Below w.heap.size w W0 := by rw [HW0.out]; exact ((Below.refl _ _).alloc (Nat.le_refl _) _).alloc (by simp) _
  have z0 : w.heap.size + 2 ≤ W0.heap.size := by rw [HW0.out]; simp
  have p0 : RowV W0 w.heap.size 5 (five (.int .u32 p.num) (.int .u64 p.lsn) (.int .i64 p.kind) (.string p.head) (.slice a1 p.slots.length c)) := by
    rw [HW0.out]; exact (RowV.five_new w _ _ _ _ _ _).below ((Below.refl _ _).alloc (Nat.le_refl _) _) (by simp)
  have q0 : RowV W0 (w.heap.size + 1) 5 (five (.int .u32 q.num) (.int .u64 q.lsn) (.int .i64 q.kind) (.string q.head) (.slice a2 q.slots.length d)) := by
    rw [HW0.out]
    have := RowV.five_new (w.alloc (.cells #[.int .u32 p.num, .int .u64 p.lsn, .int .i64 p.kind, .string p.head, .slice a1 p.slots.length c] 28)) (.int .u32 q.num) (.int .u64 q.lsn) (.int .i64 q.kind) (.string q.head) (.slice a2 q.slots.length d) 28
    simpa using this
  go_enter Try.func6, Try.ntmps6
  go_wp2_with fail
  rw [← HW0.out]
  clear HW0
  refine (HBL.out _).mono ?_
  rintro e w1 ⟨rfl, b1⟩
  have hz1 := b1.size
  have p1 := p0.below b1 (by omega)
  have q1 := q0.below b1 (by omega)
  have bel1 := below_chain bel0 b1
  go_wp2_with fail
  obtain ⟨W, HW⟩ : ∃ W, Hid (W = w1.alloc (.cells #[.int .u32 n, .int .u64 0, .int .i64 0, .string ⟨#[]⟩, .slice none 0 0] 28)) := ⟨_, rfl⟩
  have p2 : RowV W w.heap.size 5 (five (.int .u32 p.num) (.int .u64 p.lsn) (.int .i64 p.kind) (.string p.head) (.slice a1 p.slots.length c)) := by rw [HW.out]; exact p1.below ((Below.refl _ _).alloc (Nat.le_refl _) _) (by omega)
  have q2 : RowV W (w.heap.size + 1) 5 (five (.int .u32 q.num) (.int .u64 q.lsn) (.int .i64 q.kind) (.string q.head) (.slice a2 q.slots.length d)) := by rw [HW.out]; exact q1.below ((Below.refl _ _).alloc (Nat.le_refl _) _) (by omega)
  have r2 : RowV W w1.heap.size 5 (five (.int .u32 n) (.int .u64 0) (.int .i64 0) (.string ⟨#[]⟩) (.slice none 0 0)) := by rw [HW.out]; exact RowV.five_new w1 _ _ _ _ _ _
  have bel : Below w.heap.size w W := by rw [HW.out]; exact bel1.alloc (by omega) _
  rw [← HW.out]
  clear HW p0 q0 p1 q1 bel0 bel1 b1
  obtain ⟨x0, x1, x2, x3, x4⟩ := p2.cells5
  obtain ⟨y0, y1, y2, y3, y4⟩ := q2.cells5
  obtain ⟨u0, u1, u2, u3, u4⟩ := r2.cells5
  clear p2 q2 r2
  have gx0 := cell_regrown x0
  have gx1 := cell_regrown x1
  have gx2 := cell_regrown x2
  have gx3 := cell_regrown x3
  have gx4 := cell_regrown x4
  have gy0 := cell_regrown y0
  have gy1 := cell_regrown y1
  have gy2 := cell_regrown y2
  have gy3 := cell_regrown y3
  have gy4 := cell_regrown y4
  have gu0 := cell_regrown u0
  have gu1 := cell_regrown u1
  have gu2 := cell_regrown u2
  have gu3 := cell_regrown u3
  have gu4 := cell_regrown u4
  clear x0 x1 x2 x3 x4 y0 y1 y2 y3 y4 u0 u1 u2 u3 u4
  have cA : ∀ dd os, Calls Try.prog 14 #[] (grow (redrawn W dd) os) fun e w'' => e = .returned (.bool true) ∧ ∃ p : Regrown, w'' = grow (redrawn W p.d) p.os := fun dd os => Calls.regrown_of (awake_any _)
  have cB : ∀ dd os, Calls Try.prog 17 #[.agg #[.int .u32 n, .int .u64 0, .int .i64 0, .string ⟨#[]⟩, .slice none 0 0], .agg #[.int .u32 n, .int .u64 0, .int .i64 0, .string ⟨#[]⟩, .slice none 0 0]] (grow (redrawn W dd) os) fun e w'' => e = .returned (.bool true) ∧ ∃ p : Regrown, w'' = grow (redrawn W p.d) p.os := fun dd os => Calls.regrown_of (HSB.out _)
  have cK : ∀ dd os, Calls Try.prog 28 #[.int .i64 p.kind, .string p.head] (grow (redrawn W dd) os) fun e w'' => e = .returned (.string (kindS p.kind p.head)) ∧ ∃ p : Regrown, w'' = grow (redrawn W p.d) p.os := fun dd os => Calls.regrown_of (kind_any _ _ _ hh)
  have cT : ∀ dd os, Calls Try.prog 29 #[.int .i64 p.kind, .string p.head] (grow (redrawn W dd) os) fun e w'' => e = .returned (.string (kindS p.kind p.head)) ∧ ∃ p : Regrown, w'' = grow (redrawn W p.d) p.os := fun dd os => Calls.regrown_of (turned_any _ _ _ hh)
  have cS : ∀ dd os, Calls Try.prog 18 #[.agg #[.int .u32 p.num, .int .u64 p.lsn, .int .i64 p.kind, .string p.head, .slice a1 p.slots.length c], .agg #[.int .u32 q.num, .int .u64 q.lsn, .int .i64 q.kind, .string q.head, .slice a2 q.slots.length d]] (grow (redrawn W dd) os) fun e w'' => e = .returned (.bool R) ∧ ∃ p : Regrown, w'' = grow (redrawn W p.d) p.os := fun dd os => Calls.regrown_of (HPQ.out _ (below_chain bel (below_regrown W dd os)))
  have cP : ∀ dd os, Calls Try.prog 18 #[.agg #[.int .u32 p.num, .int .u64 p.lsn, .int .i64 p.kind, .string p.head, .slice a1 p.slots.length c], .agg #[.int .u32 p.num, .int .u64 p.lsn, .int .i64 p.kind, .string p.head, .slice a1 p.slots.length c]] (grow (redrawn W dd) os) fun e w'' => e = .returned (.bool true) ∧ ∃ p : Regrown, w'' = grow (redrawn W p.d) p.os := fun dd os => Calls.regrown_of (HPP.out _ (below_chain bel (below_regrown W dd os)))
  have cR1 : ∀ dd os, Calls Try.prog 11 #[.agg #[.int .u32 p.num, .int .u64 p.lsn, .int .i64 p.kind, .string p.head, .slice a1 p.slots.length c]] (grow (redrawn W dd) os) fun e w'' => e = .returned (.agg #[.int .u32 p.num, .int .u64 p.lsn, .int .i64 p.kind, .string p.head, .slice a1 p.slots.length c]) ∧ ∃ p : Regrown, w'' = grow (redrawn W p.d) p.os := fun dd os => Calls.regrown_of (HR1.out _)
  have cR2 : ∀ dd os, Calls Try.prog 11 #[.agg #[.int .u32 q.num, .int .u64 q.lsn, .int .i64 q.kind, .string q.head, .slice a2 q.slots.length d]] (grow (redrawn W dd) os) fun e w'' => e = .returned (.agg #[.int .u32 q.num, .int .u64 q.lsn, .int .i64 q.kind, .string q.head, .slice a2 q.slots.length d]) ∧ ∃ p : Regrown, w'' = grow (redrawn W p.d) p.os := fun dd os => Calls.regrown_of (HR2.out _)
  have cRS : ∀ dd os, Calls Try.prog 30 #[.agg #[.int .u32 p.num, .int .u64 p.lsn, .int .i64 p.kind, .string p.head, .slice a1 p.slots.length c], .agg #[.int .u32 q.num, .int .u64 q.lsn, .int .i64 q.kind, .string q.head, .slice a2 q.slots.length d]] (grow (redrawn W dd) os) fun e w'' => e = .returned (.bool R) ∧ ∃ p : Regrown, w'' = grow (redrawn W p.d) p.os := fun dd os => Calls.regrown_of (HRS.out _ (below_chain bel (below_regrown W dd os)))
  have hKK := str_eq (rfl : kindS p.kind p.head = kindS p.kind p.head)
  refine wp_region_quiet_below mixed (by kernel_rfl) ?_
  iterate 24 (quiet_step (first | (go_at_call 14; exact cA _ _) | (go_at_call 17; exact cB _ _) | (go_at_call 28; exact cK _ _) | (go_at_call 29; exact cT _ _) | (go_at_call 30; exact cRS _ _) | (go_at_call 18; exact cS _ _)))
  iterate 2 (quiet_step (first | (go_at_call 14; exact cA _ _) | (go_at_call 17; exact cB _ _) | (go_at_call 28; exact cK _ _) | (go_at_call 29; exact cT _ _) | (go_at_call 30; exact cRS _ _) | (go_at_call 11; exact cR1 _ _)))
  iterate 2 (quiet_step (first | (go_at_call 14; exact cA _ _) | (go_at_call 17; exact cB _ _) | (go_at_call 28; exact cK _ _) | (go_at_call 29; exact cT _ _) | (go_at_call 30; exact cRS _ _) | (go_at_call 11; exact cR2 _ _)))
  iterate 9 (quiet_step (first | (go_at_call 14; exact cA _ _) | (go_at_call 17; exact cB _ _) | (go_at_call 28; exact cK _ _) | (go_at_call 29; exact cT _ _) | (go_at_call 30; exact cRS _ _) | (go_at_call 18; exact cP _ _)))
  refine wpQuiet_nil ?_
  intro _ hw'
  obtain ⟨⟨dq, osq⟩, hw''⟩ := hw'
  subst hw''
  go_wp2
  go_ret
  exact ⟨rfl, below_chain bel (below_regrown W dq osq)⟩

end Go.Proofs.Ytbkdedkifbffhaa
