/-
  The walk of girderlaw03.same.
-/
import Derived.Test.YtbkdedkifbffhaaPageSame2
namespace Go.Proofs.Ytbkdedkifbffhaa
open Go.RowKit Go.Sort
set_option linter.unusedVariables false

set_option maxHeartbeats 1600000 in
theorem lsame_any (p q : SheetV) (a1 a2 : Option Addr) (c d : Nat) (w : World) (hp : p.Ok w a1) (hq : q.Ok w a2) :
    Calls Try.prog 17 #[p.val a1 c, q.val a2 d] w fun e w' => e = .returned (.bool (decide (p.lsn = q.lsn) && sameB p q)) ∧ Below w.heap.size w w' := by
  have HREF : Hid (∀ wx, Calls Try.prog 11 #[p.val a1 c] wx fun e w' => e = .returned (p.val a1 c) ∧ Below wx.heap.size wx w') := fun wx => ref_any p a1 c wx
  have HSM : Hid (∀ wx, Below w.heap.size w wx → Calls Try.prog 30 #[p.val a1 c, q.val a2 d] wx fun e w' => e = .returned (.bool (sameB p q)) ∧ Below wx.heap.size wx w') := fun wx hb => refSame_any p q a1 a2 c d wx (hp.below hb) (hq.below hb)
  have hl1 := hp.lsn
  have hl2 := hq.lsn
  generalize sameB p q = R at *
  clear hp hq
  obtain ⟨n1, l1, k1, h1, L⟩ := p
  obtain ⟨n2, l2, k2, h2, M⟩ := q
  simp only [SheetV.val] at *
  have HB : ∃ W, Hid (W = (w.alloc (.cells #[.int .u32 n1, .int .u64 l1, .int .i64 k1, .string h1, .slice a1 L.length c] 28)).alloc (.cells #[.int .u32 n2, .int .u64 l2, .int .i64 k2, .string h2, .slice a2 M.length d] 35)) := ⟨_, rfl⟩
  obtain ⟨W, HW⟩ := HB
  have bel : Below w.heap.size w W := by rw [HW.out]; exact ((Below.refl _ _).alloc (Nat.le_refl _) _).alloc (by simp) _
  have r1 : RowV W w.heap.size 5 (five (.int .u32 n1) (.int .u64 l1) (.int .i64 k1) (.string h1) (.slice a1 L.length c)) := by
    rw [HW.out]; exact (RowV.five_new w _ _ _ _ _ _).below ((Below.refl _ _).alloc (Nat.le_refl _) _) (by simp)
  have r2 : RowV W (w.heap.size + 1) 5 (five (.int .u32 n2) (.int .u64 l2) (.int .i64 k2) (.string h2) (.slice a2 M.length d)) := by
    rw [HW.out]
    have := RowV.five_new (w.alloc (.cells #[.int .u32 n1, .int .u64 l1, .int .i64 k1, .string h1, .slice a1 L.length c] 28)) (.int .u32 n2) (.int .u64 l2) (.int .i64 k2) (.string h2) (.slice a2 M.length d) 35
    simpa using this
  obtain ⟨x0, x1, x2, x3, x4⟩ := r1.cells5
  obtain ⟨y0, y1, y2, y3, y4⟩ := r2.cells5
  clear r1 r2
  have gx0 := cell_regrown x0
  have gx1 := cell_regrown x1
  have gx2 := cell_regrown x2
  have gx3 := cell_regrown x3
  have gx4 := cell_regrown x4
  have gy0 := cell_regrown y0
  have gy1 := cell_regrown y1
  have gy2 := cell_regrown y2
  have gy3 := cell_regrown y3
  have gy4 := cell_regrown y4
  have cR : ∀ dd os, Calls Try.prog 11 #[.agg #[.int .u32 n1, .int .u64 l1, .int .i64 k1, .string h1, .slice a1 L.length c]] (grow (redrawn W dd) os) fun e w'' => e = .returned (.agg #[.int .u32 n1, .int .u64 l1, .int .i64 k1, .string h1, .slice a1 L.length c]) ∧ ∃ p : Regrown, w'' = grow (redrawn W p.d) p.os := fun dd os => Calls.regrown_of (HREF.out _)
  have cS : ∀ dd os, Calls Try.prog 30 #[.agg #[.int .u32 n1, .int .u64 l1, .int .i64 k1, .string h1, .slice a1 L.length c], .agg #[.int .u32 n2, .int .u64 l2, .int .i64 k2, .string h2, .slice a2 M.length d]] (grow (redrawn W dd) os) fun e w'' => e = .returned (.bool R) ∧ ∃ p : Regrown, w'' = grow (redrawn W p.d) p.os := fun dd os => Calls.regrown_of (HSM.out _ (below_chain bel (below_regrown W dd os)))
  by_cases e1 : l1 = l2
  · have e1' : ((l1 : Int) == (l2 : Int)) = true := by rw [beq_iff_eq]; omega
    have E1 : Hid (l1 = l2) := e1
    clear e1
    go_enter Try.func17, Try.ntmps17
    go_wp2_with fail
    rw [← HW.out]
    refine wp_region_quiet_below mixed (by kernel_rfl) ?_
    repeat (quiet_step (first | exact cR _ _ | exact cS _ _))
    refine wpQuiet_nil ?_
    intro _ hw'
    obtain ⟨⟨dq, osq⟩, hw''⟩ := hw'
    subst hw''
    go_wp2
    go_ret
    exact ⟨by simp [E1.out], below_chain bel (below_regrown W dq osq)⟩
  · have e1' : ((l1 : Int) == (l2 : Int)) = false := by rw [beq_eq_false_iff_ne]; omega
    go_enter Try.func17, Try.ntmps17
    go_wp2_with fail
    rw [← HW.out]
    refine wp_region_quiet_below mixed (by kernel_rfl) ?_
    repeat (quiet_step (first | exact cR _ _ | exact cS _ _))
    refine wpQuiet_nil ?_
    intro _ hw'
    obtain ⟨⟨dq, osq⟩, hw''⟩ := hw'
    subst hw''
    go_wp2
    go_ret
    exact ⟨by simp [e1], below_chain bel (below_regrown W dq osq)⟩

end Go.Proofs.Ytbkdedkifbffhaa
