/-
  The walk of page.setHead (for PageBack).
-/
import Derived.Test.YtnljephojonilaaPageChangeC
namespace Go.Proofs.Ytnljephojonilaa
open Go.RowKit Go.Sort
set_option linter.unusedVariables false

/-- The error of an OpHead. -/
def headE (p : SheetV) (o : OpV) : Int := if p.head ≠ o.old then 31 else if 485 < o.S.size + slotSum p.slots then 30 else 0

section
variable {B : Nat} {w : World} {b bs : Nat} {p : SheetV} {o : OpV}

set_option maxHeartbeats 1600000 in
set_option maxRecDepth 60000 in
theorem setHead_any (h : SheetAt B w b bs p) (f : p.Fits) (ho : o.Ok) :
    Calls Try.prog 61 #[.pointer (some ⟨b, 0, none⟩), o.val] w fun e w' => e = .returned (.int .i64 (headE p o)) ∧ Below B w w' ∧
      (headE p o = 0 → SheetAt B w' b bs { p with head := o.S }) := by
  have hb1 := h.b1
  have hlt := h.lt
  have hoS := ho.S
  have hoT := ho.old
  have hf := f.fits
  have hn64 := f.len
  clear ho
  obtain ⟨K, A, S, T⟩ := o
  simp only at hoS hoT ⊢
  unfold OpV.val
  simp only
  obtain ⟨W, HW⟩ : ∃ W, Hid (W = w.alloc (.cells #[.int .i64 K, .int .i64 A, .string S, .string T] 35)) := ⟨_, rfl⟩
  have bW : Below w.heap.size w W := by rw [HW.out]; exact (Below.refl _ _).alloc (Nat.le_refl _) _
  have zW : w.heap.size < W.heap.size := by rw [HW.out]; simp
  have h1 := h.below bW
  have r1 : RowV W w.heap.size 4 (four (.int .i64 K) (.int .i64 A) (.string S) (.string T)) := by rw [HW.out]; exact RowV.four_new w _ _ _ _ _
  obtain ⟨x0, x1, x2, x3, x4⟩ := h1.row.cells5
  obtain ⟨y0, y1, y2, y3⟩ := r1.cells4
  have bB : Below B w W := bW.mono (by omega)
  by_cases c1 : p.head = T
  · have hwr : IntKind.i64.wrap ((S.size : Int) - (T.size : Int)) = (S.size : Int) - (T.size : Int) := wrap_small (by omega) (by omega)
    have c1' := str_eq c1
    have hTs : T.size = p.head.size := by rw [c1]
    have c1h : Hid (p.head = T) := c1
    by_cases c3 : 485 < S.size + slotSum p.slots
    · have hE : headE p ⟨K, A, S, T⟩ = 30 := by unfold headE; rw [if_neg (by simpa using c1), if_pos c3]
      rw [hE]
      have hc : decide (485 - (p.head.size : Int) - (slotSum p.slots : Int) < (S.size : Int) - (T.size : Int)) = true := by simp; omega
      clear c1 hTs
      go_enter Try.func61, Try.ntmps61
      go_wp2_with fail
      rw [← HW.out]
      go_quiet (fail)
      have r2 : RowV (W.drewN nq) w.heap.size 4 (four (.int .i64 K) (.int .i64 A) (.string S) (.string T)) := r1.below (below_drewN (Below.refl W.heap.size W) nq) zW
      have h2 : SheetAt B (W.drewN nq) b bs p := h1.below (below_drewN (Below.refl W.heap.size W) nq)
      have bB2 := below_drewN bB nq
      have zW2 : w.heap.size < (W.drewN nq).heap.size := zW
      obtain ⟨W2, HW2⟩ : ∃ W2, Hid (W2 = W.drewN nq) := ⟨_, rfl⟩
      rw [← HW2.out] at r2 h2 bB2 zW2 ⊢
      clear HW2 HW r1 h1 bB bW x0 x1 x2 x3 x4 y0 y1 y2 y3
      obtain ⟨x0, x1, x2, x3, x4⟩ := h2.row.cells5
      obtain ⟨y0, y1, y2, y3⟩ := r2.cells4
      go_wp2_with fail
      have gx0 := cell_regrown x0
      have gx1 := cell_regrown x1
      have gx2 := cell_regrown x2
      have gx3 := cell_regrown x3
      have gx4 := cell_regrown x4
      have gy2 := cell_regrown y2
      have gy3 := cell_regrown y3
      have cR : ∀ dd os, Calls Try.prog 30 #[.agg #[.int .u32 p.num, .int .u64 p.lsn, .int .i64 p.kind, .string p.head, .slice (some ⟨bs, 0, none⟩) p.slots.length p.slots.length]] (grow (redrawn W2 dd) os) fun e w'' => e = .returned (.int .i64 (485 - (p.head.size : Int) - (slotSum p.slots : Int))) ∧ ∃ p : Regrown, w'' = grow (redrawn W2 p.d) p.os := fun dd os => Calls.regrown_of (by
        have hk := (h2.below (below_regrown W2 dd os)).ok f
        have := hk.room p.slots.length
        rw [roomF_eq hk (by omega)] at this
        exact this)
      refine wp_region_quiet_below mixed (by kernel_rfl) ?_
      repeat (quiet_step (first | (go_at_call 30; exact cR _ _)))
      refine wpQuiet_nil ?_
      intro _ hw'
      obtain ⟨⟨dq, osq⟩, hw''⟩ := hw'
      subst hw''
      clear gx0 gx1 gx2 gx3 gx4 gy2 gy3 cR
      go_wp2
      go_ret
      exact ⟨rfl, bB2.trans ((below_regrown W2 dq osq).mono (by omega)), fun h => by cases h⟩
    · have hE : headE p ⟨K, A, S, T⟩ = 0 := by unfold headE; rw [if_neg (by simpa using c1), if_neg c3]
      rw [hE]
      have hc : decide (485 - (p.head.size : Int) - (slotSum p.slots : Int) < (S.size : Int) - (T.size : Int)) = false := by simp; omega
      clear c1 hTs
      go_enter Try.func61, Try.ntmps61
      go_wp2_with fail
      rw [← HW.out]
      go_quiet (fail)
      have r2 : RowV (W.drewN nq) w.heap.size 4 (four (.int .i64 K) (.int .i64 A) (.string S) (.string T)) := r1.below (below_drewN (Below.refl W.heap.size W) nq) zW
      have h2 : SheetAt B (W.drewN nq) b bs p := h1.below (below_drewN (Below.refl W.heap.size W) nq)
      have bB2 := below_drewN bB nq
      have zW2 : w.heap.size < (W.drewN nq).heap.size := zW
      obtain ⟨W2, HW2⟩ : ∃ W2, Hid (W2 = W.drewN nq) := ⟨_, rfl⟩
      rw [← HW2.out] at r2 h2 bB2 zW2 ⊢
      clear HW2 HW r1 h1 bB bW x0 x1 x2 x3 x4 y0 y1 y2 y3
      obtain ⟨x0, x1, x2, x3, x4⟩ := h2.row.cells5
      obtain ⟨y0, y1, y2, y3⟩ := r2.cells4
      go_wp2_with fail
      have gx0 := cell_regrown x0
      have gx1 := cell_regrown x1
      have gx2 := cell_regrown x2
      have gx3 := cell_regrown x3
      have gx4 := cell_regrown x4
      have gy2 := cell_regrown y2
      have gy3 := cell_regrown y3
      have cR : ∀ dd os, Calls Try.prog 30 #[.agg #[.int .u32 p.num, .int .u64 p.lsn, .int .i64 p.kind, .string p.head, .slice (some ⟨bs, 0, none⟩) p.slots.length p.slots.length]] (grow (redrawn W2 dd) os) fun e w'' => e = .returned (.int .i64 (485 - (p.head.size : Int) - (slotSum p.slots : Int))) ∧ ∃ p : Regrown, w'' = grow (redrawn W2 p.d) p.os := fun dd os => Calls.regrown_of (by
        have hk := (h2.below (below_regrown W2 dd os)).ok f
        have := hk.room p.slots.length
        rw [roomF_eq hk (by omega)] at this
        exact this)
      refine wp_region_quiet_below mixed (by kernel_rfl) ?_
      repeat (quiet_step (first | (go_at_call 30; exact cR _ _)))
      refine wpQuiet_nil ?_
      intro _ hw'
      obtain ⟨⟨dq, osq⟩, hw''⟩ := hw'
      subst hw''
      clear gx0 gx1 gx2 gx3 gx4 gy2 gy3 cR
      have bG := below_regrown W2 dq osq
      have h3 := h2.below bG
      have r3 := r2.below bG zW2
      have bB3 := bB2.trans (bG.mono (by omega))
      have zW3 := Nat.lt_of_lt_of_le zW2 bG.size
      obtain ⟨W3, HW3⟩ : ∃ W3, Hid (W3 = grow (redrawn W2 dq) osq) := ⟨_, rfl⟩
      rw [← HW3.out] at h3 r3 bB3 zW3 ⊢
      clear HW3 bG h2 r2 bB2 x0 x1 x2 x3 x4 y0 y1 y2 y3
      obtain ⟨x0, x1, x2, x3, x4⟩ := h3.row.cells5
      obtain ⟨f0, f1, f2, f3, f4⟩ := h3.row.open5
      obtain ⟨y0, y1, y2, y3⟩ := r3.cells4
      go_wp2
      go_ret
      exact ⟨rfl, bB3.setCell (p := ⟨b, 3, none⟩) hb1 _, fun _ => ⟨h3.row.set3 _, h3.str.set_other (fun q => h3.ne q.symm) _, h3.b1, by simpa using h3.lt, h3.bs1, by simpa using h3.bslt, h3.ne⟩⟩
  · have hE : headE p ⟨K, A, S, T⟩ = 31 := by unfold headE; rw [if_pos c1]
    rw [hE]
    have c1' := str_ne c1
    go_enter Try.func61, Try.ntmps61
    go_wp2_with fail
    rw [← HW.out]
    go_quiet (fail)
    go_wp2
    go_ret
    exact ⟨rfl, below_drewN bB nq, fun h => by cases h⟩

end
end Go.Proofs.Ytnljephojonilaa
