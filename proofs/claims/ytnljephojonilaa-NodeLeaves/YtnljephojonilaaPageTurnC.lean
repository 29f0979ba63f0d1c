/-
  The walk of page.turn (for PageBack).
-/
import Derived.Test.YtnljephojonilaaPageSetC
namespace Go.Proofs.Ytnljephojonilaa
open Go.RowKit Go.Sort
set_option linter.unusedVariables false

/-- The error of an OpTurn. -/
def turnE (p : SheetV) (o : OpV) : Int := if 0 < p.slots.length then 1 else if kindS p.kind p.head ≠ o.old then 31 else 0

section
variable {B : Nat} {w : World} {b bs : Nat} {p : SheetV} {o : OpV}

set_option maxHeartbeats 1600000 in
set_option maxRecDepth 60000 in
theorem turn_any (h : SheetAt B w b bs p) (f : p.Fits) (ho : o.Ok) (h1S : 1 ≤ o.S.size) :
    Calls Try.prog 63 #[.pointer (some ⟨b, 0, none⟩), o.val] w fun e w' => e = .returned (.int .i64 (turnE p o)) ∧ Below B w w' ∧
      (turnE p o = 0 → SheetAt B w' b bs { p with kind := ((o.S.data.toList.getD 0 0).toNat : Int), head := o.S.extract 1 o.S.size }) := by
  have HKD : Hid (∀ wx, Calls Try.prog 84 #[.int .i64 p.kind, .string p.head] wx fun e w' => e = .returned (.string (kindS p.kind p.head)) ∧ Below wx.heap.size wx w') := fun wx => kind_any _ _ wx (by have := f.head; omega)
  have HTE : Hid (turnE p o = if 0 < p.slots.length then 1 else if kindS p.kind p.head ≠ o.old then 31 else 0) := rfl
  have hb1 := h.b1
  have hlt := h.lt
  have hoS := ho.S
  have hoT := ho.old
  have hf := f.fits
  have hn64 := f.len
  clear ho
  obtain ⟨K, A, S, T⟩ := o
  simp only at hoS hoT h1S HTE ⊢
  unfold OpV.val
  simp only
  obtain ⟨W, HW⟩ : ∃ W, Hid (W = w.alloc (.cells #[.int .i64 K, .int .i64 A, .string S, .string T] 35)) := ⟨_, rfl⟩
  have bW : Below w.heap.size w W := by rw [HW.out]; exact (Below.refl _ _).alloc (Nat.le_refl _) _
  have zW : w.heap.size < W.heap.size := by rw [HW.out]; simp
  have h1 := h.below bW
  have r1 : RowV W w.heap.size 4 (four (.int .i64 K) (.int .i64 A) (.string S) (.string T)) := by rw [HW.out]; exact RowV.four_new w _ _ _ _ _
  obtain ⟨x0, x1, x2, x3, x4⟩ := h1.row.cells5
  obtain ⟨y0, y1, y2, y3⟩ := r1.cells4
  have bB : Below B w W := bW.mono (by omega)
  generalize turnE p ⟨K, A, S, T⟩ = EE at *
  obtain ⟨KS, HKS⟩ : ∃ KS, Hid (kindS p.kind p.head = KS) := ⟨_, rfl⟩
  rw [HKS.out] at HKD
  have x4' := x4
  rw [HW.out] at x4'
  by_cases c1 : 0 < p.slots.length
  · have hE : EE = 1 := by rw [HTE.out, if_pos c1]
    clear HTE
    subst hE
    go_enter Try.func63, Try.ntmps63
    go_wp2
    rw [← HW.out]
    go_ret
    exact ⟨rfl, bB, fun h => by cases h⟩
  · by_cases c2 : KS = T
    · have hE : EE = 0 := by rw [HTE.out, if_neg c1, if_neg (by rw [HKS.out]; simpa using c2)]
      have c2' := str_eq c2
      clear HTE c2
      subst hE
      go_enter Try.func63, Try.ntmps63
      go_wp2_with fail
      rw [← HW.out]
      clear HW x4'
      have gx2 := cell_regrown x2
      have gx3 := cell_regrown x3
      have gy2 := cell_regrown y2
      have gy3 := cell_regrown y3
      have cK : ∀ dd os, Calls Try.prog 84 #[.int .i64 p.kind, .string p.head] (grow (redrawn W dd) os) fun e w'' => e = .returned (.string KS) ∧ ∃ p : Regrown, w'' = grow (redrawn W p.d) p.os := fun dd os => Calls.regrown_of (HKD.out _)
      refine wp_region_quiet_below mixed (by kernel_rfl) ?_
      repeat (quiet_step (first | (go_at_call 84; exact cK _ _)))
      refine wpQuiet_nil ?_
      intro _ hw'
      obtain ⟨⟨dq, osq⟩, hw''⟩ := hw'
      subst hw''
      clear gx2 gx3 gy2 gy3 cK
      have bG := below_regrown W dq osq
      have h3 := h1.below bG
      have r3 := r1.below bG zW
      have bB3 := bB.trans (bG.mono (by have := bW.size; omega))
      obtain ⟨W3, HW3⟩ : ∃ W3, Hid (W3 = grow (redrawn W dq) osq) := ⟨_, rfl⟩
      rw [← HW3.out] at h3 r3 bB3 ⊢
      clear HW3 bG r1 h1 bB bW x0 x1 x2 x3 x4 y0 y1 y2 y3
      obtain ⟨x0, x1, x2, x3, x4⟩ := h3.row.cells5
      obtain ⟨f0, f1, f2, f3, f4⟩ := h3.row.open5
      obtain ⟨y0, y1, y2, y3⟩ := r3.cells4
      have q0 : 0 < S.size := h1S
      have q1 : (1 : Int) ≤ ↑S.size := by omega
      have hg0 : S.data.toList.getD 0 0 = S[0] := by
        rw [List.getD_eq_getElem?_getD, List.getElem?_eq_getElem (by simpa using q0)]; rfl
      have hwr : IntKind.i64.wrap ↑S[0].toNat = ↑S[0].toNat := by have := S[0].toNat_lt; exact wrap_small (by omega) (by omega)
      have hbo : b ≠ w.heap.size := by omega
      go_wp2_with fail
      go_region_held3 (fun w' => w'.cell? ⟨w.heap.size, 2, none⟩ = some (.string S)) (first | go_keep | (rw [World.cell?_setCell_other _ _ _ _ (by intro q; have := congrArg Addr.block q; simp only at this; omega)]; assumption)) (fail)
      go_wp2
      go_ret
      try rw [hwr]
      refine ⟨rfl, ((bB3.setCell (p := ⟨b, 2, none⟩) hb1 _).setCell (p := ⟨b, 3, none⟩) hb1 _).drew, fun _ => ?_⟩
      rw [hg0]
      exact SheetAt.below ⟨(h3.row.set2 _).set3 _, (h3.str.set_other (fun q => h3.ne q.symm) _).set_other (fun q => h3.ne q.symm) _, h3.b1, by simpa using h3.lt, h3.bs1, by simpa using h3.bslt, h3.ne⟩ ((Below.refl _ _).drew)
    · have hE : EE = 31 := by rw [HTE.out, if_neg c1, if_pos (by rw [HKS.out]; exact c2)]
      have c2' := str_ne c2
      clear HTE c2
      subst hE
      go_enter Try.func63, Try.ntmps63
      go_wp2_with fail
      rw [← HW.out]
      clear HW x4'
      have gx2 := cell_regrown x2
      have gx3 := cell_regrown x3
      have gy2 := cell_regrown y2
      have gy3 := cell_regrown y3
      have cK : ∀ dd os, Calls Try.prog 84 #[.int .i64 p.kind, .string p.head] (grow (redrawn W dd) os) fun e w'' => e = .returned (.string KS) ∧ ∃ p : Regrown, w'' = grow (redrawn W p.d) p.os := fun dd os => Calls.regrown_of (HKD.out _)
      refine wp_region_quiet_below mixed (by kernel_rfl) ?_
      repeat (quiet_step (first | (go_at_call 84; exact cK _ _)))
      refine wpQuiet_nil ?_
      intro _ hw'
      obtain ⟨⟨dq, osq⟩, hw''⟩ := hw'
      subst hw''
      clear gx2 gx3 gy2 gy3 cK
      go_wp2
      go_ret
      exact ⟨rfl, bB.trans ((below_regrown W dq osq).mono (by have := bW.size; omega)), fun h => by cases h⟩

end
end Go.Proofs.Ytnljephojonilaa
