/-
  What a change does to a page that fits, as plain data; its inverse leads back.
  The walks of girderlaw03.op, girderref03.Inverse, page.Inverse.
  The walk of the closure of girderlaw09.back.
-/
import Derived.Test.YtjemeopafkafgaaGreatProg
import Derived.Shelf.Slices.Delete
import Derived.Shelf.Slices.Cells
import Derived.Test.YtjemeopafkafgaaGreatPageSetJ
import Derived.Test.YtjemeopafkafgaaGreatTxCompC
namespace Go.Proofs.YtjemeopafkafgaaGreat
open Go.RowKit Go.Sort
set_option linter.unusedVariables false

/-- The inverse of a change. -/
def invO (o : OpV) : OpV :=
  if o.kind = 1 then ⟨1, 0, ⟨#[]⟩, ⟨#[]⟩⟩ else
  if o.kind = 2 then ⟨3, o.at', ⟨#[]⟩, o.S⟩ else
  if o.kind = 3 then ⟨2, o.at', o.old, ⟨#[]⟩⟩ else
  if 4 ≤ o.kind ∧ o.kind ≤ 7 then ⟨o.kind, o.at', o.old, o.S⟩ else o

end Go.Proofs.YtjemeopafkafgaaGreat

namespace Go.Proofs.YtjemeopafkafgaaGreat
open Go.RowKit Go.Sort
set_option linter.unusedVariables false

/-- Four cells are written. -/
def store4 (w : World) (b : Nat) (v0 v1 v2 v3 : Value) : World := (((w.setCell ⟨b, 0, none⟩ v0).setCell ⟨b, 1, none⟩ v1).setCell ⟨b, 2, none⟩ v2).setCell ⟨b, 3, none⟩ v3

theorem RowV.put4 {w : World} {b : Nat} {u0 u1 u2 u3 : Value} (h : RowV w b 4 (four u0 u1 u2 u3)) (v0 v1 v2 v3 : Value) : RowV (store4 w b v0 v1 v2 v3) b 4 (four v0 v1 v2 v3) :=
  (((h.set0_4 v0).set1_4 v1).set2_4 v2).set3_4 v3

theorem below_set4 {B : Nat} {w wx : World} {b : Nat} (h : Below B w wx) (hb : B ≤ b) (v0 v1 v2 v3 : Value) : Below B w (store4 wx b v0 v1 v2 v3) :=
  (((h.setCell (p := ⟨b, 0, none⟩) hb v0).setCell (p := ⟨b, 1, none⟩) hb v1).setCell (p := ⟨b, 2, none⟩) hb v2).setCell (p := ⟨b, 3, none⟩) hb v3

theorem CopyAt.put {w wx : World} {K A : Int} {S T : ByteArray} (h : CopyAt w wx K A S T) (K' A' : Int) (S' T' : ByteArray) : CopyAt w (store4 wx w.heap.size (.int .i64 K') (.int .i64 A') (.string S') (.string T')) K' A' S' T' :=
  ⟨h.own.put4 _ _ _ _, (((h.res.set_other (by omega) _).set_other (by omega) _).set_other (by omega) _).set_other (by omega) _, below_set4 h.bel (Nat.le_refl _) _ _ _ _, by unfold store4; simpa using h.lt⟩

set_option maxHeartbeats 1600000 in
set_option maxRecDepth 60000 in
theorem inverse_any (o : OpV) (w : World) (h : o.Ok) :
    Calls Tryz.prog 77 #[o.val] w fun e w' => e = .returned (invO o).val ∧ Below w.heap.size w w' := by
  have HC : Hid (∀ wx, Calls Tryz.prog 126 #[o.val] wx fun e w' => e = .returned o.val ∧ Below wx.heap.size wx w') := fun wx => copyOfOp_any o wx h
  obtain ⟨R, HR⟩ : ∃ R, Hid (invO o = R) := ⟨_, rfl⟩
  rw [HR.out]
  have HR2 := HR.out
  unfold invO at HR2
  clear h
  obtain ⟨K, A, S, T⟩ := o
  simp only [OpV.val] at *
  obtain ⟨W, HW⟩ : ∃ W, Hid (W = (w.alloc (.cells #[.int .i64 K, .int .i64 A, .string S, .string T] 48)).alloc (.cells #[.int .i64 0, .int .i64 0, .string ⟨#[]⟩, .string ⟨#[]⟩] 48)) := ⟨_, rfl⟩
  have hp : CopyAt w W K A S T := by
    rw [HW.out]
    refine ⟨(RowV.four_new w _ _ _ _ _).below ((Below.refl _ _).alloc (Nat.le_refl _) _) (by simp), ?_, ((Below.refl _ _).alloc (Nat.le_refl _) _).alloc (by simp) _, by simp⟩
    have := RowV.four_new (w.alloc (.cells #[.int .i64 K, .int .i64 A, .string S, .string T] 48)) (.int .i64 0) (.int .i64 0) (.string ⟨#[]⟩) (.string ⟨#[]⟩) 48
    simpa using this
  go_enter Tryz.func77, Tryz.ntmps77
  go_wp2_with fail
  rw [← HW.out]
  clear HW
  refine (HC.out _).mono ?_
  rintro e w1 ⟨rfl, b1⟩
  have h1 := hp.below b1
  clear hp b1 HC
  obtain ⟨e0, e1, e2, e3⟩ := h1.own.cells4
  obtain ⟨f0, f1, f2, f3⟩ := h1.own.open4
  obtain ⟨y0, y1, y2, y3⟩ := h1.res.cells4
  obtain ⟨g0, g1, g2, g3⟩ := h1.res.open4
  have h2 := h1.put K A S T
  have hz2 : w.heap.size + 1 < w1.heap.size := h1.lt
  by_cases k1 : K = 1
  · subst k1
    rw [if_pos rfl] at HR2
    subst HR2
    clear HR
    go_wp2
    have hr := h2.res.put4 (.int .i64 1) (.int .i64 0) (.string ⟨#[]⟩) (.string ⟨#[]⟩)
    have br := below_set4 h2.bel (b := w.heap.size + 1) (by omega) (.int .i64 1) (.int .i64 0) (.string ⟨#[]⟩) (.string ⟨#[]⟩)
    obtain ⟨WX, HWX⟩ : ∃ WX, Hid (WX = store4 (store4 w1 w.heap.size (.int .i64 1) (.int .i64 A) (.string S) (.string T)) (w.heap.size + 1) (.int .i64 1) (.int .i64 0) (.string ⟨#[]⟩) (.string ⟨#[]⟩)) := ⟨_, rfl⟩
    rw [← HWX.out] at hr br
    obtain ⟨r0, r1, r2, r3⟩ := hr.cells4
    show bodyPost _ _ _ _ _ (store4 (store4 w1 w.heap.size (.int .i64 1) (.int .i64 A) (.string S) (.string T)) (w.heap.size + 1) (.int .i64 1) (.int .i64 0) (.string ⟨#[]⟩) (.string ⟨#[]⟩))
    rw [← HWX.out]
    refine bodyPost_ret (v := .agg #[.int .i64 1, .int .i64 0, .string ⟨#[]⟩, .string ⟨#[]⟩]) (by simp [results, Tryz.results77, go_sem, r0, r1, r2, r3]) rfl ?_
    exact ⟨rfl, br⟩
  by_cases k2 : K = 2
  · subst k2
    simp at HR2
    subst HR2
    clear HR k1
    go_wp2
    have hr := h2.res.put4 (.int .i64 3) (.int .i64 A) (.string ⟨#[]⟩) (.string S)
    have br := below_set4 h2.bel (b := w.heap.size + 1) (by omega) (.int .i64 3) (.int .i64 A) (.string ⟨#[]⟩) (.string S)
    obtain ⟨WX, HWX⟩ : ∃ WX, Hid (WX = store4 (store4 w1 w.heap.size (.int .i64 2) (.int .i64 A) (.string S) (.string T)) (w.heap.size + 1) (.int .i64 3) (.int .i64 A) (.string ⟨#[]⟩) (.string S)) := ⟨_, rfl⟩
    rw [← HWX.out] at hr br
    obtain ⟨r0, r1, r2, r3⟩ := hr.cells4
    show bodyPost _ _ _ _ _ (store4 (store4 w1 w.heap.size (.int .i64 2) (.int .i64 A) (.string S) (.string T)) (w.heap.size + 1) (.int .i64 3) (.int .i64 A) (.string ⟨#[]⟩) (.string S))
    rw [← HWX.out]
    refine bodyPost_ret (v := .agg #[.int .i64 3, .int .i64 A, .string ⟨#[]⟩, .string S]) (by simp [results, Tryz.results77, go_sem, r0, r1, r2, r3]) rfl ?_
    exact ⟨rfl, br⟩
  by_cases k3 : K = 3
  · subst k3
    simp at HR2
    subst HR2
    clear HR k1 k2
    go_wp2
    have hr := h2.res.put4 (.int .i64 2) (.int .i64 A) (.string T) (.string ⟨#[]⟩)
    have br := below_set4 h2.bel (b := w.heap.size + 1) (by omega) (.int .i64 2) (.int .i64 A) (.string T) (.string ⟨#[]⟩)
    obtain ⟨WX, HWX⟩ : ∃ WX, Hid (WX = store4 (store4 w1 w.heap.size (.int .i64 3) (.int .i64 A) (.string S) (.string T)) (w.heap.size + 1) (.int .i64 2) (.int .i64 A) (.string T) (.string ⟨#[]⟩)) := ⟨_, rfl⟩
    rw [← HWX.out] at hr br
    obtain ⟨r0, r1, r2, r3⟩ := hr.cells4
    show bodyPost _ _ _ _ _ (store4 (store4 w1 w.heap.size (.int .i64 3) (.int .i64 A) (.string S) (.string T)) (w.heap.size + 1) (.int .i64 2) (.int .i64 A) (.string T) (.string ⟨#[]⟩))
    rw [← HWX.out]
    refine bodyPost_ret (v := .agg #[.int .i64 2, .int .i64 A, .string T, .string ⟨#[]⟩]) (by simp [results, Tryz.results77, go_sem, r0, r1, r2, r3]) rfl ?_
    exact ⟨rfl, br⟩
  rw [if_neg k1, if_neg k2, if_neg k3] at HR2
  by_cases k4 : 4 ≤ K ∧ K ≤ 7
  · rw [if_pos k4] at HR2
    subst HR2
    clear HR
    have hk : K = 4 ∨ K = 5 ∨ K = 6 ∨ K = 7 := by omega
    have j1 : (K == 1) = false := by rw [beq_eq_false_iff_ne]; exact k1
    have j2 : (K == 2) = false := by rw [beq_eq_false_iff_ne]; exact k2
    have j3 : (K == 3) = false := by rw [beq_eq_false_iff_ne]; exact k3
    rcases hk with hk | hk | hk | hk
    · have j4 : (K == 4) = true := by rw [beq_iff_eq]; exact hk
      clear hk
      have h3 := (h2.own.set2_4 (.string T)).set3_4 (.string S)
      have h3r := (h2.res.set_other (b' := w.heap.size) (k := 2) (by omega) (.string T)).set_other (b' := w.heap.size) (k := 3) (by omega) (.string S)
      have h3b := (h2.bel.setCell (p := ⟨w.heap.size, 2, none⟩) (Nat.le_refl _) (.string T)).setCell (p := ⟨w.heap.size, 3, none⟩) (Nat.le_refl _) (.string S)
      unfold store4 at h3 h3r h3b
      have hr := h3r.put4 (.int .i64 K) (.int .i64 A) (.string T) (.string S)
      have br := below_set4 h3b (b := w.heap.size + 1) (by omega) (.int .i64 K) (.int .i64 A) (.string T) (.string S)
      obtain ⟨WX, HWX⟩ : ∃ WX, Hid (WX = store4 ((((((w1.setCell ⟨w.heap.size, 0, none⟩ (.int .i64 K)).setCell ⟨w.heap.size, 1, none⟩ (.int .i64 A)).setCell ⟨w.heap.size, 2, none⟩ (.string S)).setCell ⟨w.heap.size, 3, none⟩ (.string T)).setCell ⟨w.heap.size, 2, none⟩ (.string T)).setCell ⟨w.heap.size, 3, none⟩ (.string S)) (w.heap.size + 1) (.int .i64 K) (.int .i64 A) (.string T) (.string S)) := ⟨_, rfl⟩
      rw [← HWX.out] at hr br
      clear h1 h2 k1 k2 k3 k4
      obtain ⟨x0, x1, x2, x3⟩ := h3.cells4
      obtain ⟨u0, u1, u2, u3⟩ := h3r.cells4
      obtain ⟨v0, v1, v2, v3⟩ := h3r.open4
      clear h3 h3r h3b
      obtain ⟨r0, r1, r2, r3⟩ := hr.cells4
      clear hr
      go_wp2_with fail
      show bodyPost _ _ _ _ _ (store4 ((((((w1.setCell ⟨w.heap.size, 0, none⟩ (.int .i64 K)).setCell ⟨w.heap.size, 1, none⟩ (.int .i64 A)).setCell ⟨w.heap.size, 2, none⟩ (.string S)).setCell ⟨w.heap.size, 3, none⟩ (.string T)).setCell ⟨w.heap.size, 2, none⟩ (.string T)).setCell ⟨w.heap.size, 3, none⟩ (.string S)) (w.heap.size + 1) (.int .i64 K) (.int .i64 A) (.string T) (.string S))
      rw [← HWX.out]
      refine bodyPost_ret (v := .agg #[.int .i64 K, .int .i64 A, .string T, .string S]) (by simp [results, Tryz.results77, go_sem, r0, r1, r2, r3]) rfl ?_
      exact ⟨rfl, br⟩
    · have j4 : (K == 4) = false := by rw [beq_eq_false_iff_ne]; omega
      have j5 : (K == 5) = true := by rw [beq_iff_eq]; exact hk
      clear hk
      have h3 := (h2.own.set2_4 (.string T)).set3_4 (.string S)
      have h3r := (h2.res.set_other (b' := w.heap.size) (k := 2) (by omega) (.string T)).set_other (b' := w.heap.size) (k := 3) (by omega) (.string S)
      have h3b := (h2.bel.setCell (p := ⟨w.heap.size, 2, none⟩) (Nat.le_refl _) (.string T)).setCell (p := ⟨w.heap.size, 3, none⟩) (Nat.le_refl _) (.string S)
      unfold store4 at h3 h3r h3b
      have hr := h3r.put4 (.int .i64 K) (.int .i64 A) (.string T) (.string S)
      have br := below_set4 h3b (b := w.heap.size + 1) (by omega) (.int .i64 K) (.int .i64 A) (.string T) (.string S)
      obtain ⟨WX, HWX⟩ : ∃ WX, Hid (WX = store4 ((((((w1.setCell ⟨w.heap.size, 0, none⟩ (.int .i64 K)).setCell ⟨w.heap.size, 1, none⟩ (.int .i64 A)).setCell ⟨w.heap.size, 2, none⟩ (.string S)).setCell ⟨w.heap.size, 3, none⟩ (.string T)).setCell ⟨w.heap.size, 2, none⟩ (.string T)).setCell ⟨w.heap.size, 3, none⟩ (.string S)) (w.heap.size + 1) (.int .i64 K) (.int .i64 A) (.string T) (.string S)) := ⟨_, rfl⟩
      rw [← HWX.out] at hr br
      clear h1 h2 k1 k2 k3 k4
      obtain ⟨x0, x1, x2, x3⟩ := h3.cells4
      obtain ⟨u0, u1, u2, u3⟩ := h3r.cells4
      obtain ⟨v0, v1, v2, v3⟩ := h3r.open4
      clear h3 h3r h3b
      obtain ⟨r0, r1, r2, r3⟩ := hr.cells4
      clear hr
      go_wp2_with fail
      show bodyPost _ _ _ _ _ (store4 ((((((w1.setCell ⟨w.heap.size, 0, none⟩ (.int .i64 K)).setCell ⟨w.heap.size, 1, none⟩ (.int .i64 A)).setCell ⟨w.heap.size, 2, none⟩ (.string S)).setCell ⟨w.heap.size, 3, none⟩ (.string T)).setCell ⟨w.heap.size, 2, none⟩ (.string T)).setCell ⟨w.heap.size, 3, none⟩ (.string S)) (w.heap.size + 1) (.int .i64 K) (.int .i64 A) (.string T) (.string S))
      rw [← HWX.out]
      refine bodyPost_ret (v := .agg #[.int .i64 K, .int .i64 A, .string T, .string S]) (by simp [results, Tryz.results77, go_sem, r0, r1, r2, r3]) rfl ?_
      exact ⟨rfl, br⟩
    · have j4 : (K == 4) = false := by rw [beq_eq_false_iff_ne]; omega
      have j5 : (K == 5) = false := by rw [beq_eq_false_iff_ne]; omega
      have j6 : (K == 6) = true := by rw [beq_iff_eq]; exact hk
      clear hk
      have h3 := (h2.own.set2_4 (.string T)).set3_4 (.string S)
      have h3r := (h2.res.set_other (b' := w.heap.size) (k := 2) (by omega) (.string T)).set_other (b' := w.heap.size) (k := 3) (by omega) (.string S)
      have h3b := (h2.bel.setCell (p := ⟨w.heap.size, 2, none⟩) (Nat.le_refl _) (.string T)).setCell (p := ⟨w.heap.size, 3, none⟩) (Nat.le_refl _) (.string S)
      unfold store4 at h3 h3r h3b
      have hr := h3r.put4 (.int .i64 K) (.int .i64 A) (.string T) (.string S)
      have br := below_set4 h3b (b := w.heap.size + 1) (by omega) (.int .i64 K) (.int .i64 A) (.string T) (.string S)
      obtain ⟨WX, HWX⟩ : ∃ WX, Hid (WX = store4 ((((((w1.setCell ⟨w.heap.size, 0, none⟩ (.int .i64 K)).setCell ⟨w.heap.size, 1, none⟩ (.int .i64 A)).setCell ⟨w.heap.size, 2, none⟩ (.string S)).setCell ⟨w.heap.size, 3, none⟩ (.string T)).setCell ⟨w.heap.size, 2, none⟩ (.string T)).setCell ⟨w.heap.size, 3, none⟩ (.string S)) (w.heap.size + 1) (.int .i64 K) (.int .i64 A) (.string T) (.string S)) := ⟨_, rfl⟩
      rw [← HWX.out] at hr br
      clear h1 h2 k1 k2 k3 k4
      obtain ⟨x0, x1, x2, x3⟩ := h3.cells4
      obtain ⟨u0, u1, u2, u3⟩ := h3r.cells4
      obtain ⟨v0, v1, v2, v3⟩ := h3r.open4
      clear h3 h3r h3b
      obtain ⟨r0, r1, r2, r3⟩ := hr.cells4
      clear hr
      go_wp2_with fail
      show bodyPost _ _ _ _ _ (store4 ((((((w1.setCell ⟨w.heap.size, 0, none⟩ (.int .i64 K)).setCell ⟨w.heap.size, 1, none⟩ (.int .i64 A)).setCell ⟨w.heap.size, 2, none⟩ (.string S)).setCell ⟨w.heap.size, 3, none⟩ (.string T)).setCell ⟨w.heap.size, 2, none⟩ (.string T)).setCell ⟨w.heap.size, 3, none⟩ (.string S)) (w.heap.size + 1) (.int .i64 K) (.int .i64 A) (.string T) (.string S))
      rw [← HWX.out]
      refine bodyPost_ret (v := .agg #[.int .i64 K, .int .i64 A, .string T, .string S]) (by simp [results, Tryz.results77, go_sem, r0, r1, r2, r3]) rfl ?_
      exact ⟨rfl, br⟩
    · have j4 : (K == 4) = false := by rw [beq_eq_false_iff_ne]; omega
      have j5 : (K == 5) = false := by rw [beq_eq_false_iff_ne]; omega
      have j6 : (K == 6) = false := by rw [beq_eq_false_iff_ne]; omega
      have j7 : (K == 7) = true := by rw [beq_iff_eq]; exact hk
      clear hk
      have h3 := (h2.own.set2_4 (.string T)).set3_4 (.string S)
      have h3r := (h2.res.set_other (b' := w.heap.size) (k := 2) (by omega) (.string T)).set_other (b' := w.heap.size) (k := 3) (by omega) (.string S)
      have h3b := (h2.bel.setCell (p := ⟨w.heap.size, 2, none⟩) (Nat.le_refl _) (.string T)).setCell (p := ⟨w.heap.size, 3, none⟩) (Nat.le_refl _) (.string S)
      unfold store4 at h3 h3r h3b
      have hr := h3r.put4 (.int .i64 K) (.int .i64 A) (.string T) (.string S)
      have br := below_set4 h3b (b := w.heap.size + 1) (by omega) (.int .i64 K) (.int .i64 A) (.string T) (.string S)
      obtain ⟨WX, HWX⟩ : ∃ WX, Hid (WX = store4 ((((((w1.setCell ⟨w.heap.size, 0, none⟩ (.int .i64 K)).setCell ⟨w.heap.size, 1, none⟩ (.int .i64 A)).setCell ⟨w.heap.size, 2, none⟩ (.string S)).setCell ⟨w.heap.size, 3, none⟩ (.string T)).setCell ⟨w.heap.size, 2, none⟩ (.string T)).setCell ⟨w.heap.size, 3, none⟩ (.string S)) (w.heap.size + 1) (.int .i64 K) (.int .i64 A) (.string T) (.string S)) := ⟨_, rfl⟩
      rw [← HWX.out] at hr br
      clear h1 h2 k1 k2 k3 k4
      obtain ⟨x0, x1, x2, x3⟩ := h3.cells4
      obtain ⟨u0, u1, u2, u3⟩ := h3r.cells4
      obtain ⟨v0, v1, v2, v3⟩ := h3r.open4
      clear h3 h3r h3b
      obtain ⟨r0, r1, r2, r3⟩ := hr.cells4
      clear hr
      go_wp2_with fail
      show bodyPost _ _ _ _ _ (store4 ((((((w1.setCell ⟨w.heap.size, 0, none⟩ (.int .i64 K)).setCell ⟨w.heap.size, 1, none⟩ (.int .i64 A)).setCell ⟨w.heap.size, 2, none⟩ (.string S)).setCell ⟨w.heap.size, 3, none⟩ (.string T)).setCell ⟨w.heap.size, 2, none⟩ (.string T)).setCell ⟨w.heap.size, 3, none⟩ (.string S)) (w.heap.size + 1) (.int .i64 K) (.int .i64 A) (.string T) (.string S))
      rw [← HWX.out]
      refine bodyPost_ret (v := .agg #[.int .i64 K, .int .i64 A, .string T, .string S]) (by simp [results, Tryz.results77, go_sem, r0, r1, r2, r3]) rfl ?_
      exact ⟨rfl, br⟩
  · rw [if_neg k4] at HR2
    subst HR2
    clear HR
    have j1 : (K == 1) = false := by rw [beq_eq_false_iff_ne]; exact k1
    have j2 : (K == 2) = false := by rw [beq_eq_false_iff_ne]; exact k2
    have j3 : (K == 3) = false := by rw [beq_eq_false_iff_ne]; exact k3
    have j4 : (K == 4) = false := by rw [beq_eq_false_iff_ne]; omega
    have j5 : (K == 5) = false := by rw [beq_eq_false_iff_ne]; omega
    have j6 : (K == 6) = false := by rw [beq_eq_false_iff_ne]; omega
    have j7 : (K == 7) = false := by rw [beq_eq_false_iff_ne]; omega
    go_wp2
    have hr := h2.res.put4 (.int .i64 K) (.int .i64 A) (.string S) (.string T)
    have br := below_set4 h2.bel (b := w.heap.size + 1) (by omega) (.int .i64 K) (.int .i64 A) (.string S) (.string T)
    obtain ⟨WX, HWX⟩ : ∃ WX, Hid (WX = store4 (store4 w1 w.heap.size (.int .i64 K) (.int .i64 A) (.string S) (.string T)) (w.heap.size + 1) (.int .i64 K) (.int .i64 A) (.string S) (.string T)) := ⟨_, rfl⟩
    rw [← HWX.out] at hr br
    obtain ⟨r0, r1, r2, r3⟩ := hr.cells4
    show bodyPost _ _ _ _ _ (store4 (store4 w1 w.heap.size (.int .i64 K) (.int .i64 A) (.string S) (.string T)) (w.heap.size + 1) (.int .i64 K) (.int .i64 A) (.string S) (.string T))
    rw [← HWX.out]
    refine bodyPost_ret (v := .agg #[.int .i64 K, .int .i64 A, .string S, .string T]) (by simp [results, Tryz.results77, go_sem, r0, r1, r2, r3]) rfl ?_
    exact ⟨rfl, br⟩

end Go.Proofs.YtjemeopafkafgaaGreat

namespace Go.Proofs.YtjemeopafkafgaaGreat
open Go.RowKit Go.Sort
set_option linter.unusedVariables false
set_option linter.unusedSimpArgs false

section
variable {w : World} {m p : Nat} {X : Int → Nat} {A : Nat → Prop} {P : PG} {l : LG} {d : DG} {M : MgG}

set_option maxHeartbeats 6400000 in
set_option maxRecDepth 20000 in
theorem back1_any (h : MSys w m p X A P l d M) (mb : Nat) (hmb : w.cell? ⟨mb, 0, none⟩ = some (.pointer (some ⟨m, 0, none⟩))) (hnA : ¬ A mb) (n : Int) (r : RecV) (ta da : Option Addr) (tc dc : Nat) (at' : Nat) (P' : PG) (l' : LG) (M' : MgG) (hin : ∀ wx, Calls Tryz.prog 77 #[r.op.val] wx fun e w' => e = .returned (invO r.op).val ∧ Below wx.heap.size wx w')
    (hcomp : ∀ wx, Below w.heap.size w wx → Calls Tryz.prog 76 #[.pointer (some ⟨m, 0, none⟩), .int .i64 n, .int .u32 r.page, (invO r.op).val, .int .u64 r.prev] wx fun e w' => e = .returned (.tuple #[.int .u64 at', .int .i64 0]) ∧ ∃ A', MSys w' m p X A' P' l' d M' ∧ Moves A A' wx w') :
    Calls Tryz.prog 75 #[.int .i64 n, .agg (r.cells ta da tc dc), .pointer (some ⟨mb, 0, none⟩)] w fun e w' => e = .returned (.int .i64 0) ∧ ∃ A', MSys w' m p X A' P' l' d M' ∧ Moves A A' w w' := by
  obtain ⟨W, HW⟩ : ∃ W, Hid (W = w.alloc (.cells (r.cells ta da tc dc) 56)) := ⟨_, rfl⟩
  have bW : Below w.heap.size w W := by rw [HW.out]; exact (Below.refl _ _).alloc (Nat.le_refl _) _
  have xW : Blk W w.heap.size (r.cells ta da tc dc) 56 := by rw [HW.out]; exact Blk.made _ _ _
  have hmW : W.cell? ⟨mb, 0, none⟩ = some (.pointer (some ⟨m, 0, none⟩)) := (bW.cell (p := ⟨mb, 0, none⟩) (World.block_lt_of_cell? _ _ hmb)).trans hmb
  have hnR : ¬ A w.heap.size := fun x => by have := h.lt _ x; omega
  have HPAR : Hid (r.cells ta da tc dc = #[.int .i64 r.kind, .int .i64 r.tx, .int .u64 r.prev, .int .u64 r.next, .int .u32 r.page, .int .i64 r.op.kind, .int .i64 r.op.at', .string r.op.S, .string r.op.old, .int .i64 r.undo, .int .i64 r.index, .string r.key, .int .u32 r.rpage, .int .i64 r.rslot, .bool r.live, .slice ta r.txs.length tc, .slice da r.dirty.length dc]) := rfl
  have HS : Hid (∀ wy : World, wy.heap[w.heap.size]? = W.heap[w.heap.size]? → wy.heap[mb]? = W.heap[mb]? → wy.cell? ⟨mb, 0, none⟩ = some (.pointer (some ⟨m, 0, none⟩)) ∧ wy.cell? ⟨w.heap.size, 2, none⟩ = some (.int .u64 r.prev) ∧ wy.cell? ⟨w.heap.size, 4, none⟩ = some (.int .u32 r.page) ∧ wy.cell? ⟨w.heap.size, 5, none⟩ = some (.int .i64 r.op.kind) ∧ wy.cell? ⟨w.heap.size, 6, none⟩ = some (.int .i64 r.op.at') ∧ wy.cell? ⟨w.heap.size, 7, none⟩ = some (.string r.op.S) ∧ wy.cell? ⟨w.heap.size, 8, none⟩ = some (.string r.op.old)) := fun wy e1 e2 => by
    have x := xW.same e1
    exact ⟨(World.cell?_of_block (w := W) (a := ⟨mb, 0, none⟩) e2).trans hmW, x.cell 2, x.cell 4, x.cell 5, x.cell 6, x.cell 7, x.cell 8⟩
  have hml : mb < W.heap.size := World.block_lt_of_cell? _ _ hmW
  have HIN : Hid (Calls Tryz.prog 77 #[.agg #[.int .i64 r.op.kind, .int .i64 r.op.at', .string r.op.S, .string r.op.old]] W.drew fun e w' => e = .returned (.agg #[.int .i64 (invO r.op).kind, .int .i64 (invO r.op).at', .string (invO r.op).S, .string (invO r.op).old]) ∧ (w'.heap[w.heap.size]? = W.heap[w.heap.size]? ∧ w'.heap[mb]? = W.heap[mb]?) ∧ Hid (Below W.heap.size W w')) := by
    refine (hin W.drew).mono ?_
    rintro e w' ⟨rfl, b⟩
    have b' : Below W.heap.size W w' := ((Below.refl _ _).drew).trans b
    exact ⟨rfl, ⟨b'.block _ xW.lt, b'.block _ hml⟩, hidx b'⟩
  have HCM : Hid (∀ wx, Hid (Below W.heap.size W wx) → Calls Tryz.prog 76 #[.pointer (some ⟨m, 0, none⟩), .int .i64 n, .int .u32 r.page, .agg #[.int .i64 (invO r.op).kind, .int .i64 (invO r.op).at', .string (invO r.op).S, .string (invO r.op).old], .int .u64 r.prev] wx fun e w' => e = .returned (.tuple #[.int .u64 at', .int .i64 0]) ∧ (w'.heap[w.heap.size]? = W.heap[w.heap.size]? ∧ w'.heap[mb]? = W.heap[mb]?) ∧ Hid (∃ A', MSys w' m p X A' P' l' d M' ∧ Moves A A' w w')) := fun wx bx => by
    refine (hcomp wx (below_chain bW bx.out)).mono ?_
    rintro e w' ⟨rfl, A', k1, k2⟩
    have hz := bx.out.size
    have := xW.lt
    exact ⟨rfl, ⟨(k2.off (by omega) hnR).1.trans (bx.out.block _ xW.lt), (k2.off (by omega) hnA).1.trans (bx.out.block _ hml)⟩, hidx ⟨A', k1, (Moves.of_kept (Kept.of_below (below_chain bW bx.out))).trans k2⟩⟩
  generalize invO r.op = io at *
  clear h hmb hnA bW xW hmW hnR hml hin hcomp
  rw [HPAR.out]
  go_enter Tryz.func75, Tryz.ntmps75
  go_upto_region 1 with fail
  rw [← HPAR.out, ← HW.out]
  clear HW HPAR
  go_region_held3 (fun wy => wy.cell? ⟨mb, 0, none⟩ = some (.pointer (some ⟨m, 0, none⟩)) ∧ wy.cell? ⟨w.heap.size, 2, none⟩ = some (.int .u64 r.prev) ∧ wy.cell? ⟨w.heap.size, 4, none⟩ = some (.int .u32 r.page) ∧ wy.cell? ⟨w.heap.size, 5, none⟩ = some (.int .i64 r.op.kind) ∧ wy.cell? ⟨w.heap.size, 6, none⟩ = some (.int .i64 r.op.at') ∧ wy.cell? ⟨w.heap.size, 7, none⟩ = some (.string r.op.S) ∧ wy.cell? ⟨w.heap.size, 8, none⟩ = some (.string r.op.old)) (first | exact HS.out W.drew rfl rfl | exact HS.out _ q6.1 q6.2 | exact HS.out _ q5.1 q5.2)
    (first
      | (go_at_call 77; refine HIN.out.mono ?_; rintro e w5 ⟨rfl, q5, b5⟩)
      | (go_at_call 76; refine (HCM.out _ b5).mono ?_; rintro e w6 ⟨rfl, q6, HF⟩))
  go_wp2
  go_ret
  exact ⟨rfl, HF.out⟩

end

end Go.Proofs.YtjemeopafkafgaaGreat
