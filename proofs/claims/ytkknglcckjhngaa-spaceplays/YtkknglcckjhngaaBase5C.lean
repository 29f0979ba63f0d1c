/-
  The walks of girderlaw03.op, girderref03.Inverse, page.Inverse.
  The walk of girderref03.Room.
  Where PageBack stands: the page, the one under way, what was done, as plain data and in memory.
  The walk of PageRoom.
  The walk of PageRoom.
  An argument of type api.Sheet, opened: a page as plain data, its slots in memory.
-/
import Derived.Test.YtkknglcckjhngaaBase4C
import Derived.Test.YtkknglcckjhngaaBase1C
import Derived.Maps.AppendAt
import Derived.Test.YtkknglcckjhngaaBase3C
import Derived.ProofKit
import Derived.OpenShut
import Derived.ShutString
import Derived.ChangeOld
import Derived.SizedLaws
import Derived.SliceStrings
namespace Go.Proofs.Ytkknglcckjhngaa
open Go.RowKit Go.Sort
set_option linter.unusedVariables false





/-- Four cells are written. -/
def store4 (w : World) (b : Nat) (v0 v1 v2 v3 : Value) : World := (((w.setCell ⟨b, 0, none⟩ v0).setCell ⟨b, 1, none⟩ v1).setCell ⟨b, 2, none⟩ v2).setCell ⟨b, 3, none⟩ v3

theorem RowV.put4 {w : World} {b : Nat} {u0 u1 u2 u3 : Value} (h : RowV w b 4 (four u0 u1 u2 u3)) (v0 v1 v2 v3 : Value) : RowV (store4 w b v0 v1 v2 v3) b 4 (four v0 v1 v2 v3) :=
  (((h.set0_4 v0).set1_4 v1).set2_4 v2).set3_4 v3

theorem below_set4 {B : Nat} {w wx : World} {b : Nat} (h : Below B w wx) (hb : B ≤ b) (v0 v1 v2 v3 : Value) : Below B w (store4 wx b v0 v1 v2 v3) :=
  (((h.setCell (p := ⟨b, 0, none⟩) hb v0).setCell (p := ⟨b, 1, none⟩) hb v1).setCell (p := ⟨b, 2, none⟩) hb v2).setCell (p := ⟨b, 3, none⟩) hb v3

theorem CopyAt.put {w wx : World} {K A : Int} {S T : ByteArray} (h : CopyAt w wx K A S T) (K' A' : Int) (S' T' : ByteArray) : CopyAt w (store4 wx w.heap.size (.int .i64 K') (.int .i64 A') (.string S') (.string T')) K' A' S' T' :=
  ⟨h.own.put4 _ _ _ _, (((h.res.set_other (by omega) _).set_other (by omega) _).set_other (by omega) _).set_other (by omega) _, below_set4 h.bel (Nat.le_refl _) _ _ _ _, by unfold store4; simpa using h.lt⟩

set_option maxHeartbeats 1600000 in
theorem inverse_any (o : OpV) (w : World) (h : o.Ok) :
    Calls Try.prog 18 #[o.val] w fun e w' => e = .returned (invO o).val ∧ Below w.heap.size w w' := by
  have HC : Hid (∀ wx, Calls Try.prog 27 #[o.val] wx fun e w' => e = .returned o.val ∧ Below wx.heap.size wx w') := fun wx => copyOfOp_any o wx h
  obtain ⟨R, HR⟩ : ∃ R, Hid (invO o = R) := ⟨_, rfl⟩
  rw [HR.out]
  have HR2 := HR.out
  unfold invO at HR2
  clear h
  obtain ⟨K, A, S, T⟩ := o
  simp only [OpV.val] at *
  obtain ⟨W, HW⟩ : ∃ W, Hid (W = (w.alloc (.cells #[.int .i64 K, .int .i64 A, .string S, .string T] 41)).alloc (.cells #[.int .i64 0, .int .i64 0, .string ⟨#[]⟩, .string ⟨#[]⟩] 41)) := ⟨_, rfl⟩
  have hp : CopyAt w W K A S T := by
    rw [HW.out]
    refine ⟨(RowV.four_new w _ _ _ _ _).below ((Below.refl _ _).alloc (Nat.le_refl _) _) (by simp), ?_, ((Below.refl _ _).alloc (Nat.le_refl _) _).alloc (by simp) _, by simp⟩
    have := RowV.four_new (w.alloc (.cells #[.int .i64 K, .int .i64 A, .string S, .string T] 41)) (.int .i64 0) (.int .i64 0) (.string ⟨#[]⟩) (.string ⟨#[]⟩) 41
    simpa using this
  go_enter Try.func18, Try.ntmps18
  go_wp2_with fail
  rw [← HW.out]
  clear HW
  refine (HC.out _).mono ?_
  rintro e w1 ⟨rfl, b1⟩
  have h1 := hp.below b1
  clear hp b1 HC
  obtain ⟨e0, e1, e2, e3⟩ := h1.own.cells4
  obtain ⟨f0, f1, f2, f3⟩ := h1.own.open4
  obtain ⟨y0, y1, y2, y3⟩ := h1.res.cells4
  obtain ⟨g0, g1, g2, g3⟩ := h1.res.open4
  have h2 := h1.put K A S T
  have hz2 : w.heap.size + 1 < w1.heap.size := h1.lt
  by_cases k1 : K = 1
  · subst k1
    rw [if_pos rfl] at HR2
    subst HR2
    clear HR
    go_wp2
    have hr := h2.res.put4 (.int .i64 1) (.int .i64 0) (.string ⟨#[]⟩) (.string ⟨#[]⟩)
    have br := below_set4 h2.bel (b := w.heap.size + 1) (by omega) (.int .i64 1) (.int .i64 0) (.string ⟨#[]⟩) (.string ⟨#[]⟩)
    obtain ⟨WX, HWX⟩ : ∃ WX, Hid (WX = store4 (store4 w1 w.heap.size (.int .i64 1) (.int .i64 A) (.string S) (.string T)) (w.heap.size + 1) (.int .i64 1) (.int .i64 0) (.string ⟨#[]⟩) (.string ⟨#[]⟩)) := ⟨_, rfl⟩
    rw [← HWX.out] at hr br
    obtain ⟨r0, r1, r2, r3⟩ := hr.cells4
    show bodyPost _ _ _ _ _ (store4 (store4 w1 w.heap.size (.int .i64 1) (.int .i64 A) (.string S) (.string T)) (w.heap.size + 1) (.int .i64 1) (.int .i64 0) (.string ⟨#[]⟩) (.string ⟨#[]⟩))
    rw [← HWX.out]
    refine bodyPost_ret (v := .agg #[.int .i64 1, .int .i64 0, .string ⟨#[]⟩, .string ⟨#[]⟩]) (by simp [results, Try.results18, go_sem, r0, r1, r2, r3]) rfl ?_
    exact ⟨rfl, br⟩
  by_cases k2 : K = 2
  · subst k2
    simp at HR2
    subst HR2
    clear HR k1
    go_wp2
    have hr := h2.res.put4 (.int .i64 3) (.int .i64 A) (.string ⟨#[]⟩) (.string S)
    have br := below_set4 h2.bel (b := w.heap.size + 1) (by omega) (.int .i64 3) (.int .i64 A) (.string ⟨#[]⟩) (.string S)
    obtain ⟨WX, HWX⟩ : ∃ WX, Hid (WX = store4 (store4 w1 w.heap.size (.int .i64 2) (.int .i64 A) (.string S) (.string T)) (w.heap.size + 1) (.int .i64 3) (.int .i64 A) (.string ⟨#[]⟩) (.string S)) := ⟨_, rfl⟩
    rw [← HWX.out] at hr br
    obtain ⟨r0, r1, r2, r3⟩ := hr.cells4
    show bodyPost _ _ _ _ _ (store4 (store4 w1 w.heap.size (.int .i64 2) (.int .i64 A) (.string S) (.string T)) (w.heap.size + 1) (.int .i64 3) (.int .i64 A) (.string ⟨#[]⟩) (.string S))
    rw [← HWX.out]
    refine bodyPost_ret (v := .agg #[.int .i64 3, .int .i64 A, .string ⟨#[]⟩, .string S]) (by simp [results, Try.results18, go_sem, r0, r1, r2, r3]) rfl ?_
    exact ⟨rfl, br⟩
  by_cases k3 : K = 3
  · subst k3
    simp at HR2
    subst HR2
    clear HR k1 k2
    go_wp2
    have hr := h2.res.put4 (.int .i64 2) (.int .i64 A) (.string T) (.string ⟨#[]⟩)
    have br := below_set4 h2.bel (b := w.heap.size + 1) (by omega) (.int .i64 2) (.int .i64 A) (.string T) (.string ⟨#[]⟩)
    obtain ⟨WX, HWX⟩ : ∃ WX, Hid (WX = store4 (store4 w1 w.heap.size (.int .i64 3) (.int .i64 A) (.string S) (.string T)) (w.heap.size + 1) (.int .i64 2) (.int .i64 A) (.string T) (.string ⟨#[]⟩)) := ⟨_, rfl⟩
    rw [← HWX.out] at hr br
    obtain ⟨r0, r1, r2, r3⟩ := hr.cells4
    show bodyPost _ _ _ _ _ (store4 (store4 w1 w.heap.size (.int .i64 3) (.int .i64 A) (.string S) (.string T)) (w.heap.size + 1) (.int .i64 2) (.int .i64 A) (.string T) (.string ⟨#[]⟩))
    rw [← HWX.out]
    refine bodyPost_ret (v := .agg #[.int .i64 2, .int .i64 A, .string T, .string ⟨#[]⟩]) (by simp [results, Try.results18, go_sem, r0, r1, r2, r3]) rfl ?_
    exact ⟨rfl, br⟩
  rw [if_neg k1, if_neg k2, if_neg k3] at HR2
  by_cases k4 : 4 ≤ K ∧ K ≤ 7
  · rw [if_pos k4] at HR2
    subst HR2
    clear HR
    have hk : K = 4 ∨ K = 5 ∨ K = 6 ∨ K = 7 := by omega
    have j1 : (K == 1) = false := by rw [beq_eq_false_iff_ne]; exact k1
    have j2 : (K == 2) = false := by rw [beq_eq_false_iff_ne]; exact k2
    have j3 : (K == 3) = false := by rw [beq_eq_false_iff_ne]; exact k3
    rcases hk with hk | hk | hk | hk
    · have j4 : (K == 4) = true := by rw [beq_iff_eq]; exact hk
      clear hk
      have h3 := (h2.own.set2_4 (.string T)).set3_4 (.string S)
      have h3r := (h2.res.set_other (b' := w.heap.size) (k := 2) (by omega) (.string T)).set_other (b' := w.heap.size) (k := 3) (by omega) (.string S)
      have h3b := (h2.bel.setCell (p := ⟨w.heap.size, 2, none⟩) (Nat.le_refl _) (.string T)).setCell (p := ⟨w.heap.size, 3, none⟩) (Nat.le_refl _) (.string S)
      unfold store4 at h3 h3r h3b
      have hr := h3r.put4 (.int .i64 K) (.int .i64 A) (.string T) (.string S)
      have br := below_set4 h3b (b := w.heap.size + 1) (by omega) (.int .i64 K) (.int .i64 A) (.string T) (.string S)
      obtain ⟨WX, HWX⟩ : ∃ WX, Hid (WX = store4 ((((((w1.setCell ⟨w.heap.size, 0, none⟩ (.int .i64 K)).setCell ⟨w.heap.size, 1, none⟩ (.int .i64 A)).setCell ⟨w.heap.size, 2, none⟩ (.string S)).setCell ⟨w.heap.size, 3, none⟩ (.string T)).setCell ⟨w.heap.size, 2, none⟩ (.string T)).setCell ⟨w.heap.size, 3, none⟩ (.string S)) (w.heap.size + 1) (.int .i64 K) (.int .i64 A) (.string T) (.string S)) := ⟨_, rfl⟩
      rw [← HWX.out] at hr br
      clear h1 h2 k1 k2 k3 k4
      obtain ⟨x0, x1, x2, x3⟩ := h3.cells4
      obtain ⟨u0, u1, u2, u3⟩ := h3r.cells4
      obtain ⟨v0, v1, v2, v3⟩ := h3r.open4
      clear h3 h3r h3b
      obtain ⟨r0, r1, r2, r3⟩ := hr.cells4
      clear hr
      go_wp2_with fail
      show bodyPost _ _ _ _ _ (store4 ((((((w1.setCell ⟨w.heap.size, 0, none⟩ (.int .i64 K)).setCell ⟨w.heap.size, 1, none⟩ (.int .i64 A)).setCell ⟨w.heap.size, 2, none⟩ (.string S)).setCell ⟨w.heap.size, 3, none⟩ (.string T)).setCell ⟨w.heap.size, 2, none⟩ (.string T)).setCell ⟨w.heap.size, 3, none⟩ (.string S)) (w.heap.size + 1) (.int .i64 K) (.int .i64 A) (.string T) (.string S))
      rw [← HWX.out]
      refine bodyPost_ret (v := .agg #[.int .i64 K, .int .i64 A, .string T, .string S]) (by simp [results, Try.results18, go_sem, r0, r1, r2, r3]) rfl ?_
      exact ⟨rfl, br⟩
    · have j4 : (K == 4) = false := by rw [beq_eq_false_iff_ne]; omega
      have j5 : (K == 5) = true := by rw [beq_iff_eq]; exact hk
      clear hk
      have h3 := (h2.own.set2_4 (.string T)).set3_4 (.string S)
      have h3r := (h2.res.set_other (b' := w.heap.size) (k := 2) (by omega) (.string T)).set_other (b' := w.heap.size) (k := 3) (by omega) (.string S)
      have h3b := (h2.bel.setCell (p := ⟨w.heap.size, 2, none⟩) (Nat.le_refl _) (.string T)).setCell (p := ⟨w.heap.size, 3, none⟩) (Nat.le_refl _) (.string S)
      unfold store4 at h3 h3r h3b
      have hr := h3r.put4 (.int .i64 K) (.int .i64 A) (.string T) (.string S)
      have br := below_set4 h3b (b := w.heap.size + 1) (by omega) (.int .i64 K) (.int .i64 A) (.string T) (.string S)
      obtain ⟨WX, HWX⟩ : ∃ WX, Hid (WX = store4 ((((((w1.setCell ⟨w.heap.size, 0, none⟩ (.int .i64 K)).setCell ⟨w.heap.size, 1, none⟩ (.int .i64 A)).setCell ⟨w.heap.size, 2, none⟩ (.string S)).setCell ⟨w.heap.size, 3, none⟩ (.string T)).setCell ⟨w.heap.size, 2, none⟩ (.string T)).setCell ⟨w.heap.size, 3, none⟩ (.string S)) (w.heap.size + 1) (.int .i64 K) (.int .i64 A) (.string T) (.string S)) := ⟨_, rfl⟩
      rw [← HWX.out] at hr br
      clear h1 h2 k1 k2 k3 k4
      obtain ⟨x0, x1, x2, x3⟩ := h3.cells4
      obtain ⟨u0, u1, u2, u3⟩ := h3r.cells4
      obtain ⟨v0, v1, v2, v3⟩ := h3r.open4
      clear h3 h3r h3b
      obtain ⟨r0, r1, r2, r3⟩ := hr.cells4
      clear hr
      go_wp2_with fail
      show bodyPost _ _ _ _ _ (store4 ((((((w1.setCell ⟨w.heap.size, 0, none⟩ (.int .i64 K)).setCell ⟨w.heap.size, 1, none⟩ (.int .i64 A)).setCell ⟨w.heap.size, 2, none⟩ (.string S)).setCell ⟨w.heap.size, 3, none⟩ (.string T)).setCell ⟨w.heap.size, 2, none⟩ (.string T)).setCell ⟨w.heap.size, 3, none⟩ (.string S)) (w.heap.size + 1) (.int .i64 K) (.int .i64 A) (.string T) (.string S))
      rw [← HWX.out]
      refine bodyPost_ret (v := .agg #[.int .i64 K, .int .i64 A, .string T, .string S]) (by simp [results, Try.results18, go_sem, r0, r1, r2, r3]) rfl ?_
      exact ⟨rfl, br⟩
    · have j4 : (K == 4) = false := by rw [beq_eq_false_iff_ne]; omega
      have j5 : (K == 5) = false := by rw [beq_eq_false_iff_ne]; omega
      have j6 : (K == 6) = true := by rw [beq_iff_eq]; exact hk
      clear hk
      have h3 := (h2.own.set2_4 (.string T)).set3_4 (.string S)
      have h3r := (h2.res.set_other (b' := w.heap.size) (k := 2) (by omega) (.string T)).set_other (b' := w.heap.size) (k := 3) (by omega) (.string S)
      have h3b := (h2.bel.setCell (p := ⟨w.heap.size, 2, none⟩) (Nat.le_refl _) (.string T)).setCell (p := ⟨w.heap.size, 3, none⟩) (Nat.le_refl _) (.string S)
      unfold store4 at h3 h3r h3b
      have hr := h3r.put4 (.int .i64 K) (.int .i64 A) (.string T) (.string S)
      have br := below_set4 h3b (b := w.heap.size + 1) (by omega) (.int .i64 K) (.int .i64 A) (.string T) (.string S)
      obtain ⟨WX, HWX⟩ : ∃ WX, Hid (WX = store4 ((((((w1.setCell ⟨w.heap.size, 0, none⟩ (.int .i64 K)).setCell ⟨w.heap.size, 1, none⟩ (.int .i64 A)).setCell ⟨w.heap.size, 2, none⟩ (.string S)).setCell ⟨w.heap.size, 3, none⟩ (.string T)).setCell ⟨w.heap.size, 2, none⟩ (.string T)).setCell ⟨w.heap.size, 3, none⟩ (.string S)) (w.heap.size + 1) (.int .i64 K) (.int .i64 A) (.string T) (.string S)) := ⟨_, rfl⟩
      rw [← HWX.out] at hr br
      clear h1 h2 k1 k2 k3 k4
      obtain ⟨x0, x1, x2, x3⟩ := h3.cells4
      obtain ⟨u0, u1, u2, u3⟩ := h3r.cells4
      obtain ⟨v0, v1, v2, v3⟩ := h3r.open4
      clear h3 h3r h3b
      obtain ⟨r0, r1, r2, r3⟩ := hr.cells4
      clear hr
      go_wp2_with fail
      show bodyPost _ _ _ _ _ (store4 ((((((w1.setCell ⟨w.heap.size, 0, none⟩ (.int .i64 K)).setCell ⟨w.heap.size, 1, none⟩ (.int .i64 A)).setCell ⟨w.heap.size, 2, none⟩ (.string S)).setCell ⟨w.heap.size, 3, none⟩ (.string T)).setCell ⟨w.heap.size, 2, none⟩ (.string T)).setCell ⟨w.heap.size, 3, none⟩ (.string S)) (w.heap.size + 1) (.int .i64 K) (.int .i64 A) (.string T) (.string S))
      rw [← HWX.out]
      refine bodyPost_ret (v := .agg #[.int .i64 K, .int .i64 A, .string T, .string S]) (by simp [results, Try.results18, go_sem, r0, r1, r2, r3]) rfl ?_
      exact ⟨rfl, br⟩
    · have j4 : (K == 4) = false := by rw [beq_eq_false_iff_ne]; omega
      have j5 : (K == 5) = false := by rw [beq_eq_false_iff_ne]; omega
      have j6 : (K == 6) = false := by rw [beq_eq_false_iff_ne]; omega
      have j7 : (K == 7) = true := by rw [beq_iff_eq]; exact hk
      clear hk
      have h3 := (h2.own.set2_4 (.string T)).set3_4 (.string S)
      have h3r := (h2.res.set_other (b' := w.heap.size) (k := 2) (by omega) (.string T)).set_other (b' := w.heap.size) (k := 3) (by omega) (.string S)
      have h3b := (h2.bel.setCell (p := ⟨w.heap.size, 2, none⟩) (Nat.le_refl _) (.string T)).setCell (p := ⟨w.heap.size, 3, none⟩) (Nat.le_refl _) (.string S)
      unfold store4 at h3 h3r h3b
      have hr := h3r.put4 (.int .i64 K) (.int .i64 A) (.string T) (.string S)
      have br := below_set4 h3b (b := w.heap.size + 1) (by omega) (.int .i64 K) (.int .i64 A) (.string T) (.string S)
      obtain ⟨WX, HWX⟩ : ∃ WX, Hid (WX = store4 ((((((w1.setCell ⟨w.heap.size, 0, none⟩ (.int .i64 K)).setCell ⟨w.heap.size, 1, none⟩ (.int .i64 A)).setCell ⟨w.heap.size, 2, none⟩ (.string S)).setCell ⟨w.heap.size, 3, none⟩ (.string T)).setCell ⟨w.heap.size, 2, none⟩ (.string T)).setCell ⟨w.heap.size, 3, none⟩ (.string S)) (w.heap.size + 1) (.int .i64 K) (.int .i64 A) (.string T) (.string S)) := ⟨_, rfl⟩
      rw [← HWX.out] at hr br
      clear h1 h2 k1 k2 k3 k4
      obtain ⟨x0, x1, x2, x3⟩ := h3.cells4
      obtain ⟨u0, u1, u2, u3⟩ := h3r.cells4
      obtain ⟨v0, v1, v2, v3⟩ := h3r.open4
      clear h3 h3r h3b
      obtain ⟨r0, r1, r2, r3⟩ := hr.cells4
      clear hr
      go_wp2_with fail
      show bodyPost _ _ _ _ _ (store4 ((((((w1.setCell ⟨w.heap.size, 0, none⟩ (.int .i64 K)).setCell ⟨w.heap.size, 1, none⟩ (.int .i64 A)).setCell ⟨w.heap.size, 2, none⟩ (.string S)).setCell ⟨w.heap.size, 3, none⟩ (.string T)).setCell ⟨w.heap.size, 2, none⟩ (.string T)).setCell ⟨w.heap.size, 3, none⟩ (.string S)) (w.heap.size + 1) (.int .i64 K) (.int .i64 A) (.string T) (.string S))
      rw [← HWX.out]
      refine bodyPost_ret (v := .agg #[.int .i64 K, .int .i64 A, .string T, .string S]) (by simp [results, Try.results18, go_sem, r0, r1, r2, r3]) rfl ?_
      exact ⟨rfl, br⟩
  · rw [if_neg k4] at HR2
    subst HR2
    clear HR
    have j1 : (K == 1) = false := by rw [beq_eq_false_iff_ne]; exact k1
    have j2 : (K == 2) = false := by rw [beq_eq_false_iff_ne]; exact k2
    have j3 : (K == 3) = false := by rw [beq_eq_false_iff_ne]; exact k3
    have j4 : (K == 4) = false := by rw [beq_eq_false_iff_ne]; omega
    have j5 : (K == 5) = false := by rw [beq_eq_false_iff_ne]; omega
    have j6 : (K == 6) = false := by rw [beq_eq_false_iff_ne]; omega
    have j7 : (K == 7) = false := by rw [beq_eq_false_iff_ne]; omega
    go_wp2
    have hr := h2.res.put4 (.int .i64 K) (.int .i64 A) (.string S) (.string T)
    have br := below_set4 h2.bel (b := w.heap.size + 1) (by omega) (.int .i64 K) (.int .i64 A) (.string S) (.string T)
    obtain ⟨WX, HWX⟩ : ∃ WX, Hid (WX = store4 (store4 w1 w.heap.size (.int .i64 K) (.int .i64 A) (.string S) (.string T)) (w.heap.size + 1) (.int .i64 K) (.int .i64 A) (.string S) (.string T)) := ⟨_, rfl⟩
    rw [← HWX.out] at hr br
    obtain ⟨r0, r1, r2, r3⟩ := hr.cells4
    show bodyPost _ _ _ _ _ (store4 (store4 w1 w.heap.size (.int .i64 K) (.int .i64 A) (.string S) (.string T)) (w.heap.size + 1) (.int .i64 K) (.int .i64 A) (.string S) (.string T))
    rw [← HWX.out]
    refine bodyPost_ret (v := .agg #[.int .i64 K, .int .i64 A, .string S, .string T]) (by simp [results, Try.results18, go_sem, r0, r1, r2, r3]) rfl ?_
    exact ⟨rfl, br⟩

end Go.Proofs.Ytkknglcckjhngaa

namespace Go.Proofs.Ytkknglcckjhngaa
open Go.RowKit
set_option linter.unusedVariables false





end Go.Proofs.Ytkknglcckjhngaa

namespace Go.Proofs.Ytkknglcckjhngaa
open Go.RowKit Go.Sort
set_option linter.unusedVariables false

/-- A step that was done: the page ahead of it, where its slots lie, and the change. -/
structure StepV where
  s : SheetV
  a : Option Addr
  c : Nat
  o : OpV

def scells (h : StepV) : List Value := [.int .u32 h.s.num, .int .u64 h.s.lsn, .int .i64 h.s.kind, .string h.s.head, .slice h.a h.s.slots.length h.c]
def ocells (h : StepV) : List Value := [.int .i64 (invO h.o).kind, .int .i64 (invO h.o).at', .string (invO h.o).S, .string (invO h.o).old]

def StepV.Good (h : StepV) : Prop := h.s.Fits ∧ h.o.Ok ∧ chkB h.o = true ∧ h.o.kind ≠ 1 ∧ doE h.s h.o = 0

/-- The steps H lead from p to q. -/
def Chain : List StepV → SheetV → SheetV → Prop
  | [], p, q => SameS q p
  | h :: H, p, q => SameS h.s p ∧ h.Good ∧ Chain H (doQ h.s h.o) q

theorem Chain.snoc {p q : SheetV} {H : List StepV} {h : StepV} : Chain (H ++ [h]) p q ↔ Chain H p h.s ∧ h.Good ∧ SameS q (doQ h.s h.o) := by
  induction H generalizing p with
  | nil => exact Iff.rfl
  | cons x H ih =>
    show (_ ∧ _ ∧ Chain (H ++ [h]) _ q) ↔ (_ ∧ _ ∧ Chain H _ _) ∧ _
    rw [ih]
    constructor
    · rintro ⟨a, b, c, d⟩; exact ⟨⟨a, b, c⟩, d⟩
    · rintro ⟨⟨a, b, c⟩, d⟩; exact ⟨a, b, c, d⟩

/-- Texts that lie outside of three blocks. -/
def StrsX (w : World) (v1 v2 : Value) (Q : Nat) (a : Option Addr) (L : List ByteArray) : Prop :=
  L = [] ∨ ∃ b o, a = some ⟨b, o, none⟩ ∧ b < w.heap.size ∧ v1.ownBlock ≠ some b ∧ v2.ownBlock ≠ some b ∧ b ≠ Q ∧ ∀ i (hi : i < L.length), w.cell? ⟨b, o + i, none⟩ = some (.string L[i])

theorem StrsX.at {w : World} {v1 v2 : Value} {Q : Nat} {a : Option Addr} {L : List ByteArray} (h : StrsX w v1 v2 Q a L) : StrsAt w a L := by
  rcases h with h | ⟨b, o, e, h1, _, _, _, h2⟩
  · exact .inl h
  · exact .inr ⟨b, o, e, h1, h2⟩

/-- A world that left all blocks but three as they were. -/
structure KeptX (w w' : World) (v1 v2 : Value) (Q : Nat) : Prop where
  size : w.heap.size ≤ w'.heap.size
  block : ∀ k, k < w.heap.size → v1.ownBlock ≠ some k → v2.ownBlock ≠ some k → k ≠ Q → w'.heap[k]? = w.heap[k]?

theorem StrsX.kept {w w' : World} {v1 v2 u1 u2 : Value} {Q : Nat} {a : Option Addr} {L : List ByteArray} (h : StrsX w v1 v2 Q a L) (k : KeptX w w' v1 v2 Q)
    (e1 : ∀ b, b < w.heap.size → v1.ownBlock ≠ some b → u1.ownBlock ≠ some b) (e2 : ∀ b, b < w.heap.size → v2.ownBlock ≠ some b → u2.ownBlock ≠ some b) : StrsX w' u1 u2 Q a L := by
  rcases h with h | ⟨b, o, e, h1, h2, h3, h4, hc⟩
  · exact .inl h
  · exact .inr ⟨b, o, e, Nat.lt_of_lt_of_le h1 k.size, e1 b h1 h2, e2 b h1 h3, h4, fun i hi => (World.cell?_of_block (w := w) (a := ⟨b, o + i, none⟩) (k.block b h1 h2 h3 h4)).trans (hc i hi)⟩

theorem owns_same {w w' : World} {e : TypeId} {z n : Nat} {v : Value} {xs : List Value} (h : w.ownsRow 0 e z v n xs) (k : ∀ g, v.ownBlock = some g → w'.heap[g]? = w.heap[g]?) : w'.ownsRow 0 e z v n xs := by
  refine ⟨h.1, ?_⟩
  rcases h.2 with ⟨rfl, h1⟩ | ⟨g', cap, cur, rfl, h0, hb, hr⟩
  · exact .inl ⟨rfl, h1⟩
  · exact .inr ⟨g', cap, cur, rfl, h0, (k g' rfl).trans hb, hr⟩

theorem owns_cells {w : World} {e : TypeId} {z n : Nat} {g cap : Nat} {xs : List Value} (h : w.ownsRow 0 e z (.slice (some ⟨g, 0, none⟩) n cap) n xs) (k : Nat) (u : Value) (hk : xs[k]? = some u) : w.cell? ⟨g, k, none⟩ = some u := by
  rcases h.2 with ⟨e1, _⟩ | ⟨g', cap', cur, e1, _, hb, hn, hm, hs, ht⟩
  · cases e1
  · cases e1
    have hl : k < xs.length := (List.getElem?_eq_some_iff.1 hk).1
    rw [h.1] at hl
    have : cur.toList[k]? = some u := by
      rw [← ht, List.getElem?_take] at hk
      rw [if_pos hl] at hk
      exact hk
    simp only [World.cell?, hb]
    simpa using this

/-- Two rows of unlike types lie in two blocks. -/
theorem owns_apart {w : World} {e e' : TypeId} {z z' n n' : Nat} {v v' : Value} {xs xs' : List Value} (h : w.ownsRow 0 e z v n xs) (h' : w.ownsRow 0 e' z' v' n' xs') (hne : e ≠ e') : ∀ g, v.ownBlock = some g → v'.ownBlock ≠ some g := by
  intro g h1 h2
  rcases h.2 with ⟨rfl, _⟩ | ⟨g1, cap, cur, rfl, _, hb, _⟩
  · cases h1
  rcases h'.2 with ⟨rfl, _⟩ | ⟨g2, cap', cur', rfl, _, hb', _⟩
  · cases h2
  obtain rfl : g1 = g := Option.some.inj h1
  obtain rfl : g2 = g1 := Option.some.inj h2
  rw [hb] at hb'
  cases hb'
  exact hne rfl

/-- Where PageBack stands. -/
structure BackAt (w wr : World) (Q : Nat) (p q : SheetV) (a aq : Option Addr) (c cq : Nat) (H : List StepV) (vw vd : Value) : Prop where
  bel : Below w.heap.size w wr
  page : RowV wr w.heap.size 5 (five (.int .u32 p.num) (.int .u64 p.lsn) (.int .i64 p.kind) (.string p.head) (.slice a p.slots.length c))
  cur : RowV wr Q 5 (five (.int .u32 q.num) (.int .u64 q.lsn) (.int .i64 q.kind) (.string q.head) (.slice aq q.slots.length cq))
  Q1 : w.heap.size < Q
  Q2 : Q < wr.heap.size
  was : wr.ownsRow 0 29 5 vw H.length (H.flatMap scells)
  done : wr.ownsRow 0 41 4 vd H.length (H.flatMap ocells)
  wOff : ∀ k, vw.ownBlock = some k → w.heap.size < k ∧ k ≠ Q
  dOff : ∀ k, vd.ownBlock = some k → w.heap.size < k ∧ k ≠ Q
  strs : StrsX wr vw vd Q aq q.slots
  olds : ∀ h ∈ H, StrsX wr vw vd Q h.a h.s.slots

theorem KeptX.of_below {w w' : World} {v1 v2 : Value} {Q : Nat} (k : Below w.heap.size w w') : KeptX w w' v1 v2 Q := ⟨k.size, fun b hb _ _ _ => k.block b hb⟩

section
variable {w wr wx : World} {Q : Nat} {p q : SheetV} {a aq : Option Addr} {c cq : Nat} {H : List StepV} {vw vd : Value}

theorem BackAt.below (h : BackAt w wr Q p q a aq c cq H vw vd) (k : Below wr.heap.size wr wx) : BackAt w wx Q p q a aq c cq H vw vd := by
  have hz := Nat.lt_trans h.Q1 h.Q2
  refine ⟨h.bel.trans (k.mono (by omega)), h.page.below k hz, h.cur.below k h.Q2, h.Q1, Nat.lt_of_lt_of_le h.Q2 k.size, owns_same h.was fun g hg => k.block g (h.was.lt g hg).2, owns_same h.done fun g hg => k.block g (h.done.lt g hg).2, h.wOff, h.dOff, h.strs.kept (.of_below k) (fun _ _ x => x) (fun _ _ x => x), fun x hx => (h.olds x hx).kept (.of_below k) (fun _ _ x => x) (fun _ _ x => x)⟩

theorem BackAt.start (hm : StrsAt w a p.slots) (hb : Below w.heap.size w wr) (hz : w.heap.size < wr.heap.size) (hp : RowV wr w.heap.size 5 (five (.int .u32 p.num) (.int .u64 p.lsn) (.int .i64 p.kind) (.string p.head) (.slice a p.slots.length c))) :
    BackAt w (((wr.alloc (.cells #[.int .u32 p.num, .int .u64 p.lsn, .int .i64 p.kind, .string p.head, .slice a p.slots.length c] 29)).alloc (.cells #[] 41)).alloc (.cells #[] 29)) wr.heap.size p p a a c c [] (.slice (some ⟨wr.heap.size + 1 + 1, 0, none⟩) 0 0) (.slice (some ⟨wr.heap.size + 1, 0, none⟩) 0 0) := by
  have b1 : Below wr.heap.size wr (wr.alloc (.cells #[.int .u32 p.num, .int .u64 p.lsn, .int .i64 p.kind, .string p.head, .slice a p.slots.length c] 29)) := (Below.refl _ _).alloc (Nat.le_refl _) _
  have b2 := b1.alloc (by simp) (.cells #[] 41)
  have b3 := b2.alloc (by simp; omega) (.cells #[] 29)
  have r1 := RowV.five_new wr (.int .u32 p.num) (.int .u64 p.lsn) (.int .i64 p.kind) (.string p.head) (.slice a p.slots.length c) 29
  have b12 : Below (wr.alloc (.cells #[.int .u32 p.num, .int .u64 p.lsn, .int .i64 p.kind, .string p.head, .slice a p.slots.length c] 29)).heap.size (wr.alloc (.cells #[.int .u32 p.num, .int .u64 p.lsn, .int .i64 p.kind, .string p.head, .slice a p.slots.length c] 29)) (((wr.alloc (.cells #[.int .u32 p.num, .int .u64 p.lsn, .int .i64 p.kind, .string p.head, .slice a p.slots.length c] 29)).alloc (.cells #[] 41)).alloc (.cells #[] 29)) := ((Below.refl _ _).alloc (Nat.le_refl _) _).alloc (by simp) _
  have hw := World.ownsRow_made (base := 0) (e := 29) (size := 5) ((wr.alloc (.cells #[.int .u32 p.num, .int .u64 p.lsn, .int .i64 p.kind, .string p.head, .slice a p.slots.length c] 29)).alloc (.cells #[] 41)) #[] 0 (Nat.zero_le _) (Nat.zero_le _) rfl
  have hd := World.ownsRow_made (base := 0) (e := 41) (size := 4) (wr.alloc (.cells #[.int .u32 p.num, .int .u64 p.lsn, .int .i64 p.kind, .string p.head, .slice a p.slots.length c] 29)) #[] 0 (Nat.zero_le _) (Nat.zero_le _) rfl
  have hd2 := owns_same hd (w' := ((wr.alloc (.cells #[.int .u32 p.num, .int .u64 p.lsn, .int .i64 p.kind, .string p.head, .slice a p.slots.length c] 29)).alloc (.cells #[] 41)).alloc (.cells #[] 29)) (fun g hg => ((Below.refl _ _).alloc (Nat.le_refl _) _).block g (hd.lt g hg).2)
  have bw := hb.trans (b3.mono (by omega))
  refine ⟨bw, hp.below b3 hz, r1.below b12 (by simp), hz, by simp; omega, by simpa using hw, by simpa using hd2, ?_, ?_, ?_, by simp⟩
  · intro k hk
    have := Option.some.inj hk
    simp only at this
    omega
  · intro k hk
    have := Option.some.inj hk
    simp only at this
    omega
  · rcases hm with hm | ⟨b, o, e, h1, hc⟩
    · exact .inl hm
    · refine .inr ⟨b, o, e, Nat.lt_of_lt_of_le h1 bw.size, ?_, ?_, by omega, fun i hi => (bw.cell (p := ⟨b, o + i, none⟩) h1).trans (hc i hi)⟩
      · intro q
        have := Option.some.inj q
        simp only at this
        omega
      · intro q
        have := Option.some.inj q
        simp only at this
        omega

/-- A step is put behind the others. -/
theorem BackAt.push (h : BackAt w wr Q p q a aq c cq H vw vd) (o : OpV) {q' : SheetV} {aq' : Option Addr} {cq' : Nat} {wa w1 wb w2 : World} {v1 v2 : Value}
    (k1 : Below wr.heap.size wr wa) (o1 : w1.ownsRow 0 29 5 v1 (H.length + 1) (H.flatMap scells ++ scells ⟨q, aq, cq, o⟩)) (g1 : wa.grownBy w1 vw.ownBlock) (l1 : v1.ownBlock = vw.ownBlock ∨ ∃ z, v1.ownBlock = some z ∧ wr.heap.size ≤ z)
    (k2 : Below w1.heap.size w1 wb) (o2 : w2.ownsRow 0 41 4 v2 (H.length + 1) (H.flatMap ocells ++ ocells ⟨q, aq, cq, o⟩)) (g2 : wb.grownBy w2 vd.ownBlock) (l2 : v2.ownBlock = vd.ownBlock ∨ ∃ z, v2.ownBlock = some z ∧ wr.heap.size ≤ z)
    (hs : StrsX wr vw vd Q aq' q'.slots) :
    BackAt w (store5 w2 Q (.int .u32 q'.num) (.int .u64 q'.lsn) (.int .i64 q'.kind) (.string q'.head) (.slice aq' q'.slots.length cq')) Q p q' a aq' c cq' (H ++ [⟨q, aq, cq, o⟩]) v1 v2 := by
  have hz := Nat.lt_trans h.Q1 h.Q2
  have s1 := k1.size
  have s2 := g1.size
  have s3 := k2.size
  have s4 := g2.size
  have kb : ∀ k, k < wr.heap.size → vw.ownBlock ≠ some k → vd.ownBlock ≠ some k → w2.heap[k]? = wr.heap[k]? := fun k hk n1 n2 =>
    (g2.block k (by omega) (fun e => n2 e.symm)).trans ((k2.block k (by omega)).trans ((g1.block k (by omega) (fun e => n1 e.symm)).trans (k1.block k hk)))
  have kx : KeptX wr (store5 w2 Q (.int .u32 q'.num) (.int .u64 q'.lsn) (.int .i64 q'.kind) (.string q'.head) (.slice aq' q'.slots.length cq')) vw vd Q := by
    refine ⟨by unfold store5; simp; omega, fun k hk n1 n2 n3 => ?_⟩
    rw [show (store5 w2 Q (.int .u32 q'.num) (.int .u64 q'.lsn) (.int .i64 q'.kind) (.string q'.head) (.slice aq' q'.slots.length cq')).heap[k]? = w2.heap[k]? from by
      unfold store5
      have hk : ∀ (u : World) (i : Nat) (v : Value), (u.setCell ⟨Q, i, none⟩ v).heap[k]? = u.heap[k]? := fun u i v => Below.heap_setCell _ _ _ _ n3
      rw [hk, hk, hk, hk, hk]]
    exact kb k hk n1 n2
  have hvw1 : vw.ownBlock ≠ some w.heap.size := fun e => by have := (h.wOff _ e).1; omega
  have hvd1 : vd.ownBlock ≠ some w.heap.size := fun e => by have := (h.dOff _ e).1; omega
  have hvwQ : vw.ownBlock ≠ some Q := fun e => (h.wOff _ e).2 rfl
  have hvdQ : vd.ownBlock ≠ some Q := fun e => (h.dOff _ e).2 rfl
  have v1off : ∀ k, v1.ownBlock = some k → w.heap.size < k ∧ k ≠ Q := fun k hk => by
    rcases l1 with e | ⟨z, e, hz'⟩
    · exact h.wOff k (e ▸ hk)
    · rw [e] at hk
      have := Option.some.inj hk
      have := h.Q2
      omega
  have v2off : ∀ k, v2.ownBlock = some k → w.heap.size < k ∧ k ≠ Q := fun k hk => by
    rcases l2 with e | ⟨z, e, hz'⟩
    · exact h.dOff k (e ▸ hk)
    · rw [e] at hk
      have := Option.some.inj hk
      have := h.Q2
      omega
  have e1 : ∀ b, b < wr.heap.size → vw.ownBlock ≠ some b → v1.ownBlock ≠ some b := fun b hb n e => by
    rcases l1 with e' | ⟨z, e', hz'⟩
    · exact n (e' ▸ e)
    · rw [e'] at e
      have := Option.some.inj e
      omega
  have e2 : ∀ b, b < wr.heap.size → vd.ownBlock ≠ some b → v2.ownBlock ≠ some b := fun b hb n e => by
    rcases l2 with e' | ⟨z, e', hz'⟩
    · exact n (e' ▸ e)
    · rw [e'] at e
      have := Option.some.inj e
      omega
  have row : ∀ b (f : Nat → Value), b < wr.heap.size → vw.ownBlock ≠ some b → vd.ownBlock ≠ some b → RowV wr b 5 f → RowV w2 b 5 f := fun b f hb n1 n2 hr j hj =>
    ⟨(World.cell?_of_block (w := wr) (a := ⟨b, j, none⟩) (kb b hb n1 n2)).trans (hr j hj).1, (World.frozen?_of_block (w := wr) (a := ⟨b, j, none⟩) (kb b hb n1 n2)).trans (hr j hj).2⟩
  have off : ∀ (v : Value) (g : Nat), v.ownBlock = some g → g ≠ Q → (store5 w2 Q (.int .u32 q'.num) (.int .u64 q'.lsn) (.int .i64 q'.kind) (.string q'.head) (.slice aq' q'.slots.length cq')).heap[g]? = w2.heap[g]? := fun v g _ n3 => by
    unfold store5
    have hk : ∀ (u : World) (i : Nat) (v : Value), (u.setCell ⟨Q, i, none⟩ v).heap[g]? = u.heap[g]? := fun u i v => Below.heap_setCell _ _ _ _ n3
    rw [hk, hk, hk, hk, hk]
  have ap : ∀ g, v1.ownBlock = some g → vd.ownBlock ≠ some g := by
    intro g hg
    have h2 : wb.ownsRow 0 29 5 v1 (H.length + 1) (H.flatMap scells ++ scells ⟨q, aq, cq, o⟩) := owns_same o1 fun g hg => k2.block g (o1.lt g hg).2
    have h3 : wb.ownsRow 0 41 4 vd H.length (H.flatMap ocells) := by
      refine owns_same h.done fun g' hg' => ?_
      have hl := (h.done.lt g' hg').2
      exact (k2.block g' (by omega)).trans ((g1.block g' (by omega) (fun e => (owns_apart h.was h.done (by decide) g' e.symm) hg')).trans (k1.block g' hl))
    exact owns_apart h2 h3 (by decide) g hg
  refine ⟨below_set5 (((((h.bel.trans (k1.mono (by omega))).grown g1 (by omega) fun k e => by have := (h.wOff k e).1; omega).trans (k2.mono (by omega)))).grown g2 (by omega) fun k e => by have := (h.dOff k e).1; omega) (by have := h.Q1; omega) _ _ _ _ _,
    (row _ _ hz hvw1 hvd1 h.page).set5_other (by have := h.Q1; omega) _ _ _ _ _, (row _ _ h.Q2 hvwQ hvdQ h.cur).set5 _ _ _ _ _, h.Q1, by unfold store5; simp; have := h.Q2; omega, ?_, ?_, v1off, v2off, hs.kept kx e1 e2, ?_⟩
  · rw [List.length_append, List.flatMap_append]
    simp only [List.length_cons, List.length_nil, List.flatMap_cons, List.flatMap_nil, List.append_nil]
    exact owns_same o1 fun g hg => (off v1 g hg (v1off g hg).2).trans ((g2.block g (by have := (o1.lt g hg).2; omega) (fun e => ap g hg e.symm)).trans (k2.block g (o1.lt g hg).2))
  · rw [List.length_append, List.flatMap_append]
    simp only [List.length_cons, List.length_nil, List.flatMap_cons, List.flatMap_nil, List.append_nil]
    exact owns_same o2 fun g hg => off v2 g hg (v2off g hg).2
  · intro x hx
    rcases List.mem_append.1 hx with hx | hx
    · exact (h.olds x hx).kept kx e1 e2
    · obtain rfl := List.mem_singleton.1 hx
      exact h.strs.kept kx e1 e2

end

end Go.Proofs.Ytkknglcckjhngaa

namespace Go.Proofs.Ytkknglcckjhngaa
open Go.RowKit Go.Sort
set_option linter.unusedVariables false

/-- An OpInsert of S at k. -/
def opIns (k : Nat) (S : ByteArray) : OpV := ⟨2, k, S, ⟨#[]⟩⟩

theorem opIns_ok (k : Nat) (S : ByteArray) (hk : k ≤ 63) (hS : S.size ≤ 512) : (opIns k S).Ok := ⟨by show (-9223372036854775808 : Int) ≤ 2 ∧ (2 : Int) ≤ _; omega, by show (-9223372036854775808 : Int) ≤ (k : Int) ∧ (k : Int) ≤ _; omega, by show S.size ≤ _; omega, by show (0 : Nat) ≤ _; omega⟩

theorem opIns_chk (k : Nat) (S : ByteArray) (hk : k ≤ 63) (hS : S.size ≤ 512) : chkB (opIns k S) = true := by
  have h0 : (ByteArray.mk #[]).size = 0 := rfl
  simp [chkB, mayB, opIns, hS, h0]; omega

theorem apply_ins {p : SheetV} {w : World} {a : Option Addr} {c : Nat} (lsn k : Nat) (S : ByteArray) (h : p.Ok w a) (f : p.Fits) (hk : k ≤ 63) (hS : S.size ≤ 512) :
    Calls Try.prog 12 #[p.val a c, .agg #[.int .i64 2, .int .i64 k, .string S, .string ⟨#[]⟩], .int .u64 lsn] w fun e w' => ∃ X, e = .returned (.tuple #[X, .int .i64 (insE p (opIns k S))]) ∧ Below w.heap.size w w' ∧
      (insE p (opIns k S) = 0 → ∃ a' c', X = ({ p with slots := insL p.slots k S, lsn := lsn } : SheetV).val a' c' ∧ StrsFrom w.heap.size w' a' (insL p.slots k S)) ∧ (insE p (opIns k S) ≠ 0 → X = sheet0.val none 0) := by
  have hd := change_ins f (opIns_ok k S hk hS) rfl (by show (0 : Int) ≤ (k : Int); omega)
  have := apply_of (w := w) (c := c) lsn h f (opIns_ok k S hk hS) (opIns_chk k S hk hS) hd
  exact this



/-- '(at%(n+1) + n + 1) % (n+1)'. -/
def placeAt (at' : Int) (n : Nat) : Nat := ((at'.tmod ((n : Int) + 1) + (n : Int) + 1).tmod ((n : Int) + 1)).toNat

theorem place_bounds (at' : Int) (n : Nat) : -((n : Int) + 1) < at'.tmod ((n : Int) + 1) ∧ at'.tmod ((n : Int) + 1) < (n : Int) + 1 :=
  ⟨Int.lt_tmod_of_pos at' (by omega), Int.tmod_lt_of_pos at' (by omega)⟩

theorem placeAt_le (at' : Int) (n : Nat) : placeAt at' n ≤ n := by
  unfold placeAt
  have := Int.tmod_lt_of_pos (at'.tmod ((n : Int) + 1) + (n : Int) + 1) (show (0 : Int) < (n : Int) + 1 by omega)
  omega

theorem placeAt_cast (at' : Int) (n : Nat) : (at'.tmod ((n : Int) + 1) + (n : Int) + 1).tmod ((n : Int) + 1) = ((placeAt at' n : Nat) : Int) := by
  unfold placeAt
  have := place_bounds at' n
  have h3 := Int.tmod_nonneg ((n : Int) + 1) (show (0 : Int) ≤ at'.tmod ((n : Int) + 1) + (n : Int) + 1 by omega)
  omega

end Go.Proofs.Ytkknglcckjhngaa

namespace Go.Proofs.Ytkknglcckjhngaa
open Go.RowKit Go.Sort
set_option linter.unusedVariables false

theorem SheetV.Fits.ok {q : SheetV} {w : World} {a : Option Addr} (f : q.Fits) (h : StrsAt w a q.slots) : q.Ok w a := by
  have hf := f.fits
  refine ⟨f.num, f.lsn, ⟨by have := f.kind0; omega, by have := f.kind1; omega⟩, by have := f.head; omega, by have := f.len; omega, fun s hs => ?_, h⟩
  obtain ⟨j, hj, rfl⟩ := List.mem_iff_getElem.1 hs
  have := slotSum_at q.slots j hj
  omega



end Go.Proofs.Ytkknglcckjhngaa

namespace Go.Proofs.Ytkknglcckjhngaa
open Go.ChangeShapes Go.WideShapes Go.ChangeAt Go.RowKit
set_option linter.unusedVariables false

theorem cellsSheet : Try.prog.cellsOf 29 = 5 := by kernel_rfl
theorem cellsPage : Try.prog.cellsOf 24 = 1 := by kernel_rfl
theorem cellsLSN : Try.prog.cellsOf 26 = 1 := by kernel_rfl
theorem cellsInt : Try.prog.cellsOf 3 = 1 := by kernel_rfl
theorem cellsString : Try.prog.cellsOf 9 = 1 := by kernel_rfl
theorem cellsStrings : Try.prog.cellsOf 27 = 1 := by kernel_rfl
theorem bytesString : Try.prog.bytesOf 9 = 16 := by kernel_rfl

theorem trod_struct5 {H : Type} {enc : TypeId × Value → H} {P : Program} {w : World} {base : Nat} {spare : Nat → Bool} {held : Bool} {t : TypeId} {f0 f1 f2 f3 f4 : Field} {fuel : Nat} {cs : List Value} {x : DataW H × List MemPlace} (ht : P.underlying t = some (.struct #[f0, f1, f2, f3, f4])) (h : DataW.trod enc P w base spare held fuel t cs = some x) :
    ∃ y0 y1 y2 y3 y4 n, x = (.agg [y0.1, y1.1, y2.1, y3.1, y4.1], y0.2 ++ (y1.2 ++ (y2.2 ++ (y3.2 ++ y4.2)))) ∧ cs.length = P.cellsOf t ∧ DataW.trod enc P w base spare held n f0.type ((cs.drop f0.offset).take (P.cellsOf f0.type)) = some y0 ∧
      DataW.trod enc P w base spare held n f1.type ((cs.drop f1.offset).take (P.cellsOf f1.type)) = some y1 ∧ DataW.trod enc P w base spare held n f2.type ((cs.drop f2.offset).take (P.cellsOf f2.type)) = some y2 ∧
      DataW.trod enc P w base spare held n f3.type ((cs.drop f3.offset).take (P.cellsOf f3.type)) = some y3 ∧ DataW.trod enc P w base spare held n f4.type ((cs.drop f4.offset).take (P.cellsOf f4.type)) = some y4 := by
  obtain ⟨xs, n, _, rfl, hl, hlen, hf⟩ := DataW.trod_struct ht h
  match xs, hlen with
  | [y0, y1, y2, y3, y4], _ => exact ⟨y0, y1, y2, y3, y4, n, by simp, hl, by simpa using hf 0 f0 rfl, by simpa using hf 1 f1 rfl, by simpa using hf 2 f2 rfl, by simpa using hf 3 f3 rfl, by simpa using hf 4 f4 rfl⟩

theorem weights_strs {H : Type} (ss : List ByteArray) {s : ByteArray} (hs : s ∈ ss) : s.size ∈ DataW.weightsAll (H := H) Try.prog 9 (strs ss) := by
  induction ss with
  | nil => cases hs
  | cons x ss ih =>
    simp only [strs, List.map_cons, DataW.weightsAll, List.mem_append]
    rcases List.mem_cons.1 hs with rfl | hs
    · left; simp [DataW.weights]
    · right; exact ih hs

theorem bounds_u32 {n : Int} (h : Lit.wf (.int .u32 n) = true) : 0 ≤ n ∧ n ≤ 4294967295 := by
  have e1 : IntKind.u32.min = 0 := by decide
  have e2 : IntKind.u32.max = 4294967295 := by decide
  simpa [Lit.wf, e1, e2] using h
theorem bounds_u64' {n : Int} (h : Lit.wf (.int .u64 n) = true) : 0 ≤ n ∧ n ≤ 18446744073709551615 := by
  have e1 : IntKind.u64.min = 0 := by decide
  have e2 : IntKind.u64.max = 18446744073709551615 := by decide
  simpa [Lit.wf, e1, e2] using h
theorem bounds_i64' {n : Int} (h : Lit.wf (.int .i64 n) = true) : -9223372036854775808 ≤ n ∧ n ≤ 9223372036854775807 := by
  have e1 : IntKind.i64.min = -9223372036854775808 := by decide
  have e2 : IntKind.i64.max = 9223372036854775807 := by decide
  simpa [Lit.wf, e1, e2] using h

set_option maxHeartbeats 800000 in
set_option maxRecDepth 100000 in
theorem open_sheet {H : Type} {enc : TypeId × Value → H} {w : World} {base b0 : Nat} {r : Reach} {spare : Nat → Bool} {held : Bool} {v : Value} {d : DataW H} {pl : List MemPlace}
    (hv : Value.okWide Try.prog w r b0 29 v) (h : DataW.Trod enc Try.prog w base spare held 29 v d pl) (hw : ∀ n ∈ d.weights Try.prog 29, n ≤ reachBytes) :
    ∃ (p : SheetV) (a : Option Addr) (c : Nat), v = p.val a c ∧ p.Ok w a := by
  obtain ⟨fuel, hf⟩ := h
  obtain ⟨cs, rfl, hsz⟩ := okWide_struct Try.underlying29 hv
  rw [cellsSheet] at hsz
  obtain ⟨l⟩ := cs
  obtain ⟨v0, v1, v2, v3, v4, rfl⟩ : ∃ v0 v1 v2 v3 v4, l = [v0, v1, v2, v3, v4] := by
    match l, hsz with
    | [v0, v1, v2, v3, v4], _ => exact ⟨_, _, _, _, _, rfl⟩
  simp only [Value.cells] at hf
  obtain ⟨y0, y1, y2, y3, y4, n, hx, _, g0, g1, g2, g3, g4⟩ := trod_struct5 Try.underlying29 hf
  simp only [cellsPage, cellsLSN, cellsInt, cellsString, cellsStrings] at g0 g1 g2 g3 g4
  obtain ⟨x0, e0, rfl, w0⟩ := DataW.trod_int Try.underlying24 g0
  obtain ⟨x1, e1, rfl, w1⟩ := DataW.trod_int Try.underlying26 g1
  obtain ⟨x2, e2, rfl, w2⟩ := DataW.trod_int Try.underlying3 g2
  obtain ⟨x3, e3, rfl, w3⟩ := DataW.trod_string Try.underlying9 g3
  simp at e0 e1 e2 e3
  subst e0 e1 e2 e3
  obtain ⟨k0, k1⟩ := bounds_u32 w0
  obtain ⟨k2, k3⟩ := bounds_u64' w1
  obtain ⟨n0, rfl⟩ := Int.eq_ofNat_of_zero_le k0
  obtain ⟨n1, rfl⟩ := Int.eq_ofNat_of_zero_le k2
  have k4 := bounds_i64' w2
  simp only [Prod.mk.injEq] at hx
  obtain ⟨rfl, _⟩ := hx
  have hw3 : x3.data.toList.length ≤ reachBytes := hw _ (by simp [DataW.weights, Try.underlying29, DataW.weightsEach])
  have hw3' : x3.size ≤ 140737488351232 := by simpa [reachBytes] using hw3
  rcases Go.ChangeShapes.open_strings Try.underlying27 Try.underlying9 cellsString g4 with ⟨hcs, rfl⟩ | ⟨a', len', cap', ss, hcs, _, hl, hm, hss, rfl, hc, hz⟩
  · simp at hcs
    subst hcs
    exact ⟨⟨n0, n1, x2, x3, []⟩, none, 0, rfl, ⟨by show n0 < _; omega, by show n1 < _; omega, k4, hw3', by simp, by simp, .inl rfl⟩⟩
  · simp at hcs
    subst hcs
    have hlm : len' ≤ ss.length := by rw [hss]; split <;> omega
    have hmem : ∀ s ∈ ss.take len', s.size ≤ 140737488351232 := fun s hs => by
      have := hw s.size (by
        simp only [DataW.weights, Try.underlying29, DataW.weightsEach, Try.underlying27, List.map_cons, List.map_nil, List.mem_append, List.mem_cons]
        simp [weights_strs _ hs])
      simpa [reachBytes] using this
    have hlen : len' * 16 ≤ 140737488351232 := by
      have := hw ((strs (H := H) (ss.take len')).length + (strs (H := H) (ss.drop len')).length |> (· * 16)) (by
        simp [DataW.weights, Try.underlying29, DataW.weightsEach, Try.underlying27, bytesString])
      have e : (strs (H := H) (ss.take len')).length = len' := by simp [strs]; omega
      rw [e] at this
      have : (len' + (strs (H := H) (ss.drop len')).length) * 16 ≤ 140737488351232 := by simpa [reachBytes] using this
      omega
    have htl : (ss.take len').length = len' := by simp; omega
    refine ⟨⟨n0, n1, x2, x3, ss.take len'⟩, some a', cap', by simp [SheetV.val, htl], ⟨by show n0 < _; omega, by show n1 < _; omega, k4, hw3', by show (ss.take len').length ≤ _; omega, hmem, ?_⟩⟩
    by_cases h0 : len' = 0
    · left; simp [h0]
    · right
      have hc0 := hc 0 (by omega)
      obtain ⟨b, o, sp⟩ := a'
      cases sp with
      | some z => simp [Addr.add, World.cell?] at hc0; split at hc0 <;> simp_all
      | none =>
        refine ⟨b, o, rfl, World.block_lt_of_cell? w _ hc0, fun i hi => ?_⟩
        have hi' : i < len' := by simpa [htl] using hi
        have := hc i (by omega)
        rw [Addr.add_lit] at this
        rw [this, List.getD_eq_getElem?_getD, List.getElem?_eq_getElem (by omega)]
        simp

end Go.Proofs.Ytkknglcckjhngaa
