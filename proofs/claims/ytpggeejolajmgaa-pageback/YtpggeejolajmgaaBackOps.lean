/-
  The walks of girderlaw03.op, girderref03.Inverse, page.Inverse.
-/
import Derived.Test.YtpggeejolajmgaaBackMath
namespace Go.Proofs.Ytpggeejolajmgaa
open Go.RowKit Go.Sort
set_option linter.unusedVariables false

set_option maxHeartbeats 400000 in
theorem op_any (o : OpV) (w : World) :
    Calls Try.prog 12 #[o.val] w fun e w' => e = .returned o.val ∧ Below w.heap.size w w' := by
  obtain ⟨K, A, S, T⟩ := o
  simp only [OpV.val]
  go_enter Try.func12, Try.ntmps12
  go_wp2
  refine bodyPost_ret (v := .agg #[.int .i64 K, .int .i64 A, .string S, .string T]) (by simp [results, Try.results12, go_sem]) rfl ?_
  exact ⟨rfl, ((Below.refl _ _).alloc (Nat.le_refl _) _).alloc (by simp) _⟩

set_option maxHeartbeats 1600000 in
theorem rinverse_any (o : OpV) (w : World) :
    Calls Try.prog 13 #[o.val] w fun e w' => e = .returned (invO o).val ∧ Below w.heap.size w w' := by
  obtain ⟨R, HR⟩ : ∃ R, Hid (invO o = R) := ⟨_, rfl⟩
  rw [HR.out]
  have HR2 := HR.out
  unfold invO at HR2
  obtain ⟨K, A, S, T⟩ := o
  simp only [OpV.val] at *
  by_cases k1 : K = 1
  · subst k1
    rw [if_pos rfl] at HR2
    subst HR2
    go_enter Try.func13, Try.ntmps13
    go_wp2
    refine bodyPost_ret (v := .agg #[.int .i64 1, .int .i64 0, .string ⟨#[]⟩, .string ⟨#[]⟩]) (by simp [results, Try.results13, go_sem]) rfl ?_
    exact ⟨rfl, ((Below.refl _ _).alloc (Nat.le_refl _) _).alloc (by simp) _⟩
  by_cases k2 : K = 2
  · subst k2
    simp at HR2
    subst HR2
    go_enter Try.func13, Try.ntmps13
    go_wp2
    refine bodyPost_ret (v := .agg #[.int .i64 3, .int .i64 A, .string ⟨#[]⟩, .string S]) (by simp [results, Try.results13, go_sem]) rfl ?_
    exact ⟨rfl, ((Below.refl _ _).alloc (Nat.le_refl _) _).alloc (by simp) _⟩
  by_cases k3 : K = 3
  · subst k3
    simp at HR2
    subst HR2
    go_enter Try.func13, Try.ntmps13
    go_wp2
    refine bodyPost_ret (v := .agg #[.int .i64 2, .int .i64 A, .string T, .string ⟨#[]⟩]) (by simp [results, Try.results13, go_sem]) rfl ?_
    exact ⟨rfl, ((Below.refl _ _).alloc (Nat.le_refl _) _).alloc (by simp) _⟩
  rw [if_neg k1, if_neg k2, if_neg k3] at HR2
  by_cases k4 : 4 ≤ K ∧ K ≤ 7
  · rw [if_pos k4] at HR2
    subst HR2
    clear HR
    have hk : K = 4 ∨ K = 5 ∨ K = 6 ∨ K = 7 := by omega
    rcases hk with rfl | rfl | rfl | rfl
    all_goals
      go_enter Try.func13, Try.ntmps13
      go_wp2
      refine bodyPost_ret (v := .agg #[.int .i64 _, .int .i64 A, .string T, .string S]) (by simp [results, Try.results13, go_sem]; rfl) rfl ?_
      exact ⟨rfl, ((Below.refl _ _).alloc (Nat.le_refl _) _).alloc (by simp) _⟩
  · rw [if_neg k4] at HR2
    subst HR2
    clear HR
    have j1 : (K == 1) = false := by rw [beq_eq_false_iff_ne]; exact k1
    have j2 : (K == 2) = false := by rw [beq_eq_false_iff_ne]; exact k2
    have j3 : (K == 3) = false := by rw [beq_eq_false_iff_ne]; exact k3
    have j4 : (K == 4) = false := by rw [beq_eq_false_iff_ne]; omega
    have j5 : (K == 5) = false := by rw [beq_eq_false_iff_ne]; omega
    have j6 : (K == 6) = false := by rw [beq_eq_false_iff_ne]; omega
    have j7 : (K == 7) = false := by rw [beq_eq_false_iff_ne]; omega
    go_enter Try.func13, Try.ntmps13
    go_wp2
    refine bodyPost_ret (v := .agg #[.int .i64 K, .int .i64 A, .string S, .string T]) (by simp [results, Try.results13, go_sem]) rfl ?_
    exact ⟨rfl, ((Below.refl _ _).alloc (Nat.le_refl _) _).alloc (by simp) _⟩

/-- Four cells are written. -/
def store4 (w : World) (b : Nat) (v0 v1 v2 v3 : Value) : World := (((w.setCell ⟨b, 0, none⟩ v0).setCell ⟨b, 1, none⟩ v1).setCell ⟨b, 2, none⟩ v2).setCell ⟨b, 3, none⟩ v3

theorem RowV.put4 {w : World} {b : Nat} {u0 u1 u2 u3 : Value} (h : RowV w b 4 (four u0 u1 u2 u3)) (v0 v1 v2 v3 : Value) : RowV (store4 w b v0 v1 v2 v3) b 4 (four v0 v1 v2 v3) :=
  (((h.set0_4 v0).set1_4 v1).set2_4 v2).set3_4 v3

theorem below_set4 {B : Nat} {w wx : World} {b : Nat} (h : Below B w wx) (hb : B ≤ b) (v0 v1 v2 v3 : Value) : Below B w (store4 wx b v0 v1 v2 v3) :=
  (((h.setCell (p := ⟨b, 0, none⟩) hb v0).setCell (p := ⟨b, 1, none⟩) hb v1).setCell (p := ⟨b, 2, none⟩) hb v2).setCell (p := ⟨b, 3, none⟩) hb v3

theorem CopyAt.put {w wx : World} {K A : Int} {S T : ByteArray} (h : CopyAt w wx K A S T) (K' A' : Int) (S' T' : ByteArray) : CopyAt w (store4 wx w.heap.size (.int .i64 K') (.int .i64 A') (.string S') (.string T')) K' A' S' T' :=
  ⟨h.own.put4 _ _ _ _, (((h.res.set_other (by omega) _).set_other (by omega) _).set_other (by omega) _).set_other (by omega) _, below_set4 h.bel (Nat.le_refl _) _ _ _ _, by unfold store4; simpa using h.lt⟩

set_option maxHeartbeats 1600000 in
theorem inverse_any (o : OpV) (w : World) (h : o.Ok) :
    Calls Try.prog 11 #[o.val] w fun e w' => e = .returned (invO o).val ∧ Below w.heap.size w w' := by
  have HC : Hid (∀ wx, Calls Try.prog 28 #[o.val] wx fun e w' => e = .returned o.val ∧ Below wx.heap.size wx w') := fun wx => copyOfOp_any o wx h
  obtain ⟨R, HR⟩ : ∃ R, Hid (invO o = R) := ⟨_, rfl⟩
  rw [HR.out]
  have HR2 := HR.out
  unfold invO at HR2
  clear h
  obtain ⟨K, A, S, T⟩ := o
  simp only [OpV.val] at *
  obtain ⟨W, HW⟩ : ∃ W, Hid (W = (w.alloc (.cells #[.int .i64 K, .int .i64 A, .string S, .string T] 37)).alloc (.cells #[.int .i64 0, .int .i64 0, .string ⟨#[]⟩, .string ⟨#[]⟩] 37)) := ⟨_, rfl⟩
  have hp : CopyAt w W K A S T := by
    rw [HW.out]
    refine ⟨(RowV.four_new w _ _ _ _ _).below ((Below.refl _ _).alloc (Nat.le_refl _) _) (by simp), ?_, ((Below.refl _ _).alloc (Nat.le_refl _) _).alloc (by simp) _, by simp⟩
    have := RowV.four_new (w.alloc (.cells #[.int .i64 K, .int .i64 A, .string S, .string T] 37)) (.int .i64 0) (.int .i64 0) (.string ⟨#[]⟩) (.string ⟨#[]⟩) 37
    simpa using this
  go_enter Try.func11, Try.ntmps11
  go_wp2_with fail
  rw [← HW.out]
  clear HW
  refine (HC.out _).mono ?_
  rintro e w1 ⟨rfl, b1⟩
  have h1 := hp.below b1
  clear hp b1 HC
  obtain ⟨e0, e1, e2, e3⟩ := h1.own.cells4
  obtain ⟨f0, f1, f2, f3⟩ := h1.own.open4
  obtain ⟨y0, y1, y2, y3⟩ := h1.res.cells4
  obtain ⟨g0, g1, g2, g3⟩ := h1.res.open4
  have h2 := h1.put K A S T
  have hz2 : w.heap.size + 1 < w1.heap.size := h1.lt
  by_cases k1 : K = 1
  · subst k1
    rw [if_pos rfl] at HR2
    subst HR2
    clear HR
    go_wp2
    have hr := h2.res.put4 (.int .i64 1) (.int .i64 0) (.string ⟨#[]⟩) (.string ⟨#[]⟩)
    have br := below_set4 h2.bel (b := w.heap.size + 1) (by omega) (.int .i64 1) (.int .i64 0) (.string ⟨#[]⟩) (.string ⟨#[]⟩)
    obtain ⟨WX, HWX⟩ : ∃ WX, Hid (WX = store4 (store4 w1 w.heap.size (.int .i64 1) (.int .i64 A) (.string S) (.string T)) (w.heap.size + 1) (.int .i64 1) (.int .i64 0) (.string ⟨#[]⟩) (.string ⟨#[]⟩)) := ⟨_, rfl⟩
    rw [← HWX.out] at hr br
    obtain ⟨r0, r1, r2, r3⟩ := hr.cells4
    show bodyPost _ _ _ _ _ (store4 (store4 w1 w.heap.size (.int .i64 1) (.int .i64 A) (.string S) (.string T)) (w.heap.size + 1) (.int .i64 1) (.int .i64 0) (.string ⟨#[]⟩) (.string ⟨#[]⟩))
    rw [← HWX.out]
    refine bodyPost_ret (v := .agg #[.int .i64 1, .int .i64 0, .string ⟨#[]⟩, .string ⟨#[]⟩]) (by simp [results, Try.results11, go_sem, r0, r1, r2, r3]) rfl ?_
    exact ⟨rfl, br⟩
  by_cases k2 : K = 2
  · subst k2
    simp at HR2
    subst HR2
    clear HR k1
    go_wp2
    have hr := h2.res.put4 (.int .i64 3) (.int .i64 A) (.string ⟨#[]⟩) (.string S)
    have br := below_set4 h2.bel (b := w.heap.size + 1) (by omega) (.int .i64 3) (.int .i64 A) (.string ⟨#[]⟩) (.string S)
    obtain ⟨WX, HWX⟩ : ∃ WX, Hid (WX = store4 (store4 w1 w.heap.size (.int .i64 2) (.int .i64 A) (.string S) (.string T)) (w.heap.size + 1) (.int .i64 3) (.int .i64 A) (.string ⟨#[]⟩) (.string S)) := ⟨_, rfl⟩
    rw [← HWX.out] at hr br
    obtain ⟨r0, r1, r2, r3⟩ := hr.cells4
    show bodyPost _ _ _ _ _ (store4 (store4 w1 w.heap.size (.int .i64 2) (.int .i64 A) (.string S) (.string T)) (w.heap.size + 1) (.int .i64 3) (.int .i64 A) (.string ⟨#[]⟩) (.string S))
    rw [← HWX.out]
    refine bodyPost_ret (v := .agg #[.int .i64 3, .int .i64 A, .string ⟨#[]⟩, .string S]) (by simp [results, Try.results11, go_sem, r0, r1, r2, r3]) rfl ?_
    exact ⟨rfl, br⟩
  by_cases k3 : K = 3
  · subst k3
    simp at HR2
    subst HR2
    clear HR k1 k2
    go_wp2
    have hr := h2.res.put4 (.int .i64 2) (.int .i64 A) (.string T) (.string ⟨#[]⟩)
    have br := below_set4 h2.bel (b := w.heap.size + 1) (by omega) (.int .i64 2) (.int .i64 A) (.string T) (.string ⟨#[]⟩)
    obtain ⟨WX, HWX⟩ : ∃ WX, Hid (WX = store4 (store4 w1 w.heap.size (.int .i64 3) (.int .i64 A) (.string S) (.string T)) (w.heap.size + 1) (.int .i64 2) (.int .i64 A) (.string T) (.string ⟨#[]⟩)) := ⟨_, rfl⟩
    rw [← HWX.out] at hr br
    obtain ⟨r0, r1, r2, r3⟩ := hr.cells4
    show bodyPost _ _ _ _ _ (store4 (store4 w1 w.heap.size (.int .i64 3) (.int .i64 A) (.string S) (.string T)) (w.heap.size + 1) (.int .i64 2) (.int .i64 A) (.string T) (.string ⟨#[]⟩))
    rw [← HWX.out]
    refine bodyPost_ret (v := .agg #[.int .i64 2, .int .i64 A, .string T, .string ⟨#[]⟩]) (by simp [results, Try.results11, go_sem, r0, r1, r2, r3]) rfl ?_
    exact ⟨rfl, br⟩
  rw [if_neg k1, if_neg k2, if_neg k3] at HR2
  by_cases k4 : 4 ≤ K ∧ K ≤ 7
  · rw [if_pos k4] at HR2
    subst HR2
    clear HR
    have hk : K = 4 ∨ K = 5 ∨ K = 6 ∨ K = 7 := by omega
    have j1 : (K == 1) = false := by rw [beq_eq_false_iff_ne]; exact k1
    have j2 : (K == 2) = false := by rw [beq_eq_false_iff_ne]; exact k2
    have j3 : (K == 3) = false := by rw [beq_eq_false_iff_ne]; exact k3
    rcases hk with hk | hk | hk | hk
    · have j4 : (K == 4) = true := by rw [beq_iff_eq]; exact hk
      clear hk
      have h3 := (h2.own.set2_4 (.string T)).set3_4 (.string S)
      have h3r := (h2.res.set_other (b' := w.heap.size) (k := 2) (by omega) (.string T)).set_other (b' := w.heap.size) (k := 3) (by omega) (.string S)
      have h3b := (h2.bel.setCell (p := ⟨w.heap.size, 2, none⟩) (Nat.le_refl _) (.string T)).setCell (p := ⟨w.heap.size, 3, none⟩) (Nat.le_refl _) (.string S)
      unfold store4 at h3 h3r h3b
      have hr := h3r.put4 (.int .i64 K) (.int .i64 A) (.string T) (.string S)
      have br := below_set4 h3b (b := w.heap.size + 1) (by omega) (.int .i64 K) (.int .i64 A) (.string T) (.string S)
      obtain ⟨WX, HWX⟩ : ∃ WX, Hid (WX = store4 ((((((w1.setCell ⟨w.heap.size, 0, none⟩ (.int .i64 K)).setCell ⟨w.heap.size, 1, none⟩ (.int .i64 A)).setCell ⟨w.heap.size, 2, none⟩ (.string S)).setCell ⟨w.heap.size, 3, none⟩ (.string T)).setCell ⟨w.heap.size, 2, none⟩ (.string T)).setCell ⟨w.heap.size, 3, none⟩ (.string S)) (w.heap.size + 1) (.int .i64 K) (.int .i64 A) (.string T) (.string S)) := ⟨_, rfl⟩
      rw [← HWX.out] at hr br
      clear h1 h2 k1 k2 k3 k4
      obtain ⟨x0, x1, x2, x3⟩ := h3.cells4
      obtain ⟨u0, u1, u2, u3⟩ := h3r.cells4
      obtain ⟨v0, v1, v2, v3⟩ := h3r.open4
      clear h3 h3r h3b
      obtain ⟨r0, r1, r2, r3⟩ := hr.cells4
      clear hr
      go_wp2_with fail
      show bodyPost _ _ _ _ _ (store4 ((((((w1.setCell ⟨w.heap.size, 0, none⟩ (.int .i64 K)).setCell ⟨w.heap.size, 1, none⟩ (.int .i64 A)).setCell ⟨w.heap.size, 2, none⟩ (.string S)).setCell ⟨w.heap.size, 3, none⟩ (.string T)).setCell ⟨w.heap.size, 2, none⟩ (.string T)).setCell ⟨w.heap.size, 3, none⟩ (.string S)) (w.heap.size + 1) (.int .i64 K) (.int .i64 A) (.string T) (.string S))
      rw [← HWX.out]
      refine bodyPost_ret (v := .agg #[.int .i64 K, .int .i64 A, .string T, .string S]) (by simp [results, Try.results11, go_sem, r0, r1, r2, r3]) rfl ?_
      exact ⟨rfl, br⟩
    · have j4 : (K == 4) = false := by rw [beq_eq_false_iff_ne]; omega
      have j5 : (K == 5) = true := by rw [beq_iff_eq]; exact hk
      clear hk
      have h3 := (h2.own.set2_4 (.string T)).set3_4 (.string S)
      have h3r := (h2.res.set_other (b' := w.heap.size) (k := 2) (by omega) (.string T)).set_other (b' := w.heap.size) (k := 3) (by omega) (.string S)
      have h3b := (h2.bel.setCell (p := ⟨w.heap.size, 2, none⟩) (Nat.le_refl _) (.string T)).setCell (p := ⟨w.heap.size, 3, none⟩) (Nat.le_refl _) (.string S)
      unfold store4 at h3 h3r h3b
      have hr := h3r.put4 (.int .i64 K) (.int .i64 A) (.string T) (.string S)
      have br := below_set4 h3b (b := w.heap.size + 1) (by omega) (.int .i64 K) (.int .i64 A) (.string T) (.string S)
      obtain ⟨WX, HWX⟩ : ∃ WX, Hid (WX = store4 ((((((w1.setCell ⟨w.heap.size, 0, none⟩ (.int .i64 K)).setCell ⟨w.heap.size, 1, none⟩ (.int .i64 A)).setCell ⟨w.heap.size, 2, none⟩ (.string S)).setCell ⟨w.heap.size, 3, none⟩ (.string T)).setCell ⟨w.heap.size, 2, none⟩ (.string T)).setCell ⟨w.heap.size, 3, none⟩ (.string S)) (w.heap.size + 1) (.int .i64 K) (.int .i64 A) (.string T) (.string S)) := ⟨_, rfl⟩
      rw [← HWX.out] at hr br
      clear h1 h2 k1 k2 k3 k4
      obtain ⟨x0, x1, x2, x3⟩ := h3.cells4
      obtain ⟨u0, u1, u2, u3⟩ := h3r.cells4
      obtain ⟨v0, v1, v2, v3⟩ := h3r.open4
      clear h3 h3r h3b
      obtain ⟨r0, r1, r2, r3⟩ := hr.cells4
      clear hr
      go_wp2_with fail
      show bodyPost _ _ _ _ _ (store4 ((((((w1.setCell ⟨w.heap.size, 0, none⟩ (.int .i64 K)).setCell ⟨w.heap.size, 1, none⟩ (.int .i64 A)).setCell ⟨w.heap.size, 2, none⟩ (.string S)).setCell ⟨w.heap.size, 3, none⟩ (.string T)).setCell ⟨w.heap.size, 2, none⟩ (.string T)).setCell ⟨w.heap.size, 3, none⟩ (.string S)) (w.heap.size + 1) (.int .i64 K) (.int .i64 A) (.string T) (.string S))
      rw [← HWX.out]
      refine bodyPost_ret (v := .agg #[.int .i64 K, .int .i64 A, .string T, .string S]) (by simp [results, Try.results11, go_sem, r0, r1, r2, r3]) rfl ?_
      exact ⟨rfl, br⟩
    · have j4 : (K == 4) = false := by rw [beq_eq_false_iff_ne]; omega
      have j5 : (K == 5) = false := by rw [beq_eq_false_iff_ne]; omega
      have j6 : (K == 6) = true := by rw [beq_iff_eq]; exact hk
      clear hk
      have h3 := (h2.own.set2_4 (.string T)).set3_4 (.string S)
      have h3r := (h2.res.set_other (b' := w.heap.size) (k := 2) (by omega) (.string T)).set_other (b' := w.heap.size) (k := 3) (by omega) (.string S)
      have h3b := (h2.bel.setCell (p := ⟨w.heap.size, 2, none⟩) (Nat.le_refl _) (.string T)).setCell (p := ⟨w.heap.size, 3, none⟩) (Nat.le_refl _) (.string S)
      unfold store4 at h3 h3r h3b
      have hr := h3r.put4 (.int .i64 K) (.int .i64 A) (.string T) (.string S)
      have br := below_set4 h3b (b := w.heap.size + 1) (by omega) (.int .i64 K) (.int .i64 A) (.string T) (.string S)
      obtain ⟨WX, HWX⟩ : ∃ WX, Hid (WX = store4 ((((((w1.setCell ⟨w.heap.size, 0, none⟩ (.int .i64 K)).setCell ⟨w.heap.size, 1, none⟩ (.int .i64 A)).setCell ⟨w.heap.size, 2, none⟩ (.string S)).setCell ⟨w.heap.size, 3, none⟩ (.string T)).setCell ⟨w.heap.size, 2, none⟩ (.string T)).setCell ⟨w.heap.size, 3, none⟩ (.string S)) (w.heap.size + 1) (.int .i64 K) (.int .i64 A) (.string T) (.string S)) := ⟨_, rfl⟩
      rw [← HWX.out] at hr br
      clear h1 h2 k1 k2 k3 k4
      obtain ⟨x0, x1, x2, x3⟩ := h3.cells4
      obtain ⟨u0, u1, u2, u3⟩ := h3r.cells4
      obtain ⟨v0, v1, v2, v3⟩ := h3r.open4
      clear h3 h3r h3b
      obtain ⟨r0, r1, r2, r3⟩ := hr.cells4
      clear hr
      go_wp2_with fail
      show bodyPost _ _ _ _ _ (store4 ((((((w1.setCell ⟨w.heap.size, 0, none⟩ (.int .i64 K)).setCell ⟨w.heap.size, 1, none⟩ (.int .i64 A)).setCell ⟨w.heap.size, 2, none⟩ (.string S)).setCell ⟨w.heap.size, 3, none⟩ (.string T)).setCell ⟨w.heap.size, 2, none⟩ (.string T)).setCell ⟨w.heap.size, 3, none⟩ (.string S)) (w.heap.size + 1) (.int .i64 K) (.int .i64 A) (.string T) (.string S))
      rw [← HWX.out]
      refine bodyPost_ret (v := .agg #[.int .i64 K, .int .i64 A, .string T, .string S]) (by simp [results, Try.results11, go_sem, r0, r1, r2, r3]) rfl ?_
      exact ⟨rfl, br⟩
    · have j4 : (K == 4) = false := by rw [beq_eq_false_iff_ne]; omega
      have j5 : (K == 5) = false := by rw [beq_eq_false_iff_ne]; omega
      have j6 : (K == 6) = false := by rw [beq_eq_false_iff_ne]; omega
      have j7 : (K == 7) = true := by rw [beq_iff_eq]; exact hk
      clear hk
      have h3 := (h2.own.set2_4 (.string T)).set3_4 (.string S)
      have h3r := (h2.res.set_other (b' := w.heap.size) (k := 2) (by omega) (.string T)).set_other (b' := w.heap.size) (k := 3) (by omega) (.string S)
      have h3b := (h2.bel.setCell (p := ⟨w.heap.size, 2, none⟩) (Nat.le_refl _) (.string T)).setCell (p := ⟨w.heap.size, 3, none⟩) (Nat.le_refl _) (.string S)
      unfold store4 at h3 h3r h3b
      have hr := h3r.put4 (.int .i64 K) (.int .i64 A) (.string T) (.string S)
      have br := below_set4 h3b (b := w.heap.size + 1) (by omega) (.int .i64 K) (.int .i64 A) (.string T) (.string S)
      obtain ⟨WX, HWX⟩ : ∃ WX, Hid (WX = store4 ((((((w1.setCell ⟨w.heap.size, 0, none⟩ (.int .i64 K)).setCell ⟨w.heap.size, 1, none⟩ (.int .i64 A)).setCell ⟨w.heap.size, 2, none⟩ (.string S)).setCell ⟨w.heap.size, 3, none⟩ (.string T)).setCell ⟨w.heap.size, 2, none⟩ (.string T)).setCell ⟨w.heap.size, 3, none⟩ (.string S)) (w.heap.size + 1) (.int .i64 K) (.int .i64 A) (.string T) (.string S)) := ⟨_, rfl⟩
      rw [← HWX.out] at hr br
      clear h1 h2 k1 k2 k3 k4
      obtain ⟨x0, x1, x2, x3⟩ := h3.cells4
      obtain ⟨u0, u1, u2, u3⟩ := h3r.cells4
      obtain ⟨v0, v1, v2, v3⟩ := h3r.open4
      clear h3 h3r h3b
      obtain ⟨r0, r1, r2, r3⟩ := hr.cells4
      clear hr
      go_wp2_with fail
      show bodyPost _ _ _ _ _ (store4 ((((((w1.setCell ⟨w.heap.size, 0, none⟩ (.int .i64 K)).setCell ⟨w.heap.size, 1, none⟩ (.int .i64 A)).setCell ⟨w.heap.size, 2, none⟩ (.string S)).setCell ⟨w.heap.size, 3, none⟩ (.string T)).setCell ⟨w.heap.size, 2, none⟩ (.string T)).setCell ⟨w.heap.size, 3, none⟩ (.string S)) (w.heap.size + 1) (.int .i64 K) (.int .i64 A) (.string T) (.string S))
      rw [← HWX.out]
      refine bodyPost_ret (v := .agg #[.int .i64 K, .int .i64 A, .string T, .string S]) (by simp [results, Try.results11, go_sem, r0, r1, r2, r3]) rfl ?_
      exact ⟨rfl, br⟩
  · rw [if_neg k4] at HR2
    subst HR2
    clear HR
    have j1 : (K == 1) = false := by rw [beq_eq_false_iff_ne]; exact k1
    have j2 : (K == 2) = false := by rw [beq_eq_false_iff_ne]; exact k2
    have j3 : (K == 3) = false := by rw [beq_eq_false_iff_ne]; exact k3
    have j4 : (K == 4) = false := by rw [beq_eq_false_iff_ne]; omega
    have j5 : (K == 5) = false := by rw [beq_eq_false_iff_ne]; omega
    have j6 : (K == 6) = false := by rw [beq_eq_false_iff_ne]; omega
    have j7 : (K == 7) = false := by rw [beq_eq_false_iff_ne]; omega
    go_wp2
    have hr := h2.res.put4 (.int .i64 K) (.int .i64 A) (.string S) (.string T)
    have br := below_set4 h2.bel (b := w.heap.size + 1) (by omega) (.int .i64 K) (.int .i64 A) (.string S) (.string T)
    obtain ⟨WX, HWX⟩ : ∃ WX, Hid (WX = store4 (store4 w1 w.heap.size (.int .i64 K) (.int .i64 A) (.string S) (.string T)) (w.heap.size + 1) (.int .i64 K) (.int .i64 A) (.string S) (.string T)) := ⟨_, rfl⟩
    rw [← HWX.out] at hr br
    obtain ⟨r0, r1, r2, r3⟩ := hr.cells4
    show bodyPost _ _ _ _ _ (store4 (store4 w1 w.heap.size (.int .i64 K) (.int .i64 A) (.string S) (.string T)) (w.heap.size + 1) (.int .i64 K) (.int .i64 A) (.string S) (.string T))
    rw [← HWX.out]
    refine bodyPost_ret (v := .agg #[.int .i64 K, .int .i64 A, .string S, .string T]) (by simp [results, Try.results11, go_sem, r0, r1, r2, r3]) rfl ?_
    exact ⟨rfl, br⟩

end Go.Proofs.Ytpggeejolajmgaa
