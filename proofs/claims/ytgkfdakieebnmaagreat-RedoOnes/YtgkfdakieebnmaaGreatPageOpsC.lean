/-
  Changes as plain data; the walks of page.within, page.mayBe, page.Check.
-/
import Derived.Test.YtgkfdakieebnmaaGreatShEqualJ
set_option linter.unusedVariables false
set_option linter.unusedSimpArgs false
namespace Go.Proofs.YtgkfdakieebnmaaGreat
open Go.RowKit Go.Sort

structure OpV where
  kind : Int
  at' : Int
  S : ByteArray
  old : ByteArray

def OpV.val (o : OpV) : Value := .agg #[.int .i64 o.kind, .int .i64 o.at', .string o.S, .string o.old]

structure OpV.Ok (o : OpV) : Prop where
  kind : -9223372036854775808 ≤ o.kind ∧ o.kind ≤ 9223372036854775807
  at' : -9223372036854775808 ≤ o.at' ∧ o.at' ≤ 9223372036854775807
  S : o.S.size ≤ 140737488351232
  old : o.old.size ≤ 140737488351232

set_option maxHeartbeats 400000 in
set_option maxRecDepth 60000 in
theorem within_yes (n lo hi : Int) (w : World) (h : lo ≤ n ∧ n ≤ hi) :
    Calls Tryz.prog 165 #[.int .i64 n, .int .i64 lo, .int .i64 hi] w fun e w' => e = .returned (.bool true) ∧ w' = w := by
  obtain ⟨h1, h2⟩ := h
  go_enter Tryz.func165, Tryz.ntmps165
  go_wp2
  go_ret
  exact ⟨rfl, rfl⟩

set_option maxHeartbeats 400000 in
set_option maxRecDepth 60000 in
theorem within_no (n lo hi : Int) (w : World) (h : ¬ (lo ≤ n ∧ n ≤ hi)) :
    Calls Tryz.prog 165 #[.int .i64 n, .int .i64 lo, .int .i64 hi] w fun e w' => e = .returned (.bool false) ∧ w' = w := by
  by_cases h1 : lo ≤ n
  · have h2 : ¬ n ≤ hi := fun q => h ⟨h1, q⟩
    go_enter Tryz.func165, Tryz.ntmps165
    go_wp2
    go_ret
    exact ⟨rfl, rfl⟩
  · go_enter Tryz.func165, Tryz.ntmps165
    go_wp2
    go_ret
    exact ⟨rfl, rfl⟩

def mayP (o : OpV) : Prop :=
  if o.kind = 1 then (0 ≤ o.at' ∧ o.at' ≤ 255) ∧ o.S.size ≤ 32 ∧ o.old.size = 0 else
  if o.kind = 2 then (0 ≤ o.at' ∧ o.at' ≤ 63) ∧ o.old.size = 0 else
  if o.kind = 3 then (0 ≤ o.at' ∧ o.at' ≤ 63) ∧ o.S.size = 0 else
  if o.kind = 4 then (0 ≤ o.at' ∧ o.at' ≤ 63) else
  if o.kind = 5 then o.at' = 0 ∧ o.S.size ≤ 32 ∧ o.old.size ≤ 32 else
  if o.kind = 6 then (0 ≤ o.at' ∧ o.at' ≤ 511) ∧ o.S.size = o.old.size ∧ 0 < o.S.size else
  if o.kind = 7 then o.at' = 0 ∧ (1 ≤ o.S.size ∧ o.S.size ≤ 33) ∧ (1 ≤ o.old.size ∧ o.old.size ≤ 33) else False

def mayB (o : OpV) : Bool :=
  if o.kind = 1 then decide ((0 ≤ o.at' ∧ o.at' ≤ 255)) && decide (o.S.size ≤ 32) && decide (o.old.size = 0) else
  if o.kind = 2 then decide ((0 ≤ o.at' ∧ o.at' ≤ 63)) && decide (o.old.size = 0) else
  if o.kind = 3 then decide ((0 ≤ o.at' ∧ o.at' ≤ 63)) && decide (o.S.size = 0) else
  if o.kind = 4 then decide ((0 ≤ o.at' ∧ o.at' ≤ 63)) else
  if o.kind = 5 then decide (o.at' = 0) && decide (o.S.size ≤ 32) && decide (o.old.size ≤ 32) else
  if o.kind = 6 then decide ((0 ≤ o.at' ∧ o.at' ≤ 511)) && decide (o.S.size = o.old.size) && decide (0 < o.S.size) else
  if o.kind = 7 then decide (o.at' = 0) && decide ((1 ≤ o.S.size ∧ o.S.size ≤ 33)) && decide ((1 ≤ o.old.size ∧ o.old.size ≤ 33)) else false

theorem mayB_iff (o : OpV) : mayB o = true ↔ mayP o := by
  unfold mayB mayP
  by_cases k1 : o.kind = 1
  · simp only [k1, if_true]; simp [and_assoc]
  by_cases k2 : o.kind = 2
  · simp [k2]
  by_cases k3 : o.kind = 3
  · simp [k3]
  by_cases k4 : o.kind = 4
  · simp [k4]
  by_cases k5 : o.kind = 5
  · simp [k5, and_assoc]
  by_cases k6 : o.kind = 6
  · simp [k6, and_assoc]
  by_cases k7 : o.kind = 7
  · simp [k7, and_assoc]
  simp [k1, k2, k3, k4, k5, k6, k7]

set_option maxHeartbeats 1600000 in
set_option maxRecDepth 60000 in
theorem mayBe_any (o : OpV) (w : World) (h : o.Ok) :
    Calls Tryz.prog 114 #[o.val] w fun e w' => e = .returned (.bool (mayB o)) ∧ Below w.heap.size w w' := by
  have hS := h.S
  have hT := h.old
  have HM : Hid (mayB o = mayB o) := rfl
  obtain ⟨R, HR⟩ : ∃ R, Hid (mayB o = R) := ⟨_, rfl⟩
  rw [HR.out]
  have HR2 := HR.out
  unfold mayB at HR2
  obtain ⟨K, A, S, T⟩ := o
  simp only [OpV.val] at *
  by_cases k1 : K = 1
  · subst k1
    have HX : Hid (R = (decide ((0 ≤ A ∧ A ≤ 255)) && decide (S.size ≤ 32) && decide (T.size = 0))) := by show _ = _; rw [← HR2]; simp
    clear HR HR2 HM
    by_cases c0 : (0 ≤ A ∧ A ≤ 255)
    all_goals by_cases c1 : S.size ≤ 32
    all_goals by_cases c2 : T.size = 0
    all_goals
      have HV : Hid (R = decide (((0 ≤ A ∧ A ≤ 255)) ∧ (S.size ≤ 32) ∧ (T.size = 0))) := by show _ = _; rw [HX.out]; simp [Bool.and_assoc]
      clear HX
      go_enter Tryz.func114, Tryz.ntmps114
      go_wp2_with fail
      go_quiet (fail)
      go_wp2_with (first | (go_at_call 165; refine (within_yes _ _ _ _ (by omega)).mono ?_; rintro e w1 ⟨rfl, rfl⟩) | (go_at_call 165; refine (within_no _ _ _ _ (by omega)).mono ?_; rintro e w1 ⟨rfl, rfl⟩))
      go_ret
      refine ⟨?_, below_drewN ((Below.refl _ _).alloc (Nat.le_refl _) _) nq⟩
      rw [HV.out]
      first | rfl | (simp_all; done) | (simp_all; omega)
  by_cases k2 : K = 2
  · subst k2
    have HX : Hid (R = (decide ((0 ≤ A ∧ A ≤ 63)) && decide (T.size = 0))) := by show _ = _; rw [← HR2]; simp
    clear HR HR2 HM
    by_cases c0 : (0 ≤ A ∧ A ≤ 63)
    all_goals by_cases c1 : T.size = 0
    all_goals
      have HV : Hid (R = decide (((0 ≤ A ∧ A ≤ 63)) ∧ (T.size = 0))) := by show _ = _; rw [HX.out]; simp [Bool.and_assoc]
      clear HX
      go_enter Tryz.func114, Tryz.ntmps114
      go_wp2_with fail
      go_quiet (fail)
      go_wp2_with (first | (go_at_call 165; refine (within_yes _ _ _ _ (by omega)).mono ?_; rintro e w1 ⟨rfl, rfl⟩) | (go_at_call 165; refine (within_no _ _ _ _ (by omega)).mono ?_; rintro e w1 ⟨rfl, rfl⟩))
      go_ret
      refine ⟨?_, below_drewN ((Below.refl _ _).alloc (Nat.le_refl _) _) nq⟩
      rw [HV.out]
      first | rfl | (simp_all; done) | (simp_all; omega)
  by_cases k3 : K = 3
  · subst k3
    have HX : Hid (R = (decide ((0 ≤ A ∧ A ≤ 63)) && decide (S.size = 0))) := by show _ = _; rw [← HR2]; simp
    clear HR HR2 HM
    by_cases c0 : (0 ≤ A ∧ A ≤ 63)
    all_goals by_cases c1 : S.size = 0
    all_goals
      have HV : Hid (R = decide (((0 ≤ A ∧ A ≤ 63)) ∧ (S.size = 0))) := by show _ = _; rw [HX.out]; simp [Bool.and_assoc]
      clear HX
      go_enter Tryz.func114, Tryz.ntmps114
      go_wp2_with fail
      go_quiet (fail)
      go_wp2_with (first | (go_at_call 165; refine (within_yes _ _ _ _ (by omega)).mono ?_; rintro e w1 ⟨rfl, rfl⟩) | (go_at_call 165; refine (within_no _ _ _ _ (by omega)).mono ?_; rintro e w1 ⟨rfl, rfl⟩))
      go_ret
      refine ⟨?_, below_drewN ((Below.refl _ _).alloc (Nat.le_refl _) _) nq⟩
      rw [HV.out]
      first | rfl | (simp_all; done) | (simp_all; omega)
  by_cases k4 : K = 4
  · subst k4
    have HX : Hid (R = (decide ((0 ≤ A ∧ A ≤ 63)))) := by show _ = _; rw [← HR2]; simp
    clear HR HR2 HM
    by_cases c0 : (0 ≤ A ∧ A ≤ 63)
    all_goals
      have HV : Hid (R = decide (((0 ≤ A ∧ A ≤ 63)))) := by show _ = _; rw [HX.out]
      clear HX
      go_enter Tryz.func114, Tryz.ntmps114
      go_wp2_with fail
      go_quiet (fail)
      go_wp2_with (first | (go_at_call 165; refine (within_yes _ _ _ _ (by omega)).mono ?_; rintro e w1 ⟨rfl, rfl⟩) | (go_at_call 165; refine (within_no _ _ _ _ (by omega)).mono ?_; rintro e w1 ⟨rfl, rfl⟩))
      go_ret
      refine ⟨?_, below_drewN ((Below.refl _ _).alloc (Nat.le_refl _) _) nq⟩
      rw [HV.out]
      first | rfl | (simp_all; done) | (simp_all; omega)
  by_cases k5 : K = 5
  · subst k5
    have HX : Hid (R = (decide (A = 0) && decide (S.size ≤ 32) && decide (T.size ≤ 32))) := by show _ = _; rw [← HR2]; simp
    clear HR HR2 HM
    by_cases c0 : A = 0
    all_goals by_cases c1 : S.size ≤ 32
    all_goals by_cases c2 : T.size ≤ 32
    all_goals
      have HV : Hid (R = decide ((A = 0) ∧ (S.size ≤ 32) ∧ (T.size ≤ 32))) := by show _ = _; rw [HX.out]; simp [Bool.and_assoc]
      clear HX
      go_enter Tryz.func114, Tryz.ntmps114
      go_wp2_with fail
      go_quiet (fail)
      go_wp2_with (first | (go_at_call 165; refine (within_yes _ _ _ _ (by omega)).mono ?_; rintro e w1 ⟨rfl, rfl⟩) | (go_at_call 165; refine (within_no _ _ _ _ (by omega)).mono ?_; rintro e w1 ⟨rfl, rfl⟩))
      go_ret
      refine ⟨?_, below_drewN ((Below.refl _ _).alloc (Nat.le_refl _) _) nq⟩
      rw [HV.out]
      first | rfl | (simp_all; done) | (simp_all; omega)
  by_cases k6 : K = 6
  · subst k6
    have HX : Hid (R = (decide ((0 ≤ A ∧ A ≤ 511)) && decide (S.size = T.size) && decide (0 < S.size))) := by show _ = _; rw [← HR2]; simp
    clear HR HR2 HM
    by_cases c0 : (0 ≤ A ∧ A ≤ 511)
    all_goals by_cases c1 : S.size = T.size
    all_goals by_cases c2 : 0 < S.size
    all_goals
      have HV : Hid (R = decide (((0 ≤ A ∧ A ≤ 511)) ∧ (S.size = T.size) ∧ (0 < S.size))) := by show _ = _; rw [HX.out]; simp [Bool.and_assoc]
      clear HX
      go_enter Tryz.func114, Tryz.ntmps114
      go_wp2_with fail
      go_quiet (fail)
      go_wp2_with (first | (go_at_call 165; refine (within_yes _ _ _ _ (by omega)).mono ?_; rintro e w1 ⟨rfl, rfl⟩) | (go_at_call 165; refine (within_no _ _ _ _ (by omega)).mono ?_; rintro e w1 ⟨rfl, rfl⟩))
      go_ret
      refine ⟨?_, below_drewN ((Below.refl _ _).alloc (Nat.le_refl _) _) nq⟩
      rw [HV.out]
      first | rfl | (simp_all; done) | (simp_all; omega)
  by_cases k7 : K = 7
  · subst k7
    have HX : Hid (R = (decide (A = 0) && decide ((1 ≤ S.size ∧ S.size ≤ 33)) && decide ((1 ≤ T.size ∧ T.size ≤ 33)))) := by show _ = _; rw [← HR2]; simp
    clear HR HR2 HM
    by_cases c0 : A = 0
    all_goals by_cases c1 : (1 ≤ S.size ∧ S.size ≤ 33)
    all_goals by_cases c2 : (1 ≤ T.size ∧ T.size ≤ 33)
    all_goals
      have HV : Hid (R = decide ((A = 0) ∧ ((1 ≤ S.size ∧ S.size ≤ 33)) ∧ ((1 ≤ T.size ∧ T.size ≤ 33)))) := by show _ = _; rw [HX.out]; simp [Bool.and_assoc]
      clear HX
      go_enter Tryz.func114, Tryz.ntmps114
      go_wp2_with fail
      go_quiet (fail)
      go_wp2_with (first | (go_at_call 165; refine (within_yes _ _ _ _ (by omega)).mono ?_; rintro e w1 ⟨rfl, rfl⟩) | (go_at_call 165; refine (within_no _ _ _ _ (by omega)).mono ?_; rintro e w1 ⟨rfl, rfl⟩))
      go_ret
      refine ⟨?_, below_drewN ((Below.refl _ _).alloc (Nat.le_refl _) _) nq⟩
      rw [HV.out]
      first | rfl | (simp_all; done) | (simp_all; omega)
  have HX : Hid (R = false) := by show _ = _; rw [← HR2]; simp [k1, k2, k3, k4, k5, k6, k7]
  have HV := HX.out
  clear HR HR2 HM HX
  have j1 : (K == 1) = false := by rw [beq_eq_false_iff_ne]; exact k1
  have j2 : (K == 2) = false := by rw [beq_eq_false_iff_ne]; exact k2
  have j3 : (K == 3) = false := by rw [beq_eq_false_iff_ne]; exact k3
  have j4 : (K == 4) = false := by rw [beq_eq_false_iff_ne]; exact k4
  have j5 : (K == 5) = false := by rw [beq_eq_false_iff_ne]; exact k5
  have j6 : (K == 6) = false := by rw [beq_eq_false_iff_ne]; exact k6
  have j7 : (K == 7) = false := by rw [beq_eq_false_iff_ne]; exact k7
  go_enter Tryz.func114, Tryz.ntmps114
  go_wp2_with fail
  go_quiet (fail)
  go_wp2
  go_ret
  exact ⟨by rw [HV]; rfl, below_drewN ((Below.refl _ _).alloc (Nat.le_refl _) _) nq⟩

def chkB (o : OpV) : Bool := decide (o.S.size ≤ 512) && decide (o.old.size ≤ 512) && mayB o
def chkE (o : OpV) : Int := if chkB o = true then 0 else 33

set_option maxHeartbeats 800000 in
set_option maxRecDepth 8000 in
theorem check_any (o : OpV) (w : World) (h : o.Ok) :
    Calls Tryz.prog 52 #[o.val] w fun e w' => e = .returned (.int .i64 (chkE o)) ∧ Below w.heap.size w w' := by
  have hS := h.S
  have hT := h.old
  have HMB : Hid (∀ wx, Calls Tryz.prog 114 #[o.val] wx fun e w' => e = .returned (.bool (mayB o)) ∧ Below wx.heap.size wx w') := fun wx => mayBe_any o wx h
  have HE : Hid (chkE o = if (decide (o.S.size ≤ 512) && decide (o.old.size ≤ 512) && mayB o) = true then 0 else 33) := rfl
  generalize chkE o = E at *
  generalize mayB o = R at *
  clear h
  obtain ⟨K, A, S, T⟩ := o
  simp only [OpV.val] at *
  by_cases c0 : S.size ≤ 512
  · by_cases c1 : T.size ≤ 512
    · cases R
      · have HV : Hid (E = 33) := by show _ = _; rw [HE.out]; simp
        clear HE
        go_enter Tryz.func52, Tryz.ntmps52
        go_wp2_with fail
        refine (HMB.out _).mono ?_
        rintro e w1 ⟨rfl, b1⟩
        go_wp2
        go_ret
        exact ⟨by rw [HV.out]; rfl, below_chain ((Below.refl _ _).alloc (Nat.le_refl _) _) b1⟩
      · have HV : Hid (E = 0) := by show _ = _; rw [HE.out]; simp [c0, c1]
        clear HE
        go_enter Tryz.func52, Tryz.ntmps52
        go_wp2_with fail
        refine (HMB.out _).mono ?_
        rintro e w1 ⟨rfl, b1⟩
        go_wp2
        go_ret
        exact ⟨by rw [HV.out]; rfl, below_chain ((Below.refl _ _).alloc (Nat.le_refl _) _) b1⟩
    · have HV : Hid (E = 33) := by show _ = _; rw [HE.out]; simp [c1]
      clear HE
      go_enter Tryz.func52, Tryz.ntmps52
      go_wp2
      go_ret
      exact ⟨by rw [HV.out]; rfl, (Below.refl _ _).alloc (Nat.le_refl _) _⟩
  · have HV : Hid (E = 33) := by show _ = _; rw [HE.out]; simp [c0]
    clear HE
    go_enter Tryz.func52, Tryz.ntmps52
    go_wp2
    go_ret
    exact ⟨by rw [HV.out]; rfl, (Below.refl _ _).alloc (Nat.le_refl _) _⟩

end Go.Proofs.YtgkfdakieebnmaaGreat
