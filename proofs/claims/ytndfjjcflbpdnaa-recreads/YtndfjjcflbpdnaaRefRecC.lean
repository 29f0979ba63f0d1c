/-
  The walks of girderref04.tx, girderref03.Check, girderref04.change, bare.
-/
import Derived.Test.YtndfjjcflbpdnaaRecCheckC
namespace Go.Proofs.Ytndfjjcflbpdnaa
open Go.RowKit Go.Sort
set_option linter.unusedVariables false
set_option linter.unusedSimpArgs false

theorem empty_size_eq (s : ByteArray) : s.toList.isEmpty = decide (s.size = 0) := by
  rw [Lib.toList_data]
  have h : s.data.toList.length = s.size := by simp
  cases hl : s.data.toList with
  | nil => rw [hl] at h; simp [← h]
  | cons a l => rw [hl] at h; simp [← h]

theorem ba_empty_eq (s : ByteArray) : (s = ByteArray.empty) = (s.size = 0) := by
  apply propext
  constructor
  · intro h; rw [h]; rfl
  · intro h
    apply ByteArray.ext
    apply Array.eq_empty_of_size_eq_zero
    exact h

theorem tl_nil_eq (s : ByteArray) : (s.toList = []) = (s.size = 0) := by
  have h := empty_size_eq s
  apply propext
  cases hl : s.toList with
  | nil => rw [hl] at h; simpa using h
  | cons a l => rw [hl] at h; simpa using h

theorem ret_bool {a b : Bool} (h : a = b) : Ending.returned (.bool a) = .returned (.bool b) := by rw [h]

/-- May a number be a transaction's? -/
def txB (n : Int) : Bool := decide (0 ≤ n ∧ n ≤ 2147483647)

set_option maxHeartbeats 400000 in
set_option maxRecDepth 60000 in
theorem rtx_any (n : Int) (w : World) : Calls Try.prog 31 #[.int .i64 n] w fun e w' => e = .returned (.bool (txB n)) ∧ w' = w := by
  obtain ⟨R, HR⟩ : ∃ R, Hid (txB n = R) := ⟨_, rfl⟩
  rw [HR.out]
  by_cases h1 : 0 ≤ n
  · by_cases h2 : n ≤ 2147483647
    · have d : decide (n < 2147483648) = true := by simp; omega
      have hR : R = true := by rw [← HR.out]; simp [txB, h1, h2]
      subst hR
      go_enter Try.func31, Try.ntmps31
      go_wp2
      go_ret
      exact ⟨rfl, rfl⟩
    · have d : decide (n < 2147483648) = false := by simp; omega
      have hR : R = false := by rw [← HR.out]; simp [txB, h2]
      subst hR
      go_enter Try.func31, Try.ntmps31
      go_wp2
      go_ret
      exact ⟨rfl, rfl⟩
  · have hR : R = false := by rw [← HR.out]; simp [txB, h1]
    subst hR
    go_enter Try.func31, Try.ntmps31
    go_wp2
    go_ret
    exact ⟨rfl, rfl⟩

set_option maxHeartbeats 1600000 in
set_option maxRecDepth 60000 in
theorem rchk_any (o : OpV) (w : World) (h : o.Ok) : Calls Try.prog 58 #[o.val] w fun e w' => e = .returned (.bool (chkB o)) ∧ Below w.heap.size w w' := by
  have hS := h.S
  have hO := h.old
  clear h
  obtain ⟨R, HR⟩ : ∃ R, Hid (chkB o = R) := ⟨_, rfl⟩
  rw [HR.out]
  obtain ⟨K, A, S, T⟩ := o
  simp only at hS hO
  unfold OpV.val
  have eS := empty_size_eq S
  have eT := empty_size_eq T
  have HK : Hid (R = (decide (S.size ≤ 512) && decide (T.size ≤ 512) && mayB ⟨K, A, S, T⟩)) := by rw [← HR.out]; rfl
  clear HR
  unfold mayB at HK
  simp only at HK
  by_cases k1 : K = 1
  · have HL : Hid (R = (decide (S.size ≤ 512) && decide (T.size ≤ 512) && (decide (0 ≤ A ∧ A ≤ 255) && decide (S.size ≤ 32) && decide (T.size = 0)))) := by rw [HK.out, k1]; rfl
    clear HK
    subst k1
    go_enter Try.func58, Try.ntmps58
    go_wp2
    all_goals
      go_ret
      refine ⟨ret_bool ?_, (Below.refl _ _).alloc (Nat.le_refl _) _⟩
      rw [HL.out, Bool.eq_iff_iff]
      simp only [empty_size_eq, ba_empty_eq, Bool.and_eq_true, decide_eq_true_eq, Bool.false_eq_true, bne_iff_ne, beq_iff_eq, ne_eq, Bool.not_eq_true', decide_eq_false_iff_not]
      constructor <;> intro hh <;> first | exact hh.elim | omega
  by_cases k2 : K = 2
  · have HL : Hid (R = (decide (S.size ≤ 512) && decide (T.size ≤ 512) && (decide (0 ≤ A ∧ A ≤ 63) && decide (T.size = 0)))) := by rw [HK.out, k2]; rfl
    clear HK
    subst k2
    go_enter Try.func58, Try.ntmps58
    go_wp2
    all_goals
      go_ret
      refine ⟨ret_bool ?_, (Below.refl _ _).alloc (Nat.le_refl _) _⟩
      rw [HL.out, Bool.eq_iff_iff]
      simp only [empty_size_eq, ba_empty_eq, Bool.and_eq_true, decide_eq_true_eq, Bool.false_eq_true, bne_iff_ne, beq_iff_eq, ne_eq, Bool.not_eq_true', decide_eq_false_iff_not]
      constructor <;> intro hh <;> first | exact hh.elim | omega
  by_cases k3 : K = 3
  · have HL : Hid (R = (decide (S.size ≤ 512) && decide (T.size ≤ 512) && (decide (0 ≤ A ∧ A ≤ 63) && decide (S.size = 0)))) := by rw [HK.out, k3]; rfl
    clear HK
    subst k3
    go_enter Try.func58, Try.ntmps58
    go_wp2
    all_goals
      go_ret
      refine ⟨ret_bool ?_, (Below.refl _ _).alloc (Nat.le_refl _) _⟩
      rw [HL.out, Bool.eq_iff_iff]
      simp only [empty_size_eq, ba_empty_eq, Bool.and_eq_true, decide_eq_true_eq, Bool.false_eq_true, bne_iff_ne, beq_iff_eq, ne_eq, Bool.not_eq_true', decide_eq_false_iff_not]
      constructor <;> intro hh <;> first | exact hh.elim | omega
  by_cases k4 : K = 4
  · have HL : Hid (R = (decide (S.size ≤ 512) && decide (T.size ≤ 512) && decide (0 ≤ A ∧ A ≤ 63))) := by rw [HK.out, k4]; rfl
    clear HK
    subst k4
    go_enter Try.func58, Try.ntmps58
    go_wp2
    all_goals
      go_ret
      refine ⟨ret_bool ?_, (Below.refl _ _).alloc (Nat.le_refl _) _⟩
      rw [HL.out, Bool.eq_iff_iff]
      simp only [empty_size_eq, ba_empty_eq, Bool.and_eq_true, decide_eq_true_eq, Bool.false_eq_true, bne_iff_ne, beq_iff_eq, ne_eq, Bool.not_eq_true', decide_eq_false_iff_not]
      constructor <;> intro hh <;> first | exact hh.elim | omega
  by_cases k5 : K = 5
  · have HL : Hid (R = (decide (S.size ≤ 512) && decide (T.size ≤ 512) && (decide (A = 0) && decide (S.size ≤ 32) && decide (T.size ≤ 32)))) := by rw [HK.out, k5]; rfl
    clear HK
    subst k5
    go_enter Try.func58, Try.ntmps58
    go_wp2
    all_goals
      go_ret
      refine ⟨ret_bool ?_, (Below.refl _ _).alloc (Nat.le_refl _) _⟩
      rw [HL.out, Bool.eq_iff_iff]
      simp only [empty_size_eq, ba_empty_eq, Bool.and_eq_true, decide_eq_true_eq, Bool.false_eq_true, bne_iff_ne, beq_iff_eq, ne_eq, Bool.not_eq_true', decide_eq_false_iff_not]
      constructor <;> intro hh <;> first | exact hh.elim | omega
  by_cases k6 : K = 6
  · have HL : Hid (R = (decide (S.size ≤ 512) && decide (T.size ≤ 512) && (decide (0 ≤ A ∧ A ≤ 511) && decide (S.size = T.size) && decide (0 < S.size)))) := by rw [HK.out, k6]; rfl
    clear HK
    subst k6
    go_enter Try.func58, Try.ntmps58
    go_wp2
    all_goals
      go_ret
      refine ⟨ret_bool ?_, (Below.refl _ _).alloc (Nat.le_refl _) _⟩
      rw [HL.out, Bool.eq_iff_iff]
      simp only [empty_size_eq, ba_empty_eq, Bool.and_eq_true, decide_eq_true_eq, Bool.false_eq_true, bne_iff_ne, beq_iff_eq, ne_eq, Bool.not_eq_true', decide_eq_false_iff_not]
      constructor <;> intro hh <;> first | exact hh.elim | omega
  by_cases k7 : K = 7
  · have HL : Hid (R = (decide (S.size ≤ 512) && decide (T.size ≤ 512) && (decide (A = 0) && decide (1 ≤ S.size ∧ S.size ≤ 33) && decide (1 ≤ T.size ∧ T.size ≤ 33)))) := by rw [HK.out, k7]; rfl
    clear HK
    subst k7
    go_enter Try.func58, Try.ntmps58
    go_wp2
    all_goals
      go_ret
      refine ⟨ret_bool ?_, (Below.refl _ _).alloc (Nat.le_refl _) _⟩
      rw [HL.out, Bool.eq_iff_iff]
      simp only [empty_size_eq, ba_empty_eq, Bool.and_eq_true, decide_eq_true_eq, Bool.false_eq_true, bne_iff_ne, beq_iff_eq, ne_eq, Bool.not_eq_true', decide_eq_false_iff_not]
      constructor <;> intro hh <;> first | exact hh.elim | omega
  · have HL : Hid (R = false) := by show _ = _; rw [HK.out, if_neg k1, if_neg k2, if_neg k3, if_neg k4, if_neg k5, if_neg k6, if_neg k7, Bool.and_false]
    clear HK
    have j1 : (K == 1) = false := by rw [beq_eq_false_iff_ne]; exact k1
    have j2 : (K == 2) = false := by rw [beq_eq_false_iff_ne]; exact k2
    have j3 : (K == 3) = false := by rw [beq_eq_false_iff_ne]; exact k3
    have j4 : (K == 4) = false := by rw [beq_eq_false_iff_ne]; exact k4
    have j5 : (K == 5) = false := by rw [beq_eq_false_iff_ne]; exact k5
    have j6 : (K == 6) = false := by rw [beq_eq_false_iff_ne]; exact k6
    have j7 : (K == 7) = false := by rw [beq_eq_false_iff_ne]; exact k7
    clear k1 k2 k3 k4 k5 k6 k7
    go_enter Try.func58, Try.ntmps58
    go_wp2
    all_goals
      go_ret
      exact ⟨ret_bool HL.out.symm, (Below.refl _ _).alloc (Nat.le_refl _) _⟩

end Go.Proofs.Ytndfjjcflbpdnaa
