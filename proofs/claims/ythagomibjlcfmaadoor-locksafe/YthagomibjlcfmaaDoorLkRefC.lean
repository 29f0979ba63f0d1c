/-
  The walks of the document's Together and Join, and of girderlaw08.join.
-/
import Derived.Test.YthagomibjlcfmaaDoorLkModesC
namespace Go.Proofs.YthagomibjlcfmaaDoor
open Go.RowKit
set_option linter.unusedVariables false
set_option linter.unusedSimpArgs false

set_option maxHeartbeats 3200000 in
set_option maxRecDepth 60000 in
theorem rtog_le (a b : Int) (w : World) (ha : 1 ≤ a) (hb' : b ≤ 5) (hab : a ≤ b) : Calls Tryd.prog 61 #[.int .i64 a, .int .i64 b] w fun e w' => e = .returned (.bool (togB a b)) ∧ w' = w := by
  have hm := rmode_any a
  have hn := rmode_any b
  have ea : modB a = true := by unfold modB; simp; omega
  have eb : modB b = true := by unfold modB; simp; omega
  rw [ea] at hm
  rw [eb] at hn
  clear ea eb
  obtain rfl | rfl | rfl | rfl | rfl : a = 1 ∨ a = 2 ∨ a = 3 ∨ a = 4 ∨ a = 5 := by omega
  all_goals
    obtain rfl | rfl | rfl | rfl | rfl : b = 1 ∨ b = 2 ∨ b = 3 ∨ b = 4 ∨ b = 5 := by omega
  all_goals first
    | (exfalso; omega)
    | (go_enter Tryd.func61, Tryd.ntmps61
       go_wp2_with fail
       refine (hm _).mono ?_
       rintro e w' ⟨rfl, rfl⟩
       go_wp2_with fail
       refine (hn _).mono ?_
       rintro e w' ⟨rfl, rfl⟩
       go_wp2
       go_ret
       exact ⟨rfl, rfl⟩)

theorem togB_comm (a b : Int) : togB a b = togB b a := by
  unfold togB
  rw [Bool.eq_iff_iff]
  simp only [Bool.or_eq_true, Bool.and_eq_true, decide_eq_true_eq]
  omega

set_option maxHeartbeats 3200000 in
set_option maxRecDepth 60000 in
theorem rtog_any (a b : Int) (w : World) : Calls Tryd.prog 61 #[.int .i64 a, .int .i64 b] w fun e w' => e = .returned (.bool (modB a && modB b && togB a b)) ∧ w' = w := by
  have hm := rmode_any a
  have hn := rmode_any b
  cases ha : modB a with
  | false =>
    rw [ha] at hm
    go_enter Tryd.func61, Tryd.ntmps61
    go_wp2_with fail
    refine (hm _).mono ?_
    rintro e w' ⟨rfl, rfl⟩
    go_wp2
    go_ret
    simp
  | true =>
    cases hb : modB b with
    | false =>
      rw [ha] at hm
      rw [hb] at hn
      go_enter Tryd.func61, Tryd.ntmps61
      go_wp2_with fail
      refine (hm _).mono ?_
      rintro e w' ⟨rfl, rfl⟩
      go_wp2_with fail
      refine (hn _).mono ?_
      rintro e w' ⟨rfl, rfl⟩
      go_wp2
      go_ret
      simp
    | true =>
      have ha' := ha
      have hb' := hb
      unfold modB at ha' hb'
      simp only [Bool.and_eq_true, decide_eq_true_eq] at ha' hb'
      by_cases hab : a ≤ b
      · refine (rtog_le a b w ha'.1 hb'.2 hab).mono ?_
        rintro e w' ⟨rfl, rfl⟩
        simp
      · have hr := fun wx => rtog_le b a wx hb'.1 ha'.2 (by omega)
        rw [← togB_comm a b] at hr
        generalize togB a b = R at *
        have hlt : b < a := by omega
        rw [ha] at hm
        rw [hb] at hn
        clear ha hb
        go_enter Tryd.func61, Tryd.ntmps61
        go_wp2_with fail
        refine (hm _).mono ?_
        rintro e w' ⟨rfl, rfl⟩
        go_wp2_with fail
        refine (hn _).mono ?_
        rintro e w' ⟨rfl, rfl⟩
        go_wp2_with fail
        refine (hr _).mono ?_
        rintro e w' ⟨rfl, rfl⟩
        go_wp2
        go_ret
        simp

theorem joinF_zero (b : Int) (hb : (decide (b = 0) || modB b) = true) : joinF 0 b = b ∧ joinF b 0 = b := by
  unfold modB at hb
  simp only [Bool.or_eq_true, Bool.and_eq_true, decide_eq_true_eq] at hb
  obtain rfl | rfl | rfl | rfl | rfl | rfl : b = 0 ∨ b = 1 ∨ b = 2 ∨ b = 3 ∨ b = 4 ∨ b = 5 := by omega
  all_goals exact ⟨rfl, rfl⟩

set_option maxHeartbeats 3200000 in
set_option maxRecDepth 60000 in
theorem rjoin_any (a b : Int) (w : World) (ha : (decide (a = 0) || modB a) = true) (hb : (decide (b = 0) || modB b) = true) : Calls Tryd.prog 59 #[.int .i64 a, .int .i64 b] w fun e w' => e = .returned (.int .i64 (joinF a b)) ∧ w' = w := by
  have HE : Hid (∀ k : Nat, k ≤ 5 → joinNo a b k → (covB k a && covB k b) = true → joinF a b = k) := fun k hk h1 h2 => joinNo_end ha hb hk h1 h2
  have hz := joinF_zero
  have hm := rmode_any a
  have hn := rmode_any b
  by_cases h0 : a = 0
  · subst h0
    rw [(hz b hb).1]
    clear HE hm hn hz
    unfold modB at hb
    simp only [Bool.or_eq_true, Bool.and_eq_true, decide_eq_true_eq] at hb
    obtain rfl | rfl | rfl | rfl | rfl | rfl : b = 0 ∨ b = 1 ∨ b = 2 ∨ b = 3 ∨ b = 4 ∨ b = 5 := by omega
    all_goals
      go_enter Tryd.func59, Tryd.ntmps59
      go_wp2
      go_ret
      exact ⟨rfl, rfl⟩
  by_cases h1 : b = 0
  · subst h1
    rw [(hz a ha).2]
    clear HE hm hn hz
    unfold modB at ha
    simp only [Bool.or_eq_true, Bool.and_eq_true, decide_eq_true_eq] at ha
    obtain rfl | rfl | rfl | rfl | rfl : a = 1 ∨ a = 2 ∨ a = 3 ∨ a = 4 ∨ a = 5 := by omega
    all_goals
      go_enter Tryd.func59, Tryd.ntmps59
      go_wp2
      go_ret
      exact ⟨rfl, rfl⟩
  clear hz
  have ma : modB a = true := by simpa [h0] using ha
  have mb : modB b = true := by simpa [h1] using hb
  rw [ma] at hm
  rw [mb] at hn
  unfold modB at ma mb
  simp only [Bool.and_eq_true, decide_eq_true_eq] at ma mb
  have h0' : (a == 0) = false := by simpa using h0
  have h1' : (b == 0) = false := by simpa using h1
  have HC : Hid (∀ k x : Int, 1 ≤ k → k ≤ 5 → 1 ≤ x → x ≤ 5 → ∀ wx, Calls Tryd.prog 80 #[.int .i64 k, .int .i64 x] wx fun e w' => e = .returned (.bool (covB k x)) ∧ w' = wx) := fun k x c1 c2 c3 c4 wx => rcov_any k x wx c1 c2 c3 c4
  have H5 : Hid ((covB 5 a && covB 5 b) = true) := by simp [Hid, covB]
  have HS : Hid (joinNo a b 1) := fun j hj => by
    obtain rfl : j = 0 := by omega
    have : covB 0 a = false := by unfold covB; simp; omega
    show (covB 0 a && covB 0 b) = false
    rw [this]; rfl
  clear ha hb
  obtain ⟨R, HR⟩ : ∃ R, Hid (joinF a b = R) := ⟨_, rfl⟩
  rw [HR.out] at HE ⊢
  clear HR
  go_enter Tryd.func59, Tryd.ntmps59
  go_wp2_with fail
  refine (hm _).mono ?_
  rintro e w' ⟨rfl, rfl⟩
  go_wp2_with fail
  refine (hn _).mono ?_
  rintro e w' ⟨rfl, rfl⟩
  clear hm hn
  go_wp2_with fail
  go_loopw [5] (fun m wr => ∃ k : Nat, 1 ≤ k ∧ k ≤ 5 ∧ m = .int .i64 k ∧ wr = w' ∧ Hid (joinNo a b k)) (fun m _ => 6 - (intOf m).toNat)
  case atStart => exact ⟨1, by omega, by omega, rfl, rfl, HS⟩
  case round =>
    obtain ⟨k, hk0, hk, rfl, rfl, HN⟩ := hrel
    have c1 := HC.out k a (by omega) (by omega) ma.1 ma.2
    have c2 := HC.out k b (by omega) (by omega) mb.1 mb.2
    have hk1 : (k : Int) ≤ 5 := by omega
    cases e1 : (covB k a && covB k b) with
    | true =>
      have HR' : Hid (R = k) := HE.out k hk HN.out e1
      simp only [Bool.and_eq_true] at e1
      rw [e1.1] at c1
      rw [e1.2] at c2
      clear e1
      go_wp2_with fail
      refine (c1 _).mono ?_
      rintro e w' ⟨rfl, rfl⟩
      go_wp2_with fail
      refine (c2 _).mono ?_
      rintro e w' ⟨rfl, rfl⟩
      go_wp2
      go_ret
      rw [HR'.out]
      exact ⟨rfl, rfl⟩
    | false =>
      have hlt : k < 5 := by
        rcases Nat.lt_or_ge k 5 with hh | hh
        · exact hh
        · obtain rfl : k = 5 := by omega
          rw [show (((5 : Nat) : Int)) = 5 from rfl, H5.out] at e1
          cases e1
      have HN' : Hid (joinNo a b (k + 1)) := fun j hj => by
        rcases Nat.lt_or_ge j k with hh | hh
        · exact HN.out j hh
        · obtain rfl : j = k := by omega
          exact e1
      have hk' : (k : Int) < 5 := by omega
      simp only [Bool.and_eq_false_iff] at e1
      cases e2 : covB k a with
      | false =>
        rw [e2] at c1
        clear e1 e2
        go_wp2_with fail
        refine (c1 _).mono ?_
        rintro e w' ⟨rfl, rfl⟩
        go_wp2
        go_roundw
        case rel => exact ⟨k + 1, by omega, by omega, by go_num, by first | rfl | trivial, HN'⟩
        case measure => simp [intOf]; omega
      | true =>
        rw [e2] at c1 e1
        have e3 : covB k b = false := by simpa using e1
        rw [e3] at c2
        clear e1 e2 e3
        go_wp2_with fail
        refine (c1 _).mono ?_
        rintro e w' ⟨rfl, rfl⟩
        go_wp2_with fail
        refine (c2 _).mono ?_
        rintro e w' ⟨rfl, rfl⟩
        go_wp2
        go_roundw
        case rel => exact ⟨k + 1, by omega, by omega, by go_num, by first | rfl | trivial, HN'⟩
        case measure => simp [intOf]; omega

theorem joinF_no {a b : Int} (h : (decide (a = 0) || modB a) = false ∨ (decide (b = 0) || modB b) = false) : joinF a b = 0 := by
  unfold joinF
  rcases h with h | h <;> simp [h]



end Go.Proofs.YthagomibjlcfmaaDoor
