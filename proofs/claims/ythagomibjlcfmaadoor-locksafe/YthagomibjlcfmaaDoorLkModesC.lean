/-
  The tables of layer 8 in memory, and the walks of lock.Mode, modeOrNone, Compatible, Join; of the document's Mode, Together, Covers, Join, and of girderlaw08.join.
-/
import Derived.Test.YthagomibjlcfmaaDoorProg
import Derived.WalkKit
import Derived.WalkSpells
import Derived.WalkLawsBesides
import Derived.Deep.OwnRows
import Derived.Deep.QuietTactic
import Derived.BigQuiet
namespace Go.Proofs.YthagomibjlcfmaaDoor
open Go.RowKit
set_option linter.unusedVariables false
set_option linter.unusedSimpArgs false

/-- Is it a mode? -/
def modB (m : Int) : Bool := decide (1 ≤ m) && decide (m ≤ 5)

/-- Do two modes get on? -/
def togB (a b : Int) : Bool :=
  (decide (a = 1) && (decide (1 ≤ b) && decide (b ≤ 4))) || (decide (a = 2) && (decide (b = 1) || decide (b = 2))) || (decide (a = 3) && (decide (b = 1) || decide (b = 3))) || (decide (a = 4) && decide (b = 1))

/-- Does a mode (or 0) cover another one (or 0)? -/
def covB (a b : Int) : Bool :=
  decide (b = 0) || (decide (1 ≤ a) && decide (a = b)) || (decide (a = 5)) || (decide (a = 4) && decide (b ≠ 5)) || ((decide (a = 3) || decide (a = 2)) && decide (b = 1))

/-- The join of two, of 0 to 5 each. -/
def joinF (a b : Int) : Int :=
  if !(decide (a = 0) || modB a) || !(decide (b = 0) || modB b) then 0 else
  if covB 0 a && covB 0 b then 0 else if covB 1 a && covB 1 b then 1 else if covB 2 a && covB 2 b then 2 else if covB 3 a && covB 3 b then 3 else if covB 4 a && covB 4 b then 4 else 5

/-- The two tables lie in their blocks. -/
structure LkLaid (w : World) : Prop where
  lt : 2 ≤ w.heap.size
  on : ∀ a b : Nat, a < 6 → b < 6 → w.cell? ⟨0, a * 6 + b, none⟩ = some (.bool (togB a b))
  cov : ∀ a b : Nat, a < 6 → b < 6 → w.cell? ⟨1, a * 6 + b, none⟩ = some (.bool (covB a b))

theorem LkLaid.same {w w' : World} (h : LkLaid w) (hs : w.heap.size ≤ w'.heap.size) (h0 : w'.heap[0]? = w.heap[0]?) (h1 : w'.heap[1]? = w.heap[1]?) : LkLaid w' :=
  ⟨Nat.le_trans h.lt hs, fun a b ha hb => (World.cell?_of_block (w := w) (a := ⟨0, a * 6 + b, none⟩) h0).trans (h.on a b ha hb), fun a b ha hb => (World.cell?_of_block (w := w) (a := ⟨1, a * 6 + b, none⟩) h1).trans (h.cov a b ha hb)⟩

theorem LkLaid.below {w w' : World} {B : Nat} (h : LkLaid w) (hB : 2 ≤ B) (k : Below B w w') : LkLaid w' := h.same k.size (k.block 0 (by omega)) (k.block 1 (by omega))

set_option maxHeartbeats 400000 in
set_option maxRecDepth 60000 in
theorem mode_any (m : Int) (w : World) : Calls Tryd.prog 25 #[.int .i64 m] w fun e w' => e = .returned (.bool (modB m)) ∧ w' = w := by
  unfold modB
  go_enter Tryd.func25, Tryd.ntmps25
  go_wp2
  all_goals
    go_ret
    simp_all
    try omega

set_option maxHeartbeats 400000 in
set_option maxRecDepth 60000 in
theorem orNone_any (m : Int) (w : World) : Calls Tryd.prog 50 #[.int .i64 m] w fun e w' => e = .returned (.bool (decide (m = 0) || modB m)) ∧ w' = w := by
  have hm := mode_any m w
  by_cases h0 : m = 0
  · subst h0
    go_enter Tryd.func50, Tryd.ntmps50
    go_wp2
    go_ret
    simp
  · have : (m == 0) = false := by simpa using h0
    generalize modB m = R at *
    go_enter Tryd.func50, Tryd.ntmps50
    go_wp2_with fail
    refine hm.mono ?_
    rintro e w' ⟨rfl, rfl⟩
    go_wp2
    go_ret
    simp [h0]

set_option maxHeartbeats 1600000 in
set_option maxRecDepth 60000 in
theorem compat_any (a b : Int) (w : World) (h : LkLaid w) : Calls Tryd.prog 15 #[.int .i64 a, .int .i64 b] w fun e w' => e = .returned (.bool (modB a && modB b && togB a b)) ∧ w' = w := by
  have hm := mode_any a
  have hn := mode_any b
  cases ha : modB a with
  | false =>
    rw [ha] at hm
    go_enter Tryd.func15, Tryd.ntmps15
    go_wp2_with fail
    refine (hm _).mono ?_
    rintro e w' ⟨rfl, rfl⟩
    go_wp2
    go_ret
    simp
  | true =>
    rw [ha] at hm
    cases hb : modB b with
    | false =>
      rw [hb] at hn
      go_enter Tryd.func15, Tryd.ntmps15
      go_wp2_with fail
      refine (hm _).mono ?_
      rintro e w' ⟨rfl, rfl⟩
      go_wp2_with fail
      refine (hn _).mono ?_
      rintro e w' ⟨rfl, rfl⟩
      go_wp2
      go_ret
      simp
    | true =>
      rw [hb] at hn
      unfold modB at ha hb
      simp only [Bool.and_eq_true, decide_eq_true_eq] at ha hb
      obtain ⟨x, rfl⟩ : ∃ x : Nat, a = x := ⟨a.toNat, by omega⟩
      obtain ⟨y, rfl⟩ : ∃ y : Nat, b = y := ⟨b.toNat, by omega⟩
      have hc := h.on x y (by omega) (by omega)
      generalize togB x y = R at *
      have hx0 : (0 : Int) ≤ x := by omega
      have hx1 : (x : Int) < 6 := by omega
      have hy0 : (0 : Int) ≤ y := by omega
      have hy1 : (y : Int) < 6 := by omega
      go_enter Tryd.func15, Tryd.ntmps15
      go_wp2_with fail
      refine (hm _).mono ?_
      rintro e w' ⟨rfl, rfl⟩
      go_wp2_with fail
      refine (hn _).mono ?_
      rintro e w' ⟨rfl, rfl⟩
      go_wp2
      go_ret
      simp

/-- What Join's loop has left behind it. -/
def joinNo (a b : Int) (k : Nat) : Prop := ∀ j : Nat, j < k → (covB j a && covB j b) = false

theorem joinNo_end {a b : Int} {k : Nat} (ha : (decide (a = 0) || modB a) = true) (hb : (decide (b = 0) || modB b) = true) (hk : k ≤ 5) (h : joinNo a b k) (hc : (covB k a && covB k b) = true) : joinF a b = k := by
  unfold joinF
  rw [ha, hb]
  have h0 : 0 < k → (covB 0 a && covB 0 b) = false := h 0
  have h1 : 1 < k → (covB 1 a && covB 1 b) = false := h 1
  have h2 : 2 < k → (covB 2 a && covB 2 b) = false := h 2
  have h3 : 3 < k → (covB 3 a && covB 3 b) = false := h 3
  have h4 : 4 < k → (covB 4 a && covB 4 b) = false := h 4
  clear h
  obtain rfl | rfl | rfl | rfl | rfl | rfl : k = 0 ∨ k = 1 ∨ k = 2 ∨ k = 3 ∨ k = 4 ∨ k = 5 := by omega
  · change (covB 0 a && covB 0 b) = true at hc
    simp only [hc, Bool.not_true, Bool.or_self, Bool.false_eq_true, if_false, if_true, ite_true, ite_false, hc]
    rfl
  · change (covB 1 a && covB 1 b) = true at hc
    simp only [h0 (by decide), Bool.not_true, Bool.or_self, Bool.false_eq_true, if_false, if_true, ite_true, ite_false, hc]
    rfl
  · change (covB 2 a && covB 2 b) = true at hc
    simp only [h0 (by decide), h1 (by decide), Bool.not_true, Bool.or_self, Bool.false_eq_true, if_false, if_true, ite_true, ite_false, hc]
    rfl
  · change (covB 3 a && covB 3 b) = true at hc
    simp only [h0 (by decide), h1 (by decide), h2 (by decide), Bool.not_true, Bool.or_self, Bool.false_eq_true, if_false, if_true, ite_true, ite_false, hc]
    rfl
  · change (covB 4 a && covB 4 b) = true at hc
    simp only [h0 (by decide), h1 (by decide), h2 (by decide), h3 (by decide), Bool.not_true, Bool.or_self, Bool.false_eq_true, if_false, if_true, ite_true, ite_false, hc]
    rfl
  · change (covB 5 a && covB 5 b) = true at hc
    simp only [h0 (by decide), h1 (by decide), h2 (by decide), h3 (by decide), h4 (by decide), Bool.not_true, Bool.or_self, Bool.false_eq_true, if_false, if_true, ite_true, ite_false, hc]
    rfl

set_option maxHeartbeats 1600000 in
set_option maxRecDepth 60000 in
theorem join_any (a b : Int) (w : World) (h : LkLaid w) : Calls Tryd.prog 26 #[.int .i64 a, .int .i64 b] w fun e w' => e = .returned (.int .i64 (joinF a b)) ∧ w' = w := by
  have hm := orNone_any a
  have hn := orNone_any b
  have HE : Hid (∀ k : Nat, k ≤ 5 → (decide (a = 0) || modB a) = true → (decide (b = 0) || modB b) = true → joinNo a b k → (covB k a && covB k b) = true → joinF a b = k) := fun k hk ha hb h1 h2 => joinNo_end ha hb hk h1 h2
  obtain ⟨R, HR⟩ : ∃ R, Hid (joinF a b = R) := ⟨_, rfl⟩
  rw [HR.out]
  rw [HR.out] at HE
  unfold joinF at HR
  cases ha : (decide (a = 0) || modB a) with
  | false =>
    rw [ha] at hm HR
    obtain rfl : R = 0 := by rw [← HR.out]; rfl
    go_enter Tryd.func26, Tryd.ntmps26
    go_wp2_with fail
    refine (hm _).mono ?_
    rintro e w' ⟨rfl, rfl⟩
    go_wp2
    go_ret
    exact ⟨rfl, rfl⟩
  | true =>
    rw [ha] at hm HR HE
    cases hb : (decide (b = 0) || modB b) with
    | false =>
      rw [hb] at hn HR
      obtain rfl : R = 0 := by rw [← HR.out]; rfl
      go_enter Tryd.func26, Tryd.ntmps26
      go_wp2_with fail
      refine (hm _).mono ?_
      rintro e w' ⟨rfl, rfl⟩
      go_wp2_with fail
      refine (hn _).mono ?_
      rintro e w' ⟨rfl, rfl⟩
      go_wp2
      go_ret
      exact ⟨rfl, rfl⟩
    | true =>
      rw [hb] at hn HR HE
      clear HR
      unfold modB at ha hb
      simp only [Bool.and_eq_true, Bool.or_eq_true, decide_eq_true_eq] at ha hb
      obtain ⟨x, rfl⟩ : ∃ x : Nat, a = x := ⟨a.toNat, by omega⟩
      obtain ⟨y, rfl⟩ : ∃ y : Nat, b = y := ⟨b.toNat, by omega⟩
      have hx0 : (0 : Int) ≤ x := by omega
      have hx1 : (x : Int) < 6 := by omega
      have hy0 : (0 : Int) ≤ y := by omega
      have hy1 : (y : Int) < 6 := by omega
      clear ha hb
      have H5 : Hid ((covB 5 x && covB 5 y) = true) := by simp [Hid, covB]
      go_enter Tryd.func26, Tryd.ntmps26
      go_wp2_with fail
      refine (hm _).mono ?_
      rintro e w' ⟨rfl, rfl⟩
      go_wp2_with fail
      refine (hn _).mono ?_
      rintro e w' ⟨rfl, rfl⟩
      go_wp2_with fail
      go_loopw [5] (fun m wr => ∃ k : Nat, k ≤ 5 ∧ m = .int .i64 k ∧ wr = w' ∧ Hid (joinNo x y k)) (fun m _ => 6 - (intOf m).toNat)
      case atStart => exact ⟨0, by omega, rfl, rfl, fun j hj => by omega⟩
      case round =>
        obtain ⟨k, hk, rfl, rfl, HN⟩ := hrel
        have c1 := h.cov k x (by omega) (by omega)
        have c2 := h.cov k y (by omega) (by omega)
        have hk0 : (0 : Int) ≤ k := by omega
        have hk1 : (k : Int) < 6 := by omega
        cases e1 : (covB k x && covB k y) with
        | true =>
          have HR' : Hid (R = k) := HE.out k hk trivial trivial HN.out e1
          simp only [Bool.and_eq_true] at e1
          rw [e1.1] at c1
          rw [e1.2] at c2
          clear e1
          go_wp2
          go_ret
          rw [HR'.out]
          exact ⟨rfl, rfl⟩
        | false =>
          have hlt : k < 5 := by
            rcases Nat.lt_or_ge k 5 with hh | hh
            · exact hh
            · obtain rfl : k = 5 := by omega
              rw [show (((5 : Nat) : Int)) = 5 from rfl, H5.out] at e1
              cases e1
          have HN' : Hid (joinNo x y (k + 1)) := fun j hj => by
            rcases Nat.lt_or_ge j k with hh | hh
            · exact HN.out j hh
            · obtain rfl : j = k := by omega
              exact e1
          have hk' : (k : Int) < 5 := by omega
          simp only [Bool.and_eq_false_iff] at e1
          cases e2 : covB k x with
          | false =>
            rw [e2] at c1
            clear e1 e2
            go_wp2
            go_roundw
            case rel => exact ⟨k + 1, by omega, by go_num, by first | rfl | trivial, HN'⟩
            case measure => simp [intOf]; omega
          | true =>
            rw [e2] at c1 e1
            have e3 : covB k y = false := by simpa using e1
            rw [e3] at c2
            clear e1 e2 e3
            go_wp2
            go_roundw
            case rel => exact ⟨k + 1, by omega, by go_num, by first | rfl | trivial, HN'⟩
            case measure => simp [intOf]; omega

set_option maxHeartbeats 400000 in
set_option maxRecDepth 60000 in
theorem rmode_any (m : Int) (w : World) : Calls Tryd.prog 58 #[.int .i64 m] w fun e w' => e = .returned (.bool (modB m)) ∧ w' = w := by
  unfold modB
  go_enter Tryd.func58, Tryd.ntmps58
  go_wp2
  all_goals
    go_ret
    simp_all
    try omega

set_option maxHeartbeats 1600000 in
set_option maxRecDepth 60000 in
theorem rcov_any (a b : Int) (w : World) (ha : 1 ≤ a) (ha' : a ≤ 5) (hb : 1 ≤ b) (hb' : b ≤ 5) : Calls Tryd.prog 80 #[.int .i64 a, .int .i64 b] w fun e w' => e = .returned (.bool (covB a b)) ∧ w' = w := by
  obtain rfl | rfl | rfl | rfl | rfl : a = 1 ∨ a = 2 ∨ a = 3 ∨ a = 4 ∨ a = 5 := by omega
  all_goals
    obtain rfl | rfl | rfl | rfl | rfl : b = 1 ∨ b = 2 ∨ b = 3 ∨ b = 4 ∨ b = 5 := by omega
  all_goals
    go_enter Tryd.func80, Tryd.ntmps80
    go_wp2
    go_ret
    exact ⟨rfl, rfl⟩

end Go.Proofs.YthagomibjlcfmaaDoor
