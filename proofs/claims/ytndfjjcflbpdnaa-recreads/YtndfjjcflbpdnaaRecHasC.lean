/-
  The walks of rec.within, rec.hasNext, rec.hasChange, rec.hasKey, rec.hasLists.
-/
import Derived.Test.YtndfjjcflbpdnaaRecValC
namespace Go.Proofs.Ytndfjjcflbpdnaa
open Go.RowKit Go.Sort
set_option linter.unusedVariables false

set_option maxHeartbeats 400000 in
set_option maxRecDepth 60000 in
theorem rwithin_yes (n lo hi : Int) (w : World) (h : lo ≤ n ∧ n ≤ hi) :
    Calls Try.prog 42 #[.int .i64 n, .int .i64 lo, .int .i64 hi] w fun e w' => e = .returned (.bool true) ∧ w' = w := by
  obtain ⟨h1, h2⟩ := h
  go_enter Try.func42, Try.ntmps42
  go_wp2
  go_ret
  exact ⟨rfl, rfl⟩

set_option maxHeartbeats 400000 in
set_option maxRecDepth 60000 in
theorem rwithin_no (n lo hi : Int) (w : World) (h : ¬ (lo ≤ n ∧ n ≤ hi)) :
    Calls Try.prog 42 #[.int .i64 n, .int .i64 lo, .int .i64 hi] w fun e w' => e = .returned (.bool false) ∧ w' = w := by
  by_cases h1 : lo ≤ n
  · have h2 : ¬ n ≤ hi := fun q => h ⟨h1, q⟩
    go_enter Try.func42, Try.ntmps42
    go_wp2
    go_ret
    exact ⟨rfl, rfl⟩
  · go_enter Try.func42, Try.ntmps42
    go_wp2
    go_ret
    exact ⟨rfl, rfl⟩

/-- Does a record's kind name where undoing goes on? A change? An entry? Lists? -/
def nextB (r : RecV) : Bool := decide (r.kind = 2 ∨ r.kind = 3)
def changeB (r : RecV) : Bool := decide (r.kind = 1 ∨ r.kind = 2)
def keyB (r : RecV) : Bool := decide ((r.kind = 1 ∨ r.kind = 2) ∧ r.undo = 2)
def listsB (r : RecV) : Bool := decide (r.kind = 8)

section
variable (r : RecV) (ta da : Option Addr) (tc dc : Nat) (w : World)

set_option maxHeartbeats 800000 in
set_option maxRecDepth 60000 in
theorem hasNext_any : Calls Try.prog 13 #[.agg (r.cells ta da tc dc)] w fun e w' => e = .returned (.bool (nextB r)) ∧ Below w.heap.size w w' := by
  obtain ⟨R, HR⟩ : ∃ R, Hid (nextB r = R) := ⟨_, rfl⟩
  rw [HR.out]
  unfold nextB at HR
  simp only [RecV.cells]
  generalize r.kind = K at *
  by_cases k1 : K = 2
  · have HR' : Hid (R = true) := by rw [← HR.out]; exact decide_eq_true (.inl k1)
    clear HR
    subst k1
    go_enter Try.func13, Try.ntmps13
    go_wp2
    go_ret
    exact ⟨by rw [HR'.out]; rfl, (Below.refl _ _).alloc (Nat.le_refl _) _⟩
  · have j1 : (K == 2) = false := by rw [beq_eq_false_iff_ne]; exact k1
    by_cases k2 : K = 3
    · have HR' : Hid (R = true) := by rw [← HR.out]; exact decide_eq_true (.inr k2)
      clear HR
      subst k2
      go_enter Try.func13, Try.ntmps13
      go_wp2
      go_ret
      exact ⟨by rw [HR'.out]; rfl, (Below.refl _ _).alloc (Nat.le_refl _) _⟩
    · have j2 : (K == 3) = false := by rw [beq_eq_false_iff_ne]; exact k2
      have HR' : Hid (R = false) := by rw [← HR.out]; exact decide_eq_false (by rintro (h | h) <;> contradiction)
      clear HR
      go_enter Try.func13, Try.ntmps13
      go_wp2
      go_ret
      exact ⟨by rw [HR'.out]; rfl, (Below.refl _ _).alloc (Nat.le_refl _) _⟩

set_option maxHeartbeats 800000 in
set_option maxRecDepth 60000 in
theorem hasChange_any : Calls Try.prog 14 #[.agg (r.cells ta da tc dc)] w fun e w' => e = .returned (.bool (changeB r)) ∧ Below w.heap.size w w' := by
  obtain ⟨R, HR⟩ : ∃ R, Hid (changeB r = R) := ⟨_, rfl⟩
  rw [HR.out]
  unfold changeB at HR
  simp only [RecV.cells]
  generalize r.kind = K at *
  by_cases k1 : K = 1
  · have HR' : Hid (R = true) := by rw [← HR.out]; exact decide_eq_true (.inl k1)
    clear HR
    subst k1
    go_enter Try.func14, Try.ntmps14
    go_wp2
    go_ret
    exact ⟨by rw [HR'.out]; rfl, (Below.refl _ _).alloc (Nat.le_refl _) _⟩
  · have j1 : (K == 1) = false := by rw [beq_eq_false_iff_ne]; exact k1
    by_cases k2 : K = 2
    · have HR' : Hid (R = true) := by rw [← HR.out]; exact decide_eq_true (.inr k2)
      clear HR
      subst k2
      go_enter Try.func14, Try.ntmps14
      go_wp2
      go_ret
      exact ⟨by rw [HR'.out]; rfl, (Below.refl _ _).alloc (Nat.le_refl _) _⟩
    · have j2 : (K == 2) = false := by rw [beq_eq_false_iff_ne]; exact k2
      have HR' : Hid (R = false) := by rw [← HR.out]; exact decide_eq_false (by rintro (h | h) <;> contradiction)
      clear HR
      go_enter Try.func14, Try.ntmps14
      go_wp2
      go_ret
      exact ⟨by rw [HR'.out]; rfl, (Below.refl _ _).alloc (Nat.le_refl _) _⟩

set_option maxHeartbeats 800000 in
set_option maxRecDepth 60000 in
theorem hasLists_any : Calls Try.prog 18 #[.agg (r.cells ta da tc dc)] w fun e w' => e = .returned (.bool (listsB r)) ∧ Below w.heap.size w w' := by
  obtain ⟨R, HR⟩ : ∃ R, Hid (listsB r = R) := ⟨_, rfl⟩
  rw [HR.out]
  unfold listsB at HR
  simp only [RecV.cells]
  generalize r.kind = K at *
  by_cases k1 : K = 8
  · have HR' : Hid (R = true) := by rw [← HR.out]; exact decide_eq_true k1
    clear HR
    subst k1
    go_enter Try.func18, Try.ntmps18
    go_wp2
    go_ret
    exact ⟨by rw [HR'.out]; rfl, (Below.refl _ _).alloc (Nat.le_refl _) _⟩
  · have j1 : (K == 8) = false := by rw [beq_eq_false_iff_ne]; exact k1
    have HR' : Hid (R = false) := by rw [← HR.out]; exact decide_eq_false k1
    clear HR
    go_enter Try.func18, Try.ntmps18
    go_wp2
    go_ret
    exact ⟨by rw [HR'.out]; rfl, (Below.refl _ _).alloc (Nat.le_refl _) _⟩

set_option maxHeartbeats 1600000 in
set_option maxRecDepth 60000 in
theorem hasKey_any : Calls Try.prog 16 #[.agg (r.cells ta da tc dc)] w fun e w' => e = .returned (.bool (keyB r)) ∧ Below w.heap.size w w' := by
  have HC : Hid (∀ wx, Calls Try.prog 14 #[.agg (r.cells ta da tc dc)] wx fun e w' => e = .returned (.bool (changeB r)) ∧ Below wx.heap.size wx w') := fun wx => hasChange_any r ta da tc dc wx
  have HV : Hid (keyB r = (changeB r && decide (r.undo = 2))) := by show _ = _; unfold keyB changeB; simp
  rw [HV.out]
  simp only [RecV.cells] at HC ⊢
  obtain ⟨W, HW⟩ : ∃ W, Hid (W = w.alloc (.cells #[.int .i64 r.kind, .int .i64 r.tx, .int .u64 r.prev, .int .u64 r.next, .int .u32 r.page, .int .i64 r.op.kind, .int .i64 r.op.at', .string r.op.S, .string r.op.old, .int .i64 r.undo, .int .i64 r.index, .string r.key, .int .u32 r.rpage, .int .i64 r.rslot, .bool r.live, .slice ta r.txs.length tc, .slice da r.dirty.length dc] 35)) := ⟨_, rfl⟩
  have c9 : W.cell? ⟨w.heap.size, 9, none⟩ = some (.int .i64 r.undo) := by rw [HW.out]; simp
  have bW : Below w.heap.size w W := by rw [HW.out]; exact (Below.refl _ _).alloc (Nat.le_refl _) _
  have zW : w.heap.size < W.heap.size := by rw [HW.out]; simp
  cases hc : changeB r with
  | false =>
    rw [hc] at HC
    go_enter Try.func16, Try.ntmps16
    go_wp2_with fail
    rw [← HW.out]
    refine (HC.out _).mono ?_
    rintro e w1 ⟨rfl, b1⟩
    go_wp2
    go_ret
    exact ⟨rfl, below_chain bW b1⟩
  | true =>
    rw [hc] at HC
    go_enter Try.func16, Try.ntmps16
    go_wp2_with fail
    rw [← HW.out]
    refine (HC.out _).mono ?_
    rintro e w1 ⟨rfl, b1⟩
    have d9 := (b1.cell (p := ⟨w.heap.size, 9, none⟩) zW).trans c9
    clear HW c9
    by_cases hu : r.undo = 2
    · have hu' : (r.undo == 2) = true := by rw [beq_iff_eq]; exact hu
      go_wp2
      go_ret
      exact ⟨by simp [hu], below_chain bW b1⟩
    · have hu' : (r.undo == 2) = false := by rw [beq_eq_false_iff_ne]; exact hu
      go_wp2
      go_ret
      exact ⟨by simp [hu], below_chain bW b1⟩

end
end Go.Proofs.Ytndfjjcflbpdnaa
