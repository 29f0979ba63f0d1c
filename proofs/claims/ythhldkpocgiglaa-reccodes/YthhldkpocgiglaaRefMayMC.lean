/-
  May a record be: the document's word and the program's.
-/
import Derived.Test.YthhldkpocgiglaaRefRec2C
import Derived.Test.YthhldkpocgiglaaRefBareC
namespace Go.Proofs.Ythhldkpocgiglaa
open Go.RowKit Go.Sort
set_option linter.unusedVariables false
set_option linter.unusedSimpArgs false

theorem tx_split (t : TxV) : txMay t = (txB t.1 && decide (1 ≤ t.2.1 ∧ t.2.1 ≤ 3)) := rfl

/-- Does a record have lists or a next that its kind doesn't? -/
abbrev strayP (r : RecV) : Prop := (r.kind ≠ 8 ∧ 0 < r.txs.length + r.dirty.length) ∨ ((r.kind ≠ 2 ∧ r.kind ≠ 3) ∧ r.next ≠ 0)

/-- May a record be, as the document's record has it? -/
def rmayB (r : RecV) : Bool :=
  txB r.tx && (!decide (strayP r) &&
    (if r.kind = 1 then rchangeB r else if r.kind = 2 then rchangeB r && decide (r.undo = 0) else if 3 ≤ r.kind ∧ r.kind ≤ 7 then bareB r else if r.kind = 8 then bareB r && lmayB r else false))

theorem sw_no {P : Prop} [Decidable P] (V : Bool) (h : P) : (!decide P && V) = false := by rw [decide_eq_true h]; rfl
theorem sw_yes {P : Prop} [Decidable P] (V : Bool) (h : ¬ P) : (!decide P && V) = V := by rw [decide_eq_false h]; rfl

theorem size_zero_iff (s : ByteArray) : s.size = 0 ↔ s = ⟨#[]⟩ := by
  have := ba_empty_eq s
  exact ⟨fun h => by rw [← this] at h; exact h, fun h => by rw [h]; rfl⟩

theorem nil_iff {α : Type} (l : List α) : (l = []) = (l.length = 0) := propext List.length_eq_zero_iff.symm

theorem stray_none (a b : Nat) : (0 < a + b) = ¬ (a = 0 ∧ b = 0) := by apply propext; omega

theorem emp_eq (s : ByteArray) : (s = ⟨#[]⟩) = (s.size = 0) := ba_empty_eq s

theorem rmay_eq (r : RecV) : rmayB r = mayR r := by
  rw [Bool.eq_iff_iff]
  unfold rmayB mayR sameR namedV nextB changeB keyB listsB cmayB kmayB lmayB rchangeB bareB txB strayP
  obtain ⟨kind, tx, prev, next, page, ⟨ok, oa, oS, oT⟩, undo, index, key, rpage, rslot, live, txs, dirty⟩ := r
  simp only
  generalize chkB ⟨ok, oa, oS, oT⟩ = c
  generalize txs.all txMay = a
  by_cases k1 : kind = 1
  · subst k1
    by_cases u2 : undo = 2
    · subst u2
      cases live <;> cases c <;> simp [emp_eq, nil_iff, -List.length_eq_zero_iff, -ByteArray.size_eq_zero_iff] <;> omega
    · cases live <;> cases c <;> simp [emp_eq, nil_iff, -List.length_eq_zero_iff, -ByteArray.size_eq_zero_iff, u2] <;> omega
  by_cases k2 : kind = 2
  · subst k2
    by_cases u2 : undo = 2
    · subst u2
      cases live <;> cases c <;> simp [emp_eq, nil_iff, -List.length_eq_zero_iff, -ByteArray.size_eq_zero_iff] <;> omega
    · cases live <;> cases c <;> simp [emp_eq, nil_iff, -List.length_eq_zero_iff, -ByteArray.size_eq_zero_iff, u2] <;> omega
  by_cases k3 : kind = 3
  · subst k3
    cases live <;> simp [emp_eq, nil_iff, -List.length_eq_zero_iff, -ByteArray.size_eq_zero_iff] <;> omega
  by_cases k8 : kind = 8
  · subst k8
    cases live <;> cases a <;> simp [emp_eq, nil_iff, -List.length_eq_zero_iff, -ByteArray.size_eq_zero_iff] <;> omega
  by_cases k7 : 3 ≤ kind ∧ kind ≤ 7
  · cases live <;> simp [emp_eq, nil_iff, -List.length_eq_zero_iff, -ByteArray.size_eq_zero_iff, k1, k2, k3, k8, k7] <;> omega
  · simp [k1, k2, k3, k8, k7]
    omega

end Go.Proofs.Ythhldkpocgiglaa
