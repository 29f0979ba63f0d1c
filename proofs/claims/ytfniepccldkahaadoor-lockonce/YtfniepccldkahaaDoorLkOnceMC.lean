/-
  What every table keeps that was made by asking, without 'instant', and by letting go: the mathematics of LockOnce.
-/
import Derived.Test.YtfniepccldkahaaDoorLkRel2C
namespace Go.Proofs.YtfniepccldkahaaDoor
open Go.RowKit
set_option linter.unusedVariables false

def UQ (L : List Pl) : Prop := L.Pairwise fun p q => p.1 ≠ q.1

theorem withF_cons (a : Pl) (L : List Pl) (p : Pl) : withF (a :: L) p = if a.1 = p.1 then (if p.2.1 = 0 ∧ p.2.2.1 = 0 then L else p :: L) else a :: withF L p := by
  unfold withF
  by_cases h : a.1 = p.1
  · rw [ofF, if_pos h, if_pos h]
    by_cases h2 : p.2.1 = 0 ∧ p.2.2.1 = 0
    · rw [if_pos h2, if_pos h2]; rfl
    · rw [if_neg h2, if_neg h2, if_neg (by simp)]; rfl
  · rw [ofF, if_neg h, if_neg h]
    by_cases h2 : p.2.1 = 0 ∧ p.2.2.1 = 0
    · rw [if_pos h2, if_pos h2]; rfl
    · rw [if_neg h2, if_neg h2]
      by_cases h3 : ofF L p.1 = L.length
      · rw [if_pos h3, if_pos (by simp [h3])]; rfl
      · rw [if_neg h3, if_neg (by simpa using h3)]; rfl

theorem withF_nil (p : Pl) : withF [] p = if p.2.1 = 0 ∧ p.2.2.1 = 0 then [] else [p] := by
  unfold withF
  by_cases h2 : p.2.1 = 0 ∧ p.2.2.1 = 0
  · rw [if_pos h2, if_pos h2]; rfl
  · rw [if_neg h2, if_neg h2, if_pos (by rfl)]; rfl

theorem withF_mem {L : List Pl} {p q : Pl} (hu : UQ L) (h : q ∈ withF L p) : q = p ∨ q ∈ L ∧ q.1 ≠ p.1 := by
  induction L with
  | nil =>
    rw [withF_nil] at h
    split at h
    · cases h
    · exact .inl (by simpa using h)
  | cons a L ih =>
    unfold UQ at hu ih
    rw [List.pairwise_cons] at hu
    rw [withF_cons] at h
    split at h
    · rename_i e
      have far : q ∈ L → q.1 ≠ p.1 := fun x y => hu.1 q x (by rw [e, y])
      split at h
      · exact .inr ⟨by simp [h], far h⟩
      · rcases List.mem_cons.1 h with x | x
        · exact .inl x
        · exact .inr ⟨by simp [x], far x⟩
    · rename_i e
      rcases List.mem_cons.1 h with x | x
      · exact .inr ⟨by simp [x], by rw [x]; exact e⟩
      · rcases ih hu.2 x with y | ⟨y, z⟩
        · exact .inl y
        · exact .inr ⟨by simp [y], z⟩

theorem withF_out {L : List Pl} {p q : Pl} (hu : UQ L) (hp : p.2.1 = 0 ∧ p.2.2.1 = 0) (h : q ∈ withF L p) : q ∈ L ∧ q.1 ≠ p.1 := by
  induction L with
  | nil =>
    rw [withF_nil, if_pos hp] at h
    cases h
  | cons a L ih =>
    unfold UQ at hu ih
    rw [List.pairwise_cons] at hu
    rw [withF_cons, if_pos hp] at h
    split at h
    · rename_i e
      exact ⟨by simp [h], fun y => hu.1 q h (by rw [e, y])⟩
    · rename_i e
      rcases List.mem_cons.1 h with x | x
      · exact ⟨by simp [x], by rw [x]; exact e⟩
      · exact ⟨by simp [(ih hu.2 x).1], (ih hu.2 x).2⟩

theorem withF_uq {L : List Pl} {p : Pl} (hu : UQ L) : UQ (withF L p) := by
  induction L with
  | nil =>
    rw [withF_nil]
    split
    · exact List.Pairwise.nil
    · exact List.pairwise_singleton _ _
  | cons a L ih =>
    have hu' := hu
    unfold UQ at hu' ih ⊢
    rw [List.pairwise_cons] at hu'
    rw [withF_cons]
    split
    · rename_i e
      split
      · exact hu'.2
      · rw [List.pairwise_cons]
        exact ⟨fun q hq => by rw [← e]; exact hu'.1 q hq, hu'.2⟩
    · rename_i e
      rw [List.pairwise_cons]
      refine ⟨fun q hq => ?_, ih hu'.2⟩
      rcases withF_mem hu'.2 hq with rfl | ⟨y, _⟩
      · exact e
      · exact hu'.1 q y

theorem withF_le (L : List Pl) (p : Pl) : (withF L p).length ≤ L.length + 1 := by
  induction L with
  | nil => rw [withF_nil]; split <;> simp
  | cons a L ih =>
    rw [withF_cons]
    split
    · split <;> simp only [List.length_cons] <;> omega
    · simp only [List.length_cons]; omega

theorem grantedF_tx (p : Pl) : (grantedF p).1 = p.1 := by unfold grantedF staysF; split <;> rfl

theorem ofF_mem {L : List Pl} {tx : Int} (h : ofF L tx < L.length) : ∃ p ∈ L, p.1 = tx := ⟨L[ofF L tx], List.getElem_mem h, ofF_at h⟩
theorem ofF_of_mem {L : List Pl} {p : Pl} (h : p ∈ L) : ofF L p.1 < L.length := by
  induction L with
  | nil => cases h
  | cons a L ih =>
    rw [ofF]
    split
    · simp
    · rename_i e
      rcases List.mem_cons.1 h with x | x
      · exact absurd (by rw [x]) e
      · have := ih x
        simp only [List.length_cons]
        omega

/-- What a queue keeps. -/
structure QInv (n : NameV) (W : Int → Option NameV) (L : List Pl) : Prop where
  uq : UQ L
  tx : ∀ p ∈ L, 1 ≤ p.1 ∧ p.1 ≤ 4
  has : ∀ p ∈ L, 0 ≤ p.2.1 ∧ p.2.1 ≤ 5
  wants : ∀ p ∈ L, 0 ≤ p.2.2.1 ∧ p.2.2.1 ≤ 5
  some' : ∀ p ∈ L, p.2.1 = 0 → p.2.2.1 ≠ 0
  waits : ∀ p ∈ L, p.2.2.1 ≠ 0 → W p.1 = some n ∧ p.2.2.2 = false

theorem QInv.nil (n : NameV) (W : Int → Option NameV) : QInv n W [] := ⟨List.Pairwise.nil, fun p hp => (by cases hp), fun p hp => (by cases hp), fun p hp => (by cases hp), fun p hp => (by cases hp), fun p hp => (by cases hp)⟩

/-- One is put into a queue. -/
theorem QInv.put {n : NameV} {W W' : Int → Option NameV} {L : List Pl} {p : Pl} (h : QInv n W L) (hW : ∀ t, t ≠ p.1 → W' t = W t) (ht : 1 ≤ p.1 ∧ p.1 ≤ 4) (hh : 0 ≤ p.2.1 ∧ p.2.1 ≤ 5) (hw : 0 ≤ p.2.2.1 ∧ p.2.2.1 ≤ 5) (h0 : p.2.1 = 0 → p.2.2.1 ≠ 0) (hww : p.2.2.1 ≠ 0 → W' p.1 = some n ∧ p.2.2.2 = false) : QInv n W' (withF L p) := by
  refine ⟨withF_uq h.uq, ?_, ?_, ?_, ?_, ?_⟩ <;> intro q hq <;> rcases withF_mem h.uq hq with rfl | ⟨y, z⟩
  · exact ht
  · exact h.tx q y
  · exact hh
  · exact h.has q y
  · exact hw
  · exact h.wants q y
  · exact h0
  · exact h.some' q y
  · exact hww
  · intro e
    rw [hW q.1 z]
    exact h.waits q y e

/-- One is taken out of a queue. -/
theorem QInv.out {n : NameV} {W W' : Int → Option NameV} {L : List Pl} {p : Pl} (h : QInv n W L) (hp : p.2.1 = 0 ∧ p.2.2.1 = 0) (hW : ∀ t, t ≠ p.1 → W' t = W t) : QInv n W' (withF L p) := by
  refine ⟨withF_uq h.uq, ?_, ?_, ?_, ?_, ?_⟩ <;> intro q hq <;> obtain ⟨y, z⟩ := withF_out h.uq hp hq
  · exact h.tx q y
  · exact h.has q y
  · exact h.wants q y
  · exact h.some' q y
  · intro e
    rw [hW q.1 z]
    exact h.waits q y e

theorem mem_waitF {L : List Pl} {p : Pl} (h : p ∈ waitF L) : p ∈ L ∧ p.2.2.1 ≠ 0 := by
  unfold waitF at h
  rw [List.mem_filter] at h
  exact ⟨h.1, by simpa using h.2⟩

/-- Those in a queue behind k grants. -/
theorem stateL_mem {L : List Pl} (hu : UQ L) (k : Nat) (hk : k ≤ (waitF L).length) : UQ (stateL L (waitF L) k) ∧ ∀ q ∈ stateL L (waitF L) k, (q ∈ L ∧ q.1 ∉ whoF L k) ∨ ∃ p ∈ L, p.2.2.1 ≠ 0 ∧ q = grantedF p := by
  induction k with
  | zero => exact ⟨hu, fun q hq => .inl ⟨hq, by simp [whoF]⟩⟩
  | succ k ih =>
    obtain ⟨iu, im⟩ := ih (by omega)
    rw [stateL_succ _ _ _ (by omega), whoF_succ _ _ (by omega)]
    refine ⟨withF_uq iu, fun q hq => ?_⟩
    have hp := mem_waitF (List.getElem_mem (l := waitF L) (n := k) (by omega))
    rcases withF_mem iu hq with rfl | ⟨y, z⟩
    · exact .inr ⟨_, hp.1, hp.2, rfl⟩
    · rcases im q y with ⟨a, b⟩ | x
      · refine .inl ⟨a, fun c => ?_⟩
        rw [List.mem_append] at c
        rcases c with c | c
        · exact b c
        · rw [grantedF_tx] at z
          exact z (by simpa using c)
      · exact .inr x

theorem mem_whoF {L : List Pl} {k : Nat} {t : Int} (h : t ∈ whoF L k) : ∃ p ∈ L, p.2.2.1 ≠ 0 ∧ p.1 = t := by
  unfold whoF at h
  obtain ⟨p, hp, rfl⟩ := List.mem_map.1 h
  exact ⟨p, (mem_waitF (List.mem_of_mem_take hp)).1, (mem_waitF (List.mem_of_mem_take hp)).2, rfl⟩

theorem QInv.grant {n : NameV} {W : Int → Option NameV} {L : List Pl} (h : QInv n W L) {k : Nat} (hk : k ≤ (waitF L).length) : QInv n (fun x => if x ∈ whoF L k then none else W x) (stateL L (waitF L) k) := by
  obtain ⟨hu, hm⟩ := stateL_mem h.uq k hk
  have g : ∀ p ∈ L, p.2.2.1 ≠ 0 → grantedF p = (p.1, p.2.2.1, 0, false) := fun p hp hw => by
    unfold grantedF
    rw [if_neg (by rw [(h.waits p hp hw).2]; simp)]
  refine ⟨hu, ?_, ?_, ?_, ?_, ?_⟩ <;> intro q hq <;> rcases hm q hq with ⟨a, b⟩ | ⟨p, hp, hw, rfl⟩
  · exact h.tx q a
  · rw [g p hp hw]; exact h.tx p hp
  · exact h.has q a
  · rw [g p hp hw]; exact h.wants p hp
  · exact h.wants q a
  · rw [g p hp hw]; exact ⟨Int.le_refl _, by show (0 : Int) ≤ 5; omega⟩
  · exact h.some' q a
  · rw [g p hp hw]; intro e; exact absurd e hw
  · intro e
    rw [if_neg b]
    exact h.waits q a e
  · rw [g p hp hw]; intro e; exact absurd rfl e

theorem filter_len {L : List Pl} (hu : UQ L) (t : Int) : L.length ≤ (L.filter fun p => !decide (p.1 = t)).length + 1 := by
  induction L with
  | nil => simp
  | cons a L ih =>
    unfold UQ at hu ih
    rw [List.pairwise_cons] at hu
    by_cases e : a.1 = t
    · have : L.filter (fun p => !decide (p.1 = t)) = L := by
        rw [List.filter_eq_self]
        intro p hp
        have := hu.1 p hp
        simp
        intro x
        exact this (by rw [e, x])
      rw [List.filter_cons, if_neg (by simp [e]), this]
      simp
    · rw [List.filter_cons, if_pos (by simp [e])]
      have := ih hu.2
      simp only [List.length_cons]
      omega

theorem uq_len (k : Nat) : ∀ {L : List Pl}, UQ L → (∀ p ∈ L, 1 ≤ p.1 ∧ p.1 ≤ k) → L.length ≤ k := by
  induction k with
  | zero =>
    intro L _ h
    cases L with
    | nil => simp
    | cons a L => have := h a (by simp); omega
  | succ k ih =>
    intro L hu h
    have h1 := filter_len hu ((k : Int) + 1)
    have h2 := @ih (L.filter fun p => !decide (p.1 = (k : Int) + 1)) (List.Pairwise.filter _ hu) (fun p hp => by
      rw [List.mem_filter] at hp
      have a := h p hp.1
      have b : p.1 ≠ (k : Int) + 1 := by simpa using hp.2
      omega)
    omega

theorem QInv.len {n : NameV} {W : Int → Option NameV} {L : List Pl} (h : QInv n W L) : L.length ≤ 4 := uq_len 4 h.uq h.tx

theorem stateL_len {L : List Pl} (k : Nat) (hk : k ≤ (waitF L).length) : (stateL L (waitF L) k).length ≤ L.length + k := by
  induction k with
  | zero => exact Nat.le_refl _
  | succ k ih =>
    rw [stateL_succ _ _ _ (by omega)]
    have := ih (by omega)
    have := withF_le (stateL L (waitF L) k) (grantedF (waitF L)[k])
    omega

end Go.Proofs.YtfniepccldkahaaDoor
