/-
  What every table keeps that was made by asking, without 'instant', and by letting go: the mathematics of LockOnce.
  One lock, those that have it and those that wait: the mathematics of LockTurns.
  Who blocks whom in a queue, by its parts: towards LockSafe.
  What a queue keeps, and what the grants bring back: towards LockSafe.
-/
import Derived.Test.YthagomibjlcfmaaDoorLkRel2C
namespace Go.Proofs.YthagomibjlcfmaaDoor
open Go.RowKit
set_option linter.unusedVariables false

def UQ (L : List Pl) : Prop := L.Pairwise fun p q => p.1 ≠ q.1

theorem withF_cons (a : Pl) (L : List Pl) (p : Pl) : withF (a :: L) p = if a.1 = p.1 then (if p.2.1 = 0 ∧ p.2.2.1 = 0 then L else p :: L) else a :: withF L p := by
  unfold withF
  by_cases h : a.1 = p.1
  · rw [ofF, if_pos h, if_pos h]
    by_cases h2 : p.2.1 = 0 ∧ p.2.2.1 = 0
    · rw [if_pos h2, if_pos h2]; rfl
    · rw [if_neg h2, if_neg h2, if_neg (by simp)]; rfl
  · rw [ofF, if_neg h, if_neg h]
    by_cases h2 : p.2.1 = 0 ∧ p.2.2.1 = 0
    · rw [if_pos h2, if_pos h2]; rfl
    · rw [if_neg h2, if_neg h2]
      by_cases h3 : ofF L p.1 = L.length
      · rw [if_pos h3, if_pos (by simp [h3])]; rfl
      · rw [if_neg h3, if_neg (by simpa using h3)]; rfl

theorem withF_nil (p : Pl) : withF [] p = if p.2.1 = 0 ∧ p.2.2.1 = 0 then [] else [p] := by
  unfold withF
  by_cases h2 : p.2.1 = 0 ∧ p.2.2.1 = 0
  · rw [if_pos h2, if_pos h2]; rfl
  · rw [if_neg h2, if_neg h2, if_pos (by rfl)]; rfl

theorem withF_mem {L : List Pl} {p q : Pl} (hu : UQ L) (h : q ∈ withF L p) : q = p ∨ q ∈ L ∧ q.1 ≠ p.1 := by
  induction L with
  | nil =>
    rw [withF_nil] at h
    split at h
    · cases h
    · exact .inl (by simpa using h)
  | cons a L ih =>
    unfold UQ at hu ih
    rw [List.pairwise_cons] at hu
    rw [withF_cons] at h
    split at h
    · rename_i e
      have far : q ∈ L → q.1 ≠ p.1 := fun x y => hu.1 q x (by rw [e, y])
      split at h
      · exact .inr ⟨by simp [h], far h⟩
      · rcases List.mem_cons.1 h with x | x
        · exact .inl x
        · exact .inr ⟨by simp [x], far x⟩
    · rename_i e
      rcases List.mem_cons.1 h with x | x
      · exact .inr ⟨by simp [x], by rw [x]; exact e⟩
      · rcases ih hu.2 x with y | ⟨y, z⟩
        · exact .inl y
        · exact .inr ⟨by simp [y], z⟩

theorem withF_out {L : List Pl} {p q : Pl} (hu : UQ L) (hp : p.2.1 = 0 ∧ p.2.2.1 = 0) (h : q ∈ withF L p) : q ∈ L ∧ q.1 ≠ p.1 := by
  induction L with
  | nil =>
    rw [withF_nil, if_pos hp] at h
    cases h
  | cons a L ih =>
    unfold UQ at hu ih
    rw [List.pairwise_cons] at hu
    rw [withF_cons, if_pos hp] at h
    split at h
    · rename_i e
      exact ⟨by simp [h], fun y => hu.1 q h (by rw [e, y])⟩
    · rename_i e
      rcases List.mem_cons.1 h with x | x
      · exact ⟨by simp [x], by rw [x]; exact e⟩
      · exact ⟨by simp [(ih hu.2 x).1], (ih hu.2 x).2⟩

theorem withF_uq {L : List Pl} {p : Pl} (hu : UQ L) : UQ (withF L p) := by
  induction L with
  | nil =>
    rw [withF_nil]
    split
    · exact List.Pairwise.nil
    · exact List.pairwise_singleton _ _
  | cons a L ih =>
    have hu' := hu
    unfold UQ at hu' ih ⊢
    rw [List.pairwise_cons] at hu'
    rw [withF_cons]
    split
    · rename_i e
      split
      · exact hu'.2
      · rw [List.pairwise_cons]
        exact ⟨fun q hq => by rw [← e]; exact hu'.1 q hq, hu'.2⟩
    · rename_i e
      rw [List.pairwise_cons]
      refine ⟨fun q hq => ?_, ih hu'.2⟩
      rcases withF_mem hu'.2 hq with rfl | ⟨y, _⟩
      · exact e
      · exact hu'.1 q y

theorem withF_le (L : List Pl) (p : Pl) : (withF L p).length ≤ L.length + 1 := by
  induction L with
  | nil => rw [withF_nil]; split <;> simp
  | cons a L ih =>
    rw [withF_cons]
    split
    · split <;> simp only [List.length_cons] <;> omega
    · simp only [List.length_cons]; omega

theorem grantedF_tx (p : Pl) : (grantedF p).1 = p.1 := by unfold grantedF staysF; split <;> rfl

theorem ofF_mem {L : List Pl} {tx : Int} (h : ofF L tx < L.length) : ∃ p ∈ L, p.1 = tx := ⟨L[ofF L tx], List.getElem_mem h, ofF_at h⟩
theorem ofF_of_mem {L : List Pl} {p : Pl} (h : p ∈ L) : ofF L p.1 < L.length := by
  induction L with
  | nil => cases h
  | cons a L ih =>
    rw [ofF]
    split
    · simp
    · rename_i e
      rcases List.mem_cons.1 h with x | x
      · exact absurd (by rw [x]) e
      · have := ih x
        simp only [List.length_cons]
        omega

/-- What a queue keeps. -/
structure QInv (n : NameV) (W : Int → Option NameV) (L : List Pl) : Prop where
  uq : UQ L
  tx : ∀ p ∈ L, 1 ≤ p.1 ∧ p.1 ≤ 4
  has : ∀ p ∈ L, 0 ≤ p.2.1 ∧ p.2.1 ≤ 5
  wants : ∀ p ∈ L, 0 ≤ p.2.2.1 ∧ p.2.2.1 ≤ 5
  some' : ∀ p ∈ L, p.2.1 = 0 → p.2.2.1 ≠ 0
  waits : ∀ p ∈ L, p.2.2.1 ≠ 0 → W p.1 = some n ∧ p.2.2.2 = false

theorem QInv.nil (n : NameV) (W : Int → Option NameV) : QInv n W [] := ⟨List.Pairwise.nil, fun p hp => (by cases hp), fun p hp => (by cases hp), fun p hp => (by cases hp), fun p hp => (by cases hp), fun p hp => (by cases hp)⟩

/-- One is put into a queue. -/
theorem QInv.put {n : NameV} {W W' : Int → Option NameV} {L : List Pl} {p : Pl} (h : QInv n W L) (hW : ∀ t, t ≠ p.1 → W' t = W t) (ht : 1 ≤ p.1 ∧ p.1 ≤ 4) (hh : 0 ≤ p.2.1 ∧ p.2.1 ≤ 5) (hw : 0 ≤ p.2.2.1 ∧ p.2.2.1 ≤ 5) (h0 : p.2.1 = 0 → p.2.2.1 ≠ 0) (hww : p.2.2.1 ≠ 0 → W' p.1 = some n ∧ p.2.2.2 = false) : QInv n W' (withF L p) := by
  refine ⟨withF_uq h.uq, ?_, ?_, ?_, ?_, ?_⟩ <;> intro q hq <;> rcases withF_mem h.uq hq with rfl | ⟨y, z⟩
  · exact ht
  · exact h.tx q y
  · exact hh
  · exact h.has q y
  · exact hw
  · exact h.wants q y
  · exact h0
  · exact h.some' q y
  · exact hww
  · intro e
    rw [hW q.1 z]
    exact h.waits q y e

/-- One is taken out of a queue. -/
theorem QInv.out {n : NameV} {W W' : Int → Option NameV} {L : List Pl} {p : Pl} (h : QInv n W L) (hp : p.2.1 = 0 ∧ p.2.2.1 = 0) (hW : ∀ t, t ≠ p.1 → W' t = W t) : QInv n W' (withF L p) := by
  refine ⟨withF_uq h.uq, ?_, ?_, ?_, ?_, ?_⟩ <;> intro q hq <;> obtain ⟨y, z⟩ := withF_out h.uq hp hq
  · exact h.tx q y
  · exact h.has q y
  · exact h.wants q y
  · exact h.some' q y
  · intro e
    rw [hW q.1 z]
    exact h.waits q y e

theorem mem_waitF {L : List Pl} {p : Pl} (h : p ∈ waitF L) : p ∈ L ∧ p.2.2.1 ≠ 0 := by
  unfold waitF at h
  rw [List.mem_filter] at h
  exact ⟨h.1, by simpa using h.2⟩

/-- Those in a queue behind k grants. -/
theorem stateL_mem {L : List Pl} (hu : UQ L) (k : Nat) (hk : k ≤ (waitF L).length) : UQ (stateL L (waitF L) k) ∧ ∀ q ∈ stateL L (waitF L) k, (q ∈ L ∧ q.1 ∉ whoF L k) ∨ ∃ p ∈ L, p.2.2.1 ≠ 0 ∧ q = grantedF p := by
  induction k with
  | zero => exact ⟨hu, fun q hq => .inl ⟨hq, by simp [whoF]⟩⟩
  | succ k ih =>
    obtain ⟨iu, im⟩ := ih (by omega)
    rw [stateL_succ _ _ _ (by omega), whoF_succ _ _ (by omega)]
    refine ⟨withF_uq iu, fun q hq => ?_⟩
    have hp := mem_waitF (List.getElem_mem (l := waitF L) (n := k) (by omega))
    rcases withF_mem iu hq with rfl | ⟨y, z⟩
    · exact .inr ⟨_, hp.1, hp.2, rfl⟩
    · rcases im q y with ⟨a, b⟩ | x
      · refine .inl ⟨a, fun c => ?_⟩
        rw [List.mem_append] at c
        rcases c with c | c
        · exact b c
        · rw [grantedF_tx] at z
          exact z (by simpa using c)
      · exact .inr x

theorem mem_whoF {L : List Pl} {k : Nat} {t : Int} (h : t ∈ whoF L k) : ∃ p ∈ L, p.2.2.1 ≠ 0 ∧ p.1 = t := by
  unfold whoF at h
  obtain ⟨p, hp, rfl⟩ := List.mem_map.1 h
  exact ⟨p, (mem_waitF (List.mem_of_mem_take hp)).1, (mem_waitF (List.mem_of_mem_take hp)).2, rfl⟩

theorem QInv.grant {n : NameV} {W : Int → Option NameV} {L : List Pl} (h : QInv n W L) {k : Nat} (hk : k ≤ (waitF L).length) : QInv n (fun x => if x ∈ whoF L k then none else W x) (stateL L (waitF L) k) := by
  obtain ⟨hu, hm⟩ := stateL_mem h.uq k hk
  have g : ∀ p ∈ L, p.2.2.1 ≠ 0 → grantedF p = (p.1, p.2.2.1, 0, false) := fun p hp hw => by
    unfold grantedF
    rw [if_neg (by rw [(h.waits p hp hw).2]; simp)]
  refine ⟨hu, ?_, ?_, ?_, ?_, ?_⟩ <;> intro q hq <;> rcases hm q hq with ⟨a, b⟩ | ⟨p, hp, hw, rfl⟩
  · exact h.tx q a
  · rw [g p hp hw]; exact h.tx p hp
  · exact h.has q a
  · rw [g p hp hw]; exact h.wants p hp
  · exact h.wants q a
  · rw [g p hp hw]; exact ⟨Int.le_refl _, by show (0 : Int) ≤ 5; omega⟩
  · exact h.some' q a
  · rw [g p hp hw]; intro e; exact absurd e hw
  · intro e
    rw [if_neg b]
    exact h.waits q a e
  · rw [g p hp hw]; intro e; exact absurd rfl e

theorem filter_len {L : List Pl} (hu : UQ L) (t : Int) : L.length ≤ (L.filter fun p => !decide (p.1 = t)).length + 1 := by
  induction L with
  | nil => simp
  | cons a L ih =>
    unfold UQ at hu ih
    rw [List.pairwise_cons] at hu
    by_cases e : a.1 = t
    · have : L.filter (fun p => !decide (p.1 = t)) = L := by
        rw [List.filter_eq_self]
        intro p hp
        have := hu.1 p hp
        simp
        intro x
        exact this (by rw [e, x])
      rw [List.filter_cons, if_neg (by simp [e]), this]
      simp
    · rw [List.filter_cons, if_pos (by simp [e])]
      have := ih hu.2
      simp only [List.length_cons]
      omega

theorem uq_len (k : Nat) : ∀ {L : List Pl}, UQ L → (∀ p ∈ L, 1 ≤ p.1 ∧ p.1 ≤ k) → L.length ≤ k := by
  induction k with
  | zero =>
    intro L _ h
    cases L with
    | nil => simp
    | cons a L => have := h a (by simp); omega
  | succ k ih =>
    intro L hu h
    have h1 := filter_len hu ((k : Int) + 1)
    have h2 := @ih (L.filter fun p => !decide (p.1 = (k : Int) + 1)) (List.Pairwise.filter _ hu) (fun p hp => by
      rw [List.mem_filter] at hp
      have a := h p hp.1
      have b : p.1 ≠ (k : Int) + 1 := by simpa using hp.2
      omega)
    omega

theorem QInv.len {n : NameV} {W : Int → Option NameV} {L : List Pl} (h : QInv n W L) : L.length ≤ 4 := uq_len 4 h.uq h.tx

theorem stateL_len {L : List Pl} (k : Nat) (hk : k ≤ (waitF L).length) : (stateL L (waitF L) k).length ≤ L.length + k := by
  induction k with
  | zero => exact Nat.le_refl _
  | succ k ih =>
    rw [stateL_succ _ _ _ (by omega)]
    have := ih (by omega)
    have := withF_le (stateL L (waitF L) k) (grantedF (waitF L)[k])
    omega

end Go.Proofs.YthagomibjlcfmaaDoor

namespace Go.Proofs.YthagomibjlcfmaaDoor
open Go.RowKit
set_option linter.unusedVariables false

def pH (M : List Int) (i : Nat) : Pl := ((i : Int) + 2, M.getD i 0, 0, false)
def pW (M : List Int) (i : Nat) : Pl := ((i : Int) + 2, 0, M.getD i 0, false)

/-- The queue: those that have the lock, and from nx on those that wait. -/
def QS (M : List Int) (Hs : List Nat) (nx : Nat) : List Pl := Hs.map (pH M) ++ (List.range' nx (M.length - nx)).map (pW M)

theorem ofF_skip {A B : List Pl} {tx : Int} (h : ∀ p ∈ A, p.1 ≠ tx) : ofF (A ++ B) tx = A.length + ofF B tx := by
  induction A with
  | nil => simp
  | cons a A ih =>
    rw [List.cons_append, ofF, if_neg (h a (by simp)), ih (fun p hp => h p (by simp [hp]))]
    simp only [List.length_cons]
    omega

theorem ofF_here (p : Pl) (B : List Pl) : ofF (p :: B) p.1 = 0 := by rw [ofF, if_pos rfl]

theorem blkTo_nil {L : List Pl} {a : Nat} {m : Int} (h : ∀ i o, L[i]? = some o → blkB a m i o = false) (k : Nat) : blkTo L a m k = [] := by
  induction k with
  | zero => rfl
  | succ k ih =>
    unfold blkTo
    rw [ih]
    cases hq : L[k]? with
    | none => rfl
    | some o => simp [h k o hq]

theorem blkTo_mem {L : List Pl} {a : Nat} {m : Int} {i : Nat} {o : Pl} (h : L[i]? = some o) (hb : blkB a m i o = true) (k : Nat) (hk : i < k) : o.1 ∈ blkTo L a m k := by
  induction k with
  | zero => omega
  | succ k ih =>
    unfold blkTo
    rw [List.mem_append]
    rcases Nat.lt_or_ge i k with hh | hh
    · exact .inl (ih hh)
    · obtain rfl : i = k := by omega
      rw [h]
      simp [hb]

section
variable {M : List Int} {Hs : List Nat} {nx : Nat}

theorem QS_split (h : nx < M.length) : QS M Hs nx = Hs.map (pH M) ++ pW M nx :: (List.range' (nx + 1) (M.length - (nx + 1))).map (pW M) := by
  unfold QS
  have e : M.length - nx = (M.length - (nx + 1)) + 1 := by omega
  rw [e, List.range'_succ]
  rfl

theorem QS_grant (h : nx < M.length) (hH : ∀ i ∈ Hs, i < nx) (hM : ∀ x ∈ M, x ≠ 0) : withF (QS M Hs nx) (grantedF (pW M nx)) = QS M (Hs ++ [nx]) (nx + 1) := by
  have hg : grantedF (pW M nx) = pH M nx := rfl
  rw [hg]
  have h0 : M.getD nx 0 ≠ 0 := by
    rw [List.getD_eq_getElem?_getD, List.getElem?_eq_getElem h]
    exact hM _ (List.getElem_mem h)
  have hof : ofF (QS M Hs nx) (pH M nx).1 = Hs.length := by
    rw [QS_split h, ofF_skip (by
      intro p hp
      obtain ⟨i, hi, rfl⟩ := List.mem_map.1 hp
      have := hH i hi
      show ((i : Int) + 2) ≠ (nx : Int) + 2
      omega)]
    rw [show (pH M nx).1 = (pW M nx).1 from rfl, ofF_here]
    simp
  unfold withF
  rw [if_neg (by intro x; exact h0 x.1), hof, if_neg (by rw [QS_split h]; simp), QS_split h]
  rw [List.set_append_right _ _ (by simp)]
  simp only [List.length_map, Nat.sub_self, List.set_cons_zero]
  unfold QS
  simp

theorem QS_wait (hH : ∀ i ∈ Hs, i < nx) (hM : ∀ x ∈ M, x ≠ 0) : waitF (QS M Hs nx) = (List.range' nx (M.length - nx)).map (pW M) := by
  unfold waitF QS
  rw [List.filter_append]
  have e1 : (Hs.map (pH M)).filter (fun p => !decide (p.2.2.1 = 0)) = [] := by
    rw [List.filter_eq_nil_iff]
    intro p hp
    obtain ⟨i, _, rfl⟩ := List.mem_map.1 hp
    simp [pH]
  have e2 : ((List.range' nx (M.length - nx)).map (pW M)).filter (fun p => !decide (p.2.2.1 = 0)) = (List.range' nx (M.length - nx)).map (pW M) := by
    rw [List.filter_eq_self]
    intro p hp
    obtain ⟨i, hi, rfl⟩ := List.mem_map.1 hp
    rw [List.mem_range'_1] at hi
    have hl : i < M.length := by omega
    have : M.getD i 0 ≠ 0 := by
      rw [List.getD_eq_getElem?_getD, List.getElem?_eq_getElem hl]
      exact hM _ (List.getElem_mem hl)
    simp [pW]
    simpa using this
  rw [e1, e2]
  rfl

theorem QS_state (hn : nx ≤ M.length) (hH : ∀ i ∈ Hs, i < nx) (hM : ∀ x ∈ M, x ≠ 0) (k : Nat) (hk : k ≤ M.length - nx) : stateL (QS M Hs nx) (waitF (QS M Hs nx)) k = QS M (Hs ++ List.range' nx k) (nx + k) := by
  induction k with
  | zero => simp [stateL]
  | succ k ih =>
    have hlen : (waitF (QS M Hs nx)).length = M.length - nx := by rw [QS_wait hH hM]; simp
    rw [stateL_succ _ _ _ (by omega), ih (by omega)]
    have hw : (waitF (QS M Hs nx))[k]'(by omega) = pW M (nx + k) := by
      simp only [QS_wait hH hM, List.getElem_map, List.getElem_range', Nat.one_mul]
    rw [hw, QS_grant (by omega) (by
      intro i hi
      rcases List.mem_append.1 hi with x | x
      · have := hH i x; omega
      · rw [List.mem_range'_1] at x; omega) hM]
    rw [List.append_assoc, List.range'_concat]
    simp [Nat.add_assoc]

theorem QS_who (hH : ∀ i ∈ Hs, i < nx) (hM : ∀ x ∈ M, x ≠ 0) (k : Nat) (hk : k ≤ M.length - nx) : whoF (QS M Hs nx) k = (List.range' nx k).map fun (i : Nat) => (i : Int) + 2 := by
  unfold whoF
  rw [QS_wait hH hM, ← List.map_take, List.map_map]
  have : (List.range' nx (M.length - nx)).take k = List.range' nx k := by
    apply List.ext_getElem
    · simp; omega
    · intro i h1 h2; simp
  rw [this]
  rfl

/-- Where nobody has the lock, the first that waits is not blocked. -/
theorem QS_free (h : nx < M.length) : blkF (QS M [] nx) (pW M nx) = [] := by
  unfold blkF
  have hof : ofF (QS M [] nx) (pW M nx).1 = 0 := by rw [QS_split h]; exact ofF_here _ _
  rw [hof]
  apply blkTo_nil
  intro i o ho
  have : o.2.1 = 0 := by
    unfold QS at ho
    simp only [List.map_nil, List.nil_append] at ho
    obtain ⟨j, _, rfl⟩ := List.mem_map.1 (List.mem_of_getElem? ho)
    rfl
  unfold blkB
  simp [this]

/-- One that has the lock lets go. -/
theorem QS_out {A B : List Nat} {h : Nat} (hd : (A ++ h :: B).Nodup) : withF (QS M (A ++ h :: B) nx) ((h : Int) + 2, 0, 0, false) = QS M (A ++ B) nx := by
  have hA : ∀ i ∈ A, i ≠ h := fun i hi e => by
    rw [List.nodup_append] at hd
    exact hd.2.2 i hi h (by simp) e
  have hof : ofF (QS M (A ++ h :: B) nx) ((h : Int) + 2) = A.length := by
    unfold QS
    rw [List.map_append, List.append_assoc, ofF_skip (by
      intro p hp
      obtain ⟨i, hi, rfl⟩ := List.mem_map.1 hp
      have := hA i hi
      show ((i : Int) + 2) ≠ (h : Int) + 2
      omega)]
    have := ofF_here (pH M h) (B.map (pH M) ++ (List.range' nx (M.length - nx)).map (pW M))
    rw [List.map_cons, List.cons_append]
    rw [show ((h : Int) + 2) = (pH M h).1 from rfl, this]
    simp
  unfold withF
  rw [if_pos ⟨rfl, rfl⟩, hof]
  unfold QS
  rw [List.map_append, List.map_cons, List.append_assoc, List.eraseIdx_append_of_length_le (by simp)]
  simp

/-- What one has. -/
theorem QS_has {t : Nat} (hH : ∀ i ∈ Hs, i < nx) : (oneF (QS M Hs nx) ((t : Int) + 2)).2.1 = if t ∈ Hs then M.getD t 0 else 0 := by
  unfold oneF
  by_cases h : t ∈ Hs
  · rw [if_pos h]
    have hp : pH M t ∈ QS M Hs nx := by unfold QS; exact List.mem_append_left _ (List.mem_map.2 ⟨t, h, rfl⟩)
    have hlt : ofF (QS M Hs nx) ((t : Int) + 2) < (Hs.map (pH M)).length := by
      unfold QS
      have hle : ∀ (X Y : List Pl), (∃ p ∈ X, p.1 = (t : Int) + 2) → ofF (X ++ Y) ((t : Int) + 2) < X.length := by
        intro X
        induction X with
        | nil => rintro Y ⟨p, hp, _⟩; cases hp
        | cons x X ih =>
          rintro Y ⟨p, hp, e⟩
          rw [List.cons_append, ofF]
          split
          · simp
          · rename_i hne
            have : ∃ p ∈ X, p.1 = (t : Int) + 2 := by
              rcases List.mem_cons.1 hp with rfl | hp
              · exact absurd e hne
              · exact ⟨p, hp, e⟩
            have := ih Y this
            simp only [List.length_cons]
            omega
      exact hle _ _ ⟨pH M t, List.mem_map.2 ⟨t, h, rfl⟩, rfl⟩
    have hfull : ofF (QS M Hs nx) ((t : Int) + 2) < (QS M Hs nx).length := by
      have : (Hs.map (pH M)).length ≤ (QS M Hs nx).length := by unfold QS; simp
      omega
    have hat := ofF_at hfull
    rw [List.getElem?_eq_getElem hfull]
    simp only [Option.getD_some]
    have key : ∀ k (h1 : k < (Hs.map (pH M)).length) (h2 : k < (QS M Hs nx).length), (QS M Hs nx)[k] = (Hs.map (pH M))[k] := fun k h1 h2 => List.getElem_append_left (bs := (List.range' nx (M.length - nx)).map (pW M)) h1
    have hget : (QS M Hs nx)[ofF (QS M Hs nx) ((t : Int) + 2)] = (Hs.map (pH M))[ofF (QS M Hs nx) ((t : Int) + 2)] := key _ hlt hfull
    rw [hget] at hat ⊢
    rw [List.getElem_map] at hat ⊢
    have : Hs[ofF (QS M Hs nx) ((t : Int) + 2)]'(by simpa using hlt) = t := by
      have : ((Hs[ofF (QS M Hs nx) ((t : Int) + 2)]'(by simpa using hlt) : Nat) : Int) + 2 = (t : Int) + 2 := hat
      omega
    rw [this]
    rfl
  · rw [if_neg h]
    by_cases hf : ofF (QS M Hs nx) ((t : Int) + 2) < (QS M Hs nx).length
    · have hat := ofF_at hf
      rw [List.getElem?_eq_getElem hf]
      simp only [Option.getD_some]
      have hm := List.getElem_mem hf
      generalize (QS M Hs nx)[ofF (QS M Hs nx) ((t : Int) + 2)] = p at *
      unfold QS at hm
      rcases List.mem_append.1 hm with x | x
      · obtain ⟨i, hi, rfl⟩ := List.mem_map.1 x
        have : ((i : Int) + 2) = (t : Int) + 2 := hat
        obtain rfl : i = t := by omega
        exact absurd hi h
      · obtain ⟨i, hi, rfl⟩ := List.mem_map.1 x
        rfl
    · rw [List.getElem?_eq_none (by omega)]
      rfl
end

end Go.Proofs.YthagomibjlcfmaaDoor

namespace Go.Proofs.YthagomibjlcfmaaDoor
open Go.RowKit
set_option linter.unusedVariables false

/-- What one has lets another one have a mode. -/
def freeB (o : Pl) (m : Int) : Prop := o.2.1 = 0 ∨ (modB o.2.1 && modB m && togB o.2.1 m) = true

theorem blkB_false {a : Nat} {m : Int} {i : Nat} {o : Pl} : blkB a m i o = false ↔ i = a ∨ (freeB o m ∧ (o.2.2.1 = 0 ∨ a ≤ i)) := by
  unfold blkB freeB
  by_cases h1 : i = a
  · simp [h1]
  · by_cases h2 : o.2.1 = 0
    · by_cases h3 : o.2.2.1 = 0
      · simp [h1, h2, h3]
      · simp [h1, h2, h3]
    · by_cases h3 : o.2.2.1 = 0
      · cases h4 : (modB o.2.1 && modB m && togB o.2.1 m) <;> simp [h1, h2, h3]
      · cases h4 : (modB o.2.1 && modB m && togB o.2.1 m) <;> simp [h1, h2, h3]

theorem blkF_nil {L : List Pl} {p : Pl} : blkF L p = [] ↔ ∀ i o, L[i]? = some o → blkB (ofF L p.1) p.2.2.1 i o = false := by
  unfold blkF
  constructor
  · intro h i o ho
    cases hb : blkB (ofF L p.1) p.2.2.1 i o with
    | false => rfl
    | true =>
      have hi : i < L.length := (List.getElem?_eq_some_iff.1 ho).1
      have := blkTo_mem ho hb L.length hi
      rw [h] at this
      cases this
  · intro h
    exact blkTo_nil h _

/-- One that stands in a queue. -/
theorem blk_in {A B : List Pl} {p' p : Pl} (ht : p'.1 = p.1) (hA : ∀ o ∈ A, o.1 ≠ p.1) : blkF (A ++ p' :: B) p = [] ↔ (∀ o ∈ A, freeB o p.2.2.1 ∧ o.2.2.1 = 0) ∧ ∀ o ∈ B, freeB o p.2.2.1 := by
  have hof : ofF (A ++ p' :: B) p.1 = A.length := by
    rw [ofF_skip hA, ← ht, ofF_here]
    rfl
  rw [blkF_nil, hof]
  constructor
  · intro h
    constructor
    · intro o ho
      obtain ⟨i, hi, rfl⟩ := List.getElem_of_mem ho
      have := h i A[i] (by rw [List.getElem?_append_left hi, List.getElem?_eq_getElem hi])
      rcases blkB_false.1 this with e | ⟨f, g⟩
      · omega
      · exact ⟨f, by rcases g with g | g; exact g; omega⟩
    · intro o ho
      obtain ⟨i, hi, rfl⟩ := List.getElem_of_mem ho
      have := h (A.length + 1 + i) B[i] (by
        rw [List.getElem?_append_right (by omega), show A.length + 1 + i - A.length = i + 1 by omega, List.getElem?_cons_succ, List.getElem?_eq_getElem hi])
      rcases blkB_false.1 this with e | ⟨f, g⟩
      · omega
      · exact f
  · rintro ⟨ha, hb⟩ i o ho
    rcases Nat.lt_trichotomy i A.length with hi | hi | hi
    · rw [List.getElem?_append_left hi] at ho
      have := ha o (List.mem_of_getElem? ho)
      exact blkB_false.2 (.inr ⟨this.1, .inl this.2⟩)
    · exact blkB_false.2 (.inl hi)
    · rw [List.getElem?_append_right (by omega), show i - A.length = (i - A.length - 1) + 1 by omega, List.getElem?_cons_succ] at ho
      exact blkB_false.2 (.inr ⟨hb o (List.mem_of_getElem? ho), .inr (by omega)⟩)

/-- One that comes. -/
theorem blk_new {L : List Pl} {p : Pl} (hA : ∀ o ∈ L, o.1 ≠ p.1) : blkF L p = [] ↔ ∀ o ∈ L, freeB o p.2.2.1 ∧ o.2.2.1 = 0 := by
  have hof : ofF L p.1 = L.length := by
    have := ofF_skip (A := L) (B := []) hA
    simp [ofF] at this
    exact this
  rw [blkF_nil, hof]
  constructor
  · intro h o ho
    obtain ⟨i, hi, rfl⟩ := List.getElem_of_mem ho
    rcases blkB_false.1 (h i L[i] (List.getElem?_eq_getElem hi)) with e | ⟨f, g⟩
    · omega
    · exact ⟨f, by rcases g with g | g; exact g; omega⟩
  · intro h i o ho
    have := h o (List.mem_of_getElem? ho)
    exact blkB_false.2 (.inr ⟨this.1, .inl this.2⟩)

theorem withF_in {A B : List Pl} {p' p : Pl} (ht : p'.1 = p.1) (hA : ∀ o ∈ A, o.1 ≠ p.1) : withF (A ++ p' :: B) p = if p.2.1 = 0 ∧ p.2.2.1 = 0 then A ++ B else A ++ p :: B := by
  induction A with
  | nil =>
    rw [List.nil_append, withF_cons, if_pos ht]
    rfl
  | cons a A ih =>
    rw [List.cons_append, withF_cons, if_neg (hA a (by simp)), ih (fun o ho => hA o (by simp [ho]))]
    split <;> rfl

theorem withF_new {L : List Pl} {p : Pl} (hA : ∀ o ∈ L, o.1 ≠ p.1) : withF L p = if p.2.1 = 0 ∧ p.2.2.1 = 0 then L else L ++ [p] := by
  induction L with
  | nil =>
    rw [withF_nil]
    rfl
  | cons a A ih =>
    rw [withF_cons, if_neg (hA a (by simp)), ih (fun o ho => hA o (by simp [ho]))]
    split <;> rfl

/-- A mode that a join has all of lets no more by. -/
theorem join_free {a m k : Int} (ha : 0 ≤ a ∧ a ≤ 5) (hm : modB m = true) (hk : modB k = true) (h : (modB (joinF a m) && modB k && togB (joinF a m) k) = true) : a = 0 ∨ (modB a && modB k && togB a k) = true := by
  have hm' : 1 ≤ m ∧ m ≤ 5 := by unfold modB at hm; simpa using hm
  have hk' : 1 ≤ k ∧ k ≤ 5 := by unfold modB at hk; simpa using hk
  revert h
  rcases (by omega : a = 0 ∨ a = 1 ∨ a = 2 ∨ a = 3 ∨ a = 4 ∨ a = 5) with rfl | rfl | rfl | rfl | rfl | rfl <;>
  rcases (by omega : m = 1 ∨ m = 2 ∨ m = 3 ∨ m = 4 ∨ m = 5) with rfl | rfl | rfl | rfl | rfl <;>
  rcases (by omega : k = 1 ∨ k = 2 ∨ k = 3 ∨ k = 4 ∨ k = 5) with rfl | rfl | rfl | rfl | rfl <;> decide

theorem tog_comm {a m : Int} (h : (modB a && modB m && togB a m) = true) : (modB m && modB a && togB m a) = true := by
  have ha : modB a = true := by revert h; cases modB a <;> simp
  have hm : modB m = true := by revert h; cases modB m <;> simp
  have hm' : 1 ≤ m ∧ m ≤ 5 := by unfold modB at hm; simpa using hm
  have ha' : 1 ≤ a ∧ a ≤ 5 := by unfold modB at ha; simpa using ha
  revert h
  rcases (by omega : a = 1 ∨ a = 2 ∨ a = 3 ∨ a = 4 ∨ a = 5) with rfl | rfl | rfl | rfl | rfl <;>
  rcases (by omega : m = 1 ∨ m = 2 ∨ m = 3 ∨ m = 4 ∨ m = 5) with rfl | rfl | rfl | rfl | rfl <;> decide

end Go.Proofs.YthagomibjlcfmaaDoor

namespace Go.Proofs.YthagomibjlcfmaaDoor
open Go.RowKit
set_option linter.unusedVariables false

/-- Two that have a lock get on. -/
def getsOn (p q : Pl) : Prop := p.2.1 ≠ 0 → q.2.1 ≠ 0 → (modB p.2.1 && modB q.2.1 && togB p.2.1 q.2.1) = true

theorem getsOn.symm {p q : Pl} (h : getsOn p q) : getsOn q p := fun a b => tog_comm (h b a)

/-- What a queue keeps at all times. -/
structure SPre (L : List Pl) : Prop where
  uq : UQ L
  tx : ∀ p ∈ L, 1 ≤ p.1 ∧ p.1 ≤ 4
  has : ∀ p ∈ L, 0 ≤ p.2.1 ∧ p.2.1 ≤ 5
  wants : ∀ p ∈ L, 0 ≤ p.2.2.1 ∧ p.2.2.1 ≤ 5
  some' : ∀ p ∈ L, p.2.1 = 0 → p.2.2.1 ≠ 0
  ok : L.Pairwise getsOn

/-- Each one that waits is blocked. -/
def SBlk (L : List Pl) : Prop := ∀ A p B, L = A ++ p :: B → p.2.2.1 ≠ 0 → ¬ ((∀ o ∈ A, freeB o p.2.2.1 ∧ o.2.2.1 = 0) ∧ ∀ o ∈ B, freeB o p.2.2.1)

theorem UQ.parts {A B : List Pl} {p : Pl} (h : UQ (A ++ p :: B)) : (∀ o ∈ A, o.1 ≠ p.1) ∧ (∀ o ∈ B, o.1 ≠ p.1) := by
  unfold UQ at h
  rw [List.pairwise_append] at h
  obtain ⟨_, h2, h3⟩ := h
  rw [List.pairwise_cons] at h2
  exact ⟨fun o ho => h3 o ho p (by simp), fun o ho => fun e => h2.1 o ho e.symm⟩

/-- A queue with one turned: what it has gets on with the others. -/
theorem SPre.turn {A B : List Pl} {p r : Pl} (h : SPre (A ++ p :: B)) (ht : r.1 = p.1) (hh : 0 ≤ r.2.1 ∧ r.2.1 ≤ 5) (hw : 0 ≤ r.2.2.1 ∧ r.2.2.1 ≤ 5) (h0 : r.2.1 = 0 → r.2.2.1 ≠ 0) (hA : ∀ o ∈ A, getsOn o r) (hB : ∀ o ∈ B, getsOn r o) : SPre (A ++ r :: B) := by
  have mem : ∀ q ∈ A ++ r :: B, q = r ∨ q ∈ A ++ p :: B := fun q hq => by
    rcases List.mem_append.1 hq with a | a
    · exact .inr (by simp [a])
    · rcases List.mem_cons.1 a with a | a
      · exact .inl a
      · exact .inr (by simp [a])
  have hp : p ∈ A ++ p :: B := by simp
  refine ⟨?_, ?_, ?_, ?_, ?_, ?_⟩
  · have u := h.uq
    obtain ⟨u1, u2⟩ := u.parts
    unfold UQ at u ⊢
    rw [List.pairwise_append, List.pairwise_cons] at u ⊢
    refine ⟨u.1, ⟨fun o ho => ?_, u.2.1.2⟩, fun a ha b hb => ?_⟩
    · rw [ht]; exact u.2.1.1 o ho
    · rcases List.mem_cons.1 hb with rfl | hb
      · rw [ht]; exact u1 a ha
      · exact u.2.2 a ha b (by simp [hb])
  · intro q hq; rcases mem q hq with rfl | a; rw [ht]; exact h.tx p hp; exact h.tx q a
  · intro q hq; rcases mem q hq with rfl | a; exact hh; exact h.has q a
  · intro q hq; rcases mem q hq with rfl | a; exact hw; exact h.wants q a
  · intro q hq; rcases mem q hq with rfl | a; exact h0; exact h.some' q a
  · have u := h.ok
    rw [List.pairwise_append, List.pairwise_cons] at u ⊢
    refine ⟨u.1, ⟨hB, u.2.1.2⟩, fun a ha b hb => ?_⟩
    rcases List.mem_cons.1 hb with rfl | hb
    · exact hA a ha
    · exact u.2.2 a ha b (by simp [hb])

theorem SPre.sub {L M : List Pl} (h : SPre L) (hs : M.Sublist L) : SPre M :=
  ⟨h.uq.sublist hs, fun p hp => h.tx p (hs.subset hp), fun p hp => h.has p (hs.subset hp), fun p hp => h.wants p (hs.subset hp), fun p hp => h.some' p (hs.subset hp), h.ok.sublist hs⟩

theorem SPre.parts {A B : List Pl} {p : Pl} (h : SPre (A ++ p :: B)) : (∀ o ∈ A, getsOn o p) ∧ ∀ o ∈ B, getsOn p o := by
  have u := h.ok
  rw [List.pairwise_append, List.pairwise_cons] at u
  exact ⟨fun o ho => u.2.2 o ho p (by simp), u.2.1.1⟩

theorem freeB.on {o r : Pl} (h : freeB o r.2.1) : getsOn o r := fun a b => by
  rcases h with e | e
  · exact absurd e a
  · exact e

/-- The first that waits is granted. -/
theorem SPre.grant {A B : List Pl} {p : Pl} (h : SPre (A ++ p :: B)) (hw : p.2.2.1 ≠ 0) (hb : (∀ o ∈ A, freeB o p.2.2.1) ∧ ∀ o ∈ B, freeB o p.2.2.1) (hA : ∀ o ∈ A, o.2.2.1 = 0) :
    SPre (withF (A ++ p :: B) (grantedF p)) ∧ waitF (withF (A ++ p :: B) (grantedF p)) = waitF B := by
  obtain ⟨u1, u2⟩ := h.uq.parts
  have hp : p ∈ A ++ p :: B := by simp
  have wA : waitF A = [] := by
    unfold waitF
    rw [List.filter_eq_nil_iff]
    intro o ho
    simp [hA o ho]
  have hin := withF_in (A := A) (B := B) (p' := p) (p := grantedF p) (grantedF_tx p).symm (fun o ho => by rw [grantedF_tx]; exact u1 o ho)
  rw [hin]
  have wl : ∀ X, waitF (A ++ X) = waitF X := fun X => by
    have : waitF (A ++ X) = waitF A ++ waitF X := List.filter_append _ _
    rw [this, wA]; rfl
  have wr : (grantedF p).2.2.1 = 0 := by unfold grantedF staysF; split <;> rfl
  split
  · refine ⟨h.sub ?_, wl B⟩
    exact List.Sublist.append (List.Sublist.refl _) (List.sublist_cons_self _ _)
  · rename_i hno
    refine ⟨?_, ?_⟩
    · cases hi : p.2.2.2 with
      | true =>
        have e : grantedF p = (p.1, p.2.1, 0, false) := by unfold grantedF staysF; rw [if_pos hi]
        have hp0 : p.2.1 ≠ 0 := fun x => hno (by rw [e]; exact ⟨x, rfl⟩)
        rw [e]
        refine h.turn rfl (h.has p hp) ⟨Int.le_refl _, by show (0 : Int) ≤ 5; omega⟩ (fun x => absurd x hp0) (fun o ho => ?_) (fun o ho => ?_)
        · exact h.parts.1 o ho
        · exact h.parts.2 o ho
      | false =>
        have e : grantedF p = (p.1, p.2.2.1, 0, false) := by unfold grantedF; rw [if_neg (by rw [hi]; simp)]
        rw [e]
        refine h.turn rfl (h.wants p hp) ⟨Int.le_refl _, by show (0 : Int) ≤ 5; omega⟩ (fun x => absurd x hw) (fun o ho => ?_) (fun o ho => ?_)
        · exact freeB.on (r := (p.1, p.2.2.1, 0, false)) (hb.1 o ho)
        · exact (freeB.on (r := (p.1, p.2.2.1, 0, false)) (hb.2 o ho)).symm
    · rw [wl]
      show List.filter _ (grantedF p :: B) = _
      rw [List.filter_cons, if_neg (by simp [wr])]
      rfl

/-- The grants, one behind the other. -/
theorem grants_safe {L : List Pl} (h : SPre L) {k : Nat} (hg : GrantR L k) : ∀ j, j ≤ k → SPre (stateL L (waitF L) j) ∧ waitF (stateL L (waitF L) j) = (waitF L).drop j := by
  intro j
  induction j with
  | zero => intro _; exact ⟨h, rfl⟩
  | succ j ih =>
    intro hj
    obtain ⟨s, e⟩ := ih (by omega)
    have hlt : j < (waitF L).length := by have := hg.le; omega
    rw [stateL_succ _ _ _ hlt]
    have hbl := hg.ok j (by omega) hlt
    rw [List.drop_eq_getElem_cons hlt] at e
    generalize stateL L (waitF L) j = M at *
    generalize (waitF L)[j] = p at *
    unfold waitF at e
    obtain ⟨A, B, rfl, hA, hp, eB⟩ := List.filter_eq_cons_iff.1 e
    have hA' : ∀ o ∈ A, o.2.2.1 = 0 := fun o ho => by simpa using hA o ho
    have hp' : p.2.2.1 ≠ 0 := by simpa using hp
    have hb := (blk_in rfl (s.uq.parts).1).1 hbl
    obtain ⟨r1, r2⟩ := s.grant hp' ⟨fun o ho => (hb.1 o ho).1, hb.2⟩ hA'
    exact ⟨r1, r2.trans eB⟩

/-- Behind the grants each one that waits is blocked. -/
theorem grants_blk {L : List Pl} (h : SPre L) {k : Nat} (hg : GrantR L k) : SBlk (stateL L (waitF L) k) := by
  obtain ⟨s, e⟩ := grants_safe h hg k (Nat.le_refl _)
  intro A q B hM hq hfree
  by_cases hlt : k < (waitF L).length
  · have hno := hg.no hlt
    rw [List.drop_eq_getElem_cons hlt] at e
    generalize stateL L (waitF L) k = M at *
    generalize (waitF L)[k] = p at *
    unfold waitF at e
    obtain ⟨A', B', rfl, hA, hp, eB⟩ := List.filter_eq_cons_iff.1 e
    have hA' : ∀ o ∈ A', o.2.2.1 = 0 := fun o ho => by simpa using hA o ho
    have hp' : p.2.2.1 ≠ 0 := by simpa using hp
    rw [Ne, blk_in rfl (s.uq.parts).1] at hno
    rcases List.append_eq_append_iff.1 hM with ⟨C, c1, c2⟩ | ⟨C, c1, c2⟩
    · cases C with
      | nil =>
        simp at c1 c2
        obtain ⟨rfl, rfl⟩ := c2
        subst c1
        exact hno hfree
      | cons c C =>
        simp at c2
        obtain ⟨rfl, _⟩ := c2
        exact hp' (hfree.1 p (by rw [c1]; simp)).2
    · cases C with
      | nil =>
        simp at c1 c2
        obtain ⟨rfl, rfl⟩ := c2
        subst c1
        exact hno hfree
      | cons c C =>
        simp at c2
        obtain ⟨rfl, _⟩ := c2
        exact hq (hA' q (by rw [c1]; simp))
  · rw [List.drop_eq_nil_of_le (by omega)] at e
    have : q ∈ waitF (stateL L (waitF L) k) := by
      unfold waitF
      rw [List.mem_filter]
      refine ⟨?_, by simpa using hq⟩
      unfold waitF at hM
      rw [hM]
      simp
    rw [e] at this
    cases this

end Go.Proofs.YthagomibjlcfmaaDoor
