/-
  One lock, those that have it and those that wait: the mathematics of LockTurns.
-/
import Derived.Test.YtfniepccldkahaaDoorLkRel2C
namespace Go.Proofs.YtfniepccldkahaaDoor
open Go.RowKit
set_option linter.unusedVariables false

def pH (M : List Int) (i : Nat) : Pl := ((i : Int) + 2, M.getD i 0, 0, false)
def pW (M : List Int) (i : Nat) : Pl := ((i : Int) + 2, 0, M.getD i 0, false)

/-- The queue: those that have the lock, and from nx on those that wait. -/
def QS (M : List Int) (Hs : List Nat) (nx : Nat) : List Pl := Hs.map (pH M) ++ (List.range' nx (M.length - nx)).map (pW M)

theorem ofF_skip {A B : List Pl} {tx : Int} (h : ∀ p ∈ A, p.1 ≠ tx) : ofF (A ++ B) tx = A.length + ofF B tx := by
  induction A with
  | nil => simp
  | cons a A ih =>
    rw [List.cons_append, ofF, if_neg (h a (by simp)), ih (fun p hp => h p (by simp [hp]))]
    simp only [List.length_cons]
    omega

theorem ofF_here (p : Pl) (B : List Pl) : ofF (p :: B) p.1 = 0 := by rw [ofF, if_pos rfl]

theorem blkTo_nil {L : List Pl} {a : Nat} {m : Int} (h : ∀ i o, L[i]? = some o → blkB a m i o = false) (k : Nat) : blkTo L a m k = [] := by
  induction k with
  | zero => rfl
  | succ k ih =>
    unfold blkTo
    rw [ih]
    cases hq : L[k]? with
    | none => rfl
    | some o => simp [h k o hq]

theorem blkTo_mem {L : List Pl} {a : Nat} {m : Int} {i : Nat} {o : Pl} (h : L[i]? = some o) (hb : blkB a m i o = true) (k : Nat) (hk : i < k) : o.1 ∈ blkTo L a m k := by
  induction k with
  | zero => omega
  | succ k ih =>
    unfold blkTo
    rw [List.mem_append]
    rcases Nat.lt_or_ge i k with hh | hh
    · exact .inl (ih hh)
    · obtain rfl : i = k := by omega
      rw [h]
      simp [hb]

section
variable {M : List Int} {Hs : List Nat} {nx : Nat}

theorem QS_split (h : nx < M.length) : QS M Hs nx = Hs.map (pH M) ++ pW M nx :: (List.range' (nx + 1) (M.length - (nx + 1))).map (pW M) := by
  unfold QS
  have e : M.length - nx = (M.length - (nx + 1)) + 1 := by omega
  rw [e, List.range'_succ]
  rfl

theorem QS_grant (h : nx < M.length) (hH : ∀ i ∈ Hs, i < nx) (hM : ∀ x ∈ M, x ≠ 0) : withF (QS M Hs nx) (grantedF (pW M nx)) = QS M (Hs ++ [nx]) (nx + 1) := by
  have hg : grantedF (pW M nx) = pH M nx := rfl
  rw [hg]
  have h0 : M.getD nx 0 ≠ 0 := by
    rw [List.getD_eq_getElem?_getD, List.getElem?_eq_getElem h]
    exact hM _ (List.getElem_mem h)
  have hof : ofF (QS M Hs nx) (pH M nx).1 = Hs.length := by
    rw [QS_split h, ofF_skip (by
      intro p hp
      obtain ⟨i, hi, rfl⟩ := List.mem_map.1 hp
      have := hH i hi
      show ((i : Int) + 2) ≠ (nx : Int) + 2
      omega)]
    rw [show (pH M nx).1 = (pW M nx).1 from rfl, ofF_here]
    simp
  unfold withF
  rw [if_neg (by intro x; exact h0 x.1), hof, if_neg (by rw [QS_split h]; simp), QS_split h]
  rw [List.set_append_right _ _ (by simp)]
  simp only [List.length_map, Nat.sub_self, List.set_cons_zero]
  unfold QS
  simp

theorem QS_wait (hH : ∀ i ∈ Hs, i < nx) (hM : ∀ x ∈ M, x ≠ 0) : waitF (QS M Hs nx) = (List.range' nx (M.length - nx)).map (pW M) := by
  unfold waitF QS
  rw [List.filter_append]
  have e1 : (Hs.map (pH M)).filter (fun p => !decide (p.2.2.1 = 0)) = [] := by
    rw [List.filter_eq_nil_iff]
    intro p hp
    obtain ⟨i, _, rfl⟩ := List.mem_map.1 hp
    simp [pH]
  have e2 : ((List.range' nx (M.length - nx)).map (pW M)).filter (fun p => !decide (p.2.2.1 = 0)) = (List.range' nx (M.length - nx)).map (pW M) := by
    rw [List.filter_eq_self]
    intro p hp
    obtain ⟨i, hi, rfl⟩ := List.mem_map.1 hp
    rw [List.mem_range'_1] at hi
    have hl : i < M.length := by omega
    have : M.getD i 0 ≠ 0 := by
      rw [List.getD_eq_getElem?_getD, List.getElem?_eq_getElem hl]
      exact hM _ (List.getElem_mem hl)
    simp [pW]
    simpa using this
  rw [e1, e2]
  rfl

theorem QS_state (hn : nx ≤ M.length) (hH : ∀ i ∈ Hs, i < nx) (hM : ∀ x ∈ M, x ≠ 0) (k : Nat) (hk : k ≤ M.length - nx) : stateL (QS M Hs nx) (waitF (QS M Hs nx)) k = QS M (Hs ++ List.range' nx k) (nx + k) := by
  induction k with
  | zero => simp [stateL]
  | succ k ih =>
    have hlen : (waitF (QS M Hs nx)).length = M.length - nx := by rw [QS_wait hH hM]; simp
    rw [stateL_succ _ _ _ (by omega), ih (by omega)]
    have hw : (waitF (QS M Hs nx))[k]'(by omega) = pW M (nx + k) := by
      simp only [QS_wait hH hM, List.getElem_map, List.getElem_range', Nat.one_mul]
    rw [hw, QS_grant (by omega) (by
      intro i hi
      rcases List.mem_append.1 hi with x | x
      · have := hH i x; omega
      · rw [List.mem_range'_1] at x; omega) hM]
    rw [List.append_assoc, List.range'_concat]
    simp [Nat.add_assoc]

theorem QS_who (hH : ∀ i ∈ Hs, i < nx) (hM : ∀ x ∈ M, x ≠ 0) (k : Nat) (hk : k ≤ M.length - nx) : whoF (QS M Hs nx) k = (List.range' nx k).map fun (i : Nat) => (i : Int) + 2 := by
  unfold whoF
  rw [QS_wait hH hM, ← List.map_take, List.map_map]
  have : (List.range' nx (M.length - nx)).take k = List.range' nx k := by
    apply List.ext_getElem
    · simp; omega
    · intro i h1 h2; simp
  rw [this]
  rfl

/-- Where nobody has the lock, the first that waits is not blocked. -/
theorem QS_free (h : nx < M.length) : blkF (QS M [] nx) (pW M nx) = [] := by
  unfold blkF
  have hof : ofF (QS M [] nx) (pW M nx).1 = 0 := by rw [QS_split h]; exact ofF_here _ _
  rw [hof]
  apply blkTo_nil
  intro i o ho
  have : o.2.1 = 0 := by
    unfold QS at ho
    simp only [List.map_nil, List.nil_append] at ho
    obtain ⟨j, _, rfl⟩ := List.mem_map.1 (List.mem_of_getElem? ho)
    rfl
  unfold blkB
  simp [this]

/-- One that has the lock lets go. -/
theorem QS_out {A B : List Nat} {h : Nat} (hd : (A ++ h :: B).Nodup) : withF (QS M (A ++ h :: B) nx) ((h : Int) + 2, 0, 0, false) = QS M (A ++ B) nx := by
  have hA : ∀ i ∈ A, i ≠ h := fun i hi e => by
    rw [List.nodup_append] at hd
    exact hd.2.2 i hi h (by simp) e
  have hof : ofF (QS M (A ++ h :: B) nx) ((h : Int) + 2) = A.length := by
    unfold QS
    rw [List.map_append, List.append_assoc, ofF_skip (by
      intro p hp
      obtain ⟨i, hi, rfl⟩ := List.mem_map.1 hp
      have := hA i hi
      show ((i : Int) + 2) ≠ (h : Int) + 2
      omega)]
    have := ofF_here (pH M h) (B.map (pH M) ++ (List.range' nx (M.length - nx)).map (pW M))
    rw [List.map_cons, List.cons_append]
    rw [show ((h : Int) + 2) = (pH M h).1 from rfl, this]
    simp
  unfold withF
  rw [if_pos ⟨rfl, rfl⟩, hof]
  unfold QS
  rw [List.map_append, List.map_cons, List.append_assoc, List.eraseIdx_append_of_length_le (by simp)]
  simp

/-- What one has. -/
theorem QS_has {t : Nat} (hH : ∀ i ∈ Hs, i < nx) : (oneF (QS M Hs nx) ((t : Int) + 2)).2.1 = if t ∈ Hs then M.getD t 0 else 0 := by
  unfold oneF
  by_cases h : t ∈ Hs
  · rw [if_pos h]
    have hp : pH M t ∈ QS M Hs nx := by unfold QS; exact List.mem_append_left _ (List.mem_map.2 ⟨t, h, rfl⟩)
    have hlt : ofF (QS M Hs nx) ((t : Int) + 2) < (Hs.map (pH M)).length := by
      unfold QS
      have hle : ∀ (X Y : List Pl), (∃ p ∈ X, p.1 = (t : Int) + 2) → ofF (X ++ Y) ((t : Int) + 2) < X.length := by
        intro X
        induction X with
        | nil => rintro Y ⟨p, hp, _⟩; cases hp
        | cons x X ih =>
          rintro Y ⟨p, hp, e⟩
          rw [List.cons_append, ofF]
          split
          · simp
          · rename_i hne
            have : ∃ p ∈ X, p.1 = (t : Int) + 2 := by
              rcases List.mem_cons.1 hp with rfl | hp
              · exact absurd e hne
              · exact ⟨p, hp, e⟩
            have := ih Y this
            simp only [List.length_cons]
            omega
      exact hle _ _ ⟨pH M t, List.mem_map.2 ⟨t, h, rfl⟩, rfl⟩
    have hfull : ofF (QS M Hs nx) ((t : Int) + 2) < (QS M Hs nx).length := by
      have : (Hs.map (pH M)).length ≤ (QS M Hs nx).length := by unfold QS; simp
      omega
    have hat := ofF_at hfull
    rw [List.getElem?_eq_getElem hfull]
    simp only [Option.getD_some]
    have key : ∀ k (h1 : k < (Hs.map (pH M)).length) (h2 : k < (QS M Hs nx).length), (QS M Hs nx)[k] = (Hs.map (pH M))[k] := fun k h1 h2 => List.getElem_append_left (bs := (List.range' nx (M.length - nx)).map (pW M)) h1
    have hget : (QS M Hs nx)[ofF (QS M Hs nx) ((t : Int) + 2)] = (Hs.map (pH M))[ofF (QS M Hs nx) ((t : Int) + 2)] := key _ hlt hfull
    rw [hget] at hat ⊢
    rw [List.getElem_map] at hat ⊢
    have : Hs[ofF (QS M Hs nx) ((t : Int) + 2)]'(by simpa using hlt) = t := by
      have : ((Hs[ofF (QS M Hs nx) ((t : Int) + 2)]'(by simpa using hlt) : Nat) : Int) + 2 = (t : Int) + 2 := hat
      omega
    rw [this]
    rfl
  · rw [if_neg h]
    by_cases hf : ofF (QS M Hs nx) ((t : Int) + 2) < (QS M Hs nx).length
    · have hat := ofF_at hf
      rw [List.getElem?_eq_getElem hf]
      simp only [Option.getD_some]
      have hm := List.getElem_mem hf
      generalize (QS M Hs nx)[ofF (QS M Hs nx) ((t : Int) + 2)] = p at *
      unfold QS at hm
      rcases List.mem_append.1 hm with x | x
      · obtain ⟨i, hi, rfl⟩ := List.mem_map.1 x
        have : ((i : Int) + 2) = (t : Int) + 2 := hat
        obtain rfl : i = t := by omega
        exact absurd hi h
      · obtain ⟨i, hi, rfl⟩ := List.mem_map.1 x
        rfl
    · rw [List.getElem?_eq_none (by omega)]
      rfl
end

end Go.Proofs.YtfniepccldkahaaDoor
