/-
  The table of LockTurns: one lock, those that ask for it, and letting go.
-/
import Derived.Test.YtfniepccldkahaaDoorLkTurnMC
import Derived.Test.YtfniepccldkahaaDoorLkRefC
namespace Go.Proofs.YtfniepccldkahaaDoor
open Go.RowKit
set_option linter.unusedVariables false

def nT : NameV := (2, 1, 0, 0)
theorem nokT : ∃ l, NKey nT l := nkey_of (by kernel_rfl)

/-- Behind a letting go: Hs have the lock, from nx on all wait. -/
structure TS (T : Tab) (M : List Int) (Hs : List Nat) (nx : Nat) : Prop where
  q : T.Q nT = QS M Hs nx
  o : ∀ x, x ≠ nT → T.Q x = []
  z : T.z = if (T.Q nT).isEmpty then 0 else 1
  w : ∀ i : Nat, nx ≤ i → i < M.length → (T.W ((i : Int) + 2)).isSome = true
  le : nx ≤ M.length
  hs : ∀ i ∈ Hs, i < nx
  nd : Hs.Nodup
  st : nx < M.length → Hs ≠ []

/-- While all ask: 1 has the lock, all others wait. -/
structure TA (T : Tab) (M : List Int) : Prop where
  q : T.Q nT = (1, 5, 0, false) :: QS M [] 0
  o : ∀ x, x ≠ nT → T.Q x = []
  z : T.z = if (T.Q nT).isEmpty then 0 else 1
  w : ∀ i : Nat, i < M.length → (T.W ((i : Int) + 2)).isSome = true
  no : ∀ t : Int, (M.length : Int) + 2 ≤ t → T.W t = none
  y : T.y ≤ M.length

theorem setQ_zx (T : Tab) (L : List Pl) (h : T.z = if (T.Q nT).isEmpty then 0 else 1) : (T.setQ nT L).z = if ((T.setQ nT L).Q nT).isEmpty then 0 else 1 := by
  rw [setQ_same]
  unfold Tab.setQ
  simp only
  rw [h]
  cases (T.Q nT).isEmpty <;> cases L.isEmpty <;> rfl

theorem names_one {T : Tab} {tx : Int} {NL : List NameV} (h : NamesOf T tx NL) (ho : ∀ x, x ≠ nT → T.Q x = []) (hi : ofF (T.Q nT) tx < (T.Q nT).length) : NL = [nT] := by
  have hall : ∀ m ∈ NL, m = nT := fun m hm => by
    obtain ⟨l, hl⟩ := h.key m hm
    have := (h.mem m l hl).1 hm
    by_cases e : m = nT
    · exact e
    · rw [ho m e] at this
      simp at this
  obtain ⟨lT, hT⟩ := nokT
  have hin : nT ∈ NL := (h.mem nT lT hT).2 hi
  match NL, h.nd, hall, hin with
  | [], _, _, hin => cases hin
  | [a], _, hall, _ => rw [hall a (by simp)]
  | a :: b :: r, hd, hall, _ =>
    have h1 := hall a (by simp)
    have h2 := hall b (by simp)
    rw [h1, h2] at hd
    simp at hd

theorem grant_one {T2 T' : Tab} {M : List Int} {Hs : List Nat} {nx : Nat} {zs : List Int} (hq : T2.Q nT = QS M Hs nx) (ho : ∀ x, x ≠ nT → T2.Q x = []) (hz : T2.z = if (T2.Q nT).isEmpty then 0 else 1) (hw : ∀ i : Nat, nx ≤ i → i < M.length → (T2.W ((i : Int) + 2)).isSome = true)
    (hle : nx ≤ M.length) (hs : ∀ i ∈ Hs, i < nx) (hd : Hs.Nodup) (hM : ∀ x ∈ M, x ≠ 0) (h : RelR [nT] T2 zs T') : ∃ k, k ≤ M.length - nx ∧ zs = (List.range' nx k).map (fun (i : Nat) => (i : Int) + 2) ∧ TS T' M (Hs ++ List.range' nx k) (nx + k) := by
  obtain ⟨k, zs', hg, rfl, rfl, rfl⟩ := h
  rw [hq] at hg ⊢
  have hlen : (waitF (QS M Hs nx)).length = M.length - nx := by rw [QS_wait hs hM]; simp
  have hk : k ≤ M.length - nx := by have := hg.le; omega
  refine ⟨k, hk, by rw [List.append_nil, QS_who hs hM k hk], ?_⟩
  rw [QS_state hle hs hM k hk]
  refine ⟨setQ_same _ _ _, fun x hx => by rw [setQ_other _ _ hx]; exact ho x hx, setQ_zx _ _ hz, ?_, by omega, ?_, ?_, ?_⟩
  · intro i h1 h2
    show (if (i : Int) + 2 ∈ whoF (QS M Hs nx) k then none else T2.W ((i : Int) + 2)).isSome = true
    rw [if_neg (by
      rw [QS_who hs hM k hk]
      intro x
      obtain ⟨j, hj, e⟩ := List.mem_map.1 x
      rw [List.mem_range'_1] at hj
      omega)]
    exact hw i (by omega) h2
  · intro i hi
    rcases List.mem_append.1 hi with x | x
    · have := hs i x; omega
    · rw [List.mem_range'_1] at x; omega
  · rw [List.nodup_append]
    refine ⟨hd, List.nodup_range', fun a ha b hb e => ?_⟩
    rw [List.mem_range'_1] at hb
    have := hs a ha
    omega
  · intro hlt e
    obtain ⟨e1, e2⟩ := List.append_eq_nil_iff.1 e
    have hk0 : k = 0 := by
      cases k with
      | zero => rfl
      | succ k => simp [List.range'_succ] at e2
    subst hk0
    subst e1
    have hn : nx < M.length := by omega
    have hno := hg.no (by omega)
    have hw0 : (waitF (QS M [] nx))[0]'(by omega) = pW M nx := by
      simp only [QS_wait hs hM, List.getElem_map, List.getElem_range', Nat.mul_zero, Nat.add_zero]
    rw [hw0] at hno
    exact hno (QS_free hn)

theorem TS.rel {T T' : Tab} {M : List Int} {A B : List Nat} {t nx : Nat} {zs : List Int} {NL : List NameV} (h : TS T M (A ++ t :: B) nx) (hM : ∀ x ∈ M, x ≠ 0) (hN : NamesOf T ((t : Int) + 2) NL) (hr : RelR NL ((outT T ((t : Int) + 2) NL).delW ((t : Int) + 2)) zs T') :
    ∃ k, k ≤ M.length - nx ∧ zs = (List.range' nx k).map (fun (i : Nat) => (i : Int) + 2) ∧ TS T' M ((A ++ B) ++ List.range' nx k) (nx + k) := by
  have hof : ofF (T.Q nT) ((t : Int) + 2) < (T.Q nT).length := by
    rw [h.q]
    rcases Nat.lt_or_ge (ofF (QS M (A ++ t :: B) nx) ((t : Int) + 2)) (QS M (A ++ t :: B) nx).length with x | x
    · exact x
    · exfalso
      have := QS_has (M := M) (t := t) h.hs
      rw [if_pos (by simp)] at this
      unfold oneF at this
      rw [List.getElem?_eq_none x] at this
      simp only [Option.getD_none] at this
      have hl : t < M.length := by have := h.hs t (by simp); have := h.le; omega
      rw [List.getD_eq_getElem?_getD, List.getElem?_eq_getElem hl] at this
      exact hM _ (List.getElem_mem hl) this.symm
  obtain rfl := names_one hN h.o hof
  have hq2 : ((outT T ((t : Int) + 2) [nT]).delW ((t : Int) + 2)).Q nT = QS M (A ++ B) nx := by
    show (T.setQ nT (withF (T.Q nT) ((t : Int) + 2, 0, 0, false))).Q nT = _
    rw [setQ_same, h.q, QS_out h.nd]
  have ht := h.hs t (by simp)
  refine grant_one hq2 (fun x hx => ?_) ?_ (fun i h1 h2 => ?_) h.le (fun i hi => h.hs i (by rcases List.mem_append.1 hi with x | x <;> simp [x])) ?_ hM hr
  · show (T.setQ nT _).Q x = _
    rw [setQ_other _ _ hx]; exact h.o x hx
  · exact setQ_zx T _ h.z
  · show (if (i : Int) + 2 = (t : Int) + 2 then none else T.W ((i : Int) + 2)).isSome = true
    rw [if_neg (by omega)]
    exact h.w i h1 h2
  · have := h.nd
    rw [List.nodup_append] at this ⊢
    obtain ⟨n1, n2, n3⟩ := this
    exact ⟨n1, (List.nodup_cons.1 n2).2, fun a ha b hb => n3 a ha b (by simp [hb])⟩

theorem TA.rel {T T' : Tab} {M : List Int} {zs : List Int} {NL : List NameV} (h : TA T M) (hM : ∀ x ∈ M, x ≠ 0) (hN : NamesOf T 1 NL) (hr : RelR NL ((outT T 1 NL).delW 1) zs T') :
    ∃ k, k ≤ M.length ∧ zs = (List.range' 0 k).map (fun (i : Nat) => (i : Int) + 2) ∧ TS T' M (List.range' 0 k) k := by
  have hof : ofF (T.Q nT) 1 = 0 := by rw [h.q]; rfl
  obtain rfl := names_one hN h.o (by rw [hof, h.q]; simp)
  have hq2 : ((outT T 1 [nT]).delW 1).Q nT = QS M [] 0 := by
    show (T.setQ nT (withF (T.Q nT) (1, 0, 0, false))).Q nT = _
    rw [setQ_same]
    unfold withF
    rw [if_pos ⟨rfl, rfl⟩]
    show (T.Q nT).eraseIdx (ofF (T.Q nT) 1) = _
    rw [hof, h.q]
    rfl
  obtain ⟨k, h1, h2, h3⟩ := grant_one (Hs := []) (nx := 0) hq2 (fun x hx => by
    show (T.setQ nT _).Q x = _
    rw [setQ_other _ _ hx]; exact h.o x hx) (setQ_zx T _ h.z) (fun i _ hi => by
    show (if (i : Int) + 2 = 1 then none else T.W ((i : Int) + 2)).isSome = true
    rw [if_neg (by omega)]
    exact h.w i hi) (Nat.zero_le _) (by simp) (by simp) hM hr
  exact ⟨k, by omega, h2, by simpa using h3⟩

theorem TA.start {T : Tab} (hq : T = emptyT.setQ nT [(1, 5, 0, false)]) : TA T [] := by
  subst hq
  refine ⟨by rw [setQ_same]; rfl, fun x hx => by rw [setQ_other _ _ hx]; rfl, setQ_zx _ _ rfl, by simp, fun t _ => rfl, Nat.le_refl _⟩

theorem pW_app (M : List Int) (m : Int) (i : Nat) (h : i < M.length) : pW (M ++ [m]) i = pW M i := by
  unfold pW
  rw [List.getD_eq_getElem?_getD, List.getD_eq_getElem?_getD, List.getElem?_append_left h]

theorem QS_app (M : List Int) (m : Int) : QS (M ++ [m]) [] 0 = QS M [] 0 ++ [((M.length : Int) + 2, 0, m, false)] := by
  unfold QS
  simp only [List.map_nil, List.nil_append, Nat.sub_zero, List.length_append, List.length_cons, List.length_nil]
  rw [List.range'_concat, List.map_append]
  congr 1
  · apply List.map_congr_left
    intro i hi
    rw [List.mem_range'_1] at hi
    exact pW_app M m i (by omega)
  · simp [pW]

/-- One more asks. -/
theorem TA.ask {T : Tab} {M : List Int} {m : Int} (h : TA T M) (hm : modB m = true) : (oneF (T.Q nT) ((M.length : Int) + 2)) = ((M.length : Int) + 2, 0, 0, false) ∧ joinF 0 m = m ∧ m ≠ 0 ∧ ofF (T.Q nT) ((M.length : Int) + 2) = (T.Q nT).length ∧
    blkF (T.Q nT) ((M.length : Int) + 2, 0, m, false) ≠ [] ∧ TA ((T.setQ nT (withF (T.Q nT) ((M.length : Int) + 2, 0, m, false))).setW ((M.length : Int) + 2) nT) (M ++ [m]) := by
  have hm0 : m ≠ 0 := by intro e; rw [e] at hm; cases hm
  have hj : joinF 0 m = m := (joinF_zero m (by rw [hm]; simp)).1
  have hlen : (T.Q nT).length = M.length + 1 := by rw [h.q]; simp [QS]
  have hof : ofF (T.Q nT) ((M.length : Int) + 2) = (T.Q nT).length := by
    apply ofF_none
    intro j hj e
    have hmem := List.getElem_mem hj
    generalize (T.Q nT)[j] = p at *
    rw [h.q] at hmem
    rcases List.mem_cons.1 hmem with x | x
    · rw [x] at e
      have e : (1 : Int) = (M.length : Int) + 2 := e
      omega
    · unfold QS at x
      simp only [List.map_nil, List.nil_append] at x
      obtain ⟨i, hi, e2⟩ := List.mem_map.1 x
      rw [List.mem_range'_1] at hi
      rw [← e2] at e
      have : ((i : Int) + 2) = (M.length : Int) + 2 := e
      omega
  have hone : oneF (T.Q nT) ((M.length : Int) + 2) = ((M.length : Int) + 2, 0, 0, false) := by
    unfold oneF
    rw [hof, List.getElem?_eq_none (Nat.le_refl _)]
    rfl
  refine ⟨hone, hj, hm0, hof, ?_, ?_⟩
  · intro e
    have : (1 : Int) ∈ blkF (T.Q nT) ((M.length : Int) + 2, 0, m, false) := by
      unfold blkF
      have h0 : (T.Q nT)[0]? = some (1, 5, 0, false) := by rw [h.q]; rfl
      refine blkTo_mem h0 ?_ _ (by omega)
      unfold blkB
      have hne : ¬ (0 = ofF (T.Q nT) ((M.length : Int) + 2)) := by rw [hof]; omega
      simp only
      rw [decide_eq_false hne]
      simp [togB]
    rw [e] at this
    cases this
  · have hw : withF (T.Q nT) ((M.length : Int) + 2, 0, m, false) = T.Q nT ++ [((M.length : Int) + 2, 0, m, false)] := by
      unfold withF
      rw [if_neg (by intro x; exact hm0 x.2), if_pos hof]
    rw [hw]
    refine ⟨?_, ?_, ?_, ?_, ?_, ?_⟩
    · show (T.setQ nT _).Q nT = _
      rw [setQ_same, h.q, QS_app]
      rfl
    · intro x hx
      show (T.setQ nT _).Q x = _
      rw [setQ_other _ _ hx]; exact h.o x hx
    · exact setQ_zx T _ h.z
    · intro i hi
      show (if (i : Int) + 2 = (M.length : Int) + 2 then some nT else T.W ((i : Int) + 2)).isSome = true
      by_cases e : i = M.length
      · subst e; simp
      · rw [if_neg (by omega)]
        exact h.w i (by simp at hi; omega)
    · intro t ht
      simp only [List.length_append, List.length_cons, List.length_nil] at ht
      show (if t = (M.length : Int) + 2 then some nT else T.W t) = none
      rw [if_neg (by omega)]
      exact h.no t (by omega)
    · show T.y + 1 ≤ _
      have := h.y
      simp
      omega

end Go.Proofs.YtfniepccldkahaaDoor
