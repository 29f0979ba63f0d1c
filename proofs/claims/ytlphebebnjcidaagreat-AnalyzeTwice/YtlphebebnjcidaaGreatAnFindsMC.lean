/-
  What the document finds in laid's list is what is heard of its log.
-/
import Derived.Test.YtlphebebnjcidaaGreatAnRefJC
set_option linter.unusedVariables false
set_option linter.unusedSimpArgs false
namespace Go.Proofs.YtlphebebnjcidaaGreat
open Go.RowKit Go.Sort Go.Shelf Go.Lib

theorem ref_at {RL : List RIn} {n : Nat} (hn : n ≤ RL.length) {X : List (RefV × Value × Value)} (hX : X.map (·.1) = (laidTo RL n).2) {i : Nat} (hi : i < X.length) : X[i].1 = refV (placeOf (laidTo RL n).1 i) (recN RL n i) ∧ MayR (recN RL n i) := by
  have h1 : (laidTo RL n).2[i]? = some X[i].1 := by
    rw [← hX, List.getElem?_map, List.getElem?_eq_getElem hi]
    rfl
  obtain ⟨y, hy, hx⟩ := (laidTo_good RL n hn).2 i _ h1
  have hr : recN RL n i = y.r := by unfold recN; rw [hy]
  have hm := List.mem_of_getElem? hy
  unfold goodL at hm
  rw [hr]
  exact ⟨hx, may_parts (List.mem_filter.1 hm).2⟩

theorem ref_is {RL : List RIn} {n : Nat} (hn : n ≤ RL.length) {X : List (RefV × Value × Value)} (hX : X.map (·.1) = (laidTo RL n).2) (i0 : Nat) : ∀ k, k ≤ (X.drop i0).length → (foTo (X.drop i0) k).Is (heardTo (laidTo RL n).1 (recN RL n) i0 k)
  | 0, _ => by
    have : foTo (X.drop i0) 0 = fo0 := rfl
    rw [this]
    exact fo0_is
  | k + 1, hk => by
    have ih := ref_is hn hX i0 k (by omega)
    have hi : i0 + k < X.length := by rw [List.length_drop] at hk; omega
    obtain ⟨h1, h2⟩ := ref_at hn hX hi
    have e : ((X.drop i0)[k]'(by omega)).1 = refV (placeOf (laidTo RL n).1 (i0 + k)) (recN RL n (i0 + k)) := by rw [List.getElem_drop]; exact h1
    rw [foTo_succ (by omega), e]
    exact ih.one _ h2

theorem may_few {r : RecV} (hm : MayR r) : r.txs.length ≤ 64 ∧ r.dirty.length ≤ 256 := by
  cases hl : listsB r with
  | true =>
    obtain ⟨h1, h2, h3⟩ := hm.lists hl
    exact ⟨h1, h2⟩
  | false =>
    obtain ⟨h1, h2⟩ := no_lists hm.same hl
    rw [h1, h2]
    exact ⟨Nat.zero_le _, Nat.zero_le _⟩

theorem ref_few {RL : List RIn} {n : Nat} (hn : n ≤ RL.length) {X : List (RefV × Value × Value)} (hX : X.map (·.1) = (laidTo RL n).2) (i0 : Nat) : ∀ x ∈ X.drop i0, x.1.txs.length ≤ 64 ∧ x.1.dirty.length ≤ 256 := by
  intro x hx
  obtain ⟨i, hi, rfl⟩ := List.getElem_of_mem (List.mem_of_mem_drop hx)
  obtain ⟨h1, h2⟩ := ref_at hn hX hi
  rw [h1]
  exact may_few h2

theorem ld_slice {w wr : World} {q : Nat} {A : Nat → Prop} {rs : List ByteArray} {sure mark j : Nat} {v v' : Value} {X : List (RefV × Value × Value)} {i0 : Nat} (h : LaAt w wr q A rs sure mark j v X)
    (hm : (i0 < X.length ∧ ∃ g cap, v = .slice (some ⟨g, 0, none⟩) X.length cap ∧ v' = .slice (some ⟨g, i0 * 7, none⟩) (X.length - i0 : Nat) (cap - i0 : Nat)) ∨ (i0 = 0 ∧ v' = v)) :
    ∃ a c, v' = .slice a (X.drop i0).length c ∧ RxAt wr a (X.drop i0) := by
  rcases hm with ⟨hi, g, cap, rfl, rfl⟩ | ⟨rfl, rfl⟩
  · refine ⟨some ⟨g, i0 * 7, none⟩, cap - i0, ?_, h.rx⟩
    rw [List.length_drop]
  · obtain ⟨a, c, rfl⟩ := owns_val7 h.own
    rw [List.drop_zero]
    refine ⟨a, c, rfl, ?_⟩
    rcases h.own.2 with ⟨q1, q2⟩ | ⟨g, cap, cur, q1, _⟩
    · exact .inl (List.length_eq_zero_iff.1 q2)
    · simp only [Value.slice.injEq] at q1
      obtain ⟨rfl, _, rfl⟩ := q1
      have := h.rx (i0 := 0)
      rwa [Nat.zero_mul, List.drop_zero] at this

theorem atAt.sl {B : Nat} {w : World} {v : Value} {L : List TxV} (h : atAt B w v L) : SlT w v L := by
  have h' := h
  rcases h.2 with ⟨rfl, hn⟩ | ⟨g, cap, cur, rfl, hb, hg, h1, h2, h3, h4⟩
  · have : L = [] := List.length_eq_zero_iff.1 hn
    subst this
    exact ⟨none, 0, rfl, .inl rfl⟩
  · refine ⟨some ⟨g, 0, none⟩, cap, rfl, .inr ⟨g, 0, rfl, ((atAt.lt h') g rfl).2, fun i hi => ?_⟩⟩
    have c : ∀ j, j < 4 → w.cell? ⟨g, 0 + i * 4 + j, none⟩ = (atcells L[i])[j]? := fun j hj => by
      rw [Nat.zero_add, ← atflat_get L i j hi hj]
      exact World.ownsRow.cellAt h' (i * 4 + j) (by omega)
    exact ⟨(c 0 (by omega)).trans rfl, (c 1 (by omega)).trans rfl, (c 2 (by omega)).trans rfl, (c 3 (by omega)).trans rfl⟩

theorem adAt.sl {B : Nat} {w : World} {v : Value} {L : List DiV} (h : adAt B w v L) : SlD w v L := by
  have h' := h
  rcases h.2 with ⟨rfl, hn⟩ | ⟨g, cap, cur, rfl, hb, hg, h1, h2, h3, h4⟩
  · have : L = [] := List.length_eq_zero_iff.1 hn
    subst this
    exact ⟨none, 0, rfl, .inl rfl⟩
  · refine ⟨some ⟨g, 0, none⟩, cap, rfl, .inr ⟨g, 0, rfl, ((adAt.lt h') g rfl).2, fun i hi => ?_⟩⟩
    have c : ∀ j, j < 2 → w.cell? ⟨g, 0 + i * 2 + j, none⟩ = (adcells L[i])[j]? := fun j hj => by
      rw [Nat.zero_add, ← adflat_get L i j hi hj]
      exact World.ownsRow.cellAt h' (i * 2 + j) (by omega)
    exact ⟨(c 0 (by omega)).trans rfl, (c 1 (by omega)).trans rfl⟩

end Go.Proofs.YtlphebebnjcidaaGreat
