/-
  Queues in memory; the walks of queue.of, queue.one, place.stays, place.granted.
-/
import Derived.Test.YthagomibjlcfmaaDoorLkModesC
import Derived.Maps.AppendAt
import Derived.OwnWalk
namespace Go.Proofs.YthagomibjlcfmaaDoor
open Go.RowKit
set_option linter.unusedVariables false
set_option linter.unusedSimpArgs false

/-- Somebody in a queue: who it is, what it has, what it waits for, and whether instantly. -/
abbrev Pl := Int × Int × Int × Bool

def pcells (p : Pl) : List Value := [.int .i64 p.1, .int .i64 p.2.1, .int .i64 p.2.2.1, .bool p.2.2.2]
def pval (p : Pl) : Value := .agg #[.int .i64 p.1, .int .i64 p.2.1, .int .i64 p.2.2.1, .bool p.2.2.2]

/-- The value v is a queue, a row of its own. -/
def QAt (w : World) (v : Value) (L : List Pl) : Prop := w.ownsRow 0 64 4 v L.length (L.flatMap pcells)

structure PlAt (w : World) (b o : Nat) (t : Pl) : Prop where
  c0 : w.cell? ⟨b, o, none⟩ = some (.int .i64 t.1)
  c1 : w.cell? ⟨b, o + 1, none⟩ = some (.int .i64 t.2.1)
  c2 : w.cell? ⟨b, o + 2, none⟩ = some (.int .i64 t.2.2.1)
  c3 : w.cell? ⟨b, o + 3, none⟩ = some (.bool t.2.2.2)

theorem PlAt.same {w w' : World} {b o : Nat} {t : Pl} (h : PlAt w b o t) (e : w'.heap[b]? = w.heap[b]?) : PlAt w' b o t :=
  ⟨(World.cell?_of_block (w := w) (a := ⟨b, o, none⟩) e).trans h.c0, (World.cell?_of_block (w := w) (a := ⟨b, o + 1, none⟩) e).trans h.c1, (World.cell?_of_block (w := w) (a := ⟨b, o + 2, none⟩) e).trans h.c2, (World.cell?_of_block (w := w) (a := ⟨b, o + 3, none⟩) e).trans h.c3⟩

theorem flat_get (L : List Pl) (i j : Nat) (hi : i < L.length) (hj : j < 4) : (L.flatMap pcells)[i * 4 + j]? = (pcells L[i])[j]? := by
  induction L generalizing i with
  | nil => simp at hi
  | cons p L ih =>
    rw [List.flatMap_cons]
    have h4 : (pcells p).length = 4 := rfl
    match i, hi with
    | 0, _ =>
      rw [List.getElem?_append_left (by omega)]
      simp
    | i + 1, hi =>
      rw [List.getElem?_append_right (by omega)]
      have : (i + 1) * 4 + j - (pcells p).length = i * 4 + j := by rw [h4]; omega
      rw [this]
      exact ih i (by simpa using hi)

theorem flat_len (L : List Pl) : (L.flatMap pcells).length = L.length * 4 := by
  induction L with
  | nil => rfl
  | cons p L ih => rw [List.flatMap_cons, List.length_append, ih]; simp [pcells]; omega

theorem owns_cells4 {w : World} {e : TypeId} {z n : Nat} {g cap : Nat} {xs : List Value} (h : w.ownsRow 0 e z (.slice (some ⟨g, 0, none⟩) n cap) n xs) (k : Nat) (u : Value) (hk : xs[k]? = some u) : w.cell? ⟨g, k, none⟩ = some u := by
  rcases h.2 with ⟨e1, _⟩ | ⟨g', cap', cur, e1, _, hb, hn, hm, hs, ht⟩
  · cases e1
  · cases e1
    have hl : k < xs.length := (List.getElem?_eq_some_iff.1 hk).1
    rw [h.1] at hl
    have : cur.toList[k]? = some u := by
      rw [← ht, List.getElem?_take] at hk
      rw [if_pos hl] at hk
      exact hk
    simp only [World.cell?, hb]
    simpa using this

/-- A queue is nil, or its places lie one behind the other. -/
theorem QAt.open {w : World} {v : Value} {L : List Pl} (h : QAt w v L) : (v = .slice none 0 0 ∧ L = []) ∨ ∃ g cap, v = .slice (some ⟨g, 0, none⟩) L.length cap ∧ g < w.heap.size ∧ L.length ≤ cap ∧ cap ≤ maxLen ∧ ∀ i (hi : i < L.length), PlAt w g (i * 4) L[i] := by
  have h0 := h
  unfold QAt at h0
  rcases h0.2 with ⟨e, hn⟩ | ⟨g, cap, cur, rfl, _, hb, hn, hm, hs, ht⟩
  · exact .inl ⟨e, List.eq_nil_of_length_eq_zero hn⟩
  · refine .inr ⟨g, cap, rfl, (Array.getElem?_eq_some_iff.1 hb).1, hn, hm, fun i hi => ⟨?_, ?_, ?_, ?_⟩⟩
    · exact owns_cells4 h0 (i * 4) _ ((flat_get L i 0 hi (by omega)).trans rfl)
    · exact owns_cells4 h0 (i * 4 + 1) _ ((flat_get L i 1 hi (by omega)).trans rfl)
    · exact owns_cells4 h0 (i * 4 + 2) _ ((flat_get L i 2 hi (by omega)).trans rfl)
    · exact owns_cells4 h0 (i * 4 + 3) _ ((flat_get L i 3 hi (by omega)).trans rfl)

theorem QAt.same {w w' : World} {v : Value} {L : List Pl} (h : QAt w v L) (k : ∀ g, v.ownBlock = some g → w'.heap[g]? = w.heap[g]?) : QAt w' v L := by
  refine ⟨h.1, ?_⟩
  rcases h.2 with ⟨rfl, h1⟩ | ⟨g', cap, cur, rfl, h0, hb, hr⟩
  · exact .inl ⟨rfl, h1⟩
  · exact .inr ⟨g', cap, cur, rfl, h0, (k g' rfl).trans hb, hr⟩

theorem QAt.lt {w : World} {v : Value} {L : List Pl} (h : QAt w v L) : ∀ g, v.ownBlock = some g → g < w.heap.size := fun g hg => (World.ownsRow.lt h g hg).2

theorem QAt.below {w w' : World} {v : Value} {L : List Pl} (h : QAt w v L) (k : Below w.heap.size w w') : QAt w' v L := h.same fun g hg => k.block g (h.lt g hg)

theorem QAt.nil (w : World) : QAt w (.slice none 0 0) [] := ⟨rfl, .inl ⟨rfl, rfl⟩⟩

/-- Where a transaction stands in a queue. -/
def ofF : List Pl → Int → Nat
  | [], _ => 0
  | p :: L, tx => if p.1 = tx then 0 else ofF L tx + 1

theorem ofF_le (L : List Pl) (tx : Int) : ofF L tx ≤ L.length := by
  induction L with
  | nil => exact Nat.le_refl _
  | cons p L ih =>
    unfold ofF
    split
    · exact Nat.zero_le _
    · simpa using ih

theorem ofF_eq {L : List Pl} {tx : Int} {k : Nat} (hk : k < L.length) (h : ∀ j (hj : j < k), L[j].1 ≠ tx) (e : L[k].1 = tx) : ofF L tx = k := by
  induction L generalizing k with
  | nil => simp at hk
  | cons p L ih =>
    unfold ofF
    match k with
    | 0 => simp at e; rw [if_pos e]
    | k + 1 =>
      have h0 := h 0 (by omega)
      simp at h0
      rw [if_neg h0, ih (by simpa using hk) (fun j hj => by have := h (j + 1) (by omega); simpa using this) (by simpa using e)]

theorem ofF_none {L : List Pl} {tx : Int} (h : ∀ j (hj : j < L.length), L[j].1 ≠ tx) : ofF L tx = L.length := by
  induction L with
  | nil => rfl
  | cons p L ih =>
    unfold ofF
    have h0 := h 0 (by simp)
    simp at h0
    rw [if_neg h0, ih (fun j hj => by have := h (j + 1) (by simpa using hj); simpa using this)]
    rfl

theorem ofF_at {L : List Pl} {tx : Int} (h : ofF L tx < L.length) : (L[ofF L tx]).1 = tx := by
  induction L with
  | nil => simp at h
  | cons p L ih =>
    unfold ofF at h ⊢
    by_cases e : p.1 = tx
    · simp only [if_pos e]; exact e
    · simp only [if_neg e] at h ⊢
      simpa using ih (by simpa using h)

set_option maxHeartbeats 1600000 in
set_option maxRecDepth 60000 in
theorem of_any {w : World} {v : Value} {L : List Pl} (h : QAt w v L) (tx : Int) :
    Calls Tryd.prog 45 #[v, .int .i64 tx] w fun e w' => e = .returned (.int .i64 (ofF L tx)) ∧ Below w.heap.size w w' := by
  obtain ⟨R, HR⟩ : ∃ R, Hid (ofF L tx = R) := ⟨_, rfl⟩
  rw [HR.out]
  have HQ := h.open
  rcases HQ with ⟨rfl, rfl⟩ | ⟨g, cap, rfl, hg, hn, hm, hp⟩
  · obtain rfl : R = 0 := HR.out.symm
    go_enter Tryd.func45, Tryd.ntmps45
    go_wp2_with fail
    go_loopw [9] (fun i wr => i = .int .i64 0 ∧ wr = w) (fun _ _ => 0)
    case atStart => exact ⟨rfl, rfl⟩
    case round =>
      obtain ⟨rfl, rfl⟩ := hrel
      go_wp2
      go_ret
      exact ⟨rfl, Below.refl _ _⟩
  · clear h
    unfold maxLen at hm
    have HP : Hid (∀ i (hi : i < L.length), PlAt w g (i * 4) L[i]) := hp
    clear hp
    go_enter Tryd.func45, Tryd.ntmps45
    go_wp2_with fail
    go_loopw [9] (fun i wr => ∃ k : Nat, k ≤ L.length ∧ i = .int .i64 k ∧ Below w.heap.size w wr ∧ Hid (∀ j (hj : j < k) (hj' : j < L.length), L[j].1 ≠ tx)) (fun i _ => L.length - (intOf i).toNat)
    case atStart => exact ⟨0, by omega, rfl, Below.refl _ _, fun j hj => by omega⟩
    case round =>
      obtain ⟨k, hk, rfl, bel, HN⟩ := hrel
      by_cases hlt : k < L.length
      · have hP := (HP.out k hlt).same (bel.block g hg)
        have HE : Hid (L[k].1 = tx → R = k) := fun e => by rw [← HR.out]; exact ofF_eq hlt (fun j hj => HN.out j hj (by omega)) e
        have HN' : Hid (L[k].1 ≠ tx → ∀ j (hj : j < k + 1) (hj' : j < L.length), L[j].1 ≠ tx) := fun e j hj hj' => by
          rcases Nat.lt_or_ge j k with hh | hh
          · exact HN.out j hh hj'
          · obtain rfl : j = k := by omega
            exact e
        obtain ⟨c0, c1, c2, c3⟩ := hP
        have hi0 : (0 : Int) ≤ k := by omega
        have hi1 : (k : Int) < L.length := by omega
        generalize L[k] = t at *
        obtain ⟨t0, t1, t2, t3⟩ := t
        simp only at c0 c1 c2 c3
        by_cases e : t0 = tx
        · obtain rfl : R = k := HE.out e
          subst e
          go_wp2
          go_ret
          exact ⟨rfl, bel.alloc bel.size _⟩
        · have e' : (t0 == tx) = false := by simpa using e
          have HN2 : Hid (∀ j (hj : j < k + 1) (hj' : j < L.length), L[j].1 ≠ tx) := HN'.out e
          clear HN' HE HN
          go_wp2
          go_roundw
          case rel => exact ⟨k + 1, by omega, by go_num, bel.alloc bel.size _, HN2⟩
          case measure => simp [intOf]; omega
      · obtain rfl : k = L.length := by omega
        have HR' : Hid (R = L.length) := by rw [← HR.out]; exact ofF_none fun j hj => HN.out j hj hj
        go_wp2
        go_ret
        rw [HR'.out]
        exact ⟨rfl, bel⟩

end Go.Proofs.YthagomibjlcfmaaDoor
