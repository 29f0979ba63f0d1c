/-
  The walk of grant: its rounds.
-/
import Derived.Test.YthagomibjlcfmaaDoorLkGrantC
import Derived.Test.YthagomibjlcfmaaDoorLkNamesC
namespace Go.Proofs.YthagomibjlcfmaaDoor
open Go.RowKit
set_option linter.unusedVariables false
set_option linter.unusedSimpArgs false

theorem q_ne_ints {B : Nat} {w : World} {v v' : Value} {L : List Pl} {zs : List Int} (h : QAt w v L) (h' : IntsAt B w v' zs) : ∀ g, v.ownBlock = some g → v'.ownBlock ≠ some g := by
  intro g h1 h2
  rcases h.2 with ⟨rfl, _⟩ | ⟨g1, cap, cur, rfl, _, hb, _⟩
  · cases h1
  rcases h'.2 with ⟨rfl, _⟩ | ⟨g2, cap', cur', rfl, _, hb', _⟩
  · cases h2
  obtain rfl : g1 = g := Option.some.inj h1
  obtain rfl : g2 = g1 := Option.some.inj h2
  rw [hb] at hb'
  cases hb'

section
variable {S : Nat → Prop} {w wr wx : World} {b bq bw : Nat} {DQ : DataW Value} {T : Tab} {n : NameV} {l : Lit} {v5 v6 v16 : Value} {k : Nat}

theorem GrAt.lt (h : GrAt S w wr b bq bw DQ T n l v5 v6 v16 k) : w.heap.size < wr.heap.size := (Array.getElem?_eq_some_iff.1 h.box).1

theorem GrAt.below (h : GrAt S w wr b bq bw DQ T n l v5 v6 v16 k) (k' : Below wr.heap.size wr wx) : GrAt S w wx b bq bw DQ T n l v5 v6 v16 k := by
  obtain ⟨DW', ht⟩ := h.tab
  exact ⟨h.kept.trans (KeptL.of_below k'), (k'.block _ h.lt).trans h.box, ⟨DW', ht.below k'⟩, h.q.below k', h.loc, h.ne, h.ws.below k', h.who.below k', h.len⟩

theorem GrAt.cells (h : GrAt S w wr b bq bw DQ T n l v5 v6 v16 k) : wr.cell? ⟨w.heap.size, 0, none⟩ = some (.int .i64 n.1) ∧ wr.cell? ⟨w.heap.size, 1, none⟩ = some (.int .i64 n.2.1) ∧ wr.cell? ⟨w.heap.size, 2, none⟩ = some (.int .u32 n.2.2.1) ∧ wr.cell? ⟨w.heap.size, 3, none⟩ = some (.int .i64 n.2.2.2) := by
  have hb := h.box
  unfold ncellsA at hb
  exact ⟨by simp [World.cell?, hb], by simp [World.cell?, hb], by simp [World.cell?, hb], by simp [World.cell?, hb]⟩

/-- The blocks that with may change. -/
theorem GrAt.at5 (h : GrAt S w wr b bq bw DQ T n l v5 v6 v16 k) (hn : NKey n l) (hS : ∀ k, S k → k < w.heap.size) : ∀ g, v5.ownBlock = some g → (S g ∧ g < w.heap.size ∧ (getV DQ l nilS).ownBlock = some g) ∨ w.heap.size < g := by
  intro g hg
  obtain ⟨DW', ht⟩ := h.tab
  rcases h.loc with e | ⟨z, e, hz⟩
  · have := (ht.rows n l g hn (e ▸ hg)).1
    exact .inl ⟨this, hS g this, e ▸ hg⟩
  · obtain rfl : z = g := Option.some.inj (e.symm.trans hg)
    exact .inr hz

theorem GrAt.next {w4 w5 w6 w7 : World} {v5' v6' : Value} {DW6 : DataW Value} {o : Obj} (h : GrAt S w wr b bq bw DQ T n l v5 v6 v16 k) (hn : NKey n l) (hS : ∀ k, S k → k < w.heap.size) (hk : k < (waitF (T.Q n)).length) (b4 : Below wr.heap.size wr w4) (st : Steps w4 w5 v5 v5')
    (hq : QAt w5 v5' (withF (stateL (T.Q n) (waitF (T.Q n)) k) (grantedF (waitF (T.Q n))[k]))) (t6 : TabX (fun x => x = n) S w6 b bq bw DQ DW6 ((T.delWs (whoF (T.Q n) k)).delW (waitF (T.Q n))[k].1)) (k6 : KeptL (fun k => k = bw) w5 w6) (hbw : S bw)
    (ho : (w6.alloc o).ownsRow (w.heap.size + 1) 3 1 v6 (whoF (T.Q n) k).length ((whoF (T.Q n) k).map (Value.int .i64))) (hown : w7.ownsRow (w.heap.size + 1) 3 1 v6' ((whoF (T.Q n) k).length + 1) ((whoF (T.Q n) k).map (Value.int .i64) ++ [.int .i64 (waitF (T.Q n))[k].1])) (hg : (w6.alloc o).grownBy w7 v6.ownBlock) :
    GrAt S w w7 b bq bw DQ T n l v5' v6' v16 (k + 1) := by
  have h4 := h.below b4
  have a5 := h4.at5 hn hS
  have b6 : Below w6.heap.size w6 (w6.alloc o) := (Below.refl _ _).alloc (Nat.le_refl _) _
  have g6 : ∀ g, v6.ownBlock = some g → w.heap.size + 1 ≤ g := fun g hg => (h.who.lt g hg).1
  have hbwl := hS bw hbw
  have s45 := st.grown.size
  have s56 := k6.size
  have s67 := hg.size
  have l4 := h4.lt
  have e67 : ∀ x, x < w6.heap.size → v6.ownBlock ≠ some x → w7.heap[x]? = w6.heap[x]? := fun x hx hne => (hg.block x (Nat.lt_of_lt_of_le hx b6.size) (fun e => hne e.symm)).trans (b6.block x hx)
  have e56 : ∀ x, x < w5.heap.size → x ≠ bw → w6.heap[x]? = w5.heap[x]? := fun x hx hne => k6.block x hx hne
  have e45 : ∀ x, x < w4.heap.size → v5.ownBlock ≠ some x → w5.heap[x]? = w4.heap[x]? := fun x hx hne => st.grown.block x hx (fun e => hne e.symm)
  have q6 : QAt w6 v5' (withF (stateL (T.Q n) (waitF (T.Q n)) k) (grantedF (waitF (T.Q n))[k])) := hq.same fun g hg' => e56 g (hq.lt g hg') (by
    rcases st.at' with e | ⟨z, e, hz⟩
    · rcases a5 g (e ▸ hg') with x | x
      · obtain ⟨DW', ht⟩ := h.tab
        exact (ht.rows n l g hn x.2.2).2.2.2
      · omega
    · have : z = g := Option.some.inj (e.symm.trans hg')
      omega)
  have v5v6 : ∀ g, v5'.ownBlock = some g → v6.ownBlock ≠ some g := by
    have i6 : IntsAt (w.heap.size + 1) (w6.alloc o) v6 (whoF (T.Q n) k) := ho
    exact q_ne_ints (q6.below b6) i6
  have v5v6o : ∀ g, v5.ownBlock = some g → v6.ownBlock ≠ some g := q_ne_ints h.q h.who
  have i16 : ∀ g, v16.ownBlock = some g → v6.ownBlock ≠ some g := q_ne_ints h.ws.q h.who
  refine ⟨?_, ?_, ?_, ?_, ?_, ?_, ?_, ?_, ?_⟩
  · refine ⟨?_, ?_, ?_, by have := h4.kept.size; have := b6.size; omega, fun x hx hs => ?_⟩
    · rw [hg.os, b6.os, k6.os, st.grown.os]; exact h4.kept.os
    · rw [hg.tape, b6.tape, k6.tape, st.grown.tape]; exact h4.kept.tape
    · rw [hg.output, b6.output, k6.output, st.grown.output]; exact h4.kept.output
    · have hx4 : x < w4.heap.size := Nat.lt_of_lt_of_le hx h4.kept.size
      rw [e67 x (by omega) (fun e => by have := g6 x e; omega), e56 x (by omega) (fun e => hs (e ▸ hbw)), e45 x hx4 (fun e => by rcases a5 x e with y | y; exact hs y.1; omega)]
      exact h4.kept.block x hx hs
  · rw [e67 _ (by omega) (fun e => by have := g6 _ e; omega), e56 _ (by omega) (fun e => by omega), e45 _ l4 (fun e => by rcases a5 _ e with y | y <;> omega)]
    exact h4.box
  · refine ⟨DW6, ?_⟩
    rw [whoF_succ _ _ hk, ← Tab.delWs_snoc]
    exact (t6.below b6).touch2 hn hg fun g hgg => .inr fun x => by have := hS g x; have := g6 g hgg; omega
  · rw [stateL_succ _ _ _ hk]
    exact (q6.below b6).same fun g hg' => hg.block g (by have := q6.lt g hg'; have := b6.size; omega) (fun e => v5v6 g hg' e.symm)
  · rcases st.at' with e | ⟨z, e, hz⟩
    · rw [e]; exact h.loc
    · exact .inr ⟨z, e, by omega⟩
  · intro g hg' e
    rcases st.at' with x | ⟨z, x, hz⟩
    · exact h.ne g (x ▸ hg') e
    · have e1 : z = g := Option.some.inj (x.symm.trans hg')
      have := (h4.ws.lt g e).2
      omega
  · refine h4.ws.same fun g hg' => ?_
    have hl := h4.ws.lt g hg'
    rw [e67 g (by omega) (i16 g hg'), e56 g (by omega) (by omega), e45 g hl.2 (fun e => h.ne g e hg')]
  · rw [whoF_succ _ _ hk]
    unfold IntsAt
    rw [List.length_append, List.map_append]
    exact hown
  · rw [stateL_succ _ _ _ hk]
    have := withF_len (stateL (T.Q n) (waitF (T.Q n)) k) (grantedF (waitF (T.Q n))[k])
    have := h.len
    omega
end

end Go.Proofs.YthagomibjlcfmaaDoor
