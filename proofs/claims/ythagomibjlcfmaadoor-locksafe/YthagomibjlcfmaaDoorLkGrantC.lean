/-
  The walk of grant.
-/
import Derived.Test.YthagomibjlcfmaaDoorLkWaitC
import Derived.Test.YthagomibjlcfmaaDoorLkSortC
import Derived.Deep.RegionHeld3
namespace Go.Proofs.YthagomibjlcfmaaDoor
open Go.RowKit
set_option linter.unusedVariables false
set_option linter.unusedSimpArgs false

/-- A table in which some wait no more. -/
def Tab.delWs (T : Tab) (ts : List Int) : Tab := { T with W := fun x => if x ∈ ts then none else T.W x }

theorem Tab.delWs_nil (T : Tab) : T.delWs [] = T := by
  unfold Tab.delWs
  simp

theorem Tab.delWs_snoc (T : Tab) (ts : List Int) (t : Int) : (T.delWs ts).delW t = T.delWs (ts ++ [t]) := by
  unfold Tab.delWs Tab.delW
  simp only [Tab.mk.injEq, true_and, and_true]
  funext x
  by_cases h : x = t
  · simp [h]
  · simp [h]

section
variable {S : Nat → Prop} {w w' : World} {b bq bw : Nat} {DQ DW : DataW Value} {T : Tab}

theorem TabX.touch2 {n : NameV} {l : Lit} {r : Option Nat} (h : TabX (fun x => x = n) S w b bq bw DQ DW T) (hn : NKey n l) (hg : w.grownBy w' r) (hr : ∀ g, r = some g → (getV DQ l nilS).ownBlock = some g ∨ ¬ S g) : TabX (fun x => x = n) S w' b bq bw DQ DW T := by
  have off : ∀ k, S k → (getV DQ l nilS).ownBlock ≠ some k → w'.heap[k]? = w.heap[k]? := fun k hk hne => hg.block k (h.lt k hk) fun e => by
    rcases hr k e.symm with x | x
    · exact hne x
    · exact x hk
  have rb : ∀ k, (getV DQ l nilS).ownBlock = some k → k ≠ b ∧ k ≠ bq ∧ k ≠ bw := fun k hk => (h.rows n l k hn hk).2
  refine ⟨(off b h.sb fun e => (rb b e).1 rfl).trans h.blk, h.mq.same (off bq h.sq fun e => (rb bq e).2.1 rfl), h.mw.same (off bw h.sw fun e => (rb bw e).2.2 rfl), h.y, h.hasq, ?_, h.apart, h.rows, h.hasw, h.valw, h.sb, h.sq, h.sw, h.ne, fun x hx => Nat.lt_of_lt_of_le (h.lt x hx) hg.size, h.keys⟩
  intro n' l' hn' hx
  exact (h.valq n' l' hn' hx).same fun g hgg => off g (h.rows n' l' g hn' hgg).1 fun e => h.apart n n' l l' g hn hn' (fun e => hx e.symm) e hgg

theorem TabX.unwaited {ex : NameV → Prop} {W W' : World} {t : Int} (h : TabX ex S w b bq bw DQ DW T) (hk : Below w.heap.size w W) (ht : W.mapTurned W' bw) (hm : MapV 3 W' bw (Maps.size (DW.del (tkey t))) (DW.del (tkey t))) :
    TabX ex S W' b bq bw DQ (DW.del (tkey t)) (T.delW t) ∧ KeptL (fun k => k = bw) w W' := by
  have hg := ht.grown
  have off : ∀ k, k < w.heap.size → k ≠ bw → W'.heap[k]? = w.heap[k]? := fun k hk' hne => (hg.block k (Nat.lt_of_lt_of_le hk' hk.size) (by simp; exact hne)).trans (hk.block k hk')
  have htd := h.mw.tidy txKeyed
  refine ⟨⟨(off b (h.lt b h.sb) h.ne.2.1).trans h.blk, h.mq.same (off bq (h.lt bq h.sq) h.ne.2.2), hm, ?_, h.hasq, fun n' l' hn' hx => (h.valq n' l' hn' hx).same fun g hg' => off g (h.lt g (h.rows n' l' g hn' hg').1) (h.rows n' l' g hn' hg').2.2.2, h.apart, h.rows, ?_, ?_, h.sb, h.sq, h.sw, h.ne, fun x hx => Nat.lt_of_lt_of_le (h.lt x hx) (Nat.le_trans hk.size hg.size), h.keys⟩, ?_⟩
  · have := Maps.size_del (k := tkey t) htd
    have := h.y
    show _ ≤ T.y
    omega
  · intro x hx
    by_cases e : x = t
    · subst e
      rw [Maps.has_del_same]
      simp [Tab.delW]
    · rw [Maps.has_del_other (tkey_ne e), h.hasw x hx]
      simp [Tab.delW, e]
  · intro x m hx hm'
    by_cases e : x = t
    · subst e
      simp [Tab.delW] at hm'
    · rw [getV_del_other (tkey_ne e)]
      exact h.valw x m hx (by simpa [Tab.delW, e] using hm')
  · exact (KeptL.of_below hk).trans (KeptL.of_grown hg fun k e => by cases e; rfl)
end

/-- A queue behind k that had what they waited for. -/
def stateL (L ws : List Pl) (k : Nat) : List Pl := (ws.take k).foldl (fun L p => withF L (grantedF p)) L

theorem stateL_succ (L ws : List Pl) (k : Nat) (hk : k < ws.length) : stateL L ws (k + 1) = withF (stateL L ws k) (grantedF ws[k]) := by
  unfold stateL
  rw [List.take_succ_eq_append_getElem hk, List.foldl_append]
  rfl

/-- So many of those that wait are granted: all those ahead can have it, and the next can't. -/
structure GrantR (L : List Pl) (k : Nat) : Prop where
  le : k ≤ (waitF L).length
  ok : ∀ j (hj : j < k) (hj' : j < (waitF L).length), blkF (stateL L (waitF L) j) (waitF L)[j] = []
  no : ∀ (h : k < (waitF L).length), blkF (stateL L (waitF L) k) (waitF L)[k] ≠ []

def whoF (L : List Pl) (k : Nat) : List Int := ((waitF L).take k).map fun p => p.1

theorem whoF_succ (L : List Pl) (k : Nat) (hk : k < (waitF L).length) : whoF L (k + 1) = whoF L k ++ [(waitF L)[k].1] := by
  unfold whoF
  rw [List.take_succ_eq_append_getElem hk, List.map_append]
  rfl

theorem whoF_len (L : List Pl) (k : Nat) : (whoF L k).length ≤ L.length := by
  unfold whoF
  rw [List.length_map, List.length_take]
  have := waitF_len L
  omega


def ncellsA (n : NameV) : Array Value := #[.int .i64 n.1, .int .i64 n.2.1, .int .u32 n.2.2.1, .int .i64 n.2.2.2]

/-- Where the loop of grant stands. -/
structure GrAt (S : Nat → Prop) (w wr : World) (b bq bw : Nat) (DQ : DataW Value) (T : Tab) (n : NameV) (l : Lit) (v5 v6 v16 : Value) (k : Nat) : Prop where
  kept : KeptL S w wr
  box : wr.heap[w.heap.size]? = some (.cells (ncellsA n) 33)
  tab : ∃ DW', TabX (fun x => x = n) S wr b bq bw DQ DW' (T.delWs (whoF (T.Q n) k))
  q : QAt wr v5 (stateL (T.Q n) (waitF (T.Q n)) k)
  loc : v5.ownBlock = (getV DQ l nilS).ownBlock ∨ ∃ z, v5.ownBlock = some z ∧ w.heap.size < z
  ne : ∀ g, v5.ownBlock = some g → v16.ownBlock ≠ some g
  ws : PlsAt (w.heap.size + 1) wr v16 (waitF (T.Q n))
  who : IntsAt (w.heap.size + 1) wr v6 (whoF (T.Q n) k)
  len : (stateL (T.Q n) (waitF (T.Q n)) k).length ≤ (T.Q n).length + k

end Go.Proofs.YthagomibjlcfmaaDoor
