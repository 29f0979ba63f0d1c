/-
  A drawn region whose last operation waits for all the others: the others may be walked alone, and then the last one. (So what is held of the world while the others are walked need not hold behind the last one: a statement that stores into a cell that it has read.)
  A struct that is loaded or stored whole: one step, whatever its cells.
  The walk of girderlaw04.ref.
-/
import Derived.Test.YtndfjjcflbpdnaaProg
import Derived.Deep.RegionHeld3
import Derived.Lib.QuietBelow
import Derived.WalkKit
import Derived.WalkSpells
import Derived.Deep.WholeRow
import Derived.Laws.CopyOwn
import Derived.Test.YtndfjjcflbpdnaaRecValC
import Derived.Deep.AppendLies
import Derived.Deep.CutRange
namespace Go.Proofs.Ytndfjjcflbpdnaa
open Go
set_option linter.unusedVariables false

section
variable {P : Program} {md : Region.Mode} {head : Array Oper} {last : Oper} {Q : Exit → Act → World → Prop}

/-- What is asked behind all but the last operation. -/
def LastQ (P : Program) (last : Oper) (Q : Exit → Act → World → Prop) : Exit → Act → World → Prop
  | .normal, a, w => last.wp P a w (fun a' w' => Q .normal a' w') Q
  | .exit i, a, w => Q (.exit i) a w
  | .goto l, a, w => Q (.goto l) a w
  | .ret, a, w => Q .ret a w
  | .panic c, a, w => Q (.panic c) a w
  | .outgrown, a, w => Q .outgrown a w

/-- The last operation waits for all others; each waits for earlier ones alone; none is guarded. -/
def lastB (md : Region.Mode) (head : Array Oper) (last : Oper) : Bool :=
  last.guard.isNone && head.toList.all (fun o => o.guard.isNone) && (List.range head.size).all (fun i => last.after.any fun e => Region.binds md e && e.on == i) &&
    last.after.all (fun e => !Region.binds md e || decide (e.on < head.size)) && (List.range head.size).all fun i => match head[i]? with | some o => o.after.all fun e => !Region.binds md e || decide (e.on < i) | none => true

structure LastP (md : Region.Mode) (head : Array Oper) (last : Oper) : Prop where
  guard : last.guard = none
  guards : ∀ (i : Nat) (o : Oper), head[i]? = some o → o.guard = none
  waits : ∀ i, i < head.size → ∃ e ∈ last.after, Region.binds md e = true ∧ e.on = i
  within : ∀ e ∈ last.after, Region.binds md e = true → e.on < head.size
  early : ∀ (i : Nat) (o : Oper), head[i]? = some o → ∀ e ∈ o.after, Region.binds md e = true → e.on < i

theorem lastB_spec (h : lastB md head last = true) : LastP md head last := by
  unfold lastB at h
  simp only [Bool.and_eq_true] at h
  obtain ⟨⟨⟨⟨h1, h2⟩, h3⟩, h4⟩, h5⟩ := h
  refine ⟨by simpa using h1, fun i o hi => ?_, fun i hi => ?_, fun e he hb => ?_, fun i o hi e he hb => ?_⟩
  · have := List.all_eq_true.1 h2 o (by rw [← Array.getElem?_toList] at hi; exact List.mem_of_getElem? hi)
    simpa using this
  · have := List.all_eq_true.1 h3 i (List.mem_range.2 hi)
    obtain ⟨e, he, hb⟩ := Array.any_eq_true'.1 this
    simp only [Bool.and_eq_true, beq_iff_eq] at hb
    exact ⟨e, he, hb⟩
  · have := Array.all_eq_true_iff_forall_mem.1 h4 e he
    simpa [hb] using this
  · have hlt : i < head.size := (Array.getElem?_eq_some_iff.1 hi).1
    have := List.all_eq_true.1 h5 i (List.mem_range.2 hlt)
    rw [hi] at this
    have := Array.all_eq_true_iff_forall_mem.1 this e he
    simpa [hb] using this

theorem wp_lastQ {o : Oper} {a : Act} {w : World} {K K' : Act → World → Prop} (h : ∀ a w, K a w → K' a w) (hh : o.wp P a w K (LastQ P last Q)) : o.wp P a w K' Q := by
  unfold Oper.wp at *
  generalize (execOp a.eval o).run P w = r at *
  cases r with
  | ok n w' =>
    cases n <;> simp only [Oper.upon] at hh ⊢ <;>
      first
        | exact h _ _ hh
        | exact Calls.mono hh (fun e w'' he => by
            cases e with
            | returned v => exact h _ _ he
            | panicked c => exact he
            | outgrown => obtain ⟨a', w', h'⟩ := he; exact ⟨a', w', h'⟩)
        | exact Rows.mono hh (fun _ _ he => h _ _ he)
  | halt x w' => cases x <;> simp only [Oper.upon] at hh ⊢ <;> exact hh

theorem push_getD {listed : Array Bool} {i : Nat} (d : Bool) (hi : i < listed.size) : (listed.push false).getD i d = listed.getD i d := by
  simp [Array.getElem?_push, Nat.ne_of_lt hi]

theorem all_listed (hp : LastP md head last) {listed : Array Bool} (hs : listed.size = head.size) (hr : Region.ready md head listed = []) : ∀ i, i < head.size → listed.getD i false = true := by
  intro i
  induction i using Nat.strongRecOn with
  | _ i ih =>
    intro hi
    cases hl : listed.getD i true with
    | true =>
      have : i < listed.size := by omega
      simp [this] at hl ⊢
      exact hl
    | false =>
      have hm : i ∈ Region.ready md head listed := mem_ready.2 ⟨hl, head[i], Array.getElem?_eq_getElem hi, fun e he hb => by
        have h1 := hp.early i _ (Array.getElem?_eq_getElem hi) e he hb
        exact ih e.on h1 (by omega)⟩
      rw [hr] at hm
      cases hm

theorem ready_head (hp : LastP md head last) {listed : Array Bool} (hs : listed.size = head.size) {i : Nat} (hi : i < head.size) : i ∈ Region.ready md (head.push last) (listed.push false) ↔ i ∈ Region.ready md head listed := by
  rw [mem_ready, mem_ready, push_getD true (by omega)]
  have e1 : (head.push last)[i]? = head[i]? := by simp [Array.getElem?_push, Nat.ne_of_lt hi]
  rw [e1]
  constructor
  · rintro ⟨h0, o, ho, h⟩
    exact ⟨h0, o, ho, fun e he hb => by have := hp.early i o ho e he hb; have h2 := h e he hb; rw [push_getD false (by omega)] at h2; exact h2⟩
  · rintro ⟨h0, o, ho, h⟩
    exact ⟨h0, o, ho, fun e he hb => by have := hp.early i o ho e he hb; rw [push_getD false (by omega)]; exact h e he hb⟩

theorem ready_last (hp : LastP md head last) {listed : Array Bool} (hs : listed.size = head.size) : head.size ∈ Region.ready md (head.push last) (listed.push false) ↔ ∀ i, i < head.size → listed.getD i false = true := by
  rw [mem_ready]
  constructor
  · rintro ⟨_, o, ho, h⟩ i hi
    have : o = last := by simpa using ho.symm
    subst this
    obtain ⟨e, he, hb, rfl⟩ := hp.waits i hi
    have h2 := h e he hb
    rw [push_getD false (by omega)] at h2
    exact h2
  · intro h
    refine ⟨by simp [← hs], last, by simp, fun e he hb => ?_⟩
    have := hp.within e he hb
    rw [push_getD false (by omega)]
    exact h e.on this

theorem wpAny_all_done {ops : Array Oper} {listed : Array Bool} {a : Act} {w : World} (hr : Region.ready md ops listed = []) (h : Q .normal a w) : ∀ fuel, wpAny P md ops Q fuel listed a w
  | 0 => ⟨hr, h⟩
  | _ + 1 => ⟨fun _ => h, by rw [hr]; simp⟩

theorem wpAny_last (hp : LastP md head last) : ∀ (f : Nat) (listed : Array Bool) (a : Act) (w : World), listed.size = head.size → wpAny P md head (LastQ P last Q) f listed a w → wpAny P md (head.push last) Q (f + 1) (listed.push false) a w := by
  have fin : ∀ (listed : Array Bool) (a : Act) (w : World) (f : Nat), listed.size = head.size → (∀ i, i < head.size → listed.getD i false = true) → LastQ P last Q .normal a w → wpOp P (head.push last) Q head.size (wpAny P md (head.push last) Q f ((listed.push false).setIfInBounds head.size true)) a w := by
    intro listed a w f hs hall hq
    unfold wpOp
    rw [show (head.push last)[head.size]? = some last from by simp]
    simp only
    rw [if_pos (by simp [Region.wanted, hp.guard])]
    refine .inl (Oper.wp_mono (fun a' w' h' => wpAny_all_done ?_ h' f) hq)
    refine List.eq_nil_iff_forall_not_mem.2 fun j hj => ?_
    obtain ⟨h0, o, ho, _⟩ := mem_ready.1 hj
    have hjl : j < head.size + 1 := by have := (Array.getElem?_eq_some_iff.1 ho).1; simpa using this
    by_cases hjn : head.size = j
    · subst hjn
      simp [← hs] at h0
    · rw [getD_set_ne true hjn, push_getD true (by omega)] at h0
      have := hall j (by omega)
      have hj' : j < listed.size := by omega
      simp [hj'] at h0 this
      rw [h0] at this
      cases this
  intro f
  induction f with
  | zero =>
    intro listed a w hs h
    have hall := all_listed hp hs h.1
    refine ⟨fun h0 => ?_, fun i hi => ?_⟩
    · have := (ready_last hp hs).2 hall
      rw [h0] at this
      cases this
    · have hlt : i < head.size + 1 := by obtain ⟨_, o, ho, _⟩ := mem_ready.1 hi; have := (Array.getElem?_eq_some_iff.1 ho).1; simpa using this
      by_cases hin : i < head.size
      · have := (ready_head hp hs hin).1 hi
        rw [h.1] at this
        cases this
      · obtain rfl : i = head.size := by omega
        exact fin listed a w 0 hs hall h.2
  | succ f ih =>
    intro listed a w hs h
    refine ⟨fun h0 => ?_, fun i hi => ?_⟩
    · cases hr : Region.ready md head listed with
      | nil =>
        have := (ready_last hp hs).2 (all_listed hp hs hr)
        rw [h0] at this
        cases this
      | cons j rs =>
        have hj : j ∈ Region.ready md head listed := by rw [hr]; simp
        have hjn : j < head.size := by obtain ⟨_, o, ho, _⟩ := mem_ready.1 hj; exact (Array.getElem?_eq_some_iff.1 ho).1
        have := (ready_head hp hs hjn).2 hj
        rw [h0] at this
        cases this
    · have hlt : i < head.size + 1 := by obtain ⟨_, o, ho, _⟩ := mem_ready.1 hi; have := (Array.getElem?_eq_some_iff.1 ho).1; simpa using this
      by_cases hin : i < head.size
      · have hm := (ready_head hp hs hin).1 hi
        have hw := h.2 i hm
        obtain ⟨_, o, ho, _⟩ := mem_ready.1 hm
        have e1 : (head.push last)[i]? = some o := by rw [← ho]; simp [Array.getElem?_push, Nat.ne_of_lt hin]
        have hg := hp.guards i o ho
        unfold wpOp at hw ⊢
        rw [ho] at hw
        rw [e1]
        simp only at hw ⊢
        rw [if_pos (by simp [Region.wanted, hg])] at hw ⊢
        have hpush : (listed.push false).setIfInBounds i true = (listed.setIfInBounds i true).push false := by
          apply Array.ext'
          simp only [Array.toList_setIfInBounds, Array.toList_push]
          rw [List.set_append_left _ _ (by simp; omega)]
        rw [hpush]
        rcases hw with hw | ⟨hw1, a', w', hw2⟩
        · exact .inl (wp_lastQ (fun a' w' h' => ih _ a' w' (by simpa using hs) h') hw)
        · exact .inr ⟨hw1, a', w', hw2⟩
      · obtain rfl : i = head.size := by omega
        have hall := (ready_last hp hs).1 hi
        have hnil : Region.ready md head listed = [] := by
          refine List.eq_nil_iff_forall_not_mem.2 fun j hj => ?_
          obtain ⟨h0, o, ho, _⟩ := mem_ready.1 hj
          have hjn : j < head.size := (Array.getElem?_eq_some_iff.1 ho).1
          have := hall j hjn
          have hj' : j < listed.size := by omega
          simp [hj'] at h0 this
          rw [h0] at this
          cases this
        exact fin listed a w (f + 1) hs hall (h.1 hnil)

/-- A drawn region: all but the last operation, under S; then the last one. -/
theorem wp_region_last {id : Nat} {ops : Array Oper} {a : Act} {w : World} (S : World → Prop) (hm : P.follows .mixedOrders = true) (ho : ops = head.push last) (hB : lastB .any head last = true)
    (h : wpAnyH P .any head (LastQ P last Q) S head.size (Array.replicate head.size false) a w.drew) : (Code.region id ops true).wp P Q a w := by
  subst ho
  refine wp_region_any hm ?_
  have h2 := wpAny_last (lastB_spec hB) head.size (Array.replicate head.size false) a w.drew (by simp) (wpAny_of_held _ _ _ _ h)
  rw [show (Array.replicate head.size false).push false = Array.replicate (head.push last).size false from by simp [Array.replicate_succ]] at h2
  rw [show (head.push last).size = head.size + 1 from by simp]
  rw [show (head.push last).size = head.size + 1 from by simp] at h2
  exact h2

/-- The same, the last operation found by program. -/
theorem wp_region_popped {id : Nat} {ops : Array Oper} {a : Act} {w : World} (S : World → Prop) (d : Oper) (hm : P.follows .mixedOrders = true) (ho : ops = ops.pop.push (ops.back?.getD d)) (hB : lastB .any ops.pop (ops.back?.getD d) = true)
    (h : wpAnyH P .any ops.pop (LastQ P (ops.back?.getD d) Q) S ops.pop.size (Array.replicate ops.pop.size false) a w.drew) : (Code.region id ops true).wp P Q a w :=
  wp_region_last S hm ho hB h

/-- A drawn region whose operations only read, or lay memory behind a call, but for the last one, which waits for all. -/
theorem wp_region_quiet_last {id : Nat} {l : List Oper} {a : Act} {w : World} (d : Oper) (hm : P.follows .mixedOrders = true) (hne : l.toArray = l.dropLast.toArray.push (l.getLast?.getD d)) (hB : Region.lexB .any l.dropLast.toArray = true) (hL : lastB .any l.dropLast.toArray (l.getLast?.getD d) = true)
    (h : wpQuiet P l.dropLast.toArray (fun w' => ∃ p : Regrown, w' = Go.Sort.grow (redrawn w p.d) p.os) (fun a' => ∀ w', (∃ p : Regrown, w' = Go.Sort.grow (redrawn w p.d) p.os) → LastQ P (l.getLast?.getD d) Q .normal a' w') l.dropLast a) : (Code.region id l.toArray true).wp P Q a w := by
  rw [hne]
  refine wp_region_any hm ?_
  simp only [Region.lexB, Bool.and_eq_true] at hB
  have hq := wpAnyQ_lex (C := fun w' => ∃ p : Regrown, w' = Go.Sort.grow (redrawn w p.d) p.os) (md := .any) hB.1 l.dropLast 0 (Array.replicate l.dropLast.toArray.size false) a (by simp) (by simpa using hB.2) h
  have hC : (fun w' => ∃ p : Regrown, w' = Go.Sort.grow (redrawn w p.d) p.os) { w with drawn := w.drawn + 1 } := ⟨⟨w.drawn + 1, #[]⟩, by rw [Go.Sort.grow_empty]; rfl⟩
  have h1 := wpAny_of_quiet (C := fun w' => ∃ p : Regrown, w' = Go.Sort.grow (redrawn w p.d) p.os) (Q' := LastQ P (l.getLast?.getD d) Q) (fun _ w' hw' h => h w' hw') _ _ _ _ hC hq
  have h2 := wpAny_last (lastB_spec hL) l.dropLast.length (Array.replicate l.dropLast.toArray.size false) a { w with drawn := w.drawn + 1 } (by simp) h1
  rw [show (Array.replicate l.dropLast.toArray.size false).push false = Array.replicate (l.dropLast.toArray.push (l.getLast?.getD d)).size false from by simp [Array.replicate_succ]] at h2
  rw [show (l.dropLast.toArray.push (l.getLast?.getD d)).size = l.dropLast.length + 1 from by simp]
  rw [show (l.dropLast.toArray.push (l.getLast?.getD d)).size = l.dropLast.length + 1 from by simp] at h2
  exact h2

end
end Go.Proofs.Ytndfjjcflbpdnaa

namespace Go.Proofs.Ytndfjjcflbpdnaa
open Go.RowKit
set_option linter.unusedVariables false

section
variable {P : Program} {ops : Array Oper} {rest : List Oper} {o : Oper} {a : Act} {Q : Exit → Act → World → Prop} {W : World}

theorem wpList_loadRow (hgd : o.guard = none) (x : Operand) (t : TypeId) (ho : o.op = .load t x) (b : Nat) (hx : a.eval x = .pointer (some ⟨b, 0, none⟩)) (c : Array Value) (t' : TypeId) (fr : Nat × Nat) (hb : W.heap[b]? = some (.cells c t' fr))
    (d : TypeDesc) (hu : P.underlying t = some d) (hd : (match d with | .struct _ | .array _ _ => true | _ => false) = true) (hi : (P.info? t).map (·.size) = some c.size) (h : wpList P ops Q rest (a.put o.dst (.agg c)) W) : wpList P ops Q (o :: rest) a W := by
  refine wpList_plain hgd fun K hK => ?_
  have hr := run_loadVar_row (P := P) W b t' t c fr d hb hu hd hi
  unfold Oper.wp execOp
  simp only [ho, hx, Instr.loadAt, Instr.sureAddr, Sem.run_bind, Sem.run_pure, Result.andThen_ok, hr]
  exact hK _ _ h

theorem wpList_storeRow (hgd : o.guard = none) (x y : Operand) (t : TypeId) (ho : o.op = .store t x y) (hdst : o.dst = none) (b : Nat) (hx : a.eval x = .pointer (some ⟨b, 0, none⟩)) (c old : Array Value) (hy : a.eval y = .agg c) (t' : TypeId) (hb : W.heap[b]? = some (.cells old t' (0, 0)))
    (hi : (P.info? t).map (·.size) = some c.size) (ho' : old.size = c.size) (h1 : c.all (·.oneCell') = true) (h : wpList P ops Q rest a (W.setRow b c)) : wpList P ops Q (o :: rest) a W := by
  refine wpList_plain hgd fun K hK => ?_
  have hr := run_storeVar_row (P := P) W b t' t old c hb hi ho' h1
  unfold Oper.wp execOp
  simp only [ho, hx, hy, Instr.storeAt, Instr.sureAddr, Sem.run_bind, Sem.run_pure, Result.andThen_ok, hr]
  refine hK _ _ ?_
  rw [hdst]
  exact h

end

end Go.Proofs.Ytndfjjcflbpdnaa

namespace Go.Proofs.Ytndfjjcflbpdnaa
open Go.RowKit Go.Sort
set_option linter.unusedVariables false

/-- A whole block. -/
def BlkR (w : World) (p : Nat) (cs : Array Value) (t : TypeId) : Prop := w.heap[p]? = some (.cells cs t (0, 0))

theorem BlkR.cell {w : World} {p : Nat} {cs : Array Value} {t : TypeId} (h : BlkR w p cs t) (i : Nat) : w.cell? ⟨p, i, none⟩ = cs[i]? := by
  unfold BlkR at h
  simp [World.cell?, h]
theorem BlkR.frozen {w : World} {p : Nat} {cs : Array Value} {t : TypeId} (h : BlkR w p cs t) (i : Nat) : w.frozen? ⟨p, i, none⟩ = false := by
  unfold BlkR at h
  simp [World.frozen?, h]
theorem BlkR.set {w : World} {p : Nat} {cs : Array Value} {t : TypeId} (h : BlkR w p cs t) (i : Nat) (v : Value) : BlkR (w.setCell ⟨p, i, none⟩ v) p (cs.setIfInBounds i v) t := by
  unfold BlkR at h ⊢
  simp [World.setCell, Array.getElem?_modify, h]
theorem BlkR.same {w w' : World} {p : Nat} {cs : Array Value} {t : TypeId} (h : BlkR w p cs t) (e : w'.heap[p]? = w.heap[p]?) : BlkR w' p cs t := e.trans h
theorem BlkR.lt {w : World} {p : Nat} {cs : Array Value} {t : TypeId} (h : BlkR w p cs t) : p < w.heap.size := (Array.getElem?_eq_some_iff.1 h).1

theorem rowns_same {w w' : World} {e : TypeId} {z n : Nat} {v : Value} {xs : List Value} (h : w.ownsRow 0 e z v n xs) (k : ∀ g, v.ownBlock = some g → w'.heap[g]? = w.heap[g]?) : w'.ownsRow 0 e z v n xs := by
  refine ⟨h.1, ?_⟩
  rcases h.2 with ⟨rfl, h1⟩ | ⟨g', cap, cur, rfl, h0, hb, hr⟩
  · exact .inl ⟨rfl, h1⟩
  · exact .inr ⟨g', cap, cur, rfl, h0, (k g' rfl).trans hb, hr⟩

theorem rowns_cells {w : World} {e : TypeId} {z n : Nat} {g cap : Nat} {xs : List Value} (h : w.ownsRow 0 e z (.slice (some ⟨g, 0, none⟩) n cap) n xs) (k : Nat) (u : Value) (hk : xs[k]? = some u) : w.cell? ⟨g, k, none⟩ = some u := by
  rcases h.2 with ⟨e1, _⟩ | ⟨g', cap', cur, e1, _, hb, hn, hm, hs, ht⟩
  · cases e1
  · cases e1
    have hl : k < xs.length := (List.getElem?_eq_some_iff.1 hk).1
    rw [h.1] at hl
    have : cur.toList[k]? = some u := by
      rw [← ht, List.getElem?_take] at hk
      rw [if_pos hl] at hk
      exact hk
    simp only [World.cell?, hb]
    simpa using this

theorem rowns_apart {w : World} {e e' : TypeId} {z z' n n' : Nat} {v v' : Value} {xs xs' : List Value} (h : w.ownsRow 0 e z v n xs) (h' : w.ownsRow 0 e' z' v' n' xs') (hne : e ≠ e') : ∀ g, v.ownBlock = some g → v'.ownBlock ≠ some g := by
  intro g h1 h2
  rcases h.2 with ⟨rfl, _⟩ | ⟨g1, cap, cur, rfl, _, hb, _⟩
  · cases h1
  rcases h'.2 with ⟨rfl, _⟩ | ⟨g2, cap', cur', rfl, _, hb', _⟩
  · cases h2
  obtain rfl : g1 = g := Option.some.inj h1
  obtain rfl : g2 = g1 := Option.some.inj h2
  rw [hb] at hb'
  cases hb'
  exact hne rfl

def txCells (t : TxV) : List Value := [.int .i64 t.1, .int .i64 t.2.1, .int .u64 t.2.2.1, .int .u64 t.2.2.2]
def diCells (t : DiV) : List Value := [.int .u32 t.1, .int .u64 t.2]

/-- The cells of the document's record, its lists v and u. -/
def refCells (r : RecV) (v u : Value) : Array Value :=
  #[.int .i64 r.kind, .int .i64 r.tx, .int .u64 r.prev, .int .u64 r.next, .int .u32 r.page, .int .i64 r.op.kind, .int .i64 r.op.at', .string r.op.S, .string r.op.old, .int .i64 r.undo, .int .i64 r.index, .string r.key, .int .u32 r.rpage, .int .i64 r.rslot, .bool r.live, v, u]

def zeroCellsR : Array Value :=
  #[.int .i64 0, .int .i64 0, .int .u64 0, .int .u64 0, .int .u32 0, .int .i64 0, .int .i64 0, .string ⟨#[]⟩, .string ⟨#[]⟩, .int .i64 0, .int .i64 0, .string ⟨#[]⟩, .int .u32 0, .int .i64 0, .bool false, .slice none 0 0, .slice none 0 0]

/-- Where ref stands. -/
structure RefAt (w wr : World) (r : RecV) (ta da : Option Addr) (tc dc : Nat) (v u : Value) (i j : Nat) : Prop where
  bel : Below w.heap.size w wr
  par : BlkR wr w.heap.size (r.cells ta da tc dc) 35
  res : BlkR wr (w.heap.size + 1) zeroCellsR 43
  out : BlkR wr (w.heap.size + 2) (refCells r v u) 43
  txs : wr.ownsRow 0 79 4 v i ((r.txs.take i).flatMap txCells)
  dis : wr.ownsRow 0 81 2 u j ((r.dirty.take j).flatMap diCells)
  vOff : ∀ g, v.ownBlock = some g → w.heap.size + 3 ≤ g
  uOff : ∀ g, u.ownBlock = some g → w.heap.size + 3 ≤ g

section
variable {w wr : World} {r : RecV} {ta da : Option Addr} {tc dc : Nat} {v u : Value} {i j : Nat}

theorem RefAt.start : RefAt w (((w.alloc (.cells (r.cells ta da tc dc) 35)).alloc (.cells zeroCellsR 43)).alloc (.cells (refCells r (.slice none 0 0) (.slice none 0 0)) 43)) r ta da tc dc (.slice none 0 0) (.slice none 0 0) 0 0 := by
  have b1 : Below w.heap.size w (w.alloc (.cells (r.cells ta da tc dc) 35)) := (Below.refl _ _).alloc (Nat.le_refl _) _
  have b2 := b1.alloc (by simp) (.cells zeroCellsR 43)
  have b3 := b2.alloc (by simp; omega) (.cells (refCells r (.slice none 0 0) (.slice none 0 0)) 43)
  have n1 := heap_alloc_new w (.cells (r.cells ta da tc dc) 35)
  have n2 := heap_alloc_new (w.alloc (.cells (r.cells ta da tc dc) 35)) (.cells zeroCellsR 43)
  have n3 := heap_alloc_new ((w.alloc (.cells (r.cells ta da tc dc) 35)).alloc (.cells zeroCellsR 43)) (.cells (refCells r (.slice none 0 0) (.slice none 0 0)) 43)
  refine ⟨b3, ?_, ?_, ?_, World.ownsRow_nil _ _ _ _, World.ownsRow_nil _ _ _ _, fun g hg => (nomatch hg), fun g hg => (nomatch hg)⟩
  · exact (Below.heap_alloc _ _ _ (by simp; omega)).trans ((Below.heap_alloc _ _ _ (by simp)).trans n1)
  · have : (w.alloc (.cells (r.cells ta da tc dc) 35)).heap.size = w.heap.size + 1 := by simp
    rw [this] at n2
    exact (Below.heap_alloc _ _ _ (by simp)).trans n2
  · have : ((w.alloc (.cells (r.cells ta da tc dc) 35)).alloc (.cells zeroCellsR 43)).heap.size = w.heap.size + 2 := by simp
    rw [this] at n3
    exact n3

theorem RefAt.pushT (h : RefAt w wr r ta da tc dc v u i j) {wa w7 : World} {v' : Value} (hi : i < r.txs.length) (k1 : Below wr.heap.size wr wa) (o1 : w7.ownsRow 0 79 4 v' (i + 1) ((r.txs.take i).flatMap txCells ++ txCells r.txs[i])) (g1 : wa.grownBy w7 v.ownBlock)
    (l1 : v.ownBlock = v'.ownBlock ∨ ∃ z, v'.ownBlock = some z ∧ wr.heap.size ≤ z) : RefAt w (w7.setCell ⟨w.heap.size + 2, 15, none⟩ v') r ta da tc dc v' u (i + 1) j := by
  have hz := h.out.lt
  have s1 := k1.size
  have s2 := g1.size
  have kb : ∀ k, k < wr.heap.size → v.ownBlock ≠ some k → w7.heap[k]? = wr.heap[k]? := fun k hk n1 => (g1.block k (by omega) (fun e => n1 e.symm)).trans (k1.block k hk)
  have no : ∀ k, k < w.heap.size + 3 → v.ownBlock ≠ some k := fun k hk e => by have := h.vOff k e; omega
  have st : ∀ k, k ≠ w.heap.size + 2 → (w7.setCell ⟨w.heap.size + 2, 15, none⟩ v').heap[k]? = w7.heap[k]? := fun k hk => Below.heap_setCell _ _ _ _ hk
  have v'off : ∀ g, v'.ownBlock = some g → w.heap.size + 3 ≤ g := fun g hg => by
    rcases l1 with e | ⟨z, e, hz'⟩
    · exact h.vOff g (e.trans hg)
    · rw [e] at hg
      have := Option.some.inj hg
      omega
  refine ⟨?_, ?_, ?_, ?_, ?_, ?_, v'off, h.uOff⟩
  · exact ((h.bel.trans (k1.mono (by omega))).grown g1 (by have := h.bel.size; omega) fun k e => by have := h.vOff k e; omega).setCell (p := ⟨w.heap.size + 2, 15, none⟩) (by show w.heap.size ≤ w.heap.size + 2; omega) _
  · exact h.par.same ((st _ (by omega)).trans (kb _ (by omega) (no _ (by omega))))
  · exact h.res.same ((st _ (by omega)).trans (kb _ (by omega) (no _ (by omega))))
  · exact (h.out.same (kb _ hz (no _ (by omega)))).set 15 v'
  · rw [List.take_succ_eq_append_getElem hi, List.flatMap_append]
    simp only [List.flatMap_cons, List.flatMap_nil, List.append_nil]
    exact rowns_same o1 fun g hg => st g (by have := v'off g hg; omega)
  · exact rowns_same h.dis fun g hg => (st g (by have := h.uOff g hg; omega)).trans (kb g (h.dis.lt g hg).2 (fun e => rowns_apart h.txs h.dis (by decide) g e hg))

theorem RefAt.pushD (h : RefAt w wr r ta da tc dc v u i j) {wa w7 : World} {u' : Value} (hi : j < r.dirty.length) (k1 : Below wr.heap.size wr wa) (o1 : w7.ownsRow 0 81 2 u' (j + 1) ((r.dirty.take j).flatMap diCells ++ diCells r.dirty[j])) (g1 : wa.grownBy w7 u.ownBlock)
    (l1 : u.ownBlock = u'.ownBlock ∨ ∃ z, u'.ownBlock = some z ∧ wr.heap.size ≤ z) : RefAt w (w7.setCell ⟨w.heap.size + 2, 16, none⟩ u') r ta da tc dc v u' i (j + 1) := by
  have hz := h.out.lt
  have s1 := k1.size
  have s2 := g1.size
  have kb : ∀ k, k < wr.heap.size → u.ownBlock ≠ some k → w7.heap[k]? = wr.heap[k]? := fun k hk n1 => (g1.block k (by omega) (fun e => n1 e.symm)).trans (k1.block k hk)
  have no : ∀ k, k < w.heap.size + 3 → u.ownBlock ≠ some k := fun k hk e => by have := h.uOff k e; omega
  have st : ∀ k, k ≠ w.heap.size + 2 → (w7.setCell ⟨w.heap.size + 2, 16, none⟩ u').heap[k]? = w7.heap[k]? := fun k hk => Below.heap_setCell _ _ _ _ hk
  have u'off : ∀ g, u'.ownBlock = some g → w.heap.size + 3 ≤ g := fun g hg => by
    rcases l1 with e | ⟨z, e, hz'⟩
    · exact h.uOff g (e.trans hg)
    · rw [e] at hg
      have := Option.some.inj hg
      omega
  refine ⟨?_, ?_, ?_, ?_, ?_, ?_, h.vOff, u'off⟩
  · exact ((h.bel.trans (k1.mono (by omega))).grown g1 (by have := h.bel.size; omega) fun k e => by have := h.uOff k e; omega).setCell (p := ⟨w.heap.size + 2, 16, none⟩) (by show w.heap.size ≤ w.heap.size + 2; omega) _
  · exact h.par.same ((st _ (by omega)).trans (kb _ (by omega) (no _ (by omega))))
  · exact h.res.same ((st _ (by omega)).trans (kb _ (by omega) (no _ (by omega))))
  · exact (h.out.same (kb _ hz (no _ (by omega)))).set 16 u'
  · exact rowns_same h.txs fun g hg => (st g (by have := h.vOff g hg; omega)).trans (kb g (h.txs.lt g hg).2 (fun e => rowns_apart h.txs h.dis (by decide) g hg e))
  · rw [List.take_succ_eq_append_getElem hi, List.flatMap_append]
    simp only [List.flatMap_cons, List.flatMap_nil, List.append_nil]
    exact rowns_same o1 fun g hg => st g (by have := u'off g hg; omega)

end

theorem flat_at {α : Type} (f : α → List Value) (z : Nat) (hz : ∀ x, (f x).length = z) : ∀ (H : List α) (m i : Nat) (hm : m < H.length) (hi : i < z), (H.flatMap f)[m * z + i]? = (f H[m])[i]?
  | [], m, i, hm, hi => by simp at hm
  | x :: H, 0, i, hm, hi => by
    rw [List.flatMap_cons, Nat.zero_mul, Nat.zero_add, List.getElem?_append_left (by rw [hz]; exact hi)]
    rfl
  | x :: H, m + 1, i, hm, hi => by
    rw [List.flatMap_cons, List.getElem?_append_right (by rw [hz]; have : (m + 1) * z = m * z + z := Nat.succ_mul m z; omega), hz]
    have e : (m + 1) * z + i - z = m * z + i := by have : (m + 1) * z = m * z + z := Nat.succ_mul m z; omega
    rw [e]
    exact flat_at f z hz H m i (by simpa using hm) hi

theorem owns_txs {w : World} {e : TypeId} {v : Value} {L : List TxV} (h : w.ownsRow 0 e 4 v L.length (L.flatMap txCells)) : ∃ a c, v = .slice a L.length c ∧ TxsAt w a L := by
  rcases h.2 with ⟨rfl, h1⟩ | ⟨g, cap, cur, rfl, h0, hb, hr⟩
  · rw [h1]
    exact ⟨none, 0, rfl, .inl (List.eq_nil_of_length_eq_zero h1)⟩
  · refine ⟨_, _, rfl, .inr ⟨g, 0, rfl, (h.lt g rfl).2, fun i hi => ?_⟩⟩
    have q : ∀ j x, j < 4 → (txCells L[i])[j]? = some x → w.cell? ⟨g, i * 4 + j, none⟩ = some x := fun j x hj hx => rowns_cells h _ _ ((flat_at txCells 4 (fun _ => rfl) L i j hi hj).trans hx)
    rw [Nat.zero_add]
    exact ⟨q 0 _ (by omega) rfl, q 1 _ (by omega) rfl, q 2 _ (by omega) rfl, q 3 _ (by omega) rfl⟩

theorem owns_dis {w : World} {e : TypeId} {v : Value} {L : List DiV} (h : w.ownsRow 0 e 2 v L.length (L.flatMap diCells)) : ∃ a c, v = .slice a L.length c ∧ DisAt w a L := by
  rcases h.2 with ⟨rfl, h1⟩ | ⟨g, cap, cur, rfl, h0, hb, hr⟩
  · rw [h1]
    exact ⟨none, 0, rfl, .inl (List.eq_nil_of_length_eq_zero h1)⟩
  · refine ⟨_, _, rfl, .inr ⟨g, 0, rfl, (h.lt g rfl).2, fun i hi => ?_⟩⟩
    have q : ∀ j x, j < 2 → (diCells L[i])[j]? = some x → w.cell? ⟨g, i * 2 + j, none⟩ = some x := fun j x hj hx => rowns_cells h _ _ ((flat_at diCells 2 (fun _ => rfl) L i j hi hj).trans hx)
    rw [Nat.zero_add]
    exact ⟨q 0 _ (by omega) rfl, q 1 _ (by omega) rfl⟩

end Go.Proofs.Ytndfjjcflbpdnaa
