/-
  A drawn region whose last operation waits for all the others: the others may be walked alone, and then the last one. (So what is held of the world while the others are walked need not hold behind the last one: a statement that stores into a cell that it has read.)
-/
import Derived.Test.YthhldkpocgiglaaProg
import Derived.Deep.RegionHeld3
import Derived.Lib.QuietBelow
namespace Go.Proofs.Ythhldkpocgiglaa
open Go
set_option linter.unusedVariables false

section
variable {P : Program} {md : Region.Mode} {head : Array Oper} {last : Oper} {Q : Exit → Act → World → Prop}

/-- What is asked behind all but the last operation. -/
def LastQ (P : Program) (last : Oper) (Q : Exit → Act → World → Prop) : Exit → Act → World → Prop
  | .normal, a, w => last.wp P a w (fun a' w' => Q .normal a' w') Q
  | .exit i, a, w => Q (.exit i) a w
  | .goto l, a, w => Q (.goto l) a w
  | .ret, a, w => Q .ret a w
  | .panic c, a, w => Q (.panic c) a w
  | .outgrown, a, w => Q .outgrown a w

/-- The last operation waits for all others; each waits for earlier ones alone; none is guarded. -/
def lastB (md : Region.Mode) (head : Array Oper) (last : Oper) : Bool :=
  last.guard.isNone && head.toList.all (fun o => o.guard.isNone) && (List.range head.size).all (fun i => last.after.any fun e => Region.binds md e && e.on == i) &&
    last.after.all (fun e => !Region.binds md e || decide (e.on < head.size)) && (List.range head.size).all fun i => match head[i]? with | some o => o.after.all fun e => !Region.binds md e || decide (e.on < i) | none => true

structure LastP (md : Region.Mode) (head : Array Oper) (last : Oper) : Prop where
  guard : last.guard = none
  guards : ∀ (i : Nat) (o : Oper), head[i]? = some o → o.guard = none
  waits : ∀ i, i < head.size → ∃ e ∈ last.after, Region.binds md e = true ∧ e.on = i
  within : ∀ e ∈ last.after, Region.binds md e = true → e.on < head.size
  early : ∀ (i : Nat) (o : Oper), head[i]? = some o → ∀ e ∈ o.after, Region.binds md e = true → e.on < i

theorem lastB_spec (h : lastB md head last = true) : LastP md head last := by
  unfold lastB at h
  simp only [Bool.and_eq_true] at h
  obtain ⟨⟨⟨⟨h1, h2⟩, h3⟩, h4⟩, h5⟩ := h
  refine ⟨by simpa using h1, fun i o hi => ?_, fun i hi => ?_, fun e he hb => ?_, fun i o hi e he hb => ?_⟩
  · have := List.all_eq_true.1 h2 o (by rw [← Array.getElem?_toList] at hi; exact List.mem_of_getElem? hi)
    simpa using this
  · have := List.all_eq_true.1 h3 i (List.mem_range.2 hi)
    obtain ⟨e, he, hb⟩ := Array.any_eq_true'.1 this
    simp only [Bool.and_eq_true, beq_iff_eq] at hb
    exact ⟨e, he, hb⟩
  · have := Array.all_eq_true_iff_forall_mem.1 h4 e he
    simpa [hb] using this
  · have hlt : i < head.size := (Array.getElem?_eq_some_iff.1 hi).1
    have := List.all_eq_true.1 h5 i (List.mem_range.2 hlt)
    rw [hi] at this
    have := Array.all_eq_true_iff_forall_mem.1 this e he
    simpa [hb] using this

theorem wp_lastQ {o : Oper} {a : Act} {w : World} {K K' : Act → World → Prop} (h : ∀ a w, K a w → K' a w) (hh : o.wp P a w K (LastQ P last Q)) : o.wp P a w K' Q := by
  unfold Oper.wp at *
  generalize (execOp a.eval o).run P w = r at *
  cases r with
  | ok n w' =>
    cases n <;> simp only [Oper.upon] at hh ⊢ <;>
      first
        | exact h _ _ hh
        | exact Calls.mono hh (fun e w'' he => by
            cases e with
            | returned v => exact h _ _ he
            | panicked c => exact he
            | outgrown => obtain ⟨a', w', h'⟩ := he; exact ⟨a', w', h'⟩)
        | exact Rows.mono hh (fun _ _ he => h _ _ he)
  | halt x w' => cases x <;> simp only [Oper.upon] at hh ⊢ <;> exact hh

theorem push_getD {listed : Array Bool} {i : Nat} (d : Bool) (hi : i < listed.size) : (listed.push false).getD i d = listed.getD i d := by
  simp [Array.getElem?_push, Nat.ne_of_lt hi]

theorem all_listed (hp : LastP md head last) {listed : Array Bool} (hs : listed.size = head.size) (hr : Region.ready md head listed = []) : ∀ i, i < head.size → listed.getD i false = true := by
  intro i
  induction i using Nat.strongRecOn with
  | _ i ih =>
    intro hi
    cases hl : listed.getD i true with
    | true =>
      have : i < listed.size := by omega
      simp [this] at hl ⊢
      exact hl
    | false =>
      have hm : i ∈ Region.ready md head listed := mem_ready.2 ⟨hl, head[i], Array.getElem?_eq_getElem hi, fun e he hb => by
        have h1 := hp.early i _ (Array.getElem?_eq_getElem hi) e he hb
        exact ih e.on h1 (by omega)⟩
      rw [hr] at hm
      cases hm

theorem ready_head (hp : LastP md head last) {listed : Array Bool} (hs : listed.size = head.size) {i : Nat} (hi : i < head.size) : i ∈ Region.ready md (head.push last) (listed.push false) ↔ i ∈ Region.ready md head listed := by
  rw [mem_ready, mem_ready, push_getD true (by omega)]
  have e1 : (head.push last)[i]? = head[i]? := by simp [Array.getElem?_push, Nat.ne_of_lt hi]
  rw [e1]
  constructor
  · rintro ⟨h0, o, ho, h⟩
    exact ⟨h0, o, ho, fun e he hb => by have := hp.early i o ho e he hb; have h2 := h e he hb; rw [push_getD false (by omega)] at h2; exact h2⟩
  · rintro ⟨h0, o, ho, h⟩
    exact ⟨h0, o, ho, fun e he hb => by have := hp.early i o ho e he hb; rw [push_getD false (by omega)]; exact h e he hb⟩

theorem ready_last (hp : LastP md head last) {listed : Array Bool} (hs : listed.size = head.size) : head.size ∈ Region.ready md (head.push last) (listed.push false) ↔ ∀ i, i < head.size → listed.getD i false = true := by
  rw [mem_ready]
  constructor
  · rintro ⟨_, o, ho, h⟩ i hi
    have : o = last := by simpa using ho.symm
    subst this
    obtain ⟨e, he, hb, rfl⟩ := hp.waits i hi
    have h2 := h e he hb
    rw [push_getD false (by omega)] at h2
    exact h2
  · intro h
    refine ⟨by simp [← hs], last, by simp, fun e he hb => ?_⟩
    have := hp.within e he hb
    rw [push_getD false (by omega)]
    exact h e.on this

theorem wpAny_all_done {ops : Array Oper} {listed : Array Bool} {a : Act} {w : World} (hr : Region.ready md ops listed = []) (h : Q .normal a w) : ∀ fuel, wpAny P md ops Q fuel listed a w
  | 0 => ⟨hr, h⟩
  | _ + 1 => ⟨fun _ => h, by rw [hr]; simp⟩

theorem wpAny_last (hp : LastP md head last) : ∀ (f : Nat) (listed : Array Bool) (a : Act) (w : World), listed.size = head.size → wpAny P md head (LastQ P last Q) f listed a w → wpAny P md (head.push last) Q (f + 1) (listed.push false) a w := by
  have fin : ∀ (listed : Array Bool) (a : Act) (w : World) (f : Nat), listed.size = head.size → (∀ i, i < head.size → listed.getD i false = true) → LastQ P last Q .normal a w → wpOp P (head.push last) Q head.size (wpAny P md (head.push last) Q f ((listed.push false).setIfInBounds head.size true)) a w := by
    intro listed a w f hs hall hq
    unfold wpOp
    rw [show (head.push last)[head.size]? = some last from by simp]
    simp only
    rw [if_pos (by simp [Region.wanted, hp.guard])]
    refine .inl (Oper.wp_mono (fun a' w' h' => wpAny_all_done ?_ h' f) hq)
    refine List.eq_nil_iff_forall_not_mem.2 fun j hj => ?_
    obtain ⟨h0, o, ho, _⟩ := mem_ready.1 hj
    have hjl : j < head.size + 1 := by have := (Array.getElem?_eq_some_iff.1 ho).1; simpa using this
    by_cases hjn : head.size = j
    · subst hjn
      simp [← hs] at h0
    · rw [getD_set_ne true hjn, push_getD true (by omega)] at h0
      have := hall j (by omega)
      have hj' : j < listed.size := by omega
      simp [hj'] at h0 this
      rw [h0] at this
      cases this
  intro f
  induction f with
  | zero =>
    intro listed a w hs h
    have hall := all_listed hp hs h.1
    refine ⟨fun h0 => ?_, fun i hi => ?_⟩
    · have := (ready_last hp hs).2 hall
      rw [h0] at this
      cases this
    · have hlt : i < head.size + 1 := by obtain ⟨_, o, ho, _⟩ := mem_ready.1 hi; have := (Array.getElem?_eq_some_iff.1 ho).1; simpa using this
      by_cases hin : i < head.size
      · have := (ready_head hp hs hin).1 hi
        rw [h.1] at this
        cases this
      · obtain rfl : i = head.size := by omega
        exact fin listed a w 0 hs hall h.2
  | succ f ih =>
    intro listed a w hs h
    refine ⟨fun h0 => ?_, fun i hi => ?_⟩
    · cases hr : Region.ready md head listed with
      | nil =>
        have := (ready_last hp hs).2 (all_listed hp hs hr)
        rw [h0] at this
        cases this
      | cons j rs =>
        have hj : j ∈ Region.ready md head listed := by rw [hr]; simp
        have hjn : j < head.size := by obtain ⟨_, o, ho, _⟩ := mem_ready.1 hj; exact (Array.getElem?_eq_some_iff.1 ho).1
        have := (ready_head hp hs hjn).2 hj
        rw [h0] at this
        cases this
    · have hlt : i < head.size + 1 := by obtain ⟨_, o, ho, _⟩ := mem_ready.1 hi; have := (Array.getElem?_eq_some_iff.1 ho).1; simpa using this
      by_cases hin : i < head.size
      · have hm := (ready_head hp hs hin).1 hi
        have hw := h.2 i hm
        obtain ⟨_, o, ho, _⟩ := mem_ready.1 hm
        have e1 : (head.push last)[i]? = some o := by rw [← ho]; simp [Array.getElem?_push, Nat.ne_of_lt hin]
        have hg := hp.guards i o ho
        unfold wpOp at hw ⊢
        rw [ho] at hw
        rw [e1]
        simp only at hw ⊢
        rw [if_pos (by simp [Region.wanted, hg])] at hw ⊢
        have hpush : (listed.push false).setIfInBounds i true = (listed.setIfInBounds i true).push false := by
          apply Array.ext'
          simp only [Array.toList_setIfInBounds, Array.toList_push]
          rw [List.set_append_left _ _ (by simp; omega)]
        rw [hpush]
        rcases hw with hw | ⟨hw1, a', w', hw2⟩
        · exact .inl (wp_lastQ (fun a' w' h' => ih _ a' w' (by simpa using hs) h') hw)
        · exact .inr ⟨hw1, a', w', hw2⟩
      · obtain rfl : i = head.size := by omega
        have hall := (ready_last hp hs).1 hi
        have hnil : Region.ready md head listed = [] := by
          refine List.eq_nil_iff_forall_not_mem.2 fun j hj => ?_
          obtain ⟨h0, o, ho, _⟩ := mem_ready.1 hj
          have hjn : j < head.size := (Array.getElem?_eq_some_iff.1 ho).1
          have := hall j hjn
          have hj' : j < listed.size := by omega
          simp [hj'] at h0 this
          rw [h0] at this
          cases this
        exact fin listed a w (f + 1) hs hall (h.1 hnil)

/-- A drawn region: all but the last operation, under S; then the last one. -/
theorem wp_region_last {id : Nat} {ops : Array Oper} {a : Act} {w : World} (S : World → Prop) (hm : P.follows .mixedOrders = true) (ho : ops = head.push last) (hB : lastB .any head last = true)
    (h : wpAnyH P .any head (LastQ P last Q) S head.size (Array.replicate head.size false) a w.drew) : (Code.region id ops true).wp P Q a w := by
  subst ho
  refine wp_region_any hm ?_
  have h2 := wpAny_last (lastB_spec hB) head.size (Array.replicate head.size false) a w.drew (by simp) (wpAny_of_held _ _ _ _ h)
  rw [show (Array.replicate head.size false).push false = Array.replicate (head.push last).size false from by simp [Array.replicate_succ]] at h2
  rw [show (head.push last).size = head.size + 1 from by simp]
  rw [show (head.push last).size = head.size + 1 from by simp] at h2
  exact h2

/-- The same, the last operation found by program. -/
theorem wp_region_popped {id : Nat} {ops : Array Oper} {a : Act} {w : World} (S : World → Prop) (d : Oper) (hm : P.follows .mixedOrders = true) (ho : ops = ops.pop.push (ops.back?.getD d)) (hB : lastB .any ops.pop (ops.back?.getD d) = true)
    (h : wpAnyH P .any ops.pop (LastQ P (ops.back?.getD d) Q) S ops.pop.size (Array.replicate ops.pop.size false) a w.drew) : (Code.region id ops true).wp P Q a w :=
  wp_region_last S hm ho hB h

/-- A drawn region whose operations only read, or lay memory behind a call, but for the last one, which waits for all. -/
theorem wp_region_quiet_last {id : Nat} {l : List Oper} {a : Act} {w : World} (d : Oper) (hm : P.follows .mixedOrders = true) (hne : l.toArray = l.dropLast.toArray.push (l.getLast?.getD d)) (hB : Region.lexB .any l.dropLast.toArray = true) (hL : lastB .any l.dropLast.toArray (l.getLast?.getD d) = true)
    (h : wpQuiet P l.dropLast.toArray (fun w' => ∃ p : Regrown, w' = Go.Sort.grow (redrawn w p.d) p.os) (fun a' => ∀ w', (∃ p : Regrown, w' = Go.Sort.grow (redrawn w p.d) p.os) → LastQ P (l.getLast?.getD d) Q .normal a' w') l.dropLast a) : (Code.region id l.toArray true).wp P Q a w := by
  rw [hne]
  refine wp_region_any hm ?_
  simp only [Region.lexB, Bool.and_eq_true] at hB
  have hq := wpAnyQ_lex (C := fun w' => ∃ p : Regrown, w' = Go.Sort.grow (redrawn w p.d) p.os) (md := .any) hB.1 l.dropLast 0 (Array.replicate l.dropLast.toArray.size false) a (by simp) (by simpa using hB.2) h
  have hC : (fun w' => ∃ p : Regrown, w' = Go.Sort.grow (redrawn w p.d) p.os) { w with drawn := w.drawn + 1 } := ⟨⟨w.drawn + 1, #[]⟩, by rw [Go.Sort.grow_empty]; rfl⟩
  have h1 := wpAny_of_quiet (C := fun w' => ∃ p : Regrown, w' = Go.Sort.grow (redrawn w p.d) p.os) (Q' := LastQ P (l.getLast?.getD d) Q) (fun _ w' hw' h => h w' hw') _ _ _ _ hC hq
  have h2 := wpAny_last (lastB_spec hL) l.dropLast.length (Array.replicate l.dropLast.toArray.size false) a { w with drawn := w.drawn + 1 } (by simp) h1
  rw [show (Array.replicate l.dropLast.toArray.size false).push false = Array.replicate (l.dropLast.toArray.push (l.getLast?.getD d)).size false from by simp [Array.replicate_succ]] at h2
  rw [show (l.dropLast.toArray.push (l.getLast?.getD d)).size = l.dropLast.length + 1 from by simp]
  rw [show (l.dropLast.toArray.push (l.getLast?.getD d)).size = l.dropLast.length + 1 from by simp] at h2
  exact h2

end
end Go.Proofs.Ythhldkpocgiglaa
