/-
  The walks of rec.within, rec.hasNext, rec.hasChange, rec.hasKey, rec.hasLists.
-/
import Derived.Test.YtgkfdakieebnmaaGreatRecValC
import Derived.Test.YtgkfdakieebnmaaGreatProg
import Derived.Deep.RegionHeld3
import Derived.Lib.QuietBelow
import Derived.Deep.AppendLies
import Derived.Deep.CutRange
import Derived.Test.YtgkfdakieebnmaaGreatRowOpsJ
import Derived.Deep.Cut
import Derived.Test.YtgkfdakieebnmaaGreatShEqualJ
set_option linter.unusedVariables false
set_option linter.unusedSimpArgs false
namespace Go.Proofs.YtgkfdakieebnmaaGreat
open Go.RowKit Go.Sort

set_option maxHeartbeats 400000 in
set_option maxRecDepth 60000 in
theorem rwithin_yes (n lo hi : Int) (w : World) (h : lo ≤ n ∧ n ≤ hi) :
    Calls Tryz.prog 130 #[.int .i64 n, .int .i64 lo, .int .i64 hi] w fun e w' => e = .returned (.bool true) ∧ w' = w := by
  obtain ⟨h1, h2⟩ := h
  go_enter Tryz.func130, Tryz.ntmps130
  go_wp2
  go_ret
  exact ⟨rfl, rfl⟩

set_option maxHeartbeats 400000 in
set_option maxRecDepth 60000 in
theorem rwithin_no (n lo hi : Int) (w : World) (h : ¬ (lo ≤ n ∧ n ≤ hi)) :
    Calls Tryz.prog 130 #[.int .i64 n, .int .i64 lo, .int .i64 hi] w fun e w' => e = .returned (.bool false) ∧ w' = w := by
  by_cases h1 : lo ≤ n
  · have h2 : ¬ n ≤ hi := fun q => h ⟨h1, q⟩
    go_enter Tryz.func130, Tryz.ntmps130
    go_wp2
    go_ret
    exact ⟨rfl, rfl⟩
  · go_enter Tryz.func130, Tryz.ntmps130
    go_wp2
    go_ret
    exact ⟨rfl, rfl⟩

def nextB (r : RecV) : Bool := decide (r.kind = 2 ∨ r.kind = 3)
def changeB (r : RecV) : Bool := decide (r.kind = 1 ∨ r.kind = 2)
def keyB (r : RecV) : Bool := decide ((r.kind = 1 ∨ r.kind = 2) ∧ r.undo = 2)
def listsB (r : RecV) : Bool := decide (r.kind = 8)

section
variable (r : RecV) (ta da : Option Addr) (tc dc : Nat) (w : World)

set_option maxHeartbeats 800000 in
set_option maxRecDepth 60000 in
theorem hasNext_any : Calls Tryz.prog 60 #[.agg (r.cells ta da tc dc)] w fun e w' => e = .returned (.bool (nextB r)) ∧ Below w.heap.size w w' := by
  obtain ⟨R, HR⟩ : ∃ R, Hid (nextB r = R) := ⟨_, rfl⟩
  rw [HR.out]
  unfold nextB at HR
  simp only [RecV.cells]
  generalize r.kind = K at *
  by_cases k1 : K = 2
  · have HR' : Hid (R = true) := by rw [← HR.out]; exact decide_eq_true (.inl k1)
    clear HR
    subst k1
    go_enter Tryz.func60, Tryz.ntmps60
    go_wp2
    go_ret
    exact ⟨by rw [HR'.out]; rfl, (Below.refl _ _).alloc (Nat.le_refl _) _⟩
  · have j1 : (K == 2) = false := by rw [beq_eq_false_iff_ne]; exact k1
    by_cases k2 : K = 3
    · have HR' : Hid (R = true) := by rw [← HR.out]; exact decide_eq_true (.inr k2)
      clear HR
      subst k2
      go_enter Tryz.func60, Tryz.ntmps60
      go_wp2
      go_ret
      exact ⟨by rw [HR'.out]; rfl, (Below.refl _ _).alloc (Nat.le_refl _) _⟩
    · have j2 : (K == 3) = false := by rw [beq_eq_false_iff_ne]; exact k2
      have HR' : Hid (R = false) := by rw [← HR.out]; exact decide_eq_false (by rintro (h | h) <;> contradiction)
      clear HR
      go_enter Tryz.func60, Tryz.ntmps60
      go_wp2
      go_ret
      exact ⟨by rw [HR'.out]; rfl, (Below.refl _ _).alloc (Nat.le_refl _) _⟩

set_option maxHeartbeats 800000 in
set_option maxRecDepth 60000 in
theorem hasChange_any : Calls Tryz.prog 61 #[.agg (r.cells ta da tc dc)] w fun e w' => e = .returned (.bool (changeB r)) ∧ Below w.heap.size w w' := by
  obtain ⟨R, HR⟩ : ∃ R, Hid (changeB r = R) := ⟨_, rfl⟩
  rw [HR.out]
  unfold changeB at HR
  simp only [RecV.cells]
  generalize r.kind = K at *
  by_cases k1 : K = 1
  · have HR' : Hid (R = true) := by rw [← HR.out]; exact decide_eq_true (.inl k1)
    clear HR
    subst k1
    go_enter Tryz.func61, Tryz.ntmps61
    go_wp2
    go_ret
    exact ⟨by rw [HR'.out]; rfl, (Below.refl _ _).alloc (Nat.le_refl _) _⟩
  · have j1 : (K == 1) = false := by rw [beq_eq_false_iff_ne]; exact k1
    by_cases k2 : K = 2
    · have HR' : Hid (R = true) := by rw [← HR.out]; exact decide_eq_true (.inr k2)
      clear HR
      subst k2
      go_enter Tryz.func61, Tryz.ntmps61
      go_wp2
      go_ret
      exact ⟨by rw [HR'.out]; rfl, (Below.refl _ _).alloc (Nat.le_refl _) _⟩
    · have j2 : (K == 2) = false := by rw [beq_eq_false_iff_ne]; exact k2
      have HR' : Hid (R = false) := by rw [← HR.out]; exact decide_eq_false (by rintro (h | h) <;> contradiction)
      clear HR
      go_enter Tryz.func61, Tryz.ntmps61
      go_wp2
      go_ret
      exact ⟨by rw [HR'.out]; rfl, (Below.refl _ _).alloc (Nat.le_refl _) _⟩

set_option maxHeartbeats 800000 in
set_option maxRecDepth 60000 in
theorem hasLists_any : Calls Tryz.prog 65 #[.agg (r.cells ta da tc dc)] w fun e w' => e = .returned (.bool (listsB r)) ∧ Below w.heap.size w w' := by
  obtain ⟨R, HR⟩ : ∃ R, Hid (listsB r = R) := ⟨_, rfl⟩
  rw [HR.out]
  unfold listsB at HR
  simp only [RecV.cells]
  generalize r.kind = K at *
  by_cases k1 : K = 8
  · have HR' : Hid (R = true) := by rw [← HR.out]; exact decide_eq_true k1
    clear HR
    subst k1
    go_enter Tryz.func65, Tryz.ntmps65
    go_wp2
    go_ret
    exact ⟨by rw [HR'.out]; rfl, (Below.refl _ _).alloc (Nat.le_refl _) _⟩
  · have j1 : (K == 8) = false := by rw [beq_eq_false_iff_ne]; exact k1
    have HR' : Hid (R = false) := by rw [← HR.out]; exact decide_eq_false k1
    clear HR
    go_enter Tryz.func65, Tryz.ntmps65
    go_wp2
    go_ret
    exact ⟨by rw [HR'.out]; rfl, (Below.refl _ _).alloc (Nat.le_refl _) _⟩

set_option maxHeartbeats 1600000 in
set_option maxRecDepth 60000 in
theorem hasKey_any : Calls Tryz.prog 63 #[.agg (r.cells ta da tc dc)] w fun e w' => e = .returned (.bool (keyB r)) ∧ Below w.heap.size w w' := by
  have HC : Hid (∀ wx, Calls Tryz.prog 61 #[.agg (r.cells ta da tc dc)] wx fun e w' => e = .returned (.bool (changeB r)) ∧ Below wx.heap.size wx w') := fun wx => hasChange_any r ta da tc dc wx
  have HV : Hid (keyB r = (changeB r && decide (r.undo = 2))) := by show _ = _; unfold keyB changeB; simp
  rw [HV.out]
  simp only [RecV.cells] at HC ⊢
  obtain ⟨W, HW⟩ : ∃ W, Hid (W = w.alloc (.cells #[.int .i64 r.kind, .int .i64 r.tx, .int .u64 r.prev, .int .u64 r.next, .int .u32 r.page, .int .i64 r.op.kind, .int .i64 r.op.at', .string r.op.S, .string r.op.old, .int .i64 r.undo, .int .i64 r.index, .string r.key, .int .u32 r.rpage, .int .i64 r.rslot, .bool r.live, .slice ta r.txs.length tc, .slice da r.dirty.length dc] 64)) := ⟨_, rfl⟩
  have c9 : W.cell? ⟨w.heap.size, 9, none⟩ = some (.int .i64 r.undo) := by rw [HW.out]; simp
  have bW : Below w.heap.size w W := by rw [HW.out]; exact (Below.refl _ _).alloc (Nat.le_refl _) _
  have zW : w.heap.size < W.heap.size := by rw [HW.out]; simp
  cases hc : changeB r with
  | false =>
    rw [hc] at HC
    go_enter Tryz.func63, Tryz.ntmps63
    go_wp2_with fail
    rw [← HW.out]
    refine (HC.out _).mono ?_
    rintro e w1 ⟨rfl, b1⟩
    go_wp2
    go_ret
    exact ⟨rfl, below_chain bW b1⟩
  | true =>
    rw [hc] at HC
    go_enter Tryz.func63, Tryz.ntmps63
    go_wp2_with fail
    rw [← HW.out]
    refine (HC.out _).mono ?_
    rintro e w1 ⟨rfl, b1⟩
    have d9 := (b1.cell (p := ⟨w.heap.size, 9, none⟩) zW).trans c9
    clear HW c9
    by_cases hu : r.undo = 2
    · have hu' : (r.undo == 2) = true := by rw [beq_iff_eq]; exact hu
      go_wp2
      go_ret
      exact ⟨by simp [hu], below_chain bW b1⟩
    · have hu' : (r.undo == 2) = false := by rw [beq_eq_false_iff_ne]; exact hu
      go_wp2
      go_ret
      exact ⟨by simp [hu], below_chain bW b1⟩

end
end Go.Proofs.YtgkfdakieebnmaaGreat

namespace Go.Proofs.YtgkfdakieebnmaaGreat
open Go

section
variable {P : Program} {md : Region.Mode} {head : Array Oper} {last : Oper} {Q : Exit → Act → World → Prop}

def LastQ (P : Program) (last : Oper) (Q : Exit → Act → World → Prop) : Exit → Act → World → Prop
  | .normal, a, w => last.wp P a w (fun a' w' => Q .normal a' w') Q
  | .exit i, a, w => Q (.exit i) a w
  | .goto l, a, w => Q (.goto l) a w
  | .ret, a, w => Q .ret a w
  | .panic c, a, w => Q (.panic c) a w
  | .outgrown, a, w => Q .outgrown a w

def lastB (md : Region.Mode) (head : Array Oper) (last : Oper) : Bool :=
  last.guard.isNone && head.toList.all (fun o => o.guard.isNone) && (List.range head.size).all (fun i => last.after.any fun e => Region.binds md e && e.on == i) &&
    last.after.all (fun e => !Region.binds md e || decide (e.on < head.size)) && (List.range head.size).all fun i => match head[i]? with | some o => o.after.all fun e => !Region.binds md e || decide (e.on < i) | none => true

structure LastP (md : Region.Mode) (head : Array Oper) (last : Oper) : Prop where
  guard : last.guard = none
  guards : ∀ (i : Nat) (o : Oper), head[i]? = some o → o.guard = none
  waits : ∀ i, i < head.size → ∃ e ∈ last.after, Region.binds md e = true ∧ e.on = i
  within : ∀ e ∈ last.after, Region.binds md e = true → e.on < head.size
  early : ∀ (i : Nat) (o : Oper), head[i]? = some o → ∀ e ∈ o.after, Region.binds md e = true → e.on < i

theorem lastB_spec (h : lastB md head last = true) : LastP md head last := by
  unfold lastB at h
  simp only [Bool.and_eq_true] at h
  obtain ⟨⟨⟨⟨h1, h2⟩, h3⟩, h4⟩, h5⟩ := h
  refine ⟨by simpa using h1, fun i o hi => ?_, fun i hi => ?_, fun e he hb => ?_, fun i o hi e he hb => ?_⟩
  · have := List.all_eq_true.1 h2 o (by rw [← Array.getElem?_toList] at hi; exact List.mem_of_getElem? hi)
    simpa using this
  · have := List.all_eq_true.1 h3 i (List.mem_range.2 hi)
    obtain ⟨e, he, hb⟩ := Array.any_eq_true'.1 this
    simp only [Bool.and_eq_true, beq_iff_eq] at hb
    exact ⟨e, he, hb⟩
  · have := Array.all_eq_true_iff_forall_mem.1 h4 e he
    simpa [hb] using this
  · have hlt : i < head.size := (Array.getElem?_eq_some_iff.1 hi).1
    have := List.all_eq_true.1 h5 i (List.mem_range.2 hlt)
    rw [hi] at this
    have := Array.all_eq_true_iff_forall_mem.1 this e he
    simpa [hb] using this

theorem wp_lastQ {o : Oper} {a : Act} {w : World} {K K' : Act → World → Prop} (h : ∀ a w, K a w → K' a w) (hh : o.wp P a w K (LastQ P last Q)) : o.wp P a w K' Q := by
  unfold Oper.wp at *
  generalize (execOp a.eval o).run P w = r at *
  cases r with
  | ok n w' =>
    cases n <;> simp only [Oper.upon] at hh ⊢ <;>
      first
        | exact h _ _ hh
        | exact Calls.mono hh (fun e w'' he => by
            cases e with
            | returned v => exact h _ _ he
            | panicked c => exact he
            | outgrown => obtain ⟨a', w', h'⟩ := he; exact ⟨a', w', h'⟩)
        | exact Rows.mono hh (fun _ _ he => h _ _ he)
  | halt x w' => cases x <;> simp only [Oper.upon] at hh ⊢ <;> exact hh

theorem push_getD {listed : Array Bool} {i : Nat} (d : Bool) (hi : i < listed.size) : (listed.push false).getD i d = listed.getD i d := by
  simp [Array.getElem?_push, Nat.ne_of_lt hi]

theorem all_listed (hp : LastP md head last) {listed : Array Bool} (hs : listed.size = head.size) (hr : Region.ready md head listed = []) : ∀ i, i < head.size → listed.getD i false = true := by
  intro i
  induction i using Nat.strongRecOn with
  | _ i ih =>
    intro hi
    cases hl : listed.getD i true with
    | true =>
      have : i < listed.size := by omega
      simp [this] at hl ⊢
      exact hl
    | false =>
      have hm : i ∈ Region.ready md head listed := mem_ready.2 ⟨hl, head[i], Array.getElem?_eq_getElem hi, fun e he hb => by
        have h1 := hp.early i _ (Array.getElem?_eq_getElem hi) e he hb
        exact ih e.on h1 (by omega)⟩
      rw [hr] at hm
      cases hm

theorem ready_head (hp : LastP md head last) {listed : Array Bool} (hs : listed.size = head.size) {i : Nat} (hi : i < head.size) : i ∈ Region.ready md (head.push last) (listed.push false) ↔ i ∈ Region.ready md head listed := by
  rw [mem_ready, mem_ready, push_getD true (by omega)]
  have e1 : (head.push last)[i]? = head[i]? := by simp [Array.getElem?_push, Nat.ne_of_lt hi]
  rw [e1]
  constructor
  · rintro ⟨h0, o, ho, h⟩
    exact ⟨h0, o, ho, fun e he hb => by have := hp.early i o ho e he hb; have h2 := h e he hb; rw [push_getD false (by omega)] at h2; exact h2⟩
  · rintro ⟨h0, o, ho, h⟩
    exact ⟨h0, o, ho, fun e he hb => by have := hp.early i o ho e he hb; rw [push_getD false (by omega)]; exact h e he hb⟩

theorem ready_last (hp : LastP md head last) {listed : Array Bool} (hs : listed.size = head.size) : head.size ∈ Region.ready md (head.push last) (listed.push false) ↔ ∀ i, i < head.size → listed.getD i false = true := by
  rw [mem_ready]
  constructor
  · rintro ⟨_, o, ho, h⟩ i hi
    have : o = last := by simpa using ho.symm
    subst this
    obtain ⟨e, he, hb, rfl⟩ := hp.waits i hi
    have h2 := h e he hb
    rw [push_getD false (by omega)] at h2
    exact h2
  · intro h
    refine ⟨by simp [← hs], last, by simp, fun e he hb => ?_⟩
    have := hp.within e he hb
    rw [push_getD false (by omega)]
    exact h e.on this

theorem wpAny_all_done {ops : Array Oper} {listed : Array Bool} {a : Act} {w : World} (hr : Region.ready md ops listed = []) (h : Q .normal a w) : ∀ fuel, wpAny P md ops Q fuel listed a w
  | 0 => ⟨hr, h⟩
  | _ + 1 => ⟨fun _ => h, by rw [hr]; simp⟩

theorem wpAny_last (hp : LastP md head last) : ∀ (f : Nat) (listed : Array Bool) (a : Act) (w : World), listed.size = head.size → wpAny P md head (LastQ P last Q) f listed a w → wpAny P md (head.push last) Q (f + 1) (listed.push false) a w := by
  have fin : ∀ (listed : Array Bool) (a : Act) (w : World) (f : Nat), listed.size = head.size → (∀ i, i < head.size → listed.getD i false = true) → LastQ P last Q .normal a w → wpOp P (head.push last) Q head.size (wpAny P md (head.push last) Q f ((listed.push false).setIfInBounds head.size true)) a w := by
    intro listed a w f hs hall hq
    unfold wpOp
    rw [show (head.push last)[head.size]? = some last from by simp]
    simp only
    rw [if_pos (by simp [Region.wanted, hp.guard])]
    refine .inl (Oper.wp_mono (fun a' w' h' => wpAny_all_done ?_ h' f) hq)
    refine List.eq_nil_iff_forall_not_mem.2 fun j hj => ?_
    obtain ⟨h0, o, ho, _⟩ := mem_ready.1 hj
    have hjl : j < head.size + 1 := by have := (Array.getElem?_eq_some_iff.1 ho).1; simpa using this
    by_cases hjn : head.size = j
    · subst hjn
      simp [← hs] at h0
    · rw [getD_set_ne true hjn, push_getD true (by omega)] at h0
      have := hall j (by omega)
      have hj' : j < listed.size := by omega
      simp [hj'] at h0 this
      rw [h0] at this
      cases this
  intro f
  induction f with
  | zero =>
    intro listed a w hs h
    have hall := all_listed hp hs h.1
    refine ⟨fun h0 => ?_, fun i hi => ?_⟩
    · have := (ready_last hp hs).2 hall
      rw [h0] at this
      cases this
    · have hlt : i < head.size + 1 := by obtain ⟨_, o, ho, _⟩ := mem_ready.1 hi; have := (Array.getElem?_eq_some_iff.1 ho).1; simpa using this
      by_cases hin : i < head.size
      · have := (ready_head hp hs hin).1 hi
        rw [h.1] at this
        cases this
      · obtain rfl : i = head.size := by omega
        exact fin listed a w 0 hs hall h.2
  | succ f ih =>
    intro listed a w hs h
    refine ⟨fun h0 => ?_, fun i hi => ?_⟩
    · cases hr : Region.ready md head listed with
      | nil =>
        have := (ready_last hp hs).2 (all_listed hp hs hr)
        rw [h0] at this
        cases this
      | cons j rs =>
        have hj : j ∈ Region.ready md head listed := by rw [hr]; simp
        have hjn : j < head.size := by obtain ⟨_, o, ho, _⟩ := mem_ready.1 hj; exact (Array.getElem?_eq_some_iff.1 ho).1
        have := (ready_head hp hs hjn).2 hj
        rw [h0] at this
        cases this
    · have hlt : i < head.size + 1 := by obtain ⟨_, o, ho, _⟩ := mem_ready.1 hi; have := (Array.getElem?_eq_some_iff.1 ho).1; simpa using this
      by_cases hin : i < head.size
      · have hm := (ready_head hp hs hin).1 hi
        have hw := h.2 i hm
        obtain ⟨_, o, ho, _⟩ := mem_ready.1 hm
        have e1 : (head.push last)[i]? = some o := by rw [← ho]; simp [Array.getElem?_push, Nat.ne_of_lt hin]
        have hg := hp.guards i o ho
        unfold wpOp at hw ⊢
        rw [ho] at hw
        rw [e1]
        simp only at hw ⊢
        rw [if_pos (by simp [Region.wanted, hg])] at hw ⊢
        have hpush : (listed.push false).setIfInBounds i true = (listed.setIfInBounds i true).push false := by
          apply Array.ext'
          simp only [Array.toList_setIfInBounds, Array.toList_push]
          rw [List.set_append_left _ _ (by simp; omega)]
        rw [hpush]
        rcases hw with hw | ⟨hw1, a', w', hw2⟩
        · exact .inl (wp_lastQ (fun a' w' h' => ih _ a' w' (by simpa using hs) h') hw)
        · exact .inr ⟨hw1, a', w', hw2⟩
      · obtain rfl : i = head.size := by omega
        have hall := (ready_last hp hs).1 hi
        have hnil : Region.ready md head listed = [] := by
          refine List.eq_nil_iff_forall_not_mem.2 fun j hj => ?_
          obtain ⟨h0, o, ho, _⟩ := mem_ready.1 hj
          have hjn : j < head.size := (Array.getElem?_eq_some_iff.1 ho).1
          have := hall j hjn
          have hj' : j < listed.size := by omega
          simp [hj'] at h0 this
          rw [h0] at this
          cases this
        exact fin listed a w (f + 1) hs hall (h.1 hnil)

theorem wp_region_quiet_last {id : Nat} {l : List Oper} {a : Act} {w : World} (d : Oper) (hm : P.follows .mixedOrders = true) (hne : l.toArray = l.dropLast.toArray.push (l.getLast?.getD d)) (hB : Region.lexB .any l.dropLast.toArray = true) (hL : lastB .any l.dropLast.toArray (l.getLast?.getD d) = true)
    (h : wpQuiet P l.dropLast.toArray (fun w' => ∃ p : Regrown, w' = Go.Sort.grow (redrawn w p.d) p.os) (fun a' => ∀ w', (∃ p : Regrown, w' = Go.Sort.grow (redrawn w p.d) p.os) → LastQ P (l.getLast?.getD d) Q .normal a' w') l.dropLast a) : (Code.region id l.toArray true).wp P Q a w := by
  rw [hne]
  refine wp_region_any hm ?_
  simp only [Region.lexB, Bool.and_eq_true] at hB
  have hq := wpAnyQ_lex (C := fun w' => ∃ p : Regrown, w' = Go.Sort.grow (redrawn w p.d) p.os) (md := .any) hB.1 l.dropLast 0 (Array.replicate l.dropLast.toArray.size false) a (by simp) (by simpa using hB.2) h
  have hC : (fun w' => ∃ p : Regrown, w' = Go.Sort.grow (redrawn w p.d) p.os) { w with drawn := w.drawn + 1 } := ⟨⟨w.drawn + 1, #[]⟩, by rw [Go.Sort.grow_empty]; rfl⟩
  have h1 := wpAny_of_quiet (C := fun w' => ∃ p : Regrown, w' = Go.Sort.grow (redrawn w p.d) p.os) (Q' := LastQ P (l.getLast?.getD d) Q) (fun _ w' hw' h => h w' hw') _ _ _ _ hC hq
  have h2 := wpAny_last (lastB_spec hL) l.dropLast.length (Array.replicate l.dropLast.toArray.size false) a { w with drawn := w.drawn + 1 } (by simp) h1
  rw [show (Array.replicate l.dropLast.toArray.size false).push false = Array.replicate (l.dropLast.toArray.push (l.getLast?.getD d)).size false from by simp [Array.replicate_succ]] at h2
  rw [show (l.dropLast.toArray.push (l.getLast?.getD d)).size = l.dropLast.length + 1 from by simp]
  rw [show (l.dropLast.toArray.push (l.getLast?.getD d)).size = l.dropLast.length + 1 from by simp] at h2
  exact h2

end
end Go.Proofs.YtgkfdakieebnmaaGreat

namespace Go.Proofs.YtgkfdakieebnmaaGreat
open Go.RowKit Go.Sort

def BlkR (w : World) (p : Nat) (cs : Array Value) (t : TypeId) : Prop := w.heap[p]? = some (.cells cs t (0, 0))

theorem BlkR.cell {w : World} {p : Nat} {cs : Array Value} {t : TypeId} (h : BlkR w p cs t) (i : Nat) : w.cell? ⟨p, i, none⟩ = cs[i]? := by
  unfold BlkR at h
  simp [World.cell?, h]
theorem BlkR.frozen {w : World} {p : Nat} {cs : Array Value} {t : TypeId} (h : BlkR w p cs t) (i : Nat) : w.frozen? ⟨p, i, none⟩ = false := by
  unfold BlkR at h
  simp [World.frozen?, h]
theorem BlkR.set {w : World} {p : Nat} {cs : Array Value} {t : TypeId} (h : BlkR w p cs t) (i : Nat) (v : Value) : BlkR (w.setCell ⟨p, i, none⟩ v) p (cs.setIfInBounds i v) t := by
  unfold BlkR at h ⊢
  simp [World.setCell, Array.getElem?_modify, h]
theorem BlkR.same {w w' : World} {p : Nat} {cs : Array Value} {t : TypeId} (h : BlkR w p cs t) (e : w'.heap[p]? = w.heap[p]?) : BlkR w' p cs t := e.trans h
theorem BlkR.lt {w : World} {p : Nat} {cs : Array Value} {t : TypeId} (h : BlkR w p cs t) : p < w.heap.size := (Array.getElem?_eq_some_iff.1 h).1

def refCells (r : RecV) (v u : Value) : Array Value :=
  #[.int .i64 r.kind, .int .i64 r.tx, .int .u64 r.prev, .int .u64 r.next, .int .u32 r.page, .int .i64 r.op.kind, .int .i64 r.op.at', .string r.op.S, .string r.op.old, .int .i64 r.undo, .int .i64 r.index, .string r.key, .int .u32 r.rpage, .int .i64 r.rslot, .bool r.live, v, u]

def zeroCellsR : Array Value :=
  #[.int .i64 0, .int .i64 0, .int .u64 0, .int .u64 0, .int .u32 0, .int .i64 0, .int .i64 0, .string ⟨#[]⟩, .string ⟨#[]⟩, .int .i64 0, .int .i64 0, .string ⟨#[]⟩, .int .u32 0, .int .i64 0, .bool false, .slice none 0 0, .slice none 0 0]

section
variable {w wr : World} {r : RecV} {ta da : Option Addr} {tc dc : Nat} {v u : Value} {i j : Nat}

end

end Go.Proofs.YtgkfdakieebnmaaGreat

namespace Go.Proofs.YtgkfdakieebnmaaGreat
open Go.RowKit Go.Sort

theorem out_cells {w : World} {p : Nat} {t : TypeId} {r : RecV} {v u : Value} (h : BlkR w p (refCells r v u) t) : w.cell? ⟨p, 0, none⟩ = some (.int .i64 r.kind) ∧ w.cell? ⟨p, 1, none⟩ = some (.int .i64 r.tx) ∧ w.cell? ⟨p, 2, none⟩ = some (.int .u64 r.prev) ∧ w.cell? ⟨p, 3, none⟩ = some (.int .u64 r.next) ∧ w.cell? ⟨p, 4, none⟩ = some (.int .u32 r.page) ∧ w.cell? ⟨p, 5, none⟩ = some (.int .i64 r.op.kind) ∧ w.cell? ⟨p, 6, none⟩ = some (.int .i64 r.op.at') ∧ w.cell? ⟨p, 7, none⟩ = some (.string r.op.S) ∧ w.cell? ⟨p, 8, none⟩ = some (.string r.op.old) ∧ w.cell? ⟨p, 9, none⟩ = some (.int .i64 r.undo) ∧ w.cell? ⟨p, 10, none⟩ = some (.int .i64 r.index) ∧ w.cell? ⟨p, 11, none⟩ = some (.string r.key) ∧ w.cell? ⟨p, 12, none⟩ = some (.int .u32 r.rpage) ∧ w.cell? ⟨p, 13, none⟩ = some (.int .i64 r.rslot) ∧ w.cell? ⟨p, 14, none⟩ = some (.bool r.live) ∧ w.cell? ⟨p, 15, none⟩ = some (v) ∧ w.cell? ⟨p, 16, none⟩ = some (u) := ⟨(h.cell 0).trans rfl, (h.cell 1).trans rfl, (h.cell 2).trans rfl, (h.cell 3).trans rfl, (h.cell 4).trans rfl, (h.cell 5).trans rfl, (h.cell 6).trans rfl, (h.cell 7).trans rfl, (h.cell 8).trans rfl, (h.cell 9).trans rfl, (h.cell 10).trans rfl, (h.cell 11).trans rfl, (h.cell 12).trans rfl, (h.cell 13).trans rfl, (h.cell 14).trans rfl, (h.cell 15).trans rfl, (h.cell 16).trans rfl⟩

theorem ref_one (r : RecV) (x y : Option Addr) (a b c d : Nat) : (refCells r (.slice x a b) (.slice y c d)).all (·.oneCell') = true := by simp [refCells, Value.oneCell']

end Go.Proofs.YtgkfdakieebnmaaGreat
