/-
  The steps of ranges over the two maps of what was heard.
-/
import Derived.Test.YtchjboijoebifaaGreatAnSortC
import Derived.Maps.RangeWalk
import Derived.Deep.AppendLies
import Derived.Test.YtchjboijoebifaaGreatProg
import Derived.Deep.RegionHeld3
import Derived.Lib.QuietBelow
import Derived.Test.YtchjboijoebifaaGreatRecValC
import Derived.Deep.CutRange
import Derived.Test.YtchjboijoebifaaGreatPageMathJ
import Derived.Deep.RegionWith
set_option linter.unusedVariables false
set_option linter.unusedSimpArgs false
namespace Go.Proofs.YtchjboijoebifaaGreat
open Go.RowKit Go.Sort Go.Shelf Go.Lib

def tOf (g : HearG) (n : Int) : TxV := (g.T n).getD (0, 0, 0, 0)
def dOf (g : HearG) (n : Int) : DiV := (g.D n).getD (0, 0)

theorem wpList_next_an (w : World) {ops : Array Oper} {rest : List Oper} {o : Oper} {a : Act} {Q : Exit → Act → World → Prop} (hg : o.guard = none) (it : Operand) (hop : o.op = Op.next it false) (b r n : Nat) (D : DataW Value) (left : Lit → Bool) (cnt : Nat) (T : Int → Option TxV)
    (hit : a.eval it = .pointer (some ⟨r, 0, none⟩)) (h : w.ranges Tryz.prog 3 rawElem b r n D left cnt) (hkeys : ∀ l, Maps.has D l = true → ∃ n, l = aikey n ∧ T n ≠ none) (hbd : ∀ n, T n ≠ none → -9223372036854775808 ≤ n ∧ n ≤ 9223372036854775807)
    (hDone : cnt = 0 → (∀ kl, left kl = false) → wpList Tryz.prog ops Q rest (a.put o.dst (.tuple #[.bool false])) w)
    (hMore : ∀ (nm : Int) (c : Value) (w' : World) (cnt' : Nat), T nm ≠ none → left (aikey nm) = true → Maps.has D (aikey nm) = true → getV D (aikey nm) zeroTx = c → w'.ranges Tryz.prog 3 rawElem b r n D (fun z => left z && !z.sameKey (aikey nm)) cnt' → cnt' < cnt →
      w.grownBy w' (some r) → w'.heap.size = w.heap.size → (Instr.entry (.pointer (some ⟨r, 0, none⟩))).run Tryz.prog w' = .ok (.tuple #[.int .i64 nm, c]) w' → wpList Tryz.prog ops Q rest (a.put o.dst (.tuple #[.bool true, .int .i64 nm, c])) w') :
    wpList Tryz.prog ops Q (o :: rest) a w := by
  refine wpList_plain hg fun K' hK' => ?_
  unfold Oper.wp
  rcases h.next aiKeyed o.type with ⟨h0, hl, hrun⟩ | ⟨key, v, kl, y, w', cnt', hkey, hlk, hv, hat, hrun, hrg, hlt, hgr, hsz, hen⟩
  · simp [execOp, hop, hit, hrun, Result.andThen]
    exact hK' _ _ (hDone h0 hl)
  · have hh : Maps.has D kl = true := Maps.has_true_of_atKey hat
    obtain ⟨nm, rfl, hT⟩ := hkeys kl hh
    obtain ⟨b1, b2⟩ := hbd nm hT
    obtain rfl : key = .int .i64 nm := aiKeyed.inj hkey (aikey_key b1 b2)
    have hc : getV D (aikey nm) zeroTx = v := by
      unfold getV
      rw [hat (.held zeroTx)]
      unfold rawElem at hv
      simp only [Option.some.injEq] at hv
      rw [← hv]
    simp [execOp, hop, hit, hrun, Result.andThen]
    exact hK' _ _ (hMore nm v w' cnt' hT hlk hh hc hrg hlt hgr hsz hen)

theorem wpList_next_ad (w : World) {ops : Array Oper} {rest : List Oper} {o : Oper} {a : Act} {Q : Exit → Act → World → Prop} (hg : o.guard = none) (it : Operand) (hop : o.op = Op.next it false) (b r n : Nat) (D : DataW Value) (left : Lit → Bool) (cnt : Nat) (T : Int → Option DiV)
    (hit : a.eval it = .pointer (some ⟨r, 0, none⟩)) (h : w.ranges Tryz.prog 48 rawElem b r n D left cnt) (hkeys : ∀ l, Maps.has D l = true → ∃ n, l = apkey n ∧ T n ≠ none) (hbd : ∀ n, T n ≠ none → 0 ≤ n ∧ n < 4294967296)
    (hDone : cnt = 0 → (∀ kl, left kl = false) → wpList Tryz.prog ops Q rest (a.put o.dst (.tuple #[.bool false])) w)
    (hMore : ∀ (nm : Nat) (c : Value) (w' : World) (cnt' : Nat), T nm ≠ none → left (apkey nm) = true → Maps.has D (apkey nm) = true → getV D (apkey nm) zeroLs = c → w'.ranges Tryz.prog 48 rawElem b r n D (fun z => left z && !z.sameKey (apkey nm)) cnt' → cnt' < cnt →
      w.grownBy w' (some r) → w'.heap.size = w.heap.size → (Instr.entry (.pointer (some ⟨r, 0, none⟩))).run Tryz.prog w' = .ok (.tuple #[.int .u32 nm, c]) w' → wpList Tryz.prog ops Q rest (a.put o.dst (.tuple #[.bool true, .int .u32 nm, c])) w') :
    wpList Tryz.prog ops Q (o :: rest) a w := by
  refine wpList_plain hg fun K' hK' => ?_
  unfold Oper.wp
  rcases h.next pageKeyed o.type with ⟨h0, hl, hrun⟩ | ⟨key, v, kl, y, w', cnt', hkey, hlk, hv, hat, hrun, hrg, hlt, hgr, hsz, hen⟩
  · simp [execOp, hop, hit, hrun, Result.andThen]
    exact hK' _ _ (hDone h0 hl)
  · have hh : Maps.has D kl = true := Maps.has_true_of_atKey hat
    obtain ⟨nm', rfl, hT⟩ := hkeys kl hh
    obtain ⟨b1, b2⟩ := hbd nm' hT
    obtain ⟨nm, rfl⟩ := Int.eq_ofNat_of_zero_le b1
    obtain rfl : key = .int .u32 (nm : Int) := pageKeyed.inj hkey (apkey_key (by omega))
    have hc : getV D (apkey (nm : Int)) zeroLs = v := by
      unfold getV
      rw [hat (.held zeroLs)]
      unfold rawElem at hv
      simp only [Option.some.injEq] at hv
      rw [← hv]
    simp [execOp, hop, hit, hrun, Result.andThen]
    exact hK' _ _ (hMore nm v w' cnt' hT hlk hh hc hrg hlt hgr hsz hen)

structure KeysOf {α : Type} (F : Int → Option α) (NL : List Int) : Prop where
  nd : NL.Nodup
  mem : ∀ n, n ∈ NL ↔ F n ≠ none

structure KeysIn {α : Type} (F : Int → Option α) (kf : Int → Lit) (left : Lit → Bool) (NL : List Int) : Prop where
  nd : NL.Nodup
  mem : ∀ n, n ∈ NL ↔ (F n ≠ none ∧ left (kf n) = false)

theorem KeysIn.push {α : Type} {F : Int → Option α} {kf : Int → Lit} {left : Lit → Bool} {NL : List Int} (h : KeysIn F kf left NL) (hlit : ∀ n, WideAt.IsKeyLit (kf n)) (hne : ∀ {a b : Int}, a ≠ b → kf a ≠ kf b) {nm : Int} (hT : F nm ≠ none) (hl0 : left (kf nm) = true) :
    KeysIn F kf (fun z => left z && !z.sameKey (kf nm)) (NL ++ [nm]) := by
  have hnot : nm ∉ NL := fun x => by have := ((h.mem nm).1 x).2; rw [hl0] at this; cases this
  refine ⟨?_, fun n => ?_⟩
  · rw [List.nodup_append]
    exact ⟨h.nd, by simp, fun a ha b hb e => by simp at hb; subst hb; subst e; exact hnot ha⟩
  · rw [List.mem_append, h.mem n]
    by_cases e : n = nm
    · subst e
      simp [hT, WideAt.sameKey_self (hlit n)]
    · have : (kf n).sameKey (kf nm) = false := Maps.sameKey_ne (hne e)
      simp [this, e]

theorem KeysIn.done {α : Type} {F : Int → Option α} {kf : Int → Lit} {left : Lit → Bool} {NL : List Int} (h : KeysIn F kf left NL) (hl : ∀ l, left l = false) : KeysOf F NL :=
  ⟨h.nd, fun n => (h.mem n).trans ⟨fun x => x.1, fun x => ⟨x, hl _⟩⟩⟩

theorem KeysOf.can {α : Type} {key : α → Int} {F : Int → Option α} {NL : List Int} (h : KeysOf F NL) (hk : ∀ n x, F n = some x → key x = n) (d : α) {L : List α} (hp : L.Perm (NL.map fun n => (F n).getD d)) (hs : L.Pairwise fun a b => key a ≤ key b) : Can key L F := by
  have hm : ∀ x, x ∈ L ↔ ∃ n, n ∈ NL ∧ (F n).getD d = x := fun x => by rw [hp.mem_iff, List.mem_map]
  have hmem : ∀ n x, (x ∈ L ∧ key x = n) ↔ F n = some x := by
    intro n x
    constructor
    · rintro ⟨h1, h2⟩
      obtain ⟨m, m1, m2⟩ := (hm x).1 h1
      cases e : F m with
      | none => exact absurd e ((h.mem m).1 m1)
      | some y =>
        rw [e] at m2
        simp only [Option.getD_some] at m2
        subst m2
        rw [← h2, hk m y e, e]
    · intro e
      exact ⟨(hm x).2 ⟨n, (h.mem n).2 (by rw [e]; exact Option.some_ne_none _), by rw [e]; rfl⟩, hk n x e⟩
  refine ⟨?_, hmem⟩
  have hnd : (L.map key).Nodup := by
    have h1 : (L.map key).Perm (NL.map fun n => key ((F n).getD d)) := by
      have := hp.map key
      rwa [List.map_map] at this
    rw [h1.nodup_iff]
    have h2 : (NL.map fun n => key ((F n).getD d)) = NL := by
      have : ∀ M : List Int, (∀ n ∈ M, n ∈ NL) → (M.map fun n => key ((F n).getD d)) = M := by
        intro M
        induction M with
        | nil => intro _; rfl
        | cons a M ih =>
          intro hM
          rw [List.map_cons, ih fun n hn => hM n (List.mem_cons_of_mem _ hn)]
          congr 1
          cases e : F a with
          | none => exact absurd e ((h.mem a).1 (hM a (List.mem_cons_self ..)))
          | some y => exact hk a y e
      exact this NL fun _ x => x
    rw [h2]
    exact h.nd
  rw [List.nodup_iff_pairwise_ne, List.pairwise_map] at hnd
  exact (hs.and hnd).imp fun ⟨a, b⟩ => by omega

end Go.Proofs.YtchjboijoebifaaGreat

namespace Go.Proofs.YtchjboijoebifaaGreat
open Go

section
variable {P : Program} {md : Region.Mode} {head : Array Oper} {last : Oper} {Q : Exit → Act → World → Prop}

def LastQ (P : Program) (last : Oper) (Q : Exit → Act → World → Prop) : Exit → Act → World → Prop
  | .normal, a, w => last.wp P a w (fun a' w' => Q .normal a' w') Q
  | .exit i, a, w => Q (.exit i) a w
  | .goto l, a, w => Q (.goto l) a w
  | .ret, a, w => Q .ret a w
  | .panic c, a, w => Q (.panic c) a w
  | .outgrown, a, w => Q .outgrown a w

def lastB (md : Region.Mode) (head : Array Oper) (last : Oper) : Bool :=
  last.guard.isNone && head.toList.all (fun o => o.guard.isNone) && (List.range head.size).all (fun i => last.after.any fun e => Region.binds md e && e.on == i) &&
    last.after.all (fun e => !Region.binds md e || decide (e.on < head.size)) && (List.range head.size).all fun i => match head[i]? with | some o => o.after.all fun e => !Region.binds md e || decide (e.on < i) | none => true

structure LastP (md : Region.Mode) (head : Array Oper) (last : Oper) : Prop where
  guard : last.guard = none
  guards : ∀ (i : Nat) (o : Oper), head[i]? = some o → o.guard = none
  waits : ∀ i, i < head.size → ∃ e ∈ last.after, Region.binds md e = true ∧ e.on = i
  within : ∀ e ∈ last.after, Region.binds md e = true → e.on < head.size
  early : ∀ (i : Nat) (o : Oper), head[i]? = some o → ∀ e ∈ o.after, Region.binds md e = true → e.on < i

theorem lastB_spec (h : lastB md head last = true) : LastP md head last := by
  unfold lastB at h
  simp only [Bool.and_eq_true] at h
  obtain ⟨⟨⟨⟨h1, h2⟩, h3⟩, h4⟩, h5⟩ := h
  refine ⟨by simpa using h1, fun i o hi => ?_, fun i hi => ?_, fun e he hb => ?_, fun i o hi e he hb => ?_⟩
  · have := List.all_eq_true.1 h2 o (by rw [← Array.getElem?_toList] at hi; exact List.mem_of_getElem? hi)
    simpa using this
  · have := List.all_eq_true.1 h3 i (List.mem_range.2 hi)
    obtain ⟨e, he, hb⟩ := Array.any_eq_true'.1 this
    simp only [Bool.and_eq_true, beq_iff_eq] at hb
    exact ⟨e, he, hb⟩
  · have := Array.all_eq_true_iff_forall_mem.1 h4 e he
    simpa [hb] using this
  · have hlt : i < head.size := (Array.getElem?_eq_some_iff.1 hi).1
    have := List.all_eq_true.1 h5 i (List.mem_range.2 hlt)
    rw [hi] at this
    have := Array.all_eq_true_iff_forall_mem.1 this e he
    simpa [hb] using this

theorem wp_lastQ {o : Oper} {a : Act} {w : World} {K K' : Act → World → Prop} (h : ∀ a w, K a w → K' a w) (hh : o.wp P a w K (LastQ P last Q)) : o.wp P a w K' Q := by
  unfold Oper.wp at *
  generalize (execOp a.eval o).run P w = r at *
  cases r with
  | ok n w' =>
    cases n <;> simp only [Oper.upon] at hh ⊢ <;>
      first
        | exact h _ _ hh
        | exact Calls.mono hh (fun e w'' he => by
            cases e with
            | returned v => exact h _ _ he
            | panicked c => exact he
            | outgrown => obtain ⟨a', w', h'⟩ := he; exact ⟨a', w', h'⟩)
        | exact Rows.mono hh (fun _ _ he => h _ _ he)
  | halt x w' => cases x <;> simp only [Oper.upon] at hh ⊢ <;> exact hh

theorem push_getD {listed : Array Bool} {i : Nat} (d : Bool) (hi : i < listed.size) : (listed.push false).getD i d = listed.getD i d := by
  simp [Array.getElem?_push, Nat.ne_of_lt hi]

theorem all_listed (hp : LastP md head last) {listed : Array Bool} (hs : listed.size = head.size) (hr : Region.ready md head listed = []) : ∀ i, i < head.size → listed.getD i false = true := by
  intro i
  induction i using Nat.strongRecOn with
  | _ i ih =>
    intro hi
    cases hl : listed.getD i true with
    | true =>
      have : i < listed.size := by omega
      simp [this] at hl ⊢
      exact hl
    | false =>
      have hm : i ∈ Region.ready md head listed := mem_ready.2 ⟨hl, head[i], Array.getElem?_eq_getElem hi, fun e he hb => by
        have h1 := hp.early i _ (Array.getElem?_eq_getElem hi) e he hb
        exact ih e.on h1 (by omega)⟩
      rw [hr] at hm
      cases hm

theorem ready_head (hp : LastP md head last) {listed : Array Bool} (hs : listed.size = head.size) {i : Nat} (hi : i < head.size) : i ∈ Region.ready md (head.push last) (listed.push false) ↔ i ∈ Region.ready md head listed := by
  rw [mem_ready, mem_ready, push_getD true (by omega)]
  have e1 : (head.push last)[i]? = head[i]? := by simp [Array.getElem?_push, Nat.ne_of_lt hi]
  rw [e1]
  constructor
  · rintro ⟨h0, o, ho, h⟩
    exact ⟨h0, o, ho, fun e he hb => by have := hp.early i o ho e he hb; have h2 := h e he hb; rw [push_getD false (by omega)] at h2; exact h2⟩
  · rintro ⟨h0, o, ho, h⟩
    exact ⟨h0, o, ho, fun e he hb => by have := hp.early i o ho e he hb; rw [push_getD false (by omega)]; exact h e he hb⟩

theorem ready_last (hp : LastP md head last) {listed : Array Bool} (hs : listed.size = head.size) : head.size ∈ Region.ready md (head.push last) (listed.push false) ↔ ∀ i, i < head.size → listed.getD i false = true := by
  rw [mem_ready]
  constructor
  · rintro ⟨_, o, ho, h⟩ i hi
    have : o = last := by simpa using ho.symm
    subst this
    obtain ⟨e, he, hb, rfl⟩ := hp.waits i hi
    have h2 := h e he hb
    rw [push_getD false (by omega)] at h2
    exact h2
  · intro h
    refine ⟨by simp [← hs], last, by simp, fun e he hb => ?_⟩
    have := hp.within e he hb
    rw [push_getD false (by omega)]
    exact h e.on this

theorem wpAny_all_done {ops : Array Oper} {listed : Array Bool} {a : Act} {w : World} (hr : Region.ready md ops listed = []) (h : Q .normal a w) : ∀ fuel, wpAny P md ops Q fuel listed a w
  | 0 => ⟨hr, h⟩
  | _ + 1 => ⟨fun _ => h, by rw [hr]; simp⟩

theorem wpAny_last (hp : LastP md head last) : ∀ (f : Nat) (listed : Array Bool) (a : Act) (w : World), listed.size = head.size → wpAny P md head (LastQ P last Q) f listed a w → wpAny P md (head.push last) Q (f + 1) (listed.push false) a w := by
  have fin : ∀ (listed : Array Bool) (a : Act) (w : World) (f : Nat), listed.size = head.size → (∀ i, i < head.size → listed.getD i false = true) → LastQ P last Q .normal a w → wpOp P (head.push last) Q head.size (wpAny P md (head.push last) Q f ((listed.push false).setIfInBounds head.size true)) a w := by
    intro listed a w f hs hall hq
    unfold wpOp
    rw [show (head.push last)[head.size]? = some last from by simp]
    simp only
    rw [if_pos (by simp [Region.wanted, hp.guard])]
    refine .inl (Oper.wp_mono (fun a' w' h' => wpAny_all_done ?_ h' f) hq)
    refine List.eq_nil_iff_forall_not_mem.2 fun j hj => ?_
    obtain ⟨h0, o, ho, _⟩ := mem_ready.1 hj
    have hjl : j < head.size + 1 := by have := (Array.getElem?_eq_some_iff.1 ho).1; simpa using this
    by_cases hjn : head.size = j
    · subst hjn
      simp [← hs] at h0
    · rw [getD_set_ne true hjn, push_getD true (by omega)] at h0
      have := hall j (by omega)
      have hj' : j < listed.size := by omega
      simp [hj'] at h0 this
      rw [h0] at this
      cases this
  intro f
  induction f with
  | zero =>
    intro listed a w hs h
    have hall := all_listed hp hs h.1
    refine ⟨fun h0 => ?_, fun i hi => ?_⟩
    · have := (ready_last hp hs).2 hall
      rw [h0] at this
      cases this
    · have hlt : i < head.size + 1 := by obtain ⟨_, o, ho, _⟩ := mem_ready.1 hi; have := (Array.getElem?_eq_some_iff.1 ho).1; simpa using this
      by_cases hin : i < head.size
      · have := (ready_head hp hs hin).1 hi
        rw [h.1] at this
        cases this
      · obtain rfl : i = head.size := by omega
        exact fin listed a w 0 hs hall h.2
  | succ f ih =>
    intro listed a w hs h
    refine ⟨fun h0 => ?_, fun i hi => ?_⟩
    · cases hr : Region.ready md head listed with
      | nil =>
        have := (ready_last hp hs).2 (all_listed hp hs hr)
        rw [h0] at this
        cases this
      | cons j rs =>
        have hj : j ∈ Region.ready md head listed := by rw [hr]; simp
        have hjn : j < head.size := by obtain ⟨_, o, ho, _⟩ := mem_ready.1 hj; exact (Array.getElem?_eq_some_iff.1 ho).1
        have := (ready_head hp hs hjn).2 hj
        rw [h0] at this
        cases this
    · have hlt : i < head.size + 1 := by obtain ⟨_, o, ho, _⟩ := mem_ready.1 hi; have := (Array.getElem?_eq_some_iff.1 ho).1; simpa using this
      by_cases hin : i < head.size
      · have hm := (ready_head hp hs hin).1 hi
        have hw := h.2 i hm
        obtain ⟨_, o, ho, _⟩ := mem_ready.1 hm
        have e1 : (head.push last)[i]? = some o := by rw [← ho]; simp [Array.getElem?_push, Nat.ne_of_lt hin]
        have hg := hp.guards i o ho
        unfold wpOp at hw ⊢
        rw [ho] at hw
        rw [e1]
        simp only at hw ⊢
        rw [if_pos (by simp [Region.wanted, hg])] at hw ⊢
        have hpush : (listed.push false).setIfInBounds i true = (listed.setIfInBounds i true).push false := by
          apply Array.ext'
          simp only [Array.toList_setIfInBounds, Array.toList_push]
          rw [List.set_append_left _ _ (by simp; omega)]
        rw [hpush]
        rcases hw with hw | ⟨hw1, a', w', hw2⟩
        · exact .inl (wp_lastQ (fun a' w' h' => ih _ a' w' (by simpa using hs) h') hw)
        · exact .inr ⟨hw1, a', w', hw2⟩
      · obtain rfl : i = head.size := by omega
        have hall := (ready_last hp hs).1 hi
        have hnil : Region.ready md head listed = [] := by
          refine List.eq_nil_iff_forall_not_mem.2 fun j hj => ?_
          obtain ⟨h0, o, ho, _⟩ := mem_ready.1 hj
          have hjn : j < head.size := (Array.getElem?_eq_some_iff.1 ho).1
          have := hall j hjn
          have hj' : j < listed.size := by omega
          simp [hj'] at h0 this
          rw [h0] at this
          cases this
        exact fin listed a w (f + 1) hs hall (h.1 hnil)

theorem wp_region_quiet_last {id : Nat} {l : List Oper} {a : Act} {w : World} (d : Oper) (hm : P.follows .mixedOrders = true) (hne : l.toArray = l.dropLast.toArray.push (l.getLast?.getD d)) (hB : Region.lexB .any l.dropLast.toArray = true) (hL : lastB .any l.dropLast.toArray (l.getLast?.getD d) = true)
    (h : wpQuiet P l.dropLast.toArray (fun w' => ∃ p : Regrown, w' = Go.Sort.grow (redrawn w p.d) p.os) (fun a' => ∀ w', (∃ p : Regrown, w' = Go.Sort.grow (redrawn w p.d) p.os) → LastQ P (l.getLast?.getD d) Q .normal a' w') l.dropLast a) : (Code.region id l.toArray true).wp P Q a w := by
  rw [hne]
  refine wp_region_any hm ?_
  simp only [Region.lexB, Bool.and_eq_true] at hB
  have hq := wpAnyQ_lex (C := fun w' => ∃ p : Regrown, w' = Go.Sort.grow (redrawn w p.d) p.os) (md := .any) hB.1 l.dropLast 0 (Array.replicate l.dropLast.toArray.size false) a (by simp) (by simpa using hB.2) h
  have hC : (fun w' => ∃ p : Regrown, w' = Go.Sort.grow (redrawn w p.d) p.os) { w with drawn := w.drawn + 1 } := ⟨⟨w.drawn + 1, #[]⟩, by rw [Go.Sort.grow_empty]; rfl⟩
  have h1 := wpAny_of_quiet (C := fun w' => ∃ p : Regrown, w' = Go.Sort.grow (redrawn w p.d) p.os) (Q' := LastQ P (l.getLast?.getD d) Q) (fun _ w' hw' h => h w' hw') _ _ _ _ hC hq
  have h2 := wpAny_last (lastB_spec hL) l.dropLast.length (Array.replicate l.dropLast.toArray.size false) a { w with drawn := w.drawn + 1 } (by simp) h1
  rw [show (Array.replicate l.dropLast.toArray.size false).push false = Array.replicate (l.dropLast.toArray.push (l.getLast?.getD d)).size false from by simp [Array.replicate_succ]] at h2
  rw [show (l.dropLast.toArray.push (l.getLast?.getD d)).size = l.dropLast.length + 1 from by simp]
  rw [show (l.dropLast.toArray.push (l.getLast?.getD d)).size = l.dropLast.length + 1 from by simp] at h2
  exact h2

end
end Go.Proofs.YtchjboijoebifaaGreat

namespace Go.Proofs.YtchjboijoebifaaGreat
open Go.RowKit Go.Sort

def BlkR (w : World) (p : Nat) (cs : Array Value) (t : TypeId) : Prop := w.heap[p]? = some (.cells cs t (0, 0))

theorem BlkR.cell {w : World} {p : Nat} {cs : Array Value} {t : TypeId} (h : BlkR w p cs t) (i : Nat) : w.cell? ⟨p, i, none⟩ = cs[i]? := by
  unfold BlkR at h
  simp [World.cell?, h]
theorem BlkR.frozen {w : World} {p : Nat} {cs : Array Value} {t : TypeId} (h : BlkR w p cs t) (i : Nat) : w.frozen? ⟨p, i, none⟩ = false := by
  unfold BlkR at h
  simp [World.frozen?, h]
theorem BlkR.set {w : World} {p : Nat} {cs : Array Value} {t : TypeId} (h : BlkR w p cs t) (i : Nat) (v : Value) : BlkR (w.setCell ⟨p, i, none⟩ v) p (cs.setIfInBounds i v) t := by
  unfold BlkR at h ⊢
  simp [World.setCell, Array.getElem?_modify, h]
theorem BlkR.same {w w' : World} {p : Nat} {cs : Array Value} {t : TypeId} (h : BlkR w p cs t) (e : w'.heap[p]? = w.heap[p]?) : BlkR w' p cs t := e.trans h
theorem BlkR.lt {w : World} {p : Nat} {cs : Array Value} {t : TypeId} (h : BlkR w p cs t) : p < w.heap.size := (Array.getElem?_eq_some_iff.1 h).1

def refCells (r : RecV) (v u : Value) : Array Value :=
  #[.int .i64 r.kind, .int .i64 r.tx, .int .u64 r.prev, .int .u64 r.next, .int .u32 r.page, .int .i64 r.op.kind, .int .i64 r.op.at', .string r.op.S, .string r.op.old, .int .i64 r.undo, .int .i64 r.index, .string r.key, .int .u32 r.rpage, .int .i64 r.rslot, .bool r.live, v, u]

def zeroCellsR : Array Value :=
  #[.int .i64 0, .int .i64 0, .int .u64 0, .int .u64 0, .int .u32 0, .int .i64 0, .int .i64 0, .string ⟨#[]⟩, .string ⟨#[]⟩, .int .i64 0, .int .i64 0, .string ⟨#[]⟩, .int .u32 0, .int .i64 0, .bool false, .slice none 0 0, .slice none 0 0]

section
variable {w wr : World} {r : RecV} {ta da : Option Addr} {tc dc : Nat} {v u : Value} {i j : Nat}

end

end Go.Proofs.YtchjboijoebifaaGreat

namespace Go.Proofs.YtchjboijoebifaaGreat
open Go.RowKit Go.Sort

def four (v0 v1 v2 v3 : Value) : Nat → Value
  | 0 => v0
  | 1 => v1
  | 2 => v2
  | _ => v3

theorem RowV.four_new (w : World) (v0 v1 v2 v3 : Value) (T : TypeId) : RowV (w.alloc (.cells #[v0, v1, v2, v3] T)) w.heap.size 4 (four v0 v1 v2 v3) := by
  intro j hj
  match j, hj with
  | 0, _ => exact ⟨by simp [four], by simp⟩
  | 1, _ => exact ⟨by simp [four], by simp⟩
  | 2, _ => exact ⟨by simp [four], by simp⟩
  | 3, _ => exact ⟨by simp [four], by simp⟩

theorem RowV.cells4 {w : World} {b : Nat} {v0 v1 v2 v3 : Value} (h : RowV w b 4 (four v0 v1 v2 v3)) :
    w.cell? ⟨b, 0, none⟩ = some v0 ∧ w.cell? ⟨b, 1, none⟩ = some v1 ∧ w.cell? ⟨b, 2, none⟩ = some v2 ∧ w.cell? ⟨b, 3, none⟩ = some v3 :=
  ⟨(h 0 (by omega)).1, (h 1 (by omega)).1, (h 2 (by omega)).1, (h 3 (by omega)).1⟩
theorem RowV.open4 {w : World} {b : Nat} {v0 v1 v2 v3 : Value} (h : RowV w b 4 (four v0 v1 v2 v3)) :
    w.frozen? ⟨b, 0, none⟩ = false ∧ w.frozen? ⟨b, 1, none⟩ = false ∧ w.frozen? ⟨b, 2, none⟩ = false ∧ w.frozen? ⟨b, 3, none⟩ = false :=
  ⟨(h 0 (by omega)).2, (h 1 (by omega)).2, (h 2 (by omega)).2, (h 3 (by omega)).2⟩
theorem RowV.set2_4 {w : World} {b : Nat} {v0 v1 v2 v3 : Value} (h : RowV w b 4 (four v0 v1 v2 v3)) (v : Value) : RowV (w.setCell ⟨b, 2, none⟩ v) b 4 (four v0 v1 v v3) :=
  (h.set (k := 2) (by omega) v).congr fun j hj => by match j, hj with | 0, _ => rfl | 1, _ => rfl | 2, _ => rfl | 3, _ => rfl
theorem RowV.set3_4 {w : World} {b : Nat} {v0 v1 v2 v3 : Value} (h : RowV w b 4 (four v0 v1 v2 v3)) (v : Value) : RowV (w.setCell ⟨b, 3, none⟩ v) b 4 (four v0 v1 v2 v) :=
  (h.set (k := 3) (by omega) v).congr fun j hj => by match j, hj with | 0, _ => rfl | 1, _ => rfl | 2, _ => rfl | 3, _ => rfl
theorem RowV.set0_4 {w : World} {b : Nat} {v0 v1 v2 v3 : Value} (h : RowV w b 4 (four v0 v1 v2 v3)) (v : Value) : RowV (w.setCell ⟨b, 0, none⟩ v) b 4 (four v v1 v2 v3) :=
  (h.set (k := 0) (by omega) v).congr fun j hj => by match j, hj with | 0, _ => rfl | 1, _ => rfl | 2, _ => rfl | 3, _ => rfl
theorem RowV.set1_4 {w : World} {b : Nat} {v0 v1 v2 v3 : Value} (h : RowV w b 4 (four v0 v1 v2 v3)) (v : Value) : RowV (w.setCell ⟨b, 1, none⟩ v) b 4 (four v0 v v2 v3) :=
  (h.set (k := 1) (by omega) v).congr fun j hj => by match j, hj with | 0, _ => rfl | 1, _ => rfl | 2, _ => rfl | 3, _ => rfl

end Go.Proofs.YtchjboijoebifaaGreat
