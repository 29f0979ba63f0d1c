/-
  What a log says, as plain data: tables by their numbers, and the lists in order that say the same.
-/
import Derived.Test.YtchjboijoebifaaGreatRecValC
import Derived.Test.YtchjboijoebifaaGreatProg
import Derived.WalkKit
import Derived.WalkSpells
import Derived.WalkLawsBesides
import Derived.Maps.OwnSet
import Derived.Shelf.Lays
import Derived.Shelf.Strings.Repeat
import Derived.Maps.StringElems
import Derived.Maps.AppendAt
import Derived.Lib.AppendStr
import Derived.BigQuiet
import Derived.Deep.QuietTactic
import Derived.Deep.RegionHeld3
set_option linter.unusedVariables false
set_option linter.unusedSimpArgs false
namespace Go.Proofs.YtchjboijoebifaaGreat
open Go.RowKit Go.Sort

structure Can {α : Type} (key : α → Int) (l : List α) (F : Int → Option α) : Prop where
  srt : l.Pairwise fun a b => key a < key b
  mem : ∀ n x, (x ∈ l ∧ key x = n) ↔ F n = some x

section
variable {α : Type} {key : α → Int}

theorem Can.nil : Can key [] (fun _ => none) := ⟨.nil, fun n x => by simp⟩

theorem Can.at {l : List α} {F : Int → Option α} (h : Can key l F) {x : α} (hx : x ∈ l) : F (key x) = some x := (h.mem _ x).1 ⟨hx, rfl⟩

theorem pair_eq {l l' : List α} (h : l.Pairwise fun a b => key a < key b) (h' : l'.Pairwise fun a b => key a < key b) (hm : ∀ x, x ∈ l ↔ x ∈ l') : l = l' := by
  induction l generalizing l' with
  | nil =>
    cases l' with
    | nil => rfl
    | cons y l' => exact absurd ((hm y).2 (List.mem_cons_self ..)) (List.not_mem_nil)
  | cons x l ih =>
    cases l' with
    | nil => exact absurd ((hm x).1 (List.mem_cons_self ..)) (List.not_mem_nil)
    | cons y l' =>
      rw [List.pairwise_cons] at h h'
      have e : x = y := by
        rcases List.mem_cons.1 ((hm x).1 (List.mem_cons_self ..)) with e | e
        · exact e
        · rcases List.mem_cons.1 ((hm y).2 (List.mem_cons_self ..)) with e' | e'
          · exact e'.symm
          · have := h.1 y e'; have := h'.1 x e; omega
      subst e
      congr 1
      refine ih h.2 h'.2 fun z => ?_
      constructor
      · intro hz
        rcases List.mem_cons.1 ((hm z).1 (List.mem_cons_of_mem _ hz)) with e | e
        · subst e; have := h.1 z hz; omega
        · exact e
      · intro hz
        rcases List.mem_cons.1 ((hm z).2 (List.mem_cons_of_mem _ hz)) with e | e
        · subst e; have := h'.1 z hz; omega
        · exact e

theorem Can.same {l l' : List α} {F : Int → Option α} (h : Can key l F) (h' : Can key l' F) : l = l' :=
  pair_eq h.srt h'.srt fun x => ⟨fun hx => ((h'.mem _ x).2 (h.at hx)).1, fun hx => ((h.mem _ x).2 (h'.at hx)).1⟩

def turnF (F : Int → Option α) (n : Int) (x : Option α) : Int → Option α := fun k => if k = n then x else F k

def insL (key : α → Int) : List α → α → List α
  | [], t => [t]
  | x :: l, t => if key x < key t then x :: insL key l t else if key x = key t then t :: l else t :: x :: l

theorem insL_mem {l : List α} {t : α} (h : l.Pairwise fun a b => key a < key b) : ∀ x, x ∈ insL key l t ↔ (x = t ∨ (x ∈ l ∧ key x ≠ key t)) := by
  induction l with
  | nil => intro x; simp [insL]
  | cons y l ih =>
    intro x
    rw [List.pairwise_cons] at h
    unfold insL
    by_cases a : key y < key t
    · rw [if_pos a, List.mem_cons, ih h.2, List.mem_cons]
      constructor
      · rintro (e | e | e)
        · exact .inr ⟨.inl e, by rw [e]; omega⟩
        · exact .inl e
        · exact .inr ⟨.inr e.1, e.2⟩
      · rintro (e | ⟨e | e, e'⟩)
        · exact .inr (.inl e)
        · exact .inl e
        · exact .inr (.inr ⟨e, e'⟩)
    · rw [if_neg a]
      by_cases b : key y = key t
      · rw [if_pos b, List.mem_cons, List.mem_cons]
        constructor
        · rintro (e | e)
          · exact .inl e
          · exact .inr ⟨.inr e, by have := h.1 x e; omega⟩
        · rintro (e | ⟨e | e, e'⟩)
          · exact .inl e
          · rw [e] at e'; exact absurd b e'
          · exact .inr e
      · rw [if_neg b, List.mem_cons, List.mem_cons]
        constructor
        · rintro (e | e | e)
          · exact .inl e
          · exact .inr ⟨.inl e, by rw [e]; exact b⟩
          · exact .inr ⟨.inr e, by have := h.1 x e; omega⟩
        · rintro (e | ⟨e | e, e'⟩)
          · exact .inl e
          · exact .inr (.inl e)
          · exact .inr (.inr e)

theorem insL_srt {l : List α} {t : α} (h : l.Pairwise fun a b => key a < key b) : (insL key l t).Pairwise fun a b => key a < key b := by
  induction l with
  | nil => simp [insL]
  | cons y l ih =>
    rw [List.pairwise_cons] at h
    unfold insL
    by_cases a : key y < key t
    · rw [if_pos a, List.pairwise_cons]
      refine ⟨fun x hx => ?_, ih h.2⟩
      rcases (insL_mem h.2 x).1 hx with e | e
      · rw [e]; exact a
      · exact h.1 x e.1
    · rw [if_neg a]
      by_cases b : key y = key t
      · rw [if_pos b, List.pairwise_cons]
        exact ⟨fun x hx => by have := h.1 x hx; omega, h.2⟩
      · rw [if_neg b, List.pairwise_cons]
        refine ⟨fun x hx => ?_, List.pairwise_cons.2 h⟩
        rcases List.mem_cons.1 hx with e | e
        · rw [e]; omega
        · have := h.1 x e; omega

theorem Can.ins {l : List α} {F : Int → Option α} (h : Can key l F) (t : α) : Can key (insL key l t) (turnF F (key t) (some t)) := by
  refine ⟨insL_srt h.srt, fun n x => ?_⟩
  rw [insL_mem h.srt]
  unfold turnF
  by_cases e : n = key t
  · rw [if_pos e]
    constructor
    · rintro ⟨a | a, b⟩
      · rw [a]
      · rw [e] at b; exact absurd b a.2
    · intro a
      obtain rfl := Option.some.inj a
      exact ⟨.inl rfl, e.symm⟩
  · rw [if_neg e, ← h.mem]
    constructor
    · rintro ⟨a | a, b⟩
      · rw [a] at b; exact absurd b.symm e
      · exact ⟨a.1, b⟩
    · rintro ⟨a, b⟩
      exact ⟨.inr ⟨a, by rw [b]; exact e⟩, b⟩

theorem Can.ext {l : List α} {F G : Int → Option α} (h : Can key l F) (e : ∀ n, G n = F n) : Can key l G := ⟨h.srt, fun n x => by rw [e]; exact h.mem n x⟩

end

def keyT (x : TxV) : Int := x.1
def keyD (x : DiV) : Int := x.1

structure HearG where
  T : Int → Option TxV
  D : Int → Option DiV
  most : Int
  recs : Nat

def hear0 : HearG := ⟨fun _ => none, fun _ => none, 0, 0⟩

def HearG.setT (h : HearG) (x : TxV) : HearG := { h with T := turnF h.T x.1 (some x) }
def HearG.delT (h : HearG) (n : Int) : HearG := { h with T := turnF h.T n none }
def HearG.setD (h : HearG) (x : DiV) : HearG := { h with D := turnF h.D x.1 (some x) }
def HearG.top (h : HearG) (n : Int) : HearG := { h with most := max h.most n }

def knownF (h : HearG) (n : Int) : TxV := (h.T n).getD (n, 1, 0, 0)

def behindF (x : TxV) (at' : Nat) (k : Int) (nx : Nat) : TxV :=
  (x.1, if k = 4 then 2 else if k = 5 then 3 else x.2.1, at', if k = 1 then at' else if k = 2 ∨ k = 3 then nx else x.2.2.2)

def hearTx (h : HearG) (x : TxV) : HearG := if (h.T x.1).isSome then h.top x.1 else (h.top x.1).setT x
def hearDi (h : HearG) (x : DiV) : HearG := match h.D x.1 with | some s => if x.2 < s.2 then h.setD x else h | none => h.setD x
def hearChg (h : HearG) (p at' : Nat) : HearG := if (h.D p).isSome then h else h.setD (p, at')

def hearOwn (h : HearG) (at' : Nat) (r : RecV) : HearG :=
  if r.kind = 7 then h else if r.kind = 8 then r.dirty.foldl hearDi (r.txs.foldl hearTx h) else if r.kind = 6 then h.delT r.tx else h.setT (behindF (knownF h r.tx) at' r.kind r.next)
def hearRec (h : HearG) (at' : Nat) (r : RecV) : HearG :=
  let h2 := hearOwn { h with recs := h.recs + 1, most := max h.most r.tx } at' r
  if r.kind = 1 ∨ r.kind = 2 then hearChg h2 r.page at' else h2

def hearAll (h : HearG) : List (Nat × RecV) → HearG
  | [] => h
  | x :: l => hearAll (hearRec h x.1 x.2) l

structure HearG.Wf (h : HearG) : Prop where
  t : ∀ n x, h.T n = some x → x.1 = n
  d : ∀ n x, h.D n = some x → (x.1 : Int) = n

theorem wf0 : hear0.Wf := ⟨fun _ _ h => (by cases h), fun _ _ h => (by cases h)⟩

theorem HearG.Wf.setT {h : HearG} (k : h.Wf) (x : TxV) : (h.setT x).Wf := ⟨fun n y hy => by
  change turnF h.T x.1 (some x) n = some y at hy
  unfold turnF at hy
  by_cases e : n = x.1
  · rw [if_pos e] at hy; cases hy; exact e.symm
  · rw [if_neg e] at hy; exact k.t n y hy, k.d⟩
theorem HearG.Wf.delT {h : HearG} (k : h.Wf) (m : Int) : (h.delT m).Wf := ⟨fun n y hy => by
  change turnF h.T m none n = some y at hy
  unfold turnF at hy
  by_cases e : n = m
  · rw [if_pos e] at hy; cases hy
  · rw [if_neg e] at hy; exact k.t n y hy, k.d⟩
theorem HearG.Wf.setD {h : HearG} (k : h.Wf) (x : DiV) : (h.setD x).Wf := ⟨k.t, fun n y hy => by
  change turnF h.D x.1 (some x) n = some y at hy
  unfold turnF at hy
  by_cases e : n = (x.1 : Int)
  · rw [if_pos e] at hy; cases hy; exact e.symm
  · rw [if_neg e] at hy; exact k.d n y hy⟩
theorem HearG.Wf.top {h : HearG} (k : h.Wf) (m : Int) : (h.top m).Wf := ⟨k.t, k.d⟩
theorem HearG.Wf.tx {h : HearG} (k : h.Wf) (x : TxV) : (hearTx h x).Wf := by
  unfold hearTx
  split
  · exact k.top _
  · exact (k.top _).setT x
theorem HearG.Wf.di {h : HearG} (k : h.Wf) (x : DiV) : (hearDi h x).Wf := by
  unfold hearDi
  split
  · split
    · exact k.setD x
    · exact k
  · exact k.setD x
theorem HearG.Wf.chg {h : HearG} (k : h.Wf) (p a : Nat) : (hearChg h p a).Wf := by
  unfold hearChg
  split
  · exact k
  · exact k.setD _
theorem HearG.Wf.txs {h : HearG} (k : h.Wf) (L : List TxV) : (L.foldl hearTx h).Wf := by
  induction L generalizing h with
  | nil => exact k
  | cons x L ih => exact ih (k.tx x)
theorem HearG.Wf.dis {h : HearG} (k : h.Wf) (L : List DiV) : (L.foldl hearDi h).Wf := by
  induction L generalizing h with
  | nil => exact k
  | cons x L ih => exact ih (k.di x)

theorem knownF_tx {h : HearG} (k : h.Wf) (n : Int) : (knownF h n).1 = n := by
  unfold knownF
  cases e : h.T n with
  | none => rfl
  | some x => exact k.t n x e

theorem HearG.Wf.own {h : HearG} (k : h.Wf) (a : Nat) (r : RecV) : (hearOwn h a r).Wf := by
  unfold hearOwn
  split
  · exact k
  · split
    · exact (k.txs _).dis _
    · split
      · exact k.delT _
      · exact k.setT _
theorem HearG.Wf.hear {h : HearG} (k : h.Wf) (a : Nat) (r : RecV) : (hearRec h a r).Wf := by
  unfold hearRec
  have h1 : ({ h with recs := h.recs + 1, most := max h.most r.tx } : HearG).Wf := ⟨k.t, k.d⟩
  split
  · exact (h1.own a r).chg _ _
  · exact h1.own a r
theorem HearG.Wf.all {h : HearG} (k : h.Wf) (L : List (Nat × RecV)) : (hearAll h L).Wf := by
  induction L generalizing h with
  | nil => exact k
  | cons x L ih => exact ih (k.hear x.1 x.2)

def redoL (e : Nat) : List DiV → Nat
  | [] => e
  | x :: l => l.foldl (fun m y => if y.2 < m then y.2 else m) x.2

end Go.Proofs.YtchjboijoebifaaGreat

namespace Go.Proofs.YtchjboijoebifaaGreat
open Go.RowKit

def rawElem (v : Value) : Option (DataW Value × List MemPlace) := some (.held v, [])

def getV (D : DataW Value) (l : Lit) (z : Value) : Value := match D.atKey l (.held z) with | .held v => v | _ => z

def MapV (k : TypeId) (w : World) (b sz : Nat) (D : DataW Value) : Prop := w.ownsMap Tryz.prog k rawElem b sz D ∧ Maps.size D = sz

section
variable {k t e : TypeId} {w : World} {b sz : Nat} {D : DataW Value}

theorem MapV.lt (h : MapV k w b sz D) : b < w.heap.size := World.ownsMap.lt h.1

theorem MapV.isMap (h : MapV k w b sz D) : ∃ es c, w.heap[b]? = some (.map es c) := by
  obtain ⟨es, c, hb, _⟩ := h.1
  exact ⟨es, c, hb⟩

theorem MapV.same {w' : World} (h : MapV k w b sz D) (e : w'.heap[b]? = w.heap[b]?) : MapV k w' b sz D := by
  obtain ⟨es, c, hb, r⟩ := h.1
  exact ⟨⟨es, c, e.trans hb, r⟩, h.2⟩

theorem MapV.made (k : TypeId) (w : World) : MapV k (w.alloc (.map #[] 0)) w.heap.size 0 (.map []) := ⟨World.ownsMap_made _ _ _ _, rfl⟩

theorem MapV.of_le {n : Nat} (h : w.ownsMap Tryz.prog k rawElem b n D) : MapV k w b (Maps.size D) D := by
  refine ⟨?_, rfl⟩
  obtain ⟨es, c, hb, F, hs, hD⟩ := h
  refine ⟨es, c, hb, F, ?_, hD⟩
  rw [hD]
  simp [Maps.size, length_sorted]

theorem MapV.lookOk (h : MapV k w b sz D) (K : Maps.Keyed Tryz.prog k) (ht : Tryz.prog.underlying t = some (.map k e)) {z : Value} (hz : (zeroValue e).run Tryz.prog w = .ok z w) {key : Value} {l : Lit} (hk : keyOf Tryz.prog k key = some l) :
    (Instr.lookup t (.map (some b)) key true).run Tryz.prog w = .ok (.tuple #[getV D l z, .bool (Maps.has D l)]) w := by
  obtain ⟨v, ps, hr, hv⟩ := h.1.look_ok K ht hz (zd := .held z) (zp := []) rfl hk
  have hv' : DataW.held v = D.atKey l (.held z) := by
    unfold rawElem at hv
    simp only [Option.some.injEq, Prod.mk.injEq] at hv
    exact hv.1
  rw [hr]
  unfold getV
  rw [← hv']

theorem put_ex (k t e : TypeId) (b : Nat) (key val : Value) : ∃ u : World → World, ∀ (w : World) (sz : Nat) (D : DataW Value) (l : Lit), MapV k w b sz D → Maps.Keyed Tryz.prog k → Tryz.prog.underlying t = some (.map k e) → sz ≤ 1000000 → keyOf Tryz.prog k key = some l →
    (Instr.mapUpdate t (.map (some b)) key val).run Tryz.prog w = .ok () (u w) ∧ MapV k (u w) b (Maps.size (D.put l (.held val))) (D.put l (.held val)) ∧ w.mapTurned (u w) b := by
  refine ⟨fun w => match (Instr.mapUpdate t (.map (some b)) key val).run Tryz.prog w with
    | .ok _ w' => w'
    | _ => w, fun w sz D l h K ht hn hk => ?_⟩
  obtain ⟨w', hr, h1, h2⟩ := h.1.store K ht (by unfold maxLen; omega) hk (show rawElem val = some (.held val, []) from rfl)
  simp only [hr]
  exact ⟨trivial, MapV.of_le h1, h2⟩

theorem del_ex (k t e : TypeId) (b : Nat) (key : Value) (ty : TypeId) : ∃ u : World → World, ∀ (w : World) (sz : Nat) (D : DataW Value) (l : Lit), MapV k w b sz D → Maps.Keyed Tryz.prog k → Tryz.prog.underlying t = some (.map k e) → keyOf Tryz.prog k key = some l →
    (Builtin.delete_ #[t, k] ty #[.map (some b), key]).run Tryz.prog w = .ok (.tuple #[]) (u w) ∧ MapV k (u w) b (Maps.size (D.del l)) (D.del l) ∧ w.mapTurned (u w) b := by
  refine ⟨fun w => match (Builtin.delete_ #[t, k] ty #[.map (some b), key]).run Tryz.prog w with
    | .ok _ w' => w'
    | _ => w, fun w sz D l h K ht hk => ?_⟩
  obtain ⟨w', hr, h1, h2⟩ := h.1.drop K ht hk ty
  simp only [hr]
  exact ⟨trivial, MapV.of_le h1, h2⟩

theorem MapV.tidy (h : MapV k w b sz D) (K : Maps.Keyed Tryz.prog k) : Maps.Tidy D := h.1.tidy K

theorem getV_put_same (hD : Maps.IsMap D) {l : Lit} (hl : WideAt.IsKeyLit l) (v z : Value) : getV (D.put l (.held v)) l z = v := by
  unfold getV; rw [Maps.atKey_put_same hD hl]

theorem getV_put_other {l l' : Lit} (hne : l' ≠ l) (v z : Value) : getV (D.put l (.held v)) l' z = getV D l' z := by
  unfold getV; rw [Maps.atKey_put_other hne]

theorem getV_del_other {l l' : Lit} (hne : l' ≠ l) (z : Value) : getV (D.del l) l' z = getV D l' z := by
  unfold getV; rw [Maps.atKey_del_other hne]

theorem getV_none {l : Lit} (h : Maps.has D l = false) (z : Value) : getV D l z = z := by
  unfold getV; rw [Maps.atKey_of_not_has h]
end

end Go.Proofs.YtchjboijoebifaaGreat

namespace Go.Proofs.YtchjboijoebifaaGreat
open Go.Shelf Go.RowKit

def dzerosL : List UInt8 := List.replicate 512 0
def zerosS : ByteArray := ⟨dzerosL.toArray⟩

theorem zerosS_size : zerosS.size = 512 := by
  show dzerosL.toArray.size = 512
  rw [List.size_toArray]
  exact List.length_replicate

end Go.Proofs.YtchjboijoebifaaGreat

namespace Go.Proofs.YtchjboijoebifaaGreat
open Go.RowKit

structure Kept (S : Nat → Prop) (w w' : World) : Prop where
  os : w'.os = w.os
  tape : w'.tape = w.tape
  output : w'.output = w.output
  size : w.heap.size ≤ w'.heap.size
  block : ∀ k, k < w.heap.size → ¬ S k → w'.heap[k]? = w.heap[k]?

theorem Kept.refl (S : Nat → Prop) (w : World) : Kept S w w := ⟨rfl, rfl, rfl, Nat.le_refl _, fun _ _ _ => rfl⟩

theorem Kept.trans {S : Nat → Prop} {u v w : World} (h : Kept S u v) (k : Kept S v w) : Kept S u w :=
  ⟨k.os.trans h.os, k.tape.trans h.tape, k.output.trans h.output, Nat.le_trans h.size k.size, fun i hi hs => (k.block i (Nat.lt_of_lt_of_le hi h.size) hs).trans (h.block i hi hs)⟩

theorem Kept.mono {S S' : Nat → Prop} {w w' : World} (h : Kept S w w') (k : ∀ b, S b → S' b) : Kept S' w w' :=
  ⟨h.os, h.tape, h.output, h.size, fun i hi hs => h.block i hi fun x => hs (k i x)⟩

theorem Kept.of_below {S : Nat → Prop} {w w' : World} (h : Below w.heap.size w w') : Kept S w w' := ⟨h.os, h.tape, h.output, h.size, fun k hk _ => h.block k hk⟩

theorem Kept.alloc (S : Nat → Prop) (w : World) (o : Obj) : Kept S w (w.alloc o) := Kept.of_below ((Below.refl _ _).alloc (Nat.le_refl _) o)

theorem Kept.drewN {S : Nat → Prop} {w w' : World} (h : Kept S w w') (n : Nat) : Kept S w (w'.drewN n) := ⟨h.os, h.tape, h.output, h.size, h.block⟩
theorem Kept.drew {S : Nat → Prop} {w w' : World} (h : Kept S w w') : Kept S w w'.drew := ⟨h.os, h.tape, h.output, h.size, h.block⟩

theorem Kept.of_grown {S : Nat → Prop} {w w' : World} {row : Option Nat} (h : w.grownBy w' row) (k : ∀ b, row = some b → S b) : Kept S w w' :=
  ⟨h.os, h.tape, h.output, h.size, fun i hi hs => h.block i hi fun e => hs (k i e.symm)⟩

theorem Kept.setCell (S : Nat → Prop) (w : World) (b i : Nat) (v : Value) (h : S b) : Kept S w (w.setCell ⟨b, i, none⟩ v) :=
  ⟨rfl, rfl, rfl, by simp, fun k _ hk => Below.heap_setCell _ _ _ _ fun e => hk (e ▸ h)⟩

def Moves (S S' : Nat → Prop) (w w' : World) : Prop := Kept S w w' ∧ ∀ k, S' k → S k ∨ w.heap.size ≤ k

theorem Moves.trans {S S' S'' : Nat → Prop} {u v w : World} (h : Moves S S' u v) (k : Moves S' S'' v w) : Moves S S'' u w :=
  ⟨⟨k.1.os.trans h.1.os, k.1.tape.trans h.1.tape, k.1.output.trans h.1.output, Nat.le_trans h.1.size k.1.size, fun i hi hs =>
      (k.1.block i (Nat.lt_of_lt_of_le hi h.1.size) fun x => by rcases h.2 i x with a | a; exact hs a; omega).trans (h.1.block i hi hs)⟩,
    fun i hi => by
      rcases k.2 i hi with a | a
      · exact h.2 i a
      · exact .inr (Nat.le_trans h.1.size a)⟩

theorem Moves.off {S S' : Nat → Prop} {w w' : World} (h : Moves S S' w w') {r : Nat} (hr : r < w.heap.size) (hs : ¬ S r) : w'.heap[r]? = w.heap[r]? ∧ ¬ S' r :=
  ⟨h.1.block r hr hs, fun x => by rcases h.2 r x with a | a; exact hs a; omega⟩

theorem Moves.kept {S S' : Nat → Prop} {w w' w'' : World} (h : Moves S S' w w') (k : Kept S' w' w'') : Moves S S' w w'' := h.trans ⟨k, fun _ x => .inl x⟩

theorem Moves.of_kept {S : Nat → Prop} {w w' : World} (k : Kept S w w') : Moves S S w w' := ⟨k, fun _ x => .inl x⟩

def Blk (w : World) (p : Nat) (cs : Array Value) (t : TypeId) : Prop := w.heap[p]? = some (.cells cs t (0, 0))

theorem Blk.cell {w : World} {p : Nat} {cs : Array Value} {t : TypeId} (h : Blk w p cs t) (i : Nat) : w.cell? ⟨p, i, none⟩ = cs[i]? := by
  unfold Blk at h
  simp [World.cell?, h]

theorem Blk.frozen {w : World} {p : Nat} {cs : Array Value} {t : TypeId} (h : Blk w p cs t) (i : Nat) : w.frozen? ⟨p, i, none⟩ = false := by
  unfold Blk at h
  simp [World.frozen?, h]

theorem Blk.set {w : World} {p : Nat} {cs : Array Value} {t : TypeId} (h : Blk w p cs t) (i : Nat) (v : Value) : Blk (w.setCell ⟨p, i, none⟩ v) p (cs.setIfInBounds i v) t := by
  unfold Blk at h ⊢
  simp [World.setCell, Array.getElem?_modify, h]

theorem Blk.lt {w : World} {p : Nat} {cs : Array Value} {t : TypeId} (h : Blk w p cs t) : p < w.heap.size := by
  unfold Blk at h
  exact (Array.getElem?_eq_some_iff.1 h).1

theorem Blk.same {w w' : World} {p : Nat} {cs : Array Value} {t : TypeId} (h : Blk w p cs t) (e : w'.heap[p]? = w.heap[p]?) : Blk w' p cs t := e.trans h

theorem Blk.made (w : World) (cs : Array Value) (t : TypeId) : Blk (w.alloc (.cells cs t)) w.heap.size cs t := heap_alloc_new w _

/-! The pages. -/

def keyL (p : Nat) : Lit := .int .u32 p

theorem pageKeyed : Maps.Keyed Tryz.prog 48 := Maps.int_keyed (q := .u32) Tryz.underlying48

theorem keyL_wf {p : Nat} (hp : p < 4294967296) : (keyL p).wf = true := by
  unfold keyL
  have h1 : IntKind.u32.min = 0 := by decide
  have h2 : IntKind.u32.max = 4294967295 := by decide
  simp only [Lit.wf, h1, h2, Bool.and_eq_true, decide_eq_true_eq]
  omega

theorem keyL_key {p : Nat} (hp : p < 4294967296) : keyOf Tryz.prog 48 (.int .u32 p) = some (keyL p) := Maps.keyOf_int_mk Tryz.underlying48 (keyL_wf hp)

theorem keyL_lit (p : Nat) : WideAt.IsKeyLit (keyL p) := by simp [keyL, WideAt.IsKeyLit]

theorem keyL_ne {p q : Nat} (h : p ≠ q) : keyL p ≠ keyL q := by
  intro e
  simp only [keyL, Lit.int.injEq, true_and] at e
  omega

def IsPages (w : World) (b n : Nat) (f : Nat → Option ByteArray) : Prop :=
  ∃ D : DataW Unit, w.ownsMap Tryz.prog 48 (plainElem Tryz.prog 9) b n D ∧
    ∀ p, 1 ≤ p → p < 4294967296 → Maps.has D (keyL p) = (f p).isSome ∧ D.atKey (keyL p) (.lit (.string [])) = .lit (.string ((f p).getD ⟨#[]⟩).data.toList)

theorem IsPages.lt {w : World} {b n : Nat} {f : Nat → Option ByteArray} (h : IsPages w b n f) : b < w.heap.size := by
  obtain ⟨D, hD, _⟩ := h
  exact hD.lt

theorem IsPages.isMap {w : World} {b n : Nat} {f : Nat → Option ByteArray} (h : IsPages w b n f) : ∃ es c, w.heap[b]? = some (.map es c) := by
  obtain ⟨D, ⟨es, c, hb, _⟩, _⟩ := h
  exact ⟨es, c, hb⟩

theorem IsPages.same {w w' : World} {b n : Nat} {f : Nat → Option ByteArray} (h : IsPages w b n f) (e : w'.heap[b]? = w.heap[b]?) : IsPages w' b n f := by
  obtain ⟨D, ⟨es, c, hb, k⟩, h2⟩ := h
  exact ⟨D, ⟨es, c, e.trans hb, k⟩, h2⟩

theorem IsPages.mono {w : World} {b n n' : Nat} {f : Nat → Option ByteArray} (h : IsPages w b n f) (e : n ≤ n') : IsPages w b n' f := by
  obtain ⟨D, hD, h2⟩ := h
  exact ⟨D, hD.mono e, h2⟩

theorem IsPages.made (w : World) : IsPages (w.alloc (.map #[] 0)) w.heap.size 0 (fun _ => none) :=
  ⟨.map [], World.ownsMap_made _ _ _ _, fun p _ hp => ⟨rfl, rfl⟩⟩

def setF (f : Nat → Option ByteArray) (p : Nat) (s : ByteArray) : Nat → Option ByteArray := fun q => if q = p then some s else f q

theorem IsPages.put1 {w : World} {b n : Nat} {f : Nat → Option ByteArray} (h : IsPages w b n f) (hn : n ≤ 1000000000) {p : Nat} (hp : p < 4294967296) (s : ByteArray) (hs : s.size ≤ 1000000000) :
    ∃ w', (Instr.mapUpdate 119 (.map (some b)) (.int .u32 p) (.string s)).run Tryz.prog w = .ok () w' ∧ IsPages w' b (n + 1) (setF f p s) ∧ w.mapTurned w' b := by
  obtain ⟨D, hD, h2⟩ := h
  obtain ⟨w', hr, hD', ht⟩ := hD.store pageKeyed Tryz.underlying119 (by unfold maxLen; omega) (keyL_key hp) (plainElem_string Tryz.underlying9 (s := s) (by unfold maxLen; omega))
  refine ⟨w', hr, ⟨_, hD', fun q h0 hq => ?_⟩, ht⟩
  by_cases c : q = p
  · subst c
    simp only [setF, if_pos]
    exact ⟨Maps.has_put_same hD.isMap (keyL_lit q) _, Maps.atKey_put_same hD.isMap (keyL_lit q) _ _⟩
  · simp only [setF, if_neg c]
    rw [Maps.has_put_other (keyL_ne c), Maps.atKey_put_other (keyL_ne c)]
    exact h2 q h0 hq

theorem putP_ex (b p : Nat) (s : ByteArray) : ∃ u : World → World, ∀ (w : World) (n : Nat) (f : Nat → Option ByteArray), IsPages w b n f → n ≤ 1000000000 → p < 4294967296 → s.size ≤ 1000000000 →
    (Instr.mapUpdate 119 (.map (some b)) (.int .u32 p) (.string s)).run Tryz.prog w = .ok () (u w) ∧ IsPages (u w) b (n + 1) (setF f p s) ∧ w.mapTurned (u w) b := by
  refine ⟨fun w => match (Instr.mapUpdate 119 (.map (some b)) (.int .u32 p) (.string s)).run Tryz.prog w with
    | .ok _ w' => w'
    | _ => w, fun w n f h hn hp hs => ?_⟩
  obtain ⟨w', hr, h1, h2⟩ := h.put1 hn hp s hs
  simp only [hr]
  exact ⟨trivial, h1, h2⟩

theorem mapTurned_kept {w w' : World} {b : Nat} (h : w.mapTurned w' b) {S : Nat → Prop} (hb : S b) : Kept S w w' := Kept.of_grown h.grown fun k e => by cases e; exact hb

end Go.Proofs.YtchjboijoebifaaGreat

namespace Go.Proofs.YtchjboijoebifaaGreat
open Go.RowKit

def dcellsOf (l : List UInt8) : List Value := l.map fun c => .int .u8 (c.toNat : Int)

theorem dstrCells_eq (s : ByteArray) : Lib.strCells s = dcellsOf s.data.toList := by
  unfold Lib.strCells dcellsOf
  rfl

structure LW where
  page : Nat
  s : ByteArray
  mark : Nat

structure FG where
  call : Int
  keep : Nat
  torn : Int
  bytes : Int
  log : Int

def wcells (x : LW) : List Value := [.int .u32 x.page, .string x.s, .int .u64 x.mark]
def fcells (f : FG) : List Value := [.int .i64 f.call, .int .u64 f.keep, .int .i64 f.torn, .int .i64 f.bytes, .int .i64 f.log]

structure DG where
  room : Nat
  dead : Bool
  calls : Nat
  plan : List FG
  sure : Nat → ByteArray
  sm : Nat
  loose : List LW
  fresh : Nat → Option ByteArray
  mark : Nat
  log : List UInt8
  sl : Nat
  nS : Nat
  nF : Nat

structure Mem where
  planV : Value
  looseV : Value
  logV : Value
  sure : Nat
  fresh : Nat

def dvals (m : Mem) (d : DG) : Array Value :=
  #[.int .i64 d.room, .bool d.dead, .int .i64 d.calls, m.planV, .map (some m.sure), .int .u64 d.sm, m.looseV, .map (some m.fresh), .int .u64 d.mark, m.logV, .int .i64 d.sl]

def IsFalls (w : World) (v : Value) (l : List FG) : Prop :=
  (v = .slice none 0 0 ∧ l = []) ∨ ∃ g o cap cur, v = .slice (some ⟨g, o, none⟩) l.length cap ∧ l.length ≤ cap ∧ cap ≤ maxLen ∧ Blk w g cur 181 ∧
    ∀ k u, (l.flatMap fcells)[k]? = some u → w.cell? ⟨g, o + k, none⟩ = some u

theorem IsFalls.block {w : World} {v : Value} {l : List FG} (h : IsFalls w v l) {g : Nat} (e : v.ownBlock = some g) : ∃ cur, Blk w g cur 181 := by
  rcases h with ⟨rfl, _⟩ | ⟨g', o, cap, cur, rfl, _, _, hb, _⟩
  · cases e
  · cases e; exact ⟨cur, hb⟩

theorem IsFalls.same {w w' : World} {v : Value} {l : List FG} (h : IsFalls w v l) (e : ∀ g, v.ownBlock = some g → w'.heap[g]? = w.heap[g]?) : IsFalls w' v l := by
  rcases h with ⟨rfl, hl⟩ | ⟨g, o, cap, cur, rfl, h1, h2, hb, hc⟩
  · exact .inl ⟨rfl, hl⟩
  · have e1 := e g rfl
    exact .inr ⟨g, o, cap, cur, rfl, h1, h2, hb.same e1, fun k u hk => (World.cell?_of_block (w := w) (a := ⟨g, o + k, none⟩) e1).trans (hc k u hk)⟩

theorem owns_block {w : World} {e : TypeId} {z n : Nat} {v : Value} {xs : List Value} (h : w.ownsRow 0 e z v n xs) {g : Nat} (k : v.ownBlock = some g) : ∃ cur, Blk w g cur e := by
  rcases h.2 with ⟨rfl, _⟩ | ⟨g', cap, cur, rfl, _, hb, _⟩
  · cases k
  · cases k; exact ⟨cur, hb⟩

theorem owns_same {w w' : World} {e : TypeId} {z n : Nat} {v : Value} {xs : List Value} (h : w.ownsRow 0 e z v n xs) (k : ∀ g, v.ownBlock = some g → w'.heap[g]? = w.heap[g]?) : w'.ownsRow 0 e z v n xs := by
  refine ⟨h.1, ?_⟩
  rcases h.2 with ⟨rfl, h1⟩ | ⟨g', cap, cur, rfl, h0, hb, hr⟩
  · exact .inl ⟨rfl, h1⟩
  · exact .inr ⟨g', cap, cur, rfl, h0, (k g' rfl).trans hb, hr⟩

structure Parts (w : World) (m : Mem) (d : DG) : Prop where
  plan : IsFalls w m.planV d.plan
  sure : ∃ f, IsPages w m.sure d.nS f ∧ ∀ q, 1 ≤ q → q < 4294967296 → (f q).getD zerosS = d.sure q
  fresh : IsPages w m.fresh d.nF d.fresh
  ne : m.sure ≠ m.fresh
  loose : w.ownsRow 0 160 3 m.looseV d.loose.length (d.loose.flatMap wcells)
  log : w.ownsRow 0 5 1 m.logV d.log.length (dcellsOf d.log)

theorem Parts.to {w : World} {m : Mem} {d d' : DG} (h : Parts w m d) (e1 : d'.plan = d.plan) (e2 : d'.sure = d.sure) (e3 : d'.loose = d.loose) (e4 : d'.fresh = d.fresh) (e5 : d'.log = d.log) (e6 : d'.nS = d.nS) (e7 : d'.nF = d.nF) : Parts w m d' :=
  ⟨by rw [e1]; exact h.plan, by rw [e2, e6]; exact h.sure, by rw [e4, e7]; exact h.fresh, h.ne, by rw [e3]; exact h.loose, by rw [e5]; exact h.log⟩

def Mem.rest (m : Mem) (k : Nat) : Prop := k = m.sure ∨ k = m.fresh ∨ m.looseV.ownBlock = some k ∨ m.logV.ownBlock = some k ∨ m.planV.ownBlock = some k

theorem Parts.same {w w' : World} {m : Mem} {d : DG} (h : Parts w m d) (e : ∀ k, m.rest k → w'.heap[k]? = w.heap[k]?) : Parts w' m d := by
  obtain ⟨f, hf, hz⟩ := h.sure
  exact ⟨h.plan.same fun g k => e g (.inr (.inr (.inr (.inr k)))), ⟨f, hf.same (e _ (.inl rfl)), hz⟩, h.fresh.same (e _ (.inr (.inl rfl))), h.ne,
    owns_same h.loose fun g k => e g (.inr (.inr (.inl k))), owns_same h.log fun g k => e g (.inr (.inr (.inr (.inl k))))⟩

structure DiskAt (w : World) (p : Nat) (m : Mem) (d : DG) : Prop where
  blk : Blk w p (dvals m d) 123
  parts : Parts w m d

theorem DiskAt.off {w : World} {p : Nat} {m : Mem} {d : DG} (h : DiskAt w p m d) {k : Nat} (hk : m.rest k) : k ≠ p := by
  rintro rfl
  have hb := h.blk
  unfold Blk at hb
  rcases hk with rfl | rfl | hk | hk | hk
  · obtain ⟨f, hf, _⟩ := h.parts.sure
    obtain ⟨es, c, e⟩ := hf.isMap
    rw [e] at hb; cases hb
  · obtain ⟨es, c, e⟩ := h.parts.fresh.isMap
    rw [e] at hb; cases hb
  · obtain ⟨cur, e⟩ := owns_block h.parts.loose hk
    unfold Blk at e; rw [e] at hb
    simp only [Option.some.injEq, Obj.cells.injEq] at hb
    exact absurd hb.2.1 (by decide)
  · obtain ⟨cur, e⟩ := owns_block h.parts.log hk
    unfold Blk at e; rw [e] at hb
    simp only [Option.some.injEq, Obj.cells.injEq] at hb
    exact absurd hb.2.1 (by decide)
  · obtain ⟨cur, e⟩ := h.parts.plan.block hk
    unfold Blk at e; rw [e] at hb
    simp only [Option.some.injEq, Obj.cells.injEq] at hb
    exact absurd hb.2.1 (by decide)

theorem Parts.apart {w : World} {m : Mem} {d : DG} (h : Parts w m d) :
    (∀ g, m.looseV.ownBlock = some g → g ≠ m.sure ∧ g ≠ m.fresh ∧ m.logV.ownBlock ≠ some g ∧ m.planV.ownBlock ≠ some g) ∧
    (∀ g, m.logV.ownBlock = some g → g ≠ m.sure ∧ g ≠ m.fresh ∧ m.planV.ownBlock ≠ some g) ∧
    (∀ g, m.planV.ownBlock = some g → g ≠ m.sure ∧ g ≠ m.fresh) := by
  obtain ⟨f, hf, _⟩ := h.sure
  obtain ⟨es1, c1, e1⟩ := hf.isMap
  obtain ⟨es2, c2, e2⟩ := h.fresh.isMap
  have nomap : ∀ {g cur t}, Blk w g cur t → g ≠ m.sure ∧ g ≠ m.fresh := fun {g cur t} hb =>
    ⟨(by rintro rfl; unfold Blk at hb; rw [e1] at hb; cases hb), (by rintro rfl; unfold Blk at hb; rw [e2] at hb; cases hb)⟩
  refine ⟨fun g k => ?_, fun g k => ?_, fun g k => ?_⟩
  · obtain ⟨cur, hb⟩ := owns_block h.loose k
    refine ⟨(nomap hb).1, (nomap hb).2, fun k' => ?_, fun k' => ?_⟩
    · obtain ⟨cur', e⟩ := owns_block h.log k'
      unfold Blk at e hb; rw [e] at hb
      simp only [Option.some.injEq, Obj.cells.injEq] at hb
      exact absurd hb.2.1 (by decide)
    · obtain ⟨cur', e⟩ := h.plan.block k'
      unfold Blk at e hb; rw [e] at hb
      simp only [Option.some.injEq, Obj.cells.injEq] at hb
      exact absurd hb.2.1 (by decide)
  · obtain ⟨cur, hb⟩ := owns_block h.log k
    refine ⟨(nomap hb).1, (nomap hb).2, fun k' => ?_⟩
    obtain ⟨cur', e⟩ := h.plan.block k'
    unfold Blk at e hb; rw [e] at hb
    simp only [Option.some.injEq, Obj.cells.injEq] at hb
    exact absurd hb.2.1 (by decide)
  · obtain ⟨cur, hb⟩ := h.plan.block k
    exact nomap hb

def Mem.has (m : Mem) (p k : Nat) : Prop := k = p ∨ m.rest k

def IsDisk (w : World) (p : Nat) (S : Nat → Prop) (d : DG) : Prop := ∃ m, DiskAt w p m d ∧ (∀ k, m.has p k → S k) ∧ ∀ k, S k → k < w.heap.size

theorem IsDisk.same {w w' : World} {p : Nat} {S : Nat → Prop} {d : DG} (h : IsDisk w p S d) (e : ∀ k, S k → w'.heap[k]? = w.heap[k]?) (hs : w.heap.size ≤ w'.heap.size) : IsDisk w' p S d := by
  obtain ⟨m, hd, h1, h2⟩ := h
  exact ⟨m, ⟨hd.blk.same (e p (h1 p (.inl rfl))), hd.parts.same fun k hk => e k (h1 k (.inr hk))⟩, h1, fun k hk => Nat.lt_of_lt_of_le (h2 k hk) hs⟩

theorem IsDisk.below {w w' : World} {p : Nat} {S : Nat → Prop} {d : DG} (h : IsDisk w p S d) (k : Below w.heap.size w w') : IsDisk w' p S d :=
  h.same (fun i hi => k.block i (by obtain ⟨m, _, _, h2⟩ := h; exact h2 i hi)) k.size

structure Cells (w : World) (p : Nat) (m : Mem) (d : DG) : Prop where
  c0 : w.cell? ⟨p, 0, none⟩ = some (.int .i64 d.room)
  c1 : w.cell? ⟨p, 1, none⟩ = some (.bool d.dead)
  c2 : w.cell? ⟨p, 2, none⟩ = some (.int .i64 d.calls)
  c3 : w.cell? ⟨p, 3, none⟩ = some m.planV
  c4 : w.cell? ⟨p, 4, none⟩ = some (.map (some m.sure))
  c5 : w.cell? ⟨p, 5, none⟩ = some (.int .u64 d.sm)
  c6 : w.cell? ⟨p, 6, none⟩ = some m.looseV
  c7 : w.cell? ⟨p, 7, none⟩ = some (.map (some m.fresh))
  c8 : w.cell? ⟨p, 8, none⟩ = some (.int .u64 d.mark)
  c9 : w.cell? ⟨p, 9, none⟩ = some m.logV
  c10 : w.cell? ⟨p, 10, none⟩ = some (.int .i64 d.sl)
  fr : ∀ i, w.frozen? ⟨p, i, none⟩ = false

theorem Blk.cells {w : World} {p : Nat} {m : Mem} {d : DG} (h : Blk w p (dvals m d) 123) : Cells w p m d :=
  ⟨h.cell 0, h.cell 1, h.cell 2, h.cell 3, h.cell 4, h.cell 5, h.cell 6, h.cell 7, h.cell 8, h.cell 9, h.cell 10, h.frozen⟩

theorem DiskAt.lt {w : World} {p : Nat} {m : Mem} {d : DG} (h : DiskAt w p m d) : p < w.heap.size := h.blk.lt

theorem DiskAt.set {w : World} {p : Nat} {m : Mem} {d : DG} (h : DiskAt w p m d) (i : Nat) (v : Value) :
    Blk (w.setCell ⟨p, i, none⟩ v) p ((dvals m d).setIfInBounds i v) 123 ∧ Parts (w.setCell ⟨p, i, none⟩ v) m d :=
  ⟨h.blk.set i v, h.parts.same fun k hk => Below.heap_setCell _ _ _ _ (h.off hk)⟩

end Go.Proofs.YtchjboijoebifaaGreat

namespace Go.Proofs.YtchjboijoebifaaGreat
open Go.RowKit

section
variable {w : World} {p : Nat} {m : Mem} {d : DG}

set_option maxHeartbeats 400000 in
set_option maxRecDepth 60000 in
theorem dead_any (h : Cells w p m d) :
    Calls Tryz.prog 93 #[.pointer (some ⟨p, 0, none⟩)] w fun x w' => x = .returned (.bool d.dead) ∧ w' = w := by
  have c1 := h.c1
  go_enter Tryz.func93, Tryz.ntmps93
  go_wp2
  go_ret
  exact ⟨rfl, rfl⟩

end

end Go.Proofs.YtchjboijoebifaaGreat
