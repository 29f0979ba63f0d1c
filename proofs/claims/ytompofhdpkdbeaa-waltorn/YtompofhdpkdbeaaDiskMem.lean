/-
  A disk in memory: what its eleven cells hold, where its pages, its loose writes, its log and its plan lie, which blocks are its own, and what of the world a step leaves.
-/
import Derived.Test.YtompofhdpkdbeaaRepeat
import Derived.Maps.OwnSet
import Derived.Maps.StringElems
import Derived.Maps.AppendAt
import Derived.Lib.AppendStr
import Derived.WalkLawsBesides
namespace Go.Proofs.Ytompofhdpkdbeaa
open Go.RowKit
set_option linter.unusedVariables false

/-- Outside the blocks S, and but for new blocks, w' is as w was. -/
structure Kept (S : Nat → Prop) (w w' : World) : Prop where
  os : w'.os = w.os
  tape : w'.tape = w.tape
  output : w'.output = w.output
  size : w.heap.size ≤ w'.heap.size
  block : ∀ k, k < w.heap.size → ¬ S k → w'.heap[k]? = w.heap[k]?

theorem Kept.refl (S : Nat → Prop) (w : World) : Kept S w w := ⟨rfl, rfl, rfl, Nat.le_refl _, fun _ _ _ => rfl⟩

theorem Kept.trans {S : Nat → Prop} {u v w : World} (h : Kept S u v) (k : Kept S v w) : Kept S u w :=
  ⟨k.os.trans h.os, k.tape.trans h.tape, k.output.trans h.output, Nat.le_trans h.size k.size, fun i hi hs => (k.block i (Nat.lt_of_lt_of_le hi h.size) hs).trans (h.block i hi hs)⟩

theorem Kept.mono {S S' : Nat → Prop} {w w' : World} (h : Kept S w w') (k : ∀ b, S b → S' b) : Kept S' w w' :=
  ⟨h.os, h.tape, h.output, h.size, fun i hi hs => h.block i hi fun x => hs (k i x)⟩

theorem Kept.of_below {S : Nat → Prop} {w w' : World} (h : Below w.heap.size w w') : Kept S w w' := ⟨h.os, h.tape, h.output, h.size, fun k hk _ => h.block k hk⟩

theorem Kept.alloc (S : Nat → Prop) (w : World) (o : Obj) : Kept S w (w.alloc o) := Kept.of_below ((Below.refl _ _).alloc (Nat.le_refl _) o)

theorem Kept.drewN {S : Nat → Prop} {w w' : World} (h : Kept S w w') (n : Nat) : Kept S w (w'.drewN n) := ⟨h.os, h.tape, h.output, h.size, h.block⟩
theorem Kept.drew {S : Nat → Prop} {w w' : World} (h : Kept S w w') : Kept S w w'.drew := ⟨h.os, h.tape, h.output, h.size, h.block⟩

theorem Kept.of_grown {S : Nat → Prop} {w w' : World} {row : Option Nat} (h : w.grownBy w' row) (k : ∀ b, row = some b → S b) : Kept S w w' :=
  ⟨h.os, h.tape, h.output, h.size, fun i hi hs => h.block i hi fun e => hs (k i e.symm)⟩

theorem Kept.setCell (S : Nat → Prop) (w : World) (b i : Nat) (v : Value) (h : S b) : Kept S w (w.setCell ⟨b, i, none⟩ v) :=
  ⟨rfl, rfl, rfl, by simp, fun k _ hk => Below.heap_setCell _ _ _ _ fun e => hk (e ▸ h)⟩

/-- A step of what owns the blocks S, and then S'. -/
def Moves (S S' : Nat → Prop) (w w' : World) : Prop := Kept S w w' ∧ ∀ k, S' k → S k ∨ w.heap.size ≤ k

theorem Moves.refl (S : Nat → Prop) (w : World) : Moves S S w w := ⟨Kept.refl _ _, fun _ h => .inl h⟩

theorem Moves.trans {S S' S'' : Nat → Prop} {u v w : World} (h : Moves S S' u v) (k : Moves S' S'' v w) : Moves S S'' u w :=
  ⟨⟨k.1.os.trans h.1.os, k.1.tape.trans h.1.tape, k.1.output.trans h.1.output, Nat.le_trans h.1.size k.1.size, fun i hi hs =>
      (k.1.block i (Nat.lt_of_lt_of_le hi h.1.size) fun x => by rcases h.2 i x with a | a; exact hs a; omega).trans (h.1.block i hi hs)⟩,
    fun i hi => by
      rcases k.2 i hi with a | a
      · exact h.2 i a
      · exact .inr (Nat.le_trans h.1.size a)⟩

theorem Moves.off {S S' : Nat → Prop} {w w' : World} (h : Moves S S' w w') {r : Nat} (hr : r < w.heap.size) (hs : ¬ S r) : w'.heap[r]? = w.heap[r]? ∧ ¬ S' r :=
  ⟨h.1.block r hr hs, fun x => by rcases h.2 r x with a | a; exact hs a; omega⟩

theorem Moves.kept {S S' : Nat → Prop} {w w' w'' : World} (h : Moves S S' w w') (k : Kept S' w' w'') : Moves S S' w w'' := h.trans ⟨k, fun _ x => .inl x⟩

theorem Moves.of_kept {S : Nat → Prop} {w w' : World} (k : Kept S w w') : Moves S S w w' := ⟨k, fun _ x => .inl x⟩

/-- A block of cells that may all be written. -/
def Blk (w : World) (p : Nat) (cs : Array Value) (t : TypeId) : Prop := w.heap[p]? = some (.cells cs t (0, 0))

theorem Blk.cell {w : World} {p : Nat} {cs : Array Value} {t : TypeId} (h : Blk w p cs t) (i : Nat) : w.cell? ⟨p, i, none⟩ = cs[i]? := by
  unfold Blk at h
  simp [World.cell?, h]

theorem Blk.frozen {w : World} {p : Nat} {cs : Array Value} {t : TypeId} (h : Blk w p cs t) (i : Nat) : w.frozen? ⟨p, i, none⟩ = false := by
  unfold Blk at h
  simp [World.frozen?, h]

theorem Blk.set {w : World} {p : Nat} {cs : Array Value} {t : TypeId} (h : Blk w p cs t) (i : Nat) (v : Value) : Blk (w.setCell ⟨p, i, none⟩ v) p (cs.setIfInBounds i v) t := by
  unfold Blk at h ⊢
  simp [World.setCell, Array.getElem?_modify, h]

theorem Blk.lt {w : World} {p : Nat} {cs : Array Value} {t : TypeId} (h : Blk w p cs t) : p < w.heap.size := by
  unfold Blk at h
  exact (Array.getElem?_eq_some_iff.1 h).1

theorem Blk.same {w w' : World} {p : Nat} {cs : Array Value} {t : TypeId} (h : Blk w p cs t) (e : w'.heap[p]? = w.heap[p]?) : Blk w' p cs t := e.trans h

theorem Blk.made (w : World) (cs : Array Value) (t : TypeId) : Blk (w.alloc (.cells cs t)) w.heap.size cs t := heap_alloc_new w _

/-! The pages. -/

def keyL (p : Nat) : Lit := .int .u32 p

theorem pageKeyed : Maps.Keyed Try.prog 101 := Maps.int_keyed (q := .u32) Try.underlying101

theorem keyL_wf {p : Nat} (hp : p < 4294967296) : (keyL p).wf = true := by
  unfold keyL
  have h1 : IntKind.u32.min = 0 := by decide
  have h2 : IntKind.u32.max = 4294967295 := by decide
  simp only [Lit.wf, h1, h2, Bool.and_eq_true, decide_eq_true_eq]
  omega

theorem keyL_key {p : Nat} (hp : p < 4294967296) : keyOf Try.prog 101 (.int .u32 p) = some (keyL p) := Maps.keyOf_int_mk Try.underlying101 (keyL_wf hp)

theorem keyL_lit (p : Nat) : WideAt.IsKeyLit (keyL p) := by simp [keyL, WideAt.IsKeyLit]

theorem keyL_ne {p q : Nat} (h : p ≠ q) : keyL p ≠ keyL q := by
  intro e
  simp only [keyL, Lit.int.injEq, true_and] at e
  omega

/-- Block b is a map of at most n pages: that of p (from 1 on) is f p. -/
def IsPages (w : World) (b n : Nat) (f : Nat → Option ByteArray) : Prop :=
  ∃ D : DataW Unit, w.ownsMap Try.prog 101 (plainElem Try.prog 9) b n D ∧
    ∀ p, 1 ≤ p → p < 4294967296 → Maps.has D (keyL p) = (f p).isSome ∧ D.atKey (keyL p) (.lit (.string [])) = .lit (.string ((f p).getD ⟨#[]⟩).data.toList)

theorem IsPages.lt {w : World} {b n : Nat} {f : Nat → Option ByteArray} (h : IsPages w b n f) : b < w.heap.size := by
  obtain ⟨D, hD, _⟩ := h
  exact hD.lt

theorem IsPages.isMap {w : World} {b n : Nat} {f : Nat → Option ByteArray} (h : IsPages w b n f) : ∃ es c, w.heap[b]? = some (.map es c) := by
  obtain ⟨D, ⟨es, c, hb, _⟩, _⟩ := h
  exact ⟨es, c, hb⟩

theorem IsPages.same {w w' : World} {b n : Nat} {f : Nat → Option ByteArray} (h : IsPages w b n f) (e : w'.heap[b]? = w.heap[b]?) : IsPages w' b n f := by
  obtain ⟨D, ⟨es, c, hb, k⟩, h2⟩ := h
  exact ⟨D, ⟨es, c, e.trans hb, k⟩, h2⟩

theorem IsPages.mono {w : World} {b n n' : Nat} {f : Nat → Option ByteArray} (h : IsPages w b n f) (e : n ≤ n') : IsPages w b n' f := by
  obtain ⟨D, hD, h2⟩ := h
  exact ⟨D, hD.mono e, h2⟩

theorem IsPages.congr {w : World} {b n : Nat} {f g : Nat → Option ByteArray} (h : IsPages w b n f) (e : ∀ p, 1 ≤ p → f p = g p) : IsPages w b n g := by
  obtain ⟨D, hD, h2⟩ := h
  exact ⟨D, hD, fun p h0 hp => by rw [← e p h0]; exact h2 p h0 hp⟩

theorem IsPages.made (w : World) : IsPages (w.alloc (.map #[] 0)) w.heap.size 0 (fun _ => none) :=
  ⟨.map [], World.ownsMap_made _ _ _ _, fun p _ hp => ⟨rfl, rfl⟩⟩

theorem byteArray_ext {a b : ByteArray} (h : a.data.toList = b.data.toList) : a = b := by
  cases a; cases b
  simp only [ByteArray.mk.injEq]
  exact Array.ext' h

theorem zeroString (w : World) : (zeroValue 9).run Try.prog w = .ok (.string ⟨#[]⟩) w := Try.zeroValue9 w

theorem IsPages.look {w : World} {b n : Nat} {f : Nat → Option ByteArray} (h : IsPages w b n f) {p : Nat} (h0 : 1 ≤ p) (hp : p < 4294967296) :
    (Instr.lookup 64 (.map (some b)) (.int .u32 p) true).run Try.prog w = .ok (.tuple #[.string ((f p).getD ⟨#[]⟩), .bool (f p).isSome]) w := by
  obtain ⟨D, hD, h2⟩ := h
  obtain ⟨v, ps, hr, hv⟩ := hD.look_ok pageKeyed Try.underlying64 (zeroString w) (zd := .lit (.string [])) (zp := []) (plainElem_string Try.underlying9 (s := ⟨#[]⟩) (by decide)) (keyL_key hp)
  obtain ⟨s, rfl, hz, _⟩ := plainElem_string_inv Try.underlying9 hv
  rw [(h2 p h0 hp).2] at hz
  simp only [Prod.mk.injEq, DataW.lit.injEq, Lit.string.injEq] at hz
  rw [hr, (h2 p h0 hp).1, byteArray_ext hz.1.symm]

def setF (f : Nat → Option ByteArray) (p : Nat) (s : ByteArray) : Nat → Option ByteArray := fun q => if q = p then some s else f q

theorem IsPages.put1 {w : World} {b n : Nat} {f : Nat → Option ByteArray} (h : IsPages w b n f) (hn : n ≤ 1000000000) {p : Nat} (hp : p < 4294967296) (s : ByteArray) (hs : s.size ≤ 1000000000) :
    ∃ w', (Instr.mapUpdate 64 (.map (some b)) (.int .u32 p) (.string s)).run Try.prog w = .ok () w' ∧ IsPages w' b (n + 1) (setF f p s) ∧ w.mapTurned w' b := by
  obtain ⟨D, hD, h2⟩ := h
  obtain ⟨w', hr, hD', ht⟩ := hD.store pageKeyed Try.underlying64 (by unfold maxLen; omega) (keyL_key hp) (plainElem_string Try.underlying9 (s := s) (by unfold maxLen; omega))
  refine ⟨w', hr, ⟨_, hD', fun q h0 hq => ?_⟩, ht⟩
  by_cases c : q = p
  · subst c
    simp only [setF, if_pos]
    exact ⟨Maps.has_put_same hD.isMap (keyL_lit q) _, Maps.atKey_put_same hD.isMap (keyL_lit q) _ _⟩
  · simp only [setF, if_neg c]
    rw [Maps.has_put_other (keyL_ne c), Maps.atKey_put_other (keyL_ne c)]
    exact h2 q h0 hq

/-- Putting a page as a function of the world. -/
theorem putP_ex (b p : Nat) (s : ByteArray) : ∃ u : World → World, ∀ (w : World) (n : Nat) (f : Nat → Option ByteArray), IsPages w b n f → n ≤ 1000000000 → p < 4294967296 → s.size ≤ 1000000000 →
    (Instr.mapUpdate 64 (.map (some b)) (.int .u32 p) (.string s)).run Try.prog w = .ok () (u w) ∧ IsPages (u w) b (n + 1) (setF f p s) ∧ w.mapTurned (u w) b := by
  refine ⟨fun w => match (Instr.mapUpdate 64 (.map (some b)) (.int .u32 p) (.string s)).run Try.prog w with
    | .ok _ w' => w'
    | _ => w, fun w n f h hn hp hs => ?_⟩
  obtain ⟨w', hr, h1, h2⟩ := h.put1 hn hp s hs
  simp only [hr]
  exact ⟨trivial, h1, h2⟩

theorem mapTurned_kept {w w' : World} {b : Nat} (h : w.mapTurned w' b) {S : Nat → Prop} (hb : S b) : Kept S w w' := Kept.of_grown h.grown fun k e => by cases e; exact hb

end Go.Proofs.Ytompofhdpkdbeaa
