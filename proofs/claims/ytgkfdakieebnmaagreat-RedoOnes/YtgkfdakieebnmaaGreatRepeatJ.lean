/-
  strings.Repeat at this program's numbers, and what the program asks of it: 512 zeros.
-/
import Derived.Test.YtgkfdakieebnmaaGreatCrcWalksJ
import Derived.Maps.OwnSet
import Derived.Maps.StringElems
import Derived.Maps.AppendAt
import Derived.Lib.AppendStr
import Derived.WalkLawsBesides
import Derived.BigQuiet
import Derived.Deep.QuietTactic
import Derived.Deep.RegionHeld3
import Derived.RegionTactic
import Derived.ChangeAlike
import Derived.StillTailTactics
import Derived.Test.YtgkfdakieebnmaaGreatCloneJ
set_option linter.unusedVariables false
set_option linter.unusedSimpArgs false
namespace Go.Proofs.YtgkfdakieebnmaaGreat
open Go.Shelf Go.RowKit

def dzerosL : List UInt8 := List.replicate 512 0
def zerosS : ByteArray := ⟨dzerosL.toArray⟩

theorem dzeros_any (w : World) : Calls Tryz.prog 110 #[.string ⟨#[0]⟩, .int .i64 512] w fun e w' => e = .returned (.string zerosS) ∧ Below w.heap.size w w' := zeros_made 512 w (by omega)

theorem zerosS_size : zerosS.size = 512 := by
  show dzerosL.toArray.size = 512
  rw [List.size_toArray]
  exact List.length_replicate

end Go.Proofs.YtgkfdakieebnmaaGreat

namespace Go.Proofs.YtgkfdakieebnmaaGreat
open Go.RowKit

structure Kept (S : Nat → Prop) (w w' : World) : Prop where
  os : w'.os = w.os
  tape : w'.tape = w.tape
  output : w'.output = w.output
  size : w.heap.size ≤ w'.heap.size
  block : ∀ k, k < w.heap.size → ¬ S k → w'.heap[k]? = w.heap[k]?

theorem Kept.refl (S : Nat → Prop) (w : World) : Kept S w w := ⟨rfl, rfl, rfl, Nat.le_refl _, fun _ _ _ => rfl⟩

theorem Kept.trans {S : Nat → Prop} {u v w : World} (h : Kept S u v) (k : Kept S v w) : Kept S u w :=
  ⟨k.os.trans h.os, k.tape.trans h.tape, k.output.trans h.output, Nat.le_trans h.size k.size, fun i hi hs => (k.block i (Nat.lt_of_lt_of_le hi h.size) hs).trans (h.block i hi hs)⟩

theorem Kept.mono {S S' : Nat → Prop} {w w' : World} (h : Kept S w w') (k : ∀ b, S b → S' b) : Kept S' w w' :=
  ⟨h.os, h.tape, h.output, h.size, fun i hi hs => h.block i hi fun x => hs (k i x)⟩

theorem Kept.of_below {S : Nat → Prop} {w w' : World} (h : Below w.heap.size w w') : Kept S w w' := ⟨h.os, h.tape, h.output, h.size, fun k hk _ => h.block k hk⟩

theorem Kept.alloc (S : Nat → Prop) (w : World) (o : Obj) : Kept S w (w.alloc o) := Kept.of_below ((Below.refl _ _).alloc (Nat.le_refl _) o)

theorem Kept.drewN {S : Nat → Prop} {w w' : World} (h : Kept S w w') (n : Nat) : Kept S w (w'.drewN n) := ⟨h.os, h.tape, h.output, h.size, h.block⟩
theorem Kept.drew {S : Nat → Prop} {w w' : World} (h : Kept S w w') : Kept S w w'.drew := ⟨h.os, h.tape, h.output, h.size, h.block⟩

theorem Kept.of_grown {S : Nat → Prop} {w w' : World} {row : Option Nat} (h : w.grownBy w' row) (k : ∀ b, row = some b → S b) : Kept S w w' :=
  ⟨h.os, h.tape, h.output, h.size, fun i hi hs => h.block i hi fun e => hs (k i e.symm)⟩

theorem Kept.setCell (S : Nat → Prop) (w : World) (b i : Nat) (v : Value) (h : S b) : Kept S w (w.setCell ⟨b, i, none⟩ v) :=
  ⟨rfl, rfl, rfl, by simp, fun k _ hk => Below.heap_setCell _ _ _ _ fun e => hk (e ▸ h)⟩

def Moves (S S' : Nat → Prop) (w w' : World) : Prop := Kept S w w' ∧ ∀ k, S' k → S k ∨ w.heap.size ≤ k

theorem Moves.trans {S S' S'' : Nat → Prop} {u v w : World} (h : Moves S S' u v) (k : Moves S' S'' v w) : Moves S S'' u w :=
  ⟨⟨k.1.os.trans h.1.os, k.1.tape.trans h.1.tape, k.1.output.trans h.1.output, Nat.le_trans h.1.size k.1.size, fun i hi hs =>
      (k.1.block i (Nat.lt_of_lt_of_le hi h.1.size) fun x => by rcases h.2 i x with a | a; exact hs a; omega).trans (h.1.block i hi hs)⟩,
    fun i hi => by
      rcases k.2 i hi with a | a
      · exact h.2 i a
      · exact .inr (Nat.le_trans h.1.size a)⟩

theorem Moves.off {S S' : Nat → Prop} {w w' : World} (h : Moves S S' w w') {r : Nat} (hr : r < w.heap.size) (hs : ¬ S r) : w'.heap[r]? = w.heap[r]? ∧ ¬ S' r :=
  ⟨h.1.block r hr hs, fun x => by rcases h.2 r x with a | a; exact hs a; omega⟩

theorem Moves.kept {S S' : Nat → Prop} {w w' w'' : World} (h : Moves S S' w w') (k : Kept S' w' w'') : Moves S S' w w'' := h.trans ⟨k, fun _ x => .inl x⟩

theorem Moves.of_kept {S : Nat → Prop} {w w' : World} (k : Kept S w w') : Moves S S w w' := ⟨k, fun _ x => .inl x⟩

def Blk (w : World) (p : Nat) (cs : Array Value) (t : TypeId) : Prop := w.heap[p]? = some (.cells cs t (0, 0))

theorem Blk.cell {w : World} {p : Nat} {cs : Array Value} {t : TypeId} (h : Blk w p cs t) (i : Nat) : w.cell? ⟨p, i, none⟩ = cs[i]? := by
  unfold Blk at h
  simp [World.cell?, h]

theorem Blk.frozen {w : World} {p : Nat} {cs : Array Value} {t : TypeId} (h : Blk w p cs t) (i : Nat) : w.frozen? ⟨p, i, none⟩ = false := by
  unfold Blk at h
  simp [World.frozen?, h]

theorem Blk.set {w : World} {p : Nat} {cs : Array Value} {t : TypeId} (h : Blk w p cs t) (i : Nat) (v : Value) : Blk (w.setCell ⟨p, i, none⟩ v) p (cs.setIfInBounds i v) t := by
  unfold Blk at h ⊢
  simp [World.setCell, Array.getElem?_modify, h]

theorem Blk.lt {w : World} {p : Nat} {cs : Array Value} {t : TypeId} (h : Blk w p cs t) : p < w.heap.size := by
  unfold Blk at h
  exact (Array.getElem?_eq_some_iff.1 h).1

theorem Blk.same {w w' : World} {p : Nat} {cs : Array Value} {t : TypeId} (h : Blk w p cs t) (e : w'.heap[p]? = w.heap[p]?) : Blk w' p cs t := e.trans h

theorem Blk.made (w : World) (cs : Array Value) (t : TypeId) : Blk (w.alloc (.cells cs t)) w.heap.size cs t := heap_alloc_new w _

/-! The pages. -/

def keyL (p : Nat) : Lit := .int .u32 p

theorem pageKeyed : Maps.Keyed Tryz.prog 49 := Maps.int_keyed (q := .u32) Tryz.underlying49

theorem keyL_wf {p : Nat} (hp : p < 4294967296) : (keyL p).wf = true := by
  unfold keyL
  have h1 : IntKind.u32.min = 0 := by decide
  have h2 : IntKind.u32.max = 4294967295 := by decide
  simp only [Lit.wf, h1, h2, Bool.and_eq_true, decide_eq_true_eq]
  omega

theorem keyL_key {p : Nat} (hp : p < 4294967296) : keyOf Tryz.prog 49 (.int .u32 p) = some (keyL p) := Maps.keyOf_int_mk Tryz.underlying49 (keyL_wf hp)

theorem keyL_lit (p : Nat) : WideAt.IsKeyLit (keyL p) := by simp [keyL, WideAt.IsKeyLit]

theorem keyL_ne {p q : Nat} (h : p ≠ q) : keyL p ≠ keyL q := by
  intro e
  simp only [keyL, Lit.int.injEq, true_and] at e
  omega

def IsPages (w : World) (b n : Nat) (f : Nat → Option ByteArray) : Prop :=
  ∃ D : DataW Unit, w.ownsMap Tryz.prog 49 (plainElem Tryz.prog 9) b n D ∧
    ∀ p, 1 ≤ p → p < 4294967296 → Maps.has D (keyL p) = (f p).isSome ∧ D.atKey (keyL p) (.lit (.string [])) = .lit (.string ((f p).getD ⟨#[]⟩).data.toList)

theorem IsPages.lt {w : World} {b n : Nat} {f : Nat → Option ByteArray} (h : IsPages w b n f) : b < w.heap.size := by
  obtain ⟨D, hD, _⟩ := h
  exact hD.lt

theorem IsPages.isMap {w : World} {b n : Nat} {f : Nat → Option ByteArray} (h : IsPages w b n f) : ∃ es c, w.heap[b]? = some (.map es c) := by
  obtain ⟨D, ⟨es, c, hb, _⟩, _⟩ := h
  exact ⟨es, c, hb⟩

theorem IsPages.same {w w' : World} {b n : Nat} {f : Nat → Option ByteArray} (h : IsPages w b n f) (e : w'.heap[b]? = w.heap[b]?) : IsPages w' b n f := by
  obtain ⟨D, ⟨es, c, hb, k⟩, h2⟩ := h
  exact ⟨D, ⟨es, c, e.trans hb, k⟩, h2⟩

theorem IsPages.made (w : World) : IsPages (w.alloc (.map #[] 0)) w.heap.size 0 (fun _ => none) :=
  ⟨.map [], World.ownsMap_made _ _ _ _, fun p _ hp => ⟨rfl, rfl⟩⟩

theorem byteArray_ext {a b : ByteArray} (h : a.data.toList = b.data.toList) : a = b := by
  cases a; cases b
  simp only [ByteArray.mk.injEq]
  exact Array.ext' h

theorem zeroString (w : World) : (zeroValue 9).run Tryz.prog w = .ok (.string ⟨#[]⟩) w := Tryz.zeroValue9 w

theorem IsPages.look {w : World} {b n : Nat} {f : Nat → Option ByteArray} (h : IsPages w b n f) {p : Nat} (h0 : 1 ≤ p) (hp : p < 4294967296) :
    (Instr.lookup 88 (.map (some b)) (.int .u32 p) true).run Tryz.prog w = .ok (.tuple #[.string ((f p).getD ⟨#[]⟩), .bool (f p).isSome]) w := by
  obtain ⟨D, hD, h2⟩ := h
  obtain ⟨v, ps, hr, hv⟩ := hD.look_ok pageKeyed Tryz.underlying88 (zeroString w) (zd := .lit (.string [])) (zp := []) (plainElem_string Tryz.underlying9 (s := ⟨#[]⟩) (by decide)) (keyL_key hp)
  obtain ⟨s, rfl, hz, _⟩ := plainElem_string_inv Tryz.underlying9 hv
  rw [(h2 p h0 hp).2] at hz
  simp only [Prod.mk.injEq, DataW.lit.injEq, Lit.string.injEq] at hz
  rw [hr, (h2 p h0 hp).1, byteArray_ext hz.1.symm]

def setF (f : Nat → Option ByteArray) (p : Nat) (s : ByteArray) : Nat → Option ByteArray := fun q => if q = p then some s else f q

theorem mapTurned_kept {w w' : World} {b : Nat} (h : w.mapTurned w' b) {S : Nat → Prop} (hb : S b) : Kept S w w' := Kept.of_grown h.grown fun k e => by cases e; exact hb

end Go.Proofs.YtgkfdakieebnmaaGreat

namespace Go.Proofs.YtgkfdakieebnmaaGreat
open Go.RowKit

def dcellsOf (l : List UInt8) : List Value := l.map fun c => .int .u8 (c.toNat : Int)

theorem dstrCells_eq (s : ByteArray) : Lib.strCells s = dcellsOf s.data.toList := by
  unfold Lib.strCells dcellsOf
  rfl

structure LW where
  page : Nat
  s : ByteArray
  mark : Nat

structure FG where
  call : Int
  keep : Nat
  torn : Int
  bytes : Int
  log : Int

def wcells (x : LW) : List Value := [.int .u32 x.page, .string x.s, .int .u64 x.mark]
def fcells (f : FG) : List Value := [.int .i64 f.call, .int .u64 f.keep, .int .i64 f.torn, .int .i64 f.bytes, .int .i64 f.log]

structure DG where
  room : Nat
  dead : Bool
  calls : Nat
  plan : List FG
  sure : Nat → ByteArray
  sm : Nat
  loose : List LW
  fresh : Nat → Option ByteArray
  mark : Nat
  log : List UInt8
  sl : Nat
  nS : Nat
  nF : Nat

structure Mem where
  planV : Value
  looseV : Value
  logV : Value
  sure : Nat
  fresh : Nat

def dvals (m : Mem) (d : DG) : Array Value :=
  #[.int .i64 d.room, .bool d.dead, .int .i64 d.calls, m.planV, .map (some m.sure), .int .u64 d.sm, m.looseV, .map (some m.fresh), .int .u64 d.mark, m.logV, .int .i64 d.sl]

def IsFalls (w : World) (v : Value) (l : List FG) : Prop :=
  (v = .slice none 0 0 ∧ l = []) ∨ ∃ g o cap cur, v = .slice (some ⟨g, o, none⟩) l.length cap ∧ l.length ≤ cap ∧ cap ≤ maxLen ∧ Blk w g cur 25 ∧
    ∀ k u, (l.flatMap fcells)[k]? = some u → w.cell? ⟨g, o + k, none⟩ = some u

theorem IsFalls.block {w : World} {v : Value} {l : List FG} (h : IsFalls w v l) {g : Nat} (e : v.ownBlock = some g) : ∃ cur, Blk w g cur 25 := by
  rcases h with ⟨rfl, _⟩ | ⟨g', o, cap, cur, rfl, _, _, hb, _⟩
  · cases e
  · cases e; exact ⟨cur, hb⟩

theorem IsFalls.same {w w' : World} {v : Value} {l : List FG} (h : IsFalls w v l) (e : ∀ g, v.ownBlock = some g → w'.heap[g]? = w.heap[g]?) : IsFalls w' v l := by
  rcases h with ⟨rfl, hl⟩ | ⟨g, o, cap, cur, rfl, h1, h2, hb, hc⟩
  · exact .inl ⟨rfl, hl⟩
  · have e1 := e g rfl
    exact .inr ⟨g, o, cap, cur, rfl, h1, h2, hb.same e1, fun k u hk => (World.cell?_of_block (w := w) (a := ⟨g, o + k, none⟩) e1).trans (hc k u hk)⟩

theorem owns_block {w : World} {e : TypeId} {z n : Nat} {v : Value} {xs : List Value} (h : w.ownsRow 0 e z v n xs) {g : Nat} (k : v.ownBlock = some g) : ∃ cur, Blk w g cur e := by
  rcases h.2 with ⟨rfl, _⟩ | ⟨g', cap, cur, rfl, _, hb, _⟩
  · cases k
  · cases k; exact ⟨cur, hb⟩

theorem owns_same {w w' : World} {e : TypeId} {z n : Nat} {v : Value} {xs : List Value} (h : w.ownsRow 0 e z v n xs) (k : ∀ g, v.ownBlock = some g → w'.heap[g]? = w.heap[g]?) : w'.ownsRow 0 e z v n xs := by
  refine ⟨h.1, ?_⟩
  rcases h.2 with ⟨rfl, h1⟩ | ⟨g', cap, cur, rfl, h0, hb, hr⟩
  · exact .inl ⟨rfl, h1⟩
  · exact .inr ⟨g', cap, cur, rfl, h0, (k g' rfl).trans hb, hr⟩

structure Parts (w : World) (m : Mem) (d : DG) : Prop where
  plan : IsFalls w m.planV d.plan
  sure : ∃ f, IsPages w m.sure d.nS f ∧ ∀ q, 1 ≤ q → q < 4294967296 → (f q).getD zerosS = d.sure q
  fresh : IsPages w m.fresh d.nF d.fresh
  ne : m.sure ≠ m.fresh
  loose : w.ownsRow 0 151 3 m.looseV d.loose.length (d.loose.flatMap wcells)
  log : w.ownsRow 0 5 1 m.logV d.log.length (dcellsOf d.log)

theorem Parts.to {w : World} {m : Mem} {d d' : DG} (h : Parts w m d) (e1 : d'.plan = d.plan) (e2 : d'.sure = d.sure) (e3 : d'.loose = d.loose) (e4 : d'.fresh = d.fresh) (e5 : d'.log = d.log) (e6 : d'.nS = d.nS) (e7 : d'.nF = d.nF) : Parts w m d' :=
  ⟨by rw [e1]; exact h.plan, by rw [e2, e6]; exact h.sure, by rw [e4, e7]; exact h.fresh, h.ne, by rw [e3]; exact h.loose, by rw [e5]; exact h.log⟩

def Mem.rest (m : Mem) (k : Nat) : Prop := k = m.sure ∨ k = m.fresh ∨ m.looseV.ownBlock = some k ∨ m.logV.ownBlock = some k ∨ m.planV.ownBlock = some k

theorem Parts.same {w w' : World} {m : Mem} {d : DG} (h : Parts w m d) (e : ∀ k, m.rest k → w'.heap[k]? = w.heap[k]?) : Parts w' m d := by
  obtain ⟨f, hf, hz⟩ := h.sure
  exact ⟨h.plan.same fun g k => e g (.inr (.inr (.inr (.inr k)))), ⟨f, hf.same (e _ (.inl rfl)), hz⟩, h.fresh.same (e _ (.inr (.inl rfl))), h.ne,
    owns_same h.loose fun g k => e g (.inr (.inr (.inl k))), owns_same h.log fun g k => e g (.inr (.inr (.inr (.inl k))))⟩

structure DiskAt (w : World) (p : Nat) (m : Mem) (d : DG) : Prop where
  blk : Blk w p (dvals m d) 92
  parts : Parts w m d

theorem DiskAt.off {w : World} {p : Nat} {m : Mem} {d : DG} (h : DiskAt w p m d) {k : Nat} (hk : m.rest k) : k ≠ p := by
  rintro rfl
  have hb := h.blk
  unfold Blk at hb
  rcases hk with rfl | rfl | hk | hk | hk
  · obtain ⟨f, hf, _⟩ := h.parts.sure
    obtain ⟨es, c, e⟩ := hf.isMap
    rw [e] at hb; cases hb
  · obtain ⟨es, c, e⟩ := h.parts.fresh.isMap
    rw [e] at hb; cases hb
  · obtain ⟨cur, e⟩ := owns_block h.parts.loose hk
    unfold Blk at e; rw [e] at hb
    simp only [Option.some.injEq, Obj.cells.injEq] at hb
    exact absurd hb.2.1 (by decide)
  · obtain ⟨cur, e⟩ := owns_block h.parts.log hk
    unfold Blk at e; rw [e] at hb
    simp only [Option.some.injEq, Obj.cells.injEq] at hb
    exact absurd hb.2.1 (by decide)
  · obtain ⟨cur, e⟩ := h.parts.plan.block hk
    unfold Blk at e; rw [e] at hb
    simp only [Option.some.injEq, Obj.cells.injEq] at hb
    exact absurd hb.2.1 (by decide)

theorem Parts.apart {w : World} {m : Mem} {d : DG} (h : Parts w m d) :
    (∀ g, m.looseV.ownBlock = some g → g ≠ m.sure ∧ g ≠ m.fresh ∧ m.logV.ownBlock ≠ some g ∧ m.planV.ownBlock ≠ some g) ∧
    (∀ g, m.logV.ownBlock = some g → g ≠ m.sure ∧ g ≠ m.fresh ∧ m.planV.ownBlock ≠ some g) ∧
    (∀ g, m.planV.ownBlock = some g → g ≠ m.sure ∧ g ≠ m.fresh) := by
  obtain ⟨f, hf, _⟩ := h.sure
  obtain ⟨es1, c1, e1⟩ := hf.isMap
  obtain ⟨es2, c2, e2⟩ := h.fresh.isMap
  have nomap : ∀ {g cur t}, Blk w g cur t → g ≠ m.sure ∧ g ≠ m.fresh := fun {g cur t} hb =>
    ⟨(by rintro rfl; unfold Blk at hb; rw [e1] at hb; cases hb), (by rintro rfl; unfold Blk at hb; rw [e2] at hb; cases hb)⟩
  refine ⟨fun g k => ?_, fun g k => ?_, fun g k => ?_⟩
  · obtain ⟨cur, hb⟩ := owns_block h.loose k
    refine ⟨(nomap hb).1, (nomap hb).2, fun k' => ?_, fun k' => ?_⟩
    · obtain ⟨cur', e⟩ := owns_block h.log k'
      unfold Blk at e hb; rw [e] at hb
      simp only [Option.some.injEq, Obj.cells.injEq] at hb
      exact absurd hb.2.1 (by decide)
    · obtain ⟨cur', e⟩ := h.plan.block k'
      unfold Blk at e hb; rw [e] at hb
      simp only [Option.some.injEq, Obj.cells.injEq] at hb
      exact absurd hb.2.1 (by decide)
  · obtain ⟨cur, hb⟩ := owns_block h.log k
    refine ⟨(nomap hb).1, (nomap hb).2, fun k' => ?_⟩
    obtain ⟨cur', e⟩ := h.plan.block k'
    unfold Blk at e hb; rw [e] at hb
    simp only [Option.some.injEq, Obj.cells.injEq] at hb
    exact absurd hb.2.1 (by decide)
  · obtain ⟨cur, hb⟩ := h.plan.block k
    exact nomap hb

def Mem.has (m : Mem) (p k : Nat) : Prop := k = p ∨ m.rest k

def IsDisk (w : World) (p : Nat) (S : Nat → Prop) (d : DG) : Prop := ∃ m, DiskAt w p m d ∧ (∀ k, m.has p k → S k) ∧ ∀ k, S k → k < w.heap.size

theorem IsDisk.same {w w' : World} {p : Nat} {S : Nat → Prop} {d : DG} (h : IsDisk w p S d) (e : ∀ k, S k → w'.heap[k]? = w.heap[k]?) (hs : w.heap.size ≤ w'.heap.size) : IsDisk w' p S d := by
  obtain ⟨m, hd, h1, h2⟩ := h
  exact ⟨m, ⟨hd.blk.same (e p (h1 p (.inl rfl))), hd.parts.same fun k hk => e k (h1 k (.inr hk))⟩, h1, fun k hk => Nat.lt_of_lt_of_le (h2 k hk) hs⟩

theorem IsDisk.below {w w' : World} {p : Nat} {S : Nat → Prop} {d : DG} (h : IsDisk w p S d) (k : Below w.heap.size w w') : IsDisk w' p S d :=
  h.same (fun i hi => k.block i (by obtain ⟨m, _, _, h2⟩ := h; exact h2 i hi)) k.size

structure Cells (w : World) (p : Nat) (m : Mem) (d : DG) : Prop where
  c0 : w.cell? ⟨p, 0, none⟩ = some (.int .i64 d.room)
  c1 : w.cell? ⟨p, 1, none⟩ = some (.bool d.dead)
  c2 : w.cell? ⟨p, 2, none⟩ = some (.int .i64 d.calls)
  c3 : w.cell? ⟨p, 3, none⟩ = some m.planV
  c4 : w.cell? ⟨p, 4, none⟩ = some (.map (some m.sure))
  c5 : w.cell? ⟨p, 5, none⟩ = some (.int .u64 d.sm)
  c6 : w.cell? ⟨p, 6, none⟩ = some m.looseV
  c7 : w.cell? ⟨p, 7, none⟩ = some (.map (some m.fresh))
  c8 : w.cell? ⟨p, 8, none⟩ = some (.int .u64 d.mark)
  c9 : w.cell? ⟨p, 9, none⟩ = some m.logV
  c10 : w.cell? ⟨p, 10, none⟩ = some (.int .i64 d.sl)
  fr : ∀ i, w.frozen? ⟨p, i, none⟩ = false

theorem Blk.cells {w : World} {p : Nat} {m : Mem} {d : DG} (h : Blk w p (dvals m d) 92) : Cells w p m d :=
  ⟨h.cell 0, h.cell 1, h.cell 2, h.cell 3, h.cell 4, h.cell 5, h.cell 6, h.cell 7, h.cell 8, h.cell 9, h.cell 10, h.frozen⟩

theorem DiskAt.lt {w : World} {p : Nat} {m : Mem} {d : DG} (h : DiskAt w p m d) : p < w.heap.size := h.blk.lt

theorem DiskAt.set {w : World} {p : Nat} {m : Mem} {d : DG} (h : DiskAt w p m d) (i : Nat) (v : Value) :
    Blk (w.setCell ⟨p, i, none⟩ v) p ((dvals m d).setIfInBounds i v) 92 ∧ Parts (w.setCell ⟨p, i, none⟩ v) m d :=
  ⟨h.blk.set i v, h.parts.same fun k hk => Below.heap_setCell _ _ _ _ (h.off hk)⟩

end Go.Proofs.YtgkfdakieebnmaaGreat

namespace Go.Proofs.YtgkfdakieebnmaaGreat
open Go.RowKit

section
variable {w : World} {p : Nat} {m : Mem} {d : DG}

set_option maxHeartbeats 400000 in
set_option maxRecDepth 60000 in
theorem dead_any (h : Cells w p m d) :
    Calls Tryz.prog 29 #[.pointer (some ⟨p, 0, none⟩)] w fun x w' => x = .returned (.bool d.dead) ∧ w' = w := by
  have c1 := h.c1
  go_enter Tryz.func29, Tryz.ntmps29
  go_wp2
  go_ret
  exact ⟨rfl, rfl⟩

def checkE (room q : Nat) : Int := if q < 1 ∨ 4096 < q then 1 else if room ≤ (q - 1) % 2048 then 20 else 0

set_option maxHeartbeats 400000 in
set_option maxRecDepth 60000 in
theorem dcheck_any (h : Cells w p m d) (q : Nat) (hq : q < 4294967296) :
    Calls Tryz.prog 199 #[.pointer (some ⟨p, 0, none⟩), .int .u32 q] w fun x w' => x = .returned (.int .i64 (checkE d.room q)) ∧ w' = w := by
  have c0 := h.c0
  unfold checkE
  by_cases h1 : q < 1
  · rw [if_pos (.inl h1)]
    go_enter Tryz.func199, Tryz.ntmps199
    go_wp2
    go_ret
    exact ⟨rfl, rfl⟩
  · by_cases h2 : 4096 < q
    · rw [if_pos (.inr h2)]
      go_enter Tryz.func199, Tryz.ntmps199
      go_wp2
      go_ret
      exact ⟨rfl, rfl⟩
    · rw [if_neg (by omega)]
      obtain ⟨k, rfl⟩ : ∃ k, q = k + 1 := ⟨q - 1, by omega⟩
      have e1 : ((k + 1 : Nat) : Int) - 1 = (k : Int) := by omega
      have e2 : IntKind.u32.wrap (k : Int) = (k : Int) := by rw [IntKind.wrap_u32]; omega
      have e3 : IntKind.i64.wrap (k : Int) = (k : Int) := by rw [IntKind.wrap_i64]; omega
      have e4 : ((k : Int)).tmod 2048 = (k : Int) % 2048 := Int.tmod_eq_emod_of_nonneg (by omega)
      by_cases h3 : d.room ≤ k % 2048
      · rw [if_pos (by simpa using h3)]
        have h4 : (d.room : Int) ≤ (k : Int) % 2048 := by omega
        go_enter Tryz.func199, Tryz.ntmps199
        go_wp2
        go_ret
        exact ⟨rfl, rfl⟩
      · rw [if_neg (by simpa using h3)]
        have h4 : ¬ (d.room : Int) ≤ (k : Int) % 2048 := by omega
        go_enter Tryz.func199, Tryz.ntmps199
        go_wp2
        go_ret
        exact ⟨rfl, rfl⟩

end

end Go.Proofs.YtgkfdakieebnmaaGreat

namespace Go.Proofs.YtgkfdakieebnmaaGreat
open Go.RowKit

theorem heap_set (w : World) (p i : Nat) (v : Value) {k : Nat} (hk : k ≠ p) : (w.setCell ⟨p, i, none⟩ v).heap[k]? = w.heap[k]? := Below.heap_setCell _ _ _ _ hk

theorem heap_old (w : World) (o : Obj) {k : Nat} (hk : k < w.heap.size) : (w.alloc o).heap[k]? = w.heap[k]? := (Kept.alloc (fun _ => False) w o).block k hk id

theorem cellsOf_take (l : List UInt8) (n : Nat) : dcellsOf (l.take n) = (dcellsOf l).take n := by simp [dcellsOf, List.map_take]

theorem owns_take {w : World} {e : TypeId} {n : Nat} {g c : Nat} {xs : List Value} (h : w.ownsRow 0 e 1 (.slice (some ⟨g, 0, none⟩) n c) n xs) {k : Nat} (hk : k ≤ n) :
    w.ownsRow 0 e 1 (.slice (some ⟨g, 0, none⟩) k c) k (xs.take k) := by
  rcases h.2 with ⟨e, _⟩ | ⟨g', cap, cur, e, h0, hb, h1, h2, h3, h4⟩
  · cases e
  · cases e
    refine ⟨?_, .inr ⟨g, c, cur, rfl, h0, hb, by omega, h2, h3, ?_⟩⟩
    · rw [List.length_take, h.1]; omega
    · rw [← h4, List.take_take]; congr 1; omega

section
variable {w : World} {p : Nat} {m : Mem} {d : DG}

theorem DiskAt.rest_lt (h : DiskAt w p m d) {k : Nat} (hk : m.rest k) : k < w.heap.size := by
  have hP := h.parts
  rcases hk with rfl | rfl | hk | hk | hk
  · obtain ⟨f, hf, _⟩ := hP.sure; exact hf.lt
  · exact hP.fresh.lt
  · obtain ⟨cur, e⟩ := owns_block hP.loose hk; exact e.lt
  · obtain ⟨cur, e⟩ := owns_block hP.log hk; exact e.lt
  · obtain ⟨cur, e⟩ := hP.plan.block hk; exact e.lt

theorem DiskAt.set2 (h : DiskAt w p m d) (i j : Nat) (u v : Value) :
    Blk ((w.setCell ⟨p, i, none⟩ u).setCell ⟨p, j, none⟩ v) p (((dvals m d).setIfInBounds i u).setIfInBounds j v) 92 ∧ Parts ((w.setCell ⟨p, i, none⟩ u).setCell ⟨p, j, none⟩ v) m d :=
  ⟨(h.blk.set i u).set j v, h.parts.same fun k hk => (heap_set _ _ _ _ (h.off hk)).trans (heap_set _ _ _ _ (h.off hk))⟩

theorem kept_set2 (w : World) (p i j : Nat) (u v : Value) : Kept (· = p) w ((w.setCell ⟨p, i, none⟩ u).setCell ⟨p, j, none⟩ v) :=
  (Kept.setCell (· = p) w p i u rfl).trans (Kept.setCell (· = p) _ p j v rfl)

set_option maxHeartbeats 800000 in
set_option maxRecDepth 60000 in
theorem cut_any (h : DiskAt w p m d) (n : Nat) (hn : n ≤ d.log.length) (hl : d.log.length ≤ 1000000000) :
    Calls Tryz.prog 80 #[.pointer (some ⟨p, 0, none⟩), .int .i64 n] w fun x w' => x = .returned (.tuple #[]) ∧
      (∃ v, DiskAt w' p { m with logV := v } { d with log := d.log.take n, sl := n } ∧ (v.ownBlock = none ∨ v.ownBlock = m.logV.ownBlock)) ∧ Kept (· = p) w w' := by
  have hc := h.blk.cells
  have c9 := hc.c9
  have f9 := hc.fr 9
  have c10 := hc.c10
  have f10 := hc.fr 10
  obtain ⟨m1, m2, m3, m4, m5⟩ := m
  have hlog := h.parts.log
  have hsure := h.parts.sure
  rcases hlog.2 with ⟨e, e0⟩ | ⟨g, cap, cur, e, h0, hb, h1, h2, h3, h4⟩
  · simp only at e
    subst e
    have hn0 : n = 0 := by omega
    subst hn0
    go_enter Tryz.func80, Tryz.ntmps80
    go_wp2
    go_end0
    have hp := h.set2 9 10 (.slice none 0 0) (.int .i64 0)
    exact ⟨rfl, ⟨_, ⟨hp.1, ⟨hp.2.plan, hp.2.sure, hp.2.fresh, hp.2.ne, hp.2.loose, World.ownsRow_nil _ _ _ _⟩⟩, .inl rfl⟩, kept_set2 _ _ _ _ _ _⟩
  · simp only at e
    subst e
    unfold maxLen at h2
    go_enter Tryz.func80, Tryz.ntmps80
    go_wp2
    go_end0
    have hp := h.set2 9 10 (.slice (some ⟨g, 0, none⟩) n cap) (.int .i64 n)
    have hlen : (d.log.take n).length = n := by rw [List.length_take]; omega
    refine ⟨rfl, ⟨.slice (some ⟨g, 0, none⟩) n cap, ⟨hp.1, ⟨hp.2.plan, hp.2.sure, hp.2.fresh, hp.2.ne, hp.2.loose, ?_⟩⟩, .inr rfl⟩, kept_set2 _ _ _ _ _ _⟩
    show World.ownsRow _ _ _ _ _ (d.log.take n).length _
    rw [hlen, cellsOf_take]
    exact owns_take hp.2.log hn

set_option maxHeartbeats 800000 in
set_option maxRecDepth 8000 in
theorem sureBytes_any (hD : DiskAt w p m d) (q : Nat) (h0 : 1 ≤ q) (hq : q < 4294967296) :
    Calls Tryz.prog 143 #[.pointer (some ⟨p, 0, none⟩), .int .u32 q] w fun e w' => e = .returned (.string (d.sure q)) ∧ Below w.heap.size w w' := by
  have hc := hD.blk.cells
  have c4 := hc.c4
  obtain ⟨f, hf, hz⟩ := hD.parts.sure
  have hl := hf.look h0 hq
  have hzq := hz q h0 hq
  cases e : f q with
  | none =>
    rw [e] at hl hzq
    simp only [Option.getD, Option.isSome] at hl hzq
    rw [← hzq]
    clear hzq hz hf hc hD e
    go_enter Tryz.func143, Tryz.ntmps143
    go_wp2_with fail
    refine (dzeros_any _).mono ?_
    rintro x w1 ⟨rfl, hb⟩
    go_wp2
    go_ret
    exact ⟨rfl, hb⟩
  | some s =>
    rw [e] at hl hzq
    simp only [Option.getD, Option.isSome] at hl hzq
    rw [← hzq]
    clear hzq hz hf hc hD e
    go_enter Tryz.func143, Tryz.ntmps143
    go_wp2
    go_ret
    exact ⟨rfl, Below.refl _ _⟩

end

end Go.Proofs.YtgkfdakieebnmaaGreat

namespace Go.Proofs.YtgkfdakieebnmaaGreat
open Go.RowKit

theorem DiskAt.below {w w' : World} {p : Nat} {m : Mem} {d : DG} (h : DiskAt w p m d) (k : Below w.heap.size w w') : DiskAt w' p m d :=
  ⟨h.blk.same (k.block p h.lt), h.parts.same fun i hi => k.block i (h.rest_lt hi)⟩

section
variable {w : World} {p : Nat} {m : Mem} {d : DG}

end

end Go.Proofs.YtgkfdakieebnmaaGreat

namespace Go.Proofs.YtgkfdakieebnmaaGreat
open Go.RowKit

def LW.ok (x : LW) : Prop := x.page < 4294967296 ∧ x.s.size ≤ 512 ∧ (x.page ≠ 0 → x.s.size = 512)

structure DG.ok (d : DG) : Prop where
  loose : ∀ x ∈ d.loose, x.ok
  sure : ∀ q, (d.sure q).size = 512
  n : d.nS + d.loose.length ≤ 1000000
  log : d.log.length ≤ 4194304
  sl : d.sl ≤ d.log.length

theorem owns_cells {w : World} {e : TypeId} {z n : Nat} {g cap : Nat} {xs : List Value} (h : w.ownsRow 0 e z (.slice (some ⟨g, 0, none⟩) n cap) n xs) (k : Nat) (u : Value) (hk : xs[k]? = some u) : w.cell? ⟨g, k, none⟩ = some u := by
  rcases h.2 with ⟨e, _⟩ | ⟨g', c', cur, e, h0, hb, h1, h2, h3, h4⟩
  · cases e
  · cases e
    have hb' : Blk w g cur e := hb
    rw [hb'.cell k]
    rw [← h4, List.getElem?_take] at hk
    split at hk
    · simpa using hk
    · cases hk

section
variable {w : World} {p : Nat} {m : Mem} {d : DG}

end

end Go.Proofs.YtgkfdakieebnmaaGreat

namespace Go.Proofs.YtgkfdakieebnmaaGreat
open Go.RowKit

section
variable {w : World} {p : Nat} {m : Mem} {d : DG}

theorem below_drewN' (w : World) (n : Nat) : Below w.heap.size w (w.drewN n) := ⟨rfl, rfl, rfl, Nat.le_refl _, fun _ _ => rfl⟩

theorem ticked (hD : DiskAt w p m d) (n : Nat) : DiskAt ((w.drewN n).setCell ⟨p, 2, none⟩ (.int .i64 ((d.calls : Int) + 1))) p m { d with calls := d.calls + 1 } := by
  have h := (hD.below (below_drewN' w n)).set 2 (.int .i64 ((d.calls : Int) + 1))
  refine ⟨?_, h.2.to rfl rfl rfl rfl rfl rfl rfl⟩
  have e : dvals m { d with calls := d.calls + 1 } = (dvals m d).setIfInBounds 2 (.int .i64 ((d.calls : Int) + 1)) := by
    unfold dvals
    simp
  rw [e]
  exact h.1

set_option maxHeartbeats 1600000 in
set_option maxRecDepth 8000 in
theorem powered_none (hD : DiskAt w p m d) (hl : d.plan = []) (hc : d.calls ≤ 1000000) :
    Calls Tryz.prog 82 #[.pointer (some ⟨p, 0, none⟩)] w fun e w' => e = .returned (.bool true) ∧
      DiskAt w' p m { d with calls := d.calls + 1 } ∧ Kept (fun k => k = p) w w' := by
  have c2 := hD.blk.cells.c2
  have f2 := hD.blk.cells.fr 2
  have c3 := hD.blk.cells.c3
  have HT : Hid (∀ n, DiskAt ((w.drewN n).setCell ⟨p, 2, none⟩ (.int .i64 ((d.calls : Int) + 1))) p m { d with calls := d.calls + 1 }) := ticked hD
  obtain ⟨a, cap, hv⟩ : ∃ a cap, m.planV = .slice a 0 cap := by
    rcases hD.parts.plan with ⟨e, _⟩ | ⟨g, o, cap, cur, e, _⟩
    · exact ⟨_, _, e⟩
    · rw [hl] at e; exact ⟨_, _, e⟩
  rw [hv] at c3
  clear hD hl
  have hg : decide ((0 : Int) < 0) = false := by decide
  go_enter Tryz.func82, Tryz.ntmps82
  go_wp2
  go_quiet (fail)
  go_wp2
  go_ret
  exact ⟨rfl, HT.out _, ((Kept.refl _ _).drewN _).trans (Kept.setCell _ _ _ _ _ rfl)⟩

end

end Go.Proofs.YtgkfdakieebnmaaGreat

namespace Go.Proofs.YtgkfdakieebnmaaGreat
open Go.RowKit

def newD (room : Nat) : DG := ⟨room, false, 0, [], fun _ => zerosS, 0, [], fun _ => none, 0, [], 0, 0, 0⟩

set_option maxHeartbeats 1600000 in
set_option maxRecDepth 8000 in
theorem new_any (w : World) (room : Nat) (h1 : 8 ≤ room) (h2 : room ≤ 2048) :
    Calls Tryz.prog 48 #[.int .i64 room] w fun e w' => ∃ p, e = .returned (.tuple #[.pointer (some ⟨p, 0, none⟩), .int .i64 0]) ∧ (∃ m, DiskAt w' p m (newD room) ∧ (∀ k, m.has p k → w.heap.size ≤ k)) ∧ Below w.heap.size w w' := by
  have hmm := @run_makeMap Tryz.prog
  have h1' : (8 : Int) ≤ room := by omega
  have h2' : (room : Int) ≤ 2048 := by omega
  go_enter Tryz.func48, Tryz.ntmps48
  go_wp2
  go_ret2
  refine ⟨w.heap.size + 1 + 1, rfl, ⟨⟨.slice none 0 0, .slice none 0 0, .slice none 0 0, w.heap.size, w.heap.size + 1⟩, ⟨?_, ⟨.inl ⟨rfl, rfl⟩, ⟨fun _ => none, ?_, fun q _ _ => rfl⟩, ?_, by show w.heap.size ≠ w.heap.size + 1; omega, World.ownsRow_nil _ _ _ _, World.ownsRow_nil _ _ _ _⟩⟩, ?_⟩, ?_⟩
  · have h := Blk.made ((w.alloc (.map #[] 0)).alloc (.map #[] 0)) (dvals ⟨.slice none 0 0, .slice none 0 0, .slice none 0 0, w.heap.size, w.heap.size + 1⟩ (newD room)) 92
    have e : ((w.alloc (.map #[] 0)).alloc (.map #[] 0)).heap.size = w.heap.size + 1 + 1 := by simp
    rw [e] at h
    exact h
  · exact (IsPages.made w).same ((heap_old _ _ (by simp; omega)).trans (heap_old _ _ (by simp)))
  · have h := IsPages.made (w.alloc (.map #[] 0))
    have e : (w.alloc (.map #[] 0)).heap.size = w.heap.size + 1 := by simp
    rw [e] at h
    exact h.same (heap_old _ _ (by simp))
  · rintro k (h | h | h | h | h | h)
    · omega
    · simp only at h; omega
    · simp only at h; omega
    · cases h
    · cases h
    · cases h
  · exact (((Below.refl _ _).alloc (Nat.le_refl _) _).alloc (by simp) _).alloc (by simp; omega) _

theorem moved {w w' : World} {p : Nat} {m m' : Mem} {d d' : DG} {S S0 : Nat → Prop} (h : DiskAt w p m d) (hS : ∀ k, m.has p k → S k) (h' : DiskAt w' p m' d') (hr : ∀ k, m'.rest k → m.rest k ∨ w.heap.size ≤ k) (hk : Kept S0 w w') (h0 : ∀ k, S0 k → m.has p k) :
    ∃ S', IsDisk w' p S' d' ∧ Moves S S' w w' := by
  refine ⟨m'.has p, ⟨m', h', fun _ x => x, ?_⟩, hk.mono fun k x => hS k (h0 k x), ?_⟩
  · rintro k (rfl | x)
    · exact h'.lt
    · exact h'.rest_lt x
  · rintro k (rfl | x)
    · exact .inl (hS k (.inl rfl))
    · rcases hr k x with y | y
      · exact .inl (hS k (.inr y))
      · exact .inr y

section
variable {w : World} {p : Nat} {S : Nat → Prop} {d : DG}

def readD (d : DG) (q : Nat) : ByteArray := (d.fresh q).getD (d.sure q)

set_option maxHeartbeats 1600000 in
set_option maxRecDepth 8000 in
theorem read_out (h : IsDisk w p S d) (hd : d.dead = false) (q : Nat) (hq : q < 4294967296) (hc : checkE d.room q = 0) (hs : (readD d q).size ≤ 1000000) :
    Calls Tryz.prog 154 #[.pointer (some ⟨p, 0, none⟩), .int .u32 q] w fun x w' => x = .returned (.tuple #[.string (readD d q), .int .i64 0]) ∧ Below w.heap.size w w' := by
  obtain ⟨m, hD, _⟩ := h
  have c7 := hD.blk.cells.c7
  have h0 : 1 ≤ q := by unfold checkE at hc; split at hc; cases hc; omega
  have hl := hD.parts.fresh.look h0 hq
  have HD : Hid (DiskAt w p m d) := hD
  clear hD
  unfold readD at hs ⊢
  cases e : d.fresh q with
  | none =>
    rw [e] at hl hs
    simp only [Option.getD, Option.isSome] at hl hs ⊢
    go_enter Tryz.func154, Tryz.ntmps154
    go_wp2_with fail
    refine (dead_any HD.out.blk.cells).mono ?_
    rintro x w1 ⟨rfl, rfl⟩
    rw [hd]
    go_wp2_with fail
    refine (dcheck_any HD.out.blk.cells q hq).mono ?_
    rintro x w1 ⟨rfl, rfl⟩
    rw [hc]
    go_wp2_with fail
    refine (sureBytes_any HD.out q h0 hq).mono ?_
    rintro x w1 ⟨rfl, b1⟩
    go_wp2_with fail
    refine (clone_any _ _ (by omega)).mono ?_
    rintro x w2 ⟨rfl, b2⟩
    go_wp2
    go_ret2
    exact ⟨rfl, b1.trans (b2.mono b1.size)⟩
  | some s =>
    rw [e] at hl hs
    simp only [Option.getD, Option.isSome] at hl hs ⊢
    go_enter Tryz.func154, Tryz.ntmps154
    go_wp2_with fail
    refine (dead_any HD.out.blk.cells).mono ?_
    rintro x w1 ⟨rfl, rfl⟩
    rw [hd]
    go_wp2_with fail
    refine (dcheck_any HD.out.blk.cells q hq).mono ?_
    rintro x w1 ⟨rfl, rfl⟩
    rw [hc]
    go_wp2_with fail
    refine (clone_any _ _ (by omega)).mono ?_
    rintro x w2 ⟨rfl, b2⟩
    go_wp2
    go_ret2
    exact ⟨rfl, b2⟩

set_option maxHeartbeats 1600000 in
set_option maxRecDepth 8000 in
theorem readLog_out (h : IsDisk w p S d) (hd : d.dead = false) :
    Calls Tryz.prog 31 #[.pointer (some ⟨p, 0, none⟩)] w fun x w' => x = .returned (.tuple #[.string ⟨d.log.toArray⟩, .int .i64 0]) ∧ Below w.heap.size w w' := by
  obtain ⟨m, hD, _⟩ := h
  have c9 := hD.blk.cells.c9
  have hc : ∀ W : World, W.heap = w.heap → (convert 90 9 m.logV).run Tryz.prog W = .ok (.string ⟨d.log.toArray⟩) W := by
    intro W hW
    have hlog := owns_same (w' := W) hD.parts.log fun g _ => by rw [hW]
    rcases hlog.2 with ⟨e1, e2⟩ | ⟨g, cap, cur, e1, h0, hb, h1, h2, h3, h4⟩
    · have hl : d.log = [] := List.eq_nil_of_length_eq_zero e2
      rw [e1, hl]
      have := run_convert_bytes_string (P := Tryz.prog) W 90 9 5 none 0 0 Tryz.underlying90 Tryz.underlying5 Tryz.underlying9
      rw [this]
      rfl
    · rw [e1]
      refine run_convert_bytes_back W 90 9 5 ⟨g, 0, none⟩ cap d.log Tryz.underlying90 Tryz.underlying5 Tryz.underlying9 ?_
      intro j hj
      rw [e1] at hlog
      have := owns_cells hlog j (.int .u8 (d.log[j].toNat : Int)) (by simp [dcellsOf, hj])
      simpa [Addr.add_lit] using this
  have HD : Hid (DiskAt w p m d) := hD
  have hc0 := hc w rfl
  clear hD hc
  generalize m.logV = v at *
  go_enter Tryz.func31, Tryz.ntmps31
  go_wp2_with fail
  refine (dead_any HD.out.blk.cells).mono ?_
  rintro x w1 ⟨rfl, rfl⟩
  rw [hd]
  go_wp2
  go_ret2
  exact ⟨rfl, Below.refl _ _⟩

end

end Go.Proofs.YtgkfdakieebnmaaGreat

namespace Go.Proofs.YtgkfdakieebnmaaGreat
open Go.RowKit

theorem infoB : (Tryz.prog.info? 5).map (fun i => (i.zero, i.size, i.bytes)) = some (some (.int .u8 0), 1, 1) := by kernel_rfl

theorem run_text_at (w : World) (ty : TypeId) (v : Value) (n : Nat) (xs : List Value) (hown : w.ownsRow 0 5 1 v n xs) (s : ByteArray) (hb : n + s.size ≤ 1000000000) :
    ∃ v' w', (Builtin.append_ #[90, 9] ty #[v, .string s]).run Tryz.prog w = .ok v' w' ∧ w'.ownsRow 0 5 1 v' (n + s.size) (xs ++ Lib.strCells s) ∧ w.grownBy w' v.ownBlock ∧ (∀ k, v'.ownBlock = some k → v.ownBlock = some k ∨ w.heap.size ≤ k) := by
  obtain ⟨i0, hi, hz0, hz1, hz2⟩ := info_parts infoB
  obtain ⟨v', w', hr, h2, h3, _⟩ := Lib.run_append_own_string (P := Tryz.prog) w 0 90 9 ty 5 i0 Tryz.underlying90 Tryz.underlying9 hi hz0 hz1 hz2 v n xs hown s (by unfold maxLen; omega) (by omega) (Nat.zero_le _)
  refine ⟨v', w', hr, h2, h3, ?_⟩
  rcases hown.2 with ⟨rfl, rfl⟩ | ⟨g, cap, cur, rfl, h0, hg, hnc, hcm, hcs, htake⟩
  · have hx : xs = [] := List.eq_nil_of_length_eq_zero (by simpa using hown.1)
    subst hx
    obtain ⟨v2, w2, hr2, h22, _, _⟩ := Lib.run_append_own_string (P := Tryz.prog) w w.heap.size 90 9 ty 5 i0 Tryz.underlying90 Tryz.underlying9 hi hz0 hz1 hz2 _ 0 [] (World.ownsRow_nil w w.heap.size _ _) s (by unfold maxLen; omega) (by omega) (Nat.le_refl _)
    rw [hr] at hr2
    simp only [Result.ok.injEq] at hr2
    obtain ⟨rfl, rfl⟩ := hr2
    exact fun k hk => .inr (h22.lt k hk).1
  · by_cases hroom : n + s.size ≤ cap
    · have := Lib.run_append_room_string (P := Tryz.prog) w 90 9 ty 5 i0 Tryz.underlying90 Tryz.underlying9 hi hz1 g n cap cur hg s hroom (by omega)
      rw [hr] at this
      simp only [Result.ok.injEq] at this
      rw [this.1]
      exact fun k hk => .inl hk
    · have := Lib.run_append_grow_string (P := Tryz.prog) w 90 9 ty 5 i0 (.int .u8 0) Tryz.underlying90 Tryz.underlying9 hi hz0 ⟨g, 0, none⟩ n cap xs (by rw [hz1]; exact hown.1) (fun j u hj => hown.cells (g := g) rfl j u hj) s (by omega) (by omega) (by rw [hz2]; exact growslice_fits (by omega) (by omega))
      rw [hr] at this
      simp only [Result.ok.injEq] at this
      rw [this.1]
      exact fun k hk => .inr (by simp only [Value.ownBlock, Option.some.injEq] at hk; omega)

theorem wpList_text_at (w : World) {ops : Array Oper} {rest : List Oper} {o : Oper} {a : Act} {Q : Exit → Act → World → Prop} (hgd : o.guard = none) (sl x : Operand)
    (ho : o.op = .call { callee := .builtin .append, args := #[sl, x], argTypes := #[90, 9] }) (v : Value) (n : Nat) (xs : List Value) (hs : a.eval sl = v) (hown : w.ownsRow 0 5 1 v n xs) (s : ByteArray) (hx : a.eval x = .string s)
    (hb : n + s.size ≤ 1000000000)
    (h : ∀ v' w', w'.ownsRow 0 5 1 v' (n + s.size) (xs ++ Lib.strCells s) → w.grownBy w' v.ownBlock → (∀ k, v'.ownBlock = some k → v.ownBlock = some k ∨ w.heap.size ≤ k) → wpList Tryz.prog ops Q rest (a.put o.dst v') w') : wpList Tryz.prog ops Q (o :: rest) a w := by
  refine wpList_plain hgd fun K hK => ?_
  obtain ⟨v', w', hr, h2, h3, h4⟩ := run_text_at w o.type v n xs hown s hb
  unfold Oper.wp execOp
  simp only [ho, resolve, invoke, builtin, Sem.run_bind, Sem.run_pure, Result.andThen_ok, List.map_toArray, List.map_cons, List.map_nil, hs, hx, hr]
  exact hK _ _ (h v' w' h2 h3 h4)

theorem logged {w w' : World} {p : Nat} {m : Mem} {d : DG} (h : DiskAt w p m d) {v' : Value} {l : List UInt8} (hown : w'.ownsRow 0 5 1 v' l.length (dcellsOf l)) (hg : w.grownBy w' m.logV.ownBlock) (hloc : ∀ k, v'.ownBlock = some k → m.logV.ownBlock = some k ∨ w.heap.size ≤ k) :
    (∀ k, k < w.heap.size → m.logV.ownBlock ≠ some k → w'.heap[k]? = w.heap[k]?) ∧ DiskAt (w'.setCell ⟨p, 9, none⟩ v') p { m with logV := v' } { d with log := l } ∧ Kept (m.has p) w (w'.setCell ⟨p, 9, none⟩ v') := by
  have hP := h.parts
  have ha := hP.apart
  have hb : ∀ k, k < w.heap.size → m.logV.ownBlock ≠ some k → w'.heap[k]? = w.heap[k]? := fun k hk hn => hg.block k hk fun e => hn e.symm
  have hp : m.logV.ownBlock ≠ some p := fun e => h.off (.inr (.inr (.inr (.inl e)))) rfl
  have hblk : Blk w' p (dvals m d) 92 := h.blk.same (hb p h.lt hp)
  have hvp : ∀ k, v'.ownBlock = some k → k ≠ p := by
    rintro k hk rfl
    rcases hloc k hk with e | e
    · exact hp e
    · have := h.lt; omega
  have off : ∀ k, m.rest k → m.logV.ownBlock ≠ some k → (w'.setCell ⟨p, 9, none⟩ v').heap[k]? = w.heap[k]? := fun k hk hn =>
    (heap_set _ _ _ _ (h.off hk)).trans (hb k (h.rest_lt hk) hn)
  obtain ⟨f, hf, hz⟩ := hP.sure
  exact ⟨hb, ⟨hblk.set 9 v', ⟨hP.plan.same fun g k => off g (.inr (.inr (.inr (.inr k)))) fun e => (ha.2.1 g e).2.2 k, ⟨f, hf.same (off _ (.inl rfl) fun e => (ha.2.1 _ e).1 rfl), hz⟩,
    hP.fresh.same (off _ (.inr (.inl rfl)) fun e => (ha.2.1 _ e).2.1 rfl), hP.ne, owns_same hP.loose fun g k => off g (.inr (.inr (.inl k))) fun e => (ha.1 g k).2.2.1 e, owns_same hown fun g k => heap_set _ _ _ _ (hvp g k)⟩⟩,
    (Kept.of_grown hg fun b e => .inr (.inr (.inr (.inr (.inl e))))).trans (Kept.setCell _ _ _ _ _ (.inl rfl))⟩

def putD (d : DG) (s : ByteArray) : DG := { d with calls := d.calls + 1, log := d.log ++ s.data.toList }

section
variable {w : World} {p : Nat} {S : Nat → Prop} {d : DG}

set_option maxHeartbeats 1600000 in
set_option maxRecDepth 8000 in
theorem appendLog_out (h : IsDisk w p S d) (hd : d.dead = false) (hl : d.plan = []) (hn : d.calls ≤ 1000000) (s : ByteArray) (hs : d.log.length + s.size ≤ 4194304) :
    Calls Tryz.prog 73 #[.pointer (some ⟨p, 0, none⟩), .string s] w fun x w' => x = .returned (.int .i64 0) ∧ ∃ S', IsDisk w' p S' (putD d s) ∧ Moves S S' w w' := by
  obtain ⟨m, hD, hS, _⟩ := h
  obtain ⟨a, c, hv⟩ : ∃ a c, m.logV = .slice a d.log.length c := by
    rcases hD.parts.log.2 with ⟨e1, e2⟩ | ⟨g', cap', cur', e1, _⟩
    · exact ⟨none, 0, by rw [e1, e2]⟩
    · exact ⟨_, _, e1⟩
  have c9 := hD.blk.cells.c9
  rw [hv] at c9
  have HD : Hid (DiskAt w p m d) := hD
  have HS : Hid (∀ k, m.has p k → S k) := hS
  clear hD hS
  have hs' : (s.size : Int) ≤ 4194304 - (d.log.length : Int) := by omega
  go_enter Tryz.func73, Tryz.ntmps73
  go_wp2_with fail
  refine (dead_any HD.out.blk.cells).mono ?_
  rintro x w1 ⟨rfl, rfl⟩
  rw [hd]
  go_wp2_with fail
  refine (powered_none HD.out hl hn).mono ?_
  rintro x w2 ⟨rfl, hD1, hK1⟩
  have HD1 : Hid (DiskAt w2 p m { d with calls := d.calls + 1 }) := hD1
  have HK1 : Hid (Kept (fun k => k = p) _ w2) := hK1
  clear hD1 hK1 c9
  have c9 := HD1.out.blk.cells.c9
  have hlt := HD1.out.lt
  have hown := HD1.out.parts.log
  rw [hv] at c9 hown
  go_wp2_with (at_builtin; refine wpList_text_at _ rfl _ _ rfl (.slice a d.log.length c) d.log.length (dcellsOf d.log) rfl hown s rfl (by omega) ?_)
  intro v' w3 hown' hgrow hloc
  obtain ⟨a', c', hv'⟩ : ∃ a' c', v' = .slice a' (d.log.length + s.size) c' := by
    rcases hown'.2 with ⟨e1, e2⟩ | ⟨g, cap, cur, e1, _⟩
    · exact ⟨none, 0, by rw [e1, e2]⟩
    · exact ⟨_, _, e1⟩
  rw [← hv] at hgrow hloc
  have hown2 : w3.ownsRow 0 5 1 v' (d.log ++ s.data.toList).length (dcellsOf (d.log ++ s.data.toList)) := by
    have e : (d.log ++ s.data.toList).length = d.log.length + s.size := by simp
    rw [e]
    rw [dstrCells_eq] at hown'
    have e2 : dcellsOf (d.log ++ s.data.toList) = dcellsOf d.log ++ dcellsOf s.data.toList := by simp [dcellsOf]
    rw [e2]
    exact hown'
  obtain ⟨hb3, hD3, hK3⟩ := logged HD1.out hown2 hgrow hloc
  have hpb : m.logV.ownBlock ≠ some p := fun e => HD1.out.off (.inr (.inr (.inr (.inl e)))) rfl
  have c9' : w3.cell? ⟨p, 9, none⟩ = some m.logV := (World.cell?_of_block (w := w2) (a := ⟨p, 9, none⟩) (hb3 p hlt hpb)).trans HD1.out.blk.cells.c9
  have f9' : w3.frozen? ⟨p, 9, none⟩ = false := (World.frozen?_of_block (w := w2) (a := ⟨p, 9, none⟩) (hb3 p hlt hpb)).trans (HD1.out.blk.cells.fr 9)
  have HD3 : Hid (DiskAt (w3.setCell ⟨p, 9, none⟩ v') p { m with logV := v' } (putD d s)) := hD3
  have HK3 : Hid (Kept (m.has p) w2 (w3.setCell ⟨p, 9, none⟩ v')) := hK3
  have HR : Hid (∀ k, v'.ownBlock = some k → m.logV.ownBlock = some k ∨ w2.heap.size ≤ k) := hloc
  clear hb3 hD3 hK3 hown2 hown' hown hgrow hloc c9 hpb
  subst hv'
  go_wp2
  go_ret
  refine ⟨rfl, ?_⟩
  refine moved HD.out HS.out HD3.out ?_ ((HK1.out.mono fun k e => .inl e).trans HK3.out) fun k x => x
  have hz := HK1.out.size
  rintro k (x | x | x | x | x)
  · exact .inl (.inl x)
  · exact .inl (.inr (.inl x))
  · exact .inl (.inr (.inr (.inl x)))
  · rcases HR.out k x with y | y
    · exact .inl (.inr (.inr (.inr (.inl y))))
    · exact .inr (by omega)
  · exact .inl (.inr (.inr (.inr (.inr x))))

set_option maxHeartbeats 1600000 in
set_option maxRecDepth 8000 in
theorem syncLog_out (h : IsDisk w p S d) (hd : d.dead = false) (hl : d.plan = []) (hn : d.calls ≤ 1000000) (hll : d.log.length ≤ 1000000000) :
    Calls Tryz.prog 34 #[.pointer (some ⟨p, 0, none⟩)] w fun x w' => x = .returned (.int .i64 0) ∧ ∃ S', IsDisk w' p S' { d with calls := d.calls + 1, sl := d.log.length } ∧ Moves S S' w w' := by
  obtain ⟨m, hD, hS, _⟩ := h
  obtain ⟨a, c, hv⟩ : ∃ a c, m.logV = .slice a d.log.length c := by
    rcases hD.parts.log.2 with ⟨e1, e2⟩ | ⟨g', cap', cur', e1, _⟩
    · exact ⟨none, 0, by rw [e1, e2]⟩
    · exact ⟨_, _, e1⟩
  have HD : Hid (DiskAt w p m d) := hD
  have HS : Hid (∀ k, m.has p k → S k) := hS
  clear hD hS
  go_enter Tryz.func34, Tryz.ntmps34
  go_wp2_with fail
  refine (dead_any HD.out.blk.cells).mono ?_
  rintro x w1 ⟨rfl, rfl⟩
  rw [hd]
  go_wp2_with fail
  refine (powered_none HD.out hl hn).mono ?_
  rintro x w2 ⟨rfl, hD1, hK1⟩
  have HD1 : Hid (DiskAt w2 p m { d with calls := d.calls + 1 }) := hD1
  have HK1 : Hid (Kept (fun k => k = p) _ w2) := hK1
  clear hD1 hK1
  have c9 := HD1.out.blk.cells.c9
  rw [hv] at c9
  go_wp2_with fail
  refine (cut_any HD1.out d.log.length (Nat.le_refl _) hll).mono ?_
  rintro x w3 ⟨rfl, ⟨v, hd3, hvb⟩, hk3⟩
  rw [show ({ d with calls := d.calls + 1 } : DG).log = d.log from rfl, List.take_length] at hd3
  have HF : Hid (∃ S', IsDisk w3 p S' { d with calls := d.calls + 1, sl := d.log.length } ∧ Moves S S' w1 w3) := by
    refine moved HD.out HS.out hd3 ?_ (HK1.out.trans hk3) fun k x => .inl x
    rintro k (x | x | x | x | x)
    · exact .inl (.inl x)
    · exact .inl (.inr (.inl x))
    · exact .inl (.inr (.inr (.inl x)))
    · simp only at x
      rcases hvb with e | e
      · rw [e] at x; cases x
      · rw [e] at x; exact .inl (.inr (.inr (.inr (.inl x))))
    · exact .inl (.inr (.inr (.inr (.inr x))))
  clear hd3 hk3 hvb
  go_wp2
  go_ret
  exact ⟨rfl, HF.out⟩

end

end Go.Proofs.YtgkfdakieebnmaaGreat
