/-
  What the bytes of a page's place say: the walk of pool.readable; pool.blank, pool.givesWay.
  The walk of pool.both.choose: which of a page's place and its twin counts.
  Maps whose elements are any values: look-ups, stores, what is taken out.
  A pool in memory: its frames as plain data, and where they lie; a pool, its log and its disk side by side.
  The walks of (*disk.Disk).Read that is refused, of (*pool.Pool).read and (*pool.Pool).fetch.
  A pool whose map has turned: a frame was put in, or taken out.
  The walk of (*pool.Pool).makeRoom, as long as there is room; what it is to make room.
  The walk of (*pool.Pool).Put of a page that fits.
  The walk of (*pool.Pool).Get.
  pool.New; what a nil pool answers.
  girderlaw06.begun and girderlaw06.awake.
-/
import Derived.Test.YtjemeopafkafgaaGreatPageMathJ
import Derived.Test.YtjemeopafkafgaaGreatPoolCopyC
import Derived.Test.YtjemeopafkafgaaGreatByteRowJ
import Derived.Test.YtjemeopafkafgaaGreatRepeatJ
import Derived.Test.YtjemeopafkafgaaGreatRowOpsJ
import Derived.Lib.QuietBelow
import Derived.Test.YtjemeopafkafgaaGreatProg
import Derived.WalkKit
import Derived.WalkSpells
import Derived.WalkLawsBesides
import Derived.Maps.OwnSet
import Derived.Shelf.Small.Bits
import Derived.Maps.RangeWalk
import Derived.OwnWalk
namespace Go.Proofs.YtjemeopafkafgaaGreat
open Go.RowKit Go.Sort
set_option linter.unusedVariables false

/-- A page's five cells. -/
def SheetV.arr (p : SheetV) (a : Option Addr) (c : Nat) : Array Value := #[.int .u32 p.num, .int .u64 p.lsn, .int .i64 p.kind, .string p.head, .slice a p.slots.length c]

/-- The cells of a page that is not there. -/
def zero5 : Array Value := #[.int .u32 0, .int .u64 0, .int .i64 0, .string ⟨#[]⟩, .slice none 0 0]

theorem store5_other (w : World) (b k : Nat) (v0 v1 v2 v3 v4 : Value) (h : k ≠ b) : (store5 w b v0 v1 v2 v3 v4).heap[k]? = w.heap[k]? :=
  (Below.heap_setCell _ _ _ _ h).trans ((Below.heap_setCell _ _ _ _ h).trans ((Below.heap_setCell _ _ _ _ h).trans ((Below.heap_setCell _ _ _ _ h).trans (Below.heap_setCell _ _ _ _ h))))

theorem Blk.store5 {w : World} {b : Nat} {u0 u1 u2 u3 u4 : Value} {t : TypeId} (h : Blk w b #[u0, u1, u2, u3, u4] t) (v0 v1 v2 v3 v4 : Value) : Blk (store5 w b v0 v1 v2 v3 v4) b #[v0, v1, v2, v3, v4] t :=
  ((((h.set 0 v0).set 1 v1).set 2 v2).set 3 v3).set 4 v4

end Go.Proofs.YtjemeopafkafgaaGreat

namespace Go.Proofs.YtjemeopafkafgaaGreat
open Go.RowKit Go.Sort
set_option linter.unusedVariables false

/-- A page is told, in new memory. -/
structure ShOut (w : World) (X : SheetV) (f : Value → Ending) (x : Ending) (w' : World) : Prop where
  out : ∃ a c, x = f (X.val a c) ∧ StrsFrom w.heap.size w' a X.slots ∧ Below w.heap.size w w'

end Go.Proofs.YtjemeopafkafgaaGreat

namespace Go.Proofs.YtjemeopafkafgaaGreat
open Go.RowKit
set_option linter.unusedVariables false

/-- An element, whatever it is. -/
def rawElem (v : Value) : Option (DataW Value × List MemPlace) := some (.held v, [])

/-- What a map has at a key; z, if it has nothing there. -/
def getV (D : DataW Value) (l : Lit) (z : Value) : Value := match D.atKey l (.held z) with | .held v => v | _ => z

/-- Block b is a map of sz entries that reads as D. -/
def MapV (k : TypeId) (w : World) (b sz : Nat) (D : DataW Value) : Prop := w.ownsMap Tryz.prog k rawElem b sz D ∧ Maps.size D = sz

section
variable {k t e : TypeId} {w : World} {b sz : Nat} {D : DataW Value}

theorem MapV.lt (h : MapV k w b sz D) : b < w.heap.size := World.ownsMap.lt h.1

theorem MapV.isMap (h : MapV k w b sz D) : ∃ es c, w.heap[b]? = some (.map es c) := by
  obtain ⟨es, c, hb, _⟩ := h.1
  exact ⟨es, c, hb⟩

theorem MapV.same {w' : World} (h : MapV k w b sz D) (e : w'.heap[b]? = w.heap[b]?) : MapV k w' b sz D := by
  obtain ⟨es, c, hb, r⟩ := h.1
  exact ⟨⟨es, c, e.trans hb, r⟩, h.2⟩

theorem MapV.made (k : TypeId) (w : World) : MapV k (w.alloc (.map #[] 0)) w.heap.size 0 (.map []) := ⟨World.ownsMap_made _ _ _ _, rfl⟩

theorem MapV.of_le {n : Nat} (h : w.ownsMap Tryz.prog k rawElem b n D) : MapV k w b (Maps.size D) D := by
  refine ⟨?_, rfl⟩
  obtain ⟨es, c, hb, F, hs, hD⟩ := h
  refine ⟨es, c, hb, F, ?_, hD⟩
  rw [hD]
  simp [Maps.size, length_sorted]

theorem MapV.look (h : MapV k w b sz D) (K : Maps.Keyed Tryz.prog k) (ht : Tryz.prog.underlying t = some (.map k e)) {z : Value} (hz : (zeroValue e).run Tryz.prog w = .ok z w) {key : Value} {l : Lit} (hk : keyOf Tryz.prog k key = some l) :
    (Instr.lookup t (.map (some b)) key false).run Tryz.prog w = .ok (getV D l z) w := by
  obtain ⟨v, ps, hr, hv⟩ := h.1.lookup K ht hz (zd := .held z) (zp := []) rfl hk
  have hv' : DataW.held v = D.atKey l (.held z) := by
    unfold rawElem at hv
    simp only [Option.some.injEq, Prod.mk.injEq] at hv
    exact hv.1
  rw [hr]
  unfold getV
  rw [← hv']

theorem MapV.lookOk (h : MapV k w b sz D) (K : Maps.Keyed Tryz.prog k) (ht : Tryz.prog.underlying t = some (.map k e)) {z : Value} (hz : (zeroValue e).run Tryz.prog w = .ok z w) {key : Value} {l : Lit} (hk : keyOf Tryz.prog k key = some l) :
    (Instr.lookup t (.map (some b)) key true).run Tryz.prog w = .ok (.tuple #[getV D l z, .bool (Maps.has D l)]) w := by
  obtain ⟨v, ps, hr, hv⟩ := h.1.look_ok K ht hz (zd := .held z) (zp := []) rfl hk
  have hv' : DataW.held v = D.atKey l (.held z) := by
    unfold rawElem at hv
    simp only [Option.some.injEq, Prod.mk.injEq] at hv
    exact hv.1
  rw [hr]
  unfold getV
  rw [← hv']

/-- A store as a function of the world. -/
theorem put_ex (k t e : TypeId) (b : Nat) (key val : Value) : ∃ u : World → World, ∀ (w : World) (sz : Nat) (D : DataW Value) (l : Lit), MapV k w b sz D → Maps.Keyed Tryz.prog k → Tryz.prog.underlying t = some (.map k e) → sz ≤ 1000000 → keyOf Tryz.prog k key = some l →
    (Instr.mapUpdate t (.map (some b)) key val).run Tryz.prog w = .ok () (u w) ∧ MapV k (u w) b (Maps.size (D.put l (.held val))) (D.put l (.held val)) ∧ w.mapTurned (u w) b := by
  refine ⟨fun w => match (Instr.mapUpdate t (.map (some b)) key val).run Tryz.prog w with
    | .ok _ w' => w'
    | _ => w, fun w sz D l h K ht hn hk => ?_⟩
  obtain ⟨w', hr, h1, h2⟩ := h.1.store K ht (by unfold maxLen; omega) hk (show rawElem val = some (.held val, []) from rfl)
  simp only [hr]
  exact ⟨trivial, MapV.of_le h1, h2⟩

/-- Taking out, as a function of the world. -/
theorem del_ex (k t e : TypeId) (b : Nat) (key : Value) (ty : TypeId) : ∃ u : World → World, ∀ (w : World) (sz : Nat) (D : DataW Value) (l : Lit), MapV k w b sz D → Maps.Keyed Tryz.prog k → Tryz.prog.underlying t = some (.map k e) → keyOf Tryz.prog k key = some l →
    (Builtin.delete_ #[t, k] ty #[.map (some b), key]).run Tryz.prog w = .ok (.tuple #[]) (u w) ∧ MapV k (u w) b (Maps.size (D.del l)) (D.del l) ∧ w.mapTurned (u w) b := by
  refine ⟨fun w => match (Builtin.delete_ #[t, k] ty #[.map (some b), key]).run Tryz.prog w with
    | .ok _ w' => w'
    | _ => w, fun w sz D l h K ht hk => ?_⟩
  obtain ⟨w', hr, h1, h2⟩ := h.1.drop K ht hk ty
  simp only [hr]
  exact ⟨trivial, MapV.of_le h1, h2⟩

theorem MapV.tidy (h : MapV k w b sz D) (K : Maps.Keyed Tryz.prog k) : Maps.Tidy D := h.1.tidy K

theorem getV_put_same (hD : Maps.IsMap D) {l : Lit} (hl : WideAt.IsKeyLit l) (v z : Value) : getV (D.put l (.held v)) l z = v := by
  unfold getV; rw [Maps.atKey_put_same hD hl]

theorem getV_put_other {l l' : Lit} (hne : l' ≠ l) (v z : Value) : getV (D.put l (.held v)) l' z = getV D l' z := by
  unfold getV; rw [Maps.atKey_put_other hne]

theorem getV_del_other {l l' : Lit} (hne : l' ≠ l) (z : Value) : getV (D.del l) l' z = getV D l' z := by
  unfold getV; rw [Maps.atKey_del_other hne]

theorem getV_none {l : Lit} (h : Maps.has D l = false) (z : Value) : getV D l z = z := by
  unfold getV; rw [Maps.atKey_of_not_has h]
end

end Go.Proofs.YtjemeopafkafgaaGreat

namespace Go.Proofs.YtjemeopafkafgaaGreat
open Go.RowKit Go.Sort
set_option linter.unusedVariables false

/-- A frame: a page, and since when it is dirty (0: it is not). -/
structure FrV where
  sh : SheetV
  since : Nat

def FrV.val (f : FrV) (a : Option Addr) (c : Nat) : Value := .agg #[.int .u32 f.sh.num, .int .u64 f.sh.lsn, .int .i64 f.sh.kind, .string f.sh.head, .slice a f.sh.slots.length c, .int .u64 f.since]

def zeroF : Value := .agg #[.int .u32 0, .int .u64 0, .int .i64 0, .string ⟨#[]⟩, .slice none 0 0, .int .u64 0]

/-- A pool as plain data: z frames; that of the page n is F n. -/
structure PG where
  dp : Nat
  lp : Nat
  most : Nat
  F : Nat → Option FrV
  z : Nat
  picks : List Int
  fetched : Nat
  written : Nat

/-- The texts of a frame, in blocks among S. -/
def StrsIn (S : Nat → Prop) (w : World) (a : Option Addr) (L : List ByteArray) : Prop :=
  L = [] ∨ ∃ b o, a = some ⟨b, o, none⟩ ∧ S b ∧ b < w.heap.size ∧ ∀ i (hi : i < L.length), w.cell? ⟨b, o + i, none⟩ = some (.string L[i])

theorem StrsIn.at {S : Nat → Prop} {w : World} {a : Option Addr} {L : List ByteArray} (h : StrsIn S w a L) : StrsAt w a L := by
  rcases h with h | ⟨b, o, e, _, hb, hc⟩
  · exact .inl h
  · exact .inr ⟨b, o, e, hb, hc⟩

theorem StrsIn.same {S : Nat → Prop} {w w' : World} {a : Option Addr} {L : List ByteArray} (h : StrsIn S w a L) (k : ∀ b, S b → w'.heap[b]? = w.heap[b]?) (hs : w.heap.size ≤ w'.heap.size) : StrsIn S w' a L := by
  rcases h with h | ⟨b, o, e, h1, hb, hc⟩
  · exact .inl h
  · exact .inr ⟨b, o, e, h1, Nat.lt_of_lt_of_le hb hs, fun i hi => (World.cell?_of_block (w := w) (a := ⟨b, o + i, none⟩) (k b h1)).trans (hc i hi)⟩

/-- The frame f of the page n, as a value. -/
structure FrAt (S : Nat → Prop) (w : World) (n : Nat) (v : Value) (f : FrV) : Prop where
  val : ∃ a c, v = f.val a c ∧ StrsIn S w a f.sh.slots
  fits : f.sh.Fits
  num : f.sh.num = n
  since : f.since < 18446744073709551616

theorem FrAt.same {S : Nat → Prop} {w w' : World} {n : Nat} {v : Value} {f : FrV} (h : FrAt S w n v f) (k : ∀ b, S b → w'.heap[b]? = w.heap[b]?) (hs : w.heap.size ≤ w'.heap.size) : FrAt S w' n v f := by
  obtain ⟨⟨a, c, e, hm⟩, h2, h3, h4⟩ := h
  exact ⟨⟨a, c, e, hm.same k hs⟩, h2, h3, h4⟩

/-- The picks that are left. -/
def PicksAt (w : World) (v : Value) (L : List Int) : Prop :=
  ∃ a c, v = .slice a L.length c ∧ L.length ≤ c ∧ c ≤ maxLen ∧ (L = [] ∨ ∃ b o, a = some ⟨b, o, none⟩ ∧ b < w.heap.size ∧ ∀ i (hi : i < L.length), w.cell? ⟨b, o + i, none⟩ = some (.int .i64 L[i]))

theorem PicksAt.same {w w' : World} {v : Value} {L : List Int} (h : PicksAt w v L) (k : ∀ b, v.ownBlock = some b → w'.heap[b]? = w.heap[b]?) (hs : w.heap.size ≤ w'.heap.size) : PicksAt w' v L := by
  obtain ⟨a, c, rfl, h1, h2, h3⟩ := h
  refine ⟨a, c, rfl, h1, h2, ?_⟩
  rcases h3 with h | ⟨b, o, rfl, hb, hc⟩
  · exact .inl h
  · exact .inr ⟨b, o, rfl, Nat.lt_of_lt_of_le hb hs, fun i hi => (World.cell?_of_block (w := w) (a := ⟨b, o + i, none⟩) (k b rfl)).trans (hc i hi)⟩

def pvals (fb : Nat) (pv : Value) (P : PG) : Array Value :=
  #[.pointer (some ⟨P.dp, 0, none⟩), .pointer (some ⟨P.lp, 0, none⟩), .int .i64 P.most, .map (some fb), pv, .int .i64 P.fetched, .int .i64 P.written]

/-- The frames of a map that reads as D. -/
structure FrsAt (S : Nat → Prop) (w : World) (D : DataW Value) (F : Nat → Option FrV) : Prop where
  no : ∀ n, n < 4294967296 → F n = none → Maps.has D (keyL n) = false
  yes : ∀ n f, n < 4294967296 → F n = some f → Maps.has D (keyL n) = true ∧ FrAt S w n (getV D (keyL n) zeroF) f
  keys : ∀ l, Maps.has D l = true → ∃ n, 1 ≤ n ∧ n ≤ 2048 ∧ l = keyL n

structure PoolAt (w : World) (p fb : Nat) (pv : Value) (D : DataW Value) (S : Nat → Prop) (P : PG) : Prop where
  blk : Blk w p (pvals fb pv P) 107
  map : MapV 46 w fb P.z D
  frs : FrsAt S w D P.F
  picks : PicksAt w pv P.picks
  sp : S p
  sf : S fb
  sv : ∀ b, pv.ownBlock = some b → S b
  sq : ∀ b, pv.ownBlock = some b → b ≠ p
  lt : ∀ k, S k → k < w.heap.size

/-- A pool in block p, whose blocks are S. -/
def IsPool (w : World) (p : Nat) (S : Nat → Prop) (P : PG) : Prop := ∃ fb pv D, PoolAt w p fb pv D S P

theorem FrsAt.same {S : Nat → Prop} {w w' : World} {D : DataW Value} {F : Nat → Option FrV} (h : FrsAt S w D F) (k : ∀ b, S b → w'.heap[b]? = w.heap[b]?) (hs : w.heap.size ≤ w'.heap.size) : FrsAt S w' D F :=
  ⟨h.no, fun n f hn e => ⟨(h.yes n f hn e).1, (h.yes n f hn e).2.same k hs⟩, h.keys⟩

theorem PoolAt.same {w w' : World} {p fb : Nat} {pv : Value} {D : DataW Value} {S : Nat → Prop} {P : PG} (h : PoolAt w p fb pv D S P) (k : ∀ b, S b → w'.heap[b]? = w.heap[b]?) (hs : w.heap.size ≤ w'.heap.size) : PoolAt w' p fb pv D S P :=
  ⟨h.blk.same (k p h.sp), h.map.same (k fb h.sf), h.frs.same k hs, h.picks.same (fun b e => k b (h.sv b e)) hs, h.sp, h.sf, h.sv, h.sq, fun b hb => Nat.lt_of_lt_of_le (h.lt b hb) hs⟩

theorem IsPool.same {w w' : World} {p : Nat} {S : Nat → Prop} {P : PG} (h : IsPool w p S P) (k : ∀ b, S b → w'.heap[b]? = w.heap[b]?) (hs : w.heap.size ≤ w'.heap.size) : IsPool w' p S P := by
  obtain ⟨fb, pv, D, h⟩ := h
  exact ⟨fb, pv, D, h.same k hs⟩

theorem IsPool.lt {w : World} {p : Nat} {S : Nat → Prop} {P : PG} (h : IsPool w p S P) {k : Nat} (hk : S k) : k < w.heap.size := by
  obtain ⟨fb, pv, D, h⟩ := h
  exact h.lt k hk

theorem PoolAt.below {w w' : World} {p fb : Nat} {pv : Value} {D : DataW Value} {S : Nat → Prop} {P : PG} (h : PoolAt w p fb pv D S P) (k : Below w.heap.size w w') : PoolAt w' p fb pv D S P :=
  h.same (fun b hb => k.block b (h.lt b hb)) k.size

theorem IsPool.beside {w w' : World} {p : Nat} {S D D' : Nat → Prop} {P : PG} (h : IsPool w p S P) (hm : Moves D D' w w') (ha : ∀ k, S k → ¬ D k) : IsPool w' p S P ∧ ∀ k, S k → ¬ D' k :=
  ⟨h.same (fun k hk => hm.1.block k (h.lt hk) (ha k hk)) hm.1.size, fun k hk => (hm.off (h.lt hk) (ha k hk)).2⟩

/-- The pool's cells. -/
structure PCells (w : World) (p fb : Nat) (pv : Value) (P : PG) : Prop where
  c0 : w.cell? ⟨p, 0, none⟩ = some (.pointer (some ⟨P.dp, 0, none⟩))
  c1 : w.cell? ⟨p, 1, none⟩ = some (.pointer (some ⟨P.lp, 0, none⟩))
  c2 : w.cell? ⟨p, 2, none⟩ = some (.int .i64 P.most)
  c3 : w.cell? ⟨p, 3, none⟩ = some (.map (some fb))
  c4 : w.cell? ⟨p, 4, none⟩ = some pv
  c5 : w.cell? ⟨p, 5, none⟩ = some (.int .i64 P.fetched)
  c6 : w.cell? ⟨p, 6, none⟩ = some (.int .i64 P.written)
  fr : ∀ i, w.frozen? ⟨p, i, none⟩ = false

theorem PoolAt.cells {w : World} {p fb : Nat} {pv : Value} {D : DataW Value} {S : Nat → Prop} {P : PG} (h : PoolAt w p fb pv D S P) : PCells w p fb pv P :=
  ⟨h.blk.cell 0, h.blk.cell 1, h.blk.cell 2, h.blk.cell 3, h.blk.cell 4, h.blk.cell 5, h.blk.cell 6, h.blk.frozen⟩

theorem PoolAt.pf {w : World} {p fb : Nat} {pv : Value} {D : DataW Value} {S : Nat → Prop} {P : PG} (h : PoolAt w p fb pv D S P) : fb ≠ p := by
  rintro rfl
  obtain ⟨es, c, e⟩ := h.map.isMap
  have := h.blk
  unfold Blk at this
  rw [e] at this
  cases this

/-- A pool with its log and its disk: their blocks are among A. -/
structure Sys (w : World) (p : Nat) (A : Nat → Prop) (P : PG) (l : LG) (d : DG) : Prop where
  ex : ∃ S L D, IsPool w p S P ∧ IsLog w P.lp L l ∧ IsDisk w P.dp D d ∧ (∀ k, S k → ¬ L k) ∧ (∀ k, S k → ¬ D k) ∧ (∀ k, L k → ¬ D k) ∧ ∀ k, S k ∨ L k ∨ D k → A k
  ld : l.dp = P.dp
  lt : ∀ k, A k → k < w.heap.size

theorem Sys.same {w w' : World} {p : Nat} {A : Nat → Prop} {P : PG} {l : LG} {d : DG} (h : Sys w p A P l d) (k : ∀ b, A b → w'.heap[b]? = w.heap[b]?) (hs : w.heap.size ≤ w'.heap.size) : Sys w' p A P l d := by
  obtain ⟨⟨S, L, D, h1, h2, h3, h4, h5, h6, h7⟩, h8, h9⟩ := h
  exact ⟨⟨S, L, D, h1.same (fun b hb => k b (h7 b (.inl hb))) hs, h2.same (fun b hb => k b (h7 b (.inr (.inl hb)))) hs, h3.same (fun b hb => k b (h7 b (.inr (.inr hb)))) hs, h4, h5, h6, h7⟩, h8, fun b hb => Nat.lt_of_lt_of_le (h9 b hb) hs⟩

theorem Sys.below {w w' : World} {p : Nat} {A : Nat → Prop} {P : PG} {l : LG} {d : DG} (h : Sys w p A P l d) (k : Below w.heap.size w w') : Sys w' p A P l d :=
  h.same (fun b hb => k.block b (h.lt b hb)) k.size

end Go.Proofs.YtjemeopafkafgaaGreat

namespace Go.Proofs.YtjemeopafkafgaaGreat
open Go.RowKit Go.Sort
set_option linter.unusedVariables false

theorem ret_boolP {a b : Bool} (h : a = b) : Ending.returned (.bool a) = .returned (.bool b) := by rw [h]

theorem pmayBe_any (n : Nat) (w : World) (hn : n < 4294967296) : Calls Tryz.prog 88 #[.int .u32 n] w fun x w' => x = .returned (.bool (decide (1 ≤ n ∧ n ≤ 2048))) ∧ w' = w := by
  by_cases h : 1 ≤ n
  · have h' : (1 : Int) ≤ n := by omega
    go_enter Tryz.func88, Tryz.ntmps88
    go_wp2
    go_ret
    exact ⟨ret_boolP (by rw [Bool.eq_iff_iff]; simp <;> omega), rfl⟩
  · have h' : ¬ (1 : Int) ≤ n := by omega
    go_enter Tryz.func88, Tryz.ntmps88
    go_wp2
    go_ret
    exact ⟨ret_boolP rfl, rfl⟩

end Go.Proofs.YtjemeopafkafgaaGreat

namespace Go.Proofs.YtjemeopafkafgaaGreat
open Go.RowKit Go.Sort
set_option linter.unusedVariables false

theorem cell_noMap {w : World} {b fb : Nat} {o : Nat} {v : Value} (h : w.cell? ⟨b, o, none⟩ = some v) (hm : ∃ es c, w.heap[fb]? = some (.map es c)) : b ≠ fb := by
  rintro rfl
  obtain ⟨es, c, e⟩ := hm
  simp [World.cell?, e] at h

theorem StrsIn.turn {S S' : Nat → Prop} {w w' : World} {a : Option Addr} {L : List ByteArray} {fb : Nat} (h : StrsIn S w a L) (hm : ∃ es c, w.heap[fb]? = some (.map es c)) (k : ∀ b, S b → b ≠ fb → w'.heap[b]? = w.heap[b]?) (hs : w.heap.size ≤ w'.heap.size) (hS : ∀ b, S b → S' b) : StrsIn S' w' a L := by
  rcases h with h | ⟨b, o, e, h1, hb, hc⟩
  · exact .inl h
  · by_cases hL : L = []
    · exact .inl hL
    · have h0 : 0 < L.length := List.length_pos_iff.2 hL
      have hne : b ≠ fb := cell_noMap (hc 0 h0) hm
      exact .inr ⟨b, o, e, hS b h1, Nat.lt_of_lt_of_le hb hs, fun i hi => (World.cell?_of_block (w := w) (a := ⟨b, o + i, none⟩) (k b h1 hne)).trans (hc i hi)⟩

theorem FrAt.turn {S S' : Nat → Prop} {w w' : World} {n : Nat} {v : Value} {f : FrV} {fb : Nat} (h : FrAt S w n v f) (hm : ∃ es c, w.heap[fb]? = some (.map es c)) (k : ∀ b, S b → b ≠ fb → w'.heap[b]? = w.heap[b]?) (hs : w.heap.size ≤ w'.heap.size) (hS : ∀ b, S b → S' b) : FrAt S' w' n v f := by
  obtain ⟨⟨a, c, e, hm'⟩, h2, h3, h4⟩ := h
  exact ⟨⟨a, c, e, hm'.turn hm k hs hS⟩, h2, h3, h4⟩

theorem PicksAt.turn {w w' : World} {v : Value} {L : List Int} {fb : Nat} {S : Nat → Prop} (h : PicksAt w v L) (hv : ∀ b, v.ownBlock = some b → S b) (hm : ∃ es c, w.heap[fb]? = some (.map es c)) (k : ∀ b, S b → b ≠ fb → w'.heap[b]? = w.heap[b]?) (hs : w.heap.size ≤ w'.heap.size) : PicksAt w' v L := by
  obtain ⟨a, c, rfl, h1, h2, h3⟩ := h
  refine ⟨a, c, rfl, h1, h2, ?_⟩
  rcases h3 with h | ⟨b, o, rfl, hb, hc⟩
  · exact .inl h
  · by_cases hL : L = []
    · exact .inl hL
    · have h0 : 0 < L.length := List.length_pos_iff.2 hL
      have hne : b ≠ fb := cell_noMap (hc 0 h0) hm
      exact .inr ⟨b, o, rfl, Nat.lt_of_lt_of_le hb hs, fun i hi => (World.cell?_of_block (w := w) (a := ⟨b, o + i, none⟩) (k b (hv b rfl) hne)).trans (hc i hi)⟩

theorem FrsAt.turn {S S' : Nat → Prop} {w w' : World} {D : DataW Value} {F : Nat → Option FrV} {fb : Nat} (h : FrsAt S w D F) (hm : ∃ es c, w.heap[fb]? = some (.map es c)) (k : ∀ b, S b → b ≠ fb → w'.heap[b]? = w.heap[b]?) (hs : w.heap.size ≤ w'.heap.size) (hS : ∀ b, S b → S' b) : FrsAt S' w' D F :=
  ⟨h.no, fun n f hn e => ⟨(h.yes n f hn e).1, (h.yes n f hn e).2.turn hm k hs hS⟩, h.keys⟩

def setFr (F : Nat → Option FrV) (n : Nat) (f : FrV) : Nat → Option FrV := fun q => if q = n then some f else F q
def delFr (F : Nat → Option FrV) (n : Nat) : Nat → Option FrV := fun q => if q = n then none else F q

theorem FrsAt.put {S : Nat → Prop} {w : World} {D : DataW Value} {F : Nat → Option FrV} (h : FrsAt S w D F) (hI : Maps.IsMap D) {n : Nat} (h1 : 1 ≤ n) (h2 : n ≤ 2048) {v : Value} {f : FrV} (hv : FrAt S w n v f) : FrsAt S w (D.put (keyL n) (.held v)) (setFr F n f) := by
  refine ⟨fun q hq e => ?_, fun q g hq e => ?_, fun l hl => ?_⟩
  · unfold setFr at e
    split at e
    · cases e
    · rename_i hne
      rw [Maps.has_put_other (keyL_ne hne)]
      exact h.no q hq e
  · unfold setFr at e
    split at e
    · rename_i heq
      subst heq
      cases e
      refine ⟨Maps.has_put_same hI (keyL_lit q) _, ?_⟩
      rw [getV_put_same hI (keyL_lit q)]
      exact hv
    · rename_i hne
      rw [Maps.has_put_other (keyL_ne hne), getV_put_other (keyL_ne hne)]
      exact h.yes q g hq e
  · by_cases e : l = keyL n
    · exact ⟨n, h1, h2, e⟩
    · rw [Maps.has_put_other e] at hl
      exact h.keys l hl

/-- The pool with another map. -/
theorem PoolAt.turn {w w' : World} {p fb : Nat} {pv : Value} {D D' : DataW Value} {S S' : Nat → Prop} {P : PG} (h : PoolAt w p fb pv D S P) (k : ∀ b, S b → b ≠ fb → w'.heap[b]? = w.heap[b]?) (hs : w.heap.size ≤ w'.heap.size) (hS : ∀ b, S b → S' b) (hlt : ∀ b, S' b → b < w'.heap.size) {z' : Nat} {F' : Nat → Option FrV}
    (hM : MapV 46 w' fb z' D') (hF : FrsAt S' w' D' F') : PoolAt w' p fb pv D' S' { P with F := F', z := z' } :=
  ⟨h.blk.same (k p h.sp (Ne.symm h.pf)), hM, hF, h.picks.turn h.sv h.map.isMap k hs, hS p h.sp, hS fb h.sf, fun b e => hS b (h.sv b e), h.sq, hlt⟩

end Go.Proofs.YtjemeopafkafgaaGreat

namespace Go.Proofs.YtjemeopafkafgaaGreat
open Go.RowKit Go.Sort
set_option linter.unusedVariables false

/-- What makeRoom makes of a pool, its log and its disk. -/
def RoomTo (p : Nat) (P : PG) (l : LG) (d : DG) (P1 : PG) (l1 : LG) (d1 : DG) : Prop :=
  ∀ W A, Sys W p A P l d → Calls Tryz.prog 90 #[.pointer (some ⟨p, 0, none⟩)] W fun e w' => e = .returned (.int .i64 0) ∧ ∃ A', Sys w' p A' P1 l1 d1 ∧ Moves A A' W w'

theorem Sys.drewN {w : World} {p : Nat} {A : Nat → Prop} {P : PG} {l : LG} {d : DG} (h : Sys w p A P l d) (n : Nat) : Sys (w.drewN n) p A P l d := h.same (fun _ _ => rfl) (Nat.le_refl _)

set_option maxHeartbeats 1600000 in
set_option maxRecDepth 60000 in
theorem room_roomy {p : Nat} {P : PG} {l : LG} {d : DG} (h1 : P.z < P.most) (h2 : P.most ≤ 1000000) : RoomTo p P l d P l d := by
  intro W A hS
  have HS := hid hS
  obtain ⟨⟨S, L, D, ⟨fb, pv, M, hP⟩, _⟩, _, _⟩ := hS
  have c2 := hP.cells.c2
  have c3 := hP.cells.c3
  have hlen' : ∀ ty, (Builtin.len_ #[105] ty #[.map (some fb)]).run Tryz.prog W.drew = .ok (.int .i64 P.z) W.drew := fun ty => by
    have := (hP.map.same (w' := W.drew) rfl).1.len (t := 105) (e := 169) Tryz.underlying105 ty
    rw [hP.map.2] at this
    exact this
  have h1' : (P.z : Int) < P.most := by omega
  clear hP
  go_enter Tryz.func90, Tryz.ntmps90
  go_wp2_with fail
  go_region
  go_wp2
  go_ret
  exact ⟨rfl, A, HS.out.drewN 1, Moves.of_kept ((Kept.refl _ _).drewN _)⟩

end Go.Proofs.YtjemeopafkafgaaGreat

namespace Go.Proofs.YtjemeopafkafgaaGreat
open Go.RowKit Go.Sort
set_option linter.unusedVariables false

/-- Since when a page is dirty that is put. -/
def sinceF (old lsn : Nat) : Nat := if old = 0 then max lsn 1 else old

/-- Since when a page is dirty; 0: it is not. -/
def oldS (P : PG) (n : Nat) : Nat := match P.F n with | some f => f.since | none => 0

/-- A page is put into a pool. -/
def putP (P : PG) (X : SheetV) : PG := { P with F := setFr P.F X.num ⟨X, sinceF (oldS P X.num) X.lsn⟩, z := if (P.F X.num).isSome = true then P.z else P.z + 1 }

def frArr (f : FrV) (a : Option Addr) (c : Nat) : Array Value := #[.int .u32 f.sh.num, .int .u64 f.sh.lsn, .int .i64 f.sh.kind, .string f.sh.head, .slice a f.sh.slots.length c, .int .u64 f.since]

theorem frameZero (w : World) : (zeroValue 169).run Tryz.prog w = .ok zeroF w := Tryz.zeroValue169 w

/-- What a look-up of a frame tells. -/
theorem PoolAt.look {w : World} {p fb : Nat} {pv : Value} {M : DataW Value} {S : Nat → Prop} {P : PG} (h : PoolAt w p fb pv M S P) {n : Nat} (hn : n < 4294967296) :
    (P.F n = none → (Instr.lookup 105 (.map (some fb)) (.int .u32 n) true).run Tryz.prog w = .ok (.tuple #[zeroF, .bool false]) w) ∧
    (∀ f, P.F n = some f → ∃ a c, StrsIn S w a f.sh.slots ∧ (Instr.lookup 105 (.map (some fb)) (.int .u32 n) true).run Tryz.prog w = .ok (.tuple #[.agg (frArr f a c), .bool true]) w) := by
  have hl := h.map.lookOk pageKeyed Tryz.underlying105 (frameZero w) (keyL_key hn)
  refine ⟨fun e => ?_, fun f e => ?_⟩
  · have h1 := h.frs.no n hn e
    rw [h1, getV_none h1] at hl
    exact hl
  · obtain ⟨h1, ⟨a, c, ev, hm⟩, _⟩ := h.frs.yes n f hn e
    rw [h1, ev] at hl
    exact ⟨a, c, hm, hl⟩

/-- Where Put stands: the boxes of the page and of the frame, behind the look-up. -/
structure PuAt (w W : World) (p : Nat) (A0 A : Nat → Prop) (P : PG) (l : LG) (d : DG) (X : SheetV) (a : Option Addr) (c q : Nat) (fc : Array Value) : Prop where
  sys : Sys W p A P l d
  x : Blk W w.heap.size (X.arr a c) 100
  f : Blk W q fc 169
  l1 : w.heap.size < q
  l2 : q < W.heap.size
  nx : ¬ A w.heap.size
  nq : ¬ A q
  mv : Moves A0 A w W

/-- A step that turns only blocks that are new. -/
theorem Moves.late {S S' T : Nat → Prop} {u v w : World} (h : Moves S S' u v) (k : Kept T v w) (ht : ∀ b, T b → u.heap.size ≤ b) : Moves S S' u w :=
  ⟨⟨k.os.trans h.1.os, k.tape.trans h.1.tape, k.output.trans h.1.output, Nat.le_trans h.1.size k.size, fun i hi hs => (k.block i (Nat.lt_of_lt_of_le hi h.1.size) fun x => by have := ht i x; omega).trans (h.1.block i hi hs)⟩, h.2⟩

theorem StrsIn.moved {A A' : Nat → Prop} {W W' : World} {a : Option Addr} {L : List ByteArray} (h : StrsIn (fun b => ¬ A b) W a L) (hm : Moves A A' W W') : StrsIn (fun b => ¬ A' b) W' a L := by
  rcases h with e | ⟨b, o, e, g1, g2, g3⟩
  · exact .inl e
  · have k3 := hm.off g2 g1
    exact .inr ⟨b, o, e, k3.2, Nat.lt_of_lt_of_le g2 hm.1.size, fun i hi => (World.cell?_of_block (w := W) (a := ⟨b, o + i, none⟩) k3.1).trans (g3 i hi)⟩

theorem PuAt.moved {w W W' : World} {p : Nat} {A0 A A' : Nat → Prop} {P P' : PG} {l l' : LG} {d d' : DG} {X : SheetV} {a : Option Addr} {c q : Nat} {fc : Array Value} (h : PuAt w W p A0 A P l d X a c q fc) (hs : Sys W' p A' P' l' d') (hm : Moves A A' W W') : PuAt w W' p A0 A' P' l' d' X a c q fc := by
  have h1 := h.l1
  have h2 := h.l2
  have k1 := hm.off (r := w.heap.size) (by omega) h.nx
  have k2 := hm.off (r := q) (by omega) h.nq
  exact ⟨hs, h.x.same k1.1, h.f.same k2.1, h1, Nat.lt_of_lt_of_le h2 hm.1.size, k1.2, k2.2, h.mv.trans hm⟩

theorem PuAt.below {w W W' : World} {p : Nat} {A0 A : Nat → Prop} {P : PG} {l : LG} {d : DG} {X : SheetV} {a : Option Addr} {c q : Nat} {fc : Array Value} (h : PuAt w W p A0 A P l d X a c q fc) (hb : Below W.heap.size W W') : PuAt w W' p A0 A P l d X a c q fc :=
  h.moved (h.sys.below hb) (Moves.of_kept (Kept.of_below hb))

theorem PuAt.setF {w W : World} {p : Nat} {A0 A : Nat → Prop} {P : PG} {l : LG} {d : DG} {X : SheetV} {a : Option Addr} {c q : Nat} {fc : Array Value} (h : PuAt w W p A0 A P l d X a c q fc) (i : Nat) (v : Value) : PuAt w (W.setCell ⟨q, i, none⟩ v) p A0 A P l d X a c q (fc.setIfInBounds i v) := by
  have h1 := h.l1
  have h2 := h.l2
  have k : ∀ b, b ≠ q → (W.setCell ⟨q, i, none⟩ v).heap[b]? = W.heap[b]? := fun b hb => Below.heap_setCell _ _ _ _ hb
  exact ⟨h.sys.same (fun b hb => k b fun e => h.nq (e ▸ hb)) (by simp), h.x.same (k _ (by omega)), h.f.set i v, h1, by simpa using h2, h.nx, h.nq, h.mv.late (Kept.setCell (fun k => k = q) W q i v rfl) fun k e => by omega⟩

/-- The boxes' cells. -/
structure PuC (w W : World) (X : SheetV) (a : Option Addr) (c q : Nat) (f : FrV) (ga : Option Addr) (gc : Nat) : Prop where
  x0 : W.cell? ⟨w.heap.size, 0, none⟩ = some (.int .u32 X.num)
  x1 : W.cell? ⟨w.heap.size, 1, none⟩ = some (.int .u64 X.lsn)
  x2 : W.cell? ⟨w.heap.size, 2, none⟩ = some (.int .i64 X.kind)
  x3 : W.cell? ⟨w.heap.size, 3, none⟩ = some (.string X.head)
  x4 : W.cell? ⟨w.heap.size, 4, none⟩ = some (.slice a X.slots.length c)
  y0 : W.cell? ⟨q, 0, none⟩ = some (.int .u32 f.sh.num)
  y1 : W.cell? ⟨q, 1, none⟩ = some (.int .u64 f.sh.lsn)
  y2 : W.cell? ⟨q, 2, none⟩ = some (.int .i64 f.sh.kind)
  y3 : W.cell? ⟨q, 3, none⟩ = some (.string f.sh.head)
  y4 : W.cell? ⟨q, 4, none⟩ = some (.slice ga f.sh.slots.length gc)
  y5 : W.cell? ⟨q, 5, none⟩ = some (.int .u64 f.since)
  f0 : W.frozen? ⟨q, 0, none⟩ = false
  f1 : W.frozen? ⟨q, 1, none⟩ = false
  f2 : W.frozen? ⟨q, 2, none⟩ = false
  f3 : W.frozen? ⟨q, 3, none⟩ = false
  f4 : W.frozen? ⟨q, 4, none⟩ = false
  f5 : W.frozen? ⟨q, 5, none⟩ = false

theorem PuAt.cells {w W : World} {p : Nat} {A0 A : Nat → Prop} {P : PG} {l : LG} {d : DG} {X : SheetV} {a : Option Addr} {c q : Nat} {f : FrV} {ga : Option Addr} {gc : Nat} (h : PuAt w W p A0 A P l d X a c q (frArr f ga gc)) : PuC w W X a c q f ga gc :=
  ⟨h.x.cell 0, h.x.cell 1, h.x.cell 2, h.x.cell 3, h.x.cell 4, h.f.cell 0, h.f.cell 1, h.f.cell 2, h.f.cell 3, h.f.cell 4, h.f.cell 5, h.f.frozen 0, h.f.frozen 1, h.f.frozen 2, h.f.frozen 3, h.f.frozen 4, h.f.frozen 5⟩

theorem PuAt.copied {w W : World} {p : Nat} {A0 A : Nat → Prop} {P : PG} {l : LG} {d : DG} {X : SheetV} {a : Option Addr} {c q : Nat} {f : FrV} {ga : Option Addr} {gc : Nat} (h : PuAt w W p A0 A P l d X a c q (frArr f ga gc)) (b k : Nat) :
    PuAt w (store5 W q (.int .u32 X.num) (.int .u64 X.lsn) (.int .i64 X.kind) (.string X.head) (.slice (some ⟨b, 0, none⟩) X.slots.length k)) p A0 A P l d X a c q (frArr ⟨X, f.since⟩ (some ⟨b, 0, none⟩) k) :=
  ((((h.setF 0 _).setF 1 _).setF 2 _).setF 3 _).setF 4 _

theorem PuAt.sinced {w W : World} {p : Nat} {A0 A : Nat → Prop} {P : PG} {l : LG} {d : DG} {X : SheetV} {a : Option Addr} {c q : Nat} {f : FrV} {ga : Option Addr} {gc : Nat} (h : PuAt w W p A0 A P l d X a c q (frArr f ga gc)) (n : Nat) :
    PuAt w (W.setCell ⟨q, 5, none⟩ (.int .u64 n)) p A0 A P l d X a c q (frArr ⟨f.sh, n⟩ ga gc) := h.setF 5 _

/-- The frame is put into the map. -/
theorem PuAt.done {w W : World} {p : Nat} {A0 A : Nat → Prop} {P : PG} {l : LG} {d : DG} {X : SheetV} {a : Option Addr} {c q : Nat} {fc : Array Value} (h : PuAt w W p A0 A P l d X a c q fc) {b k : Nat} (hb : w.heap.size ≤ b) (hnA : ¬ A b) (hS : StrsFrom w.heap.size W (some ⟨b, 0, none⟩) X.slots) (hbl : b < W.heap.size) (hF : X.Fits) (h1 : 1 ≤ X.num) (h2 : X.num ≤ 2048) (hz : P.z ≤ 1000000) (sn : Nat) (hsn : sn < 18446744073709551616) :
    ∃ (fb : Nat) (u : World → World), W.cell? ⟨p, 3, none⟩ = some (.map (some fb)) ∧ (Instr.mapUpdate 105 (.map (some fb)) (.int .u32 X.num) (.agg (frArr ⟨X, sn⟩ (some ⟨b, 0, none⟩) k))).run Tryz.prog W.drew = .ok () (u W.drew) ∧
      ∃ A', Sys (u W.drew) p A' { P with F := setFr P.F X.num ⟨X, sn⟩, z := if (P.F X.num).isSome = true then P.z else P.z + 1 } l d ∧ Moves A0 A' w (u W.drew) := by
  obtain ⟨⟨S, L, D, ⟨fb, pv, M, hP⟩, hL, hD, g4, g5, g6, g7⟩, g8, g9⟩ := h.sys
  obtain ⟨u, hu⟩ := put_ex 46 105 169 fb (.int .u32 X.num) (.agg (frArr ⟨X, sn⟩ (some ⟨b, 0, none⟩) k))
  obtain ⟨hrun, hM, ht⟩ := hu W.drew P.z M (keyL X.num) (hP.map.same rfl) pageKeyed Tryz.underlying105 hz (keyL_key (by omega))
  have hk : Kept (fun k => k = fb) W.drew (u W.drew) := mapTurned_kept ht rfl
  have hkb : ∀ k, k < W.heap.size → k ≠ fb → (u W.drew).heap[k]? = W.heap[k]? := fun k hk' hne => hk.block k hk' hne
  have hsz : W.heap.size ≤ (u W.drew).heap.size := hk.size
  have hI : Maps.IsMap M := (hP.map.tidy pageKeyed).isMap
  have hzz : Maps.size (M.put (keyL X.num) (.held (.agg (frArr ⟨X, sn⟩ (some ⟨b, 0, none⟩) k)))) = if (P.F X.num).isSome = true then P.z else P.z + 1 := by
    rw [Maps.size_put (hP.map.tidy pageKeyed), hP.map.2]
    cases e : P.F X.num with
    | none => rw [hP.frs.no _ (by omega) e]; rfl
    | some f => rw [(hP.frs.yes _ f (by omega) e).1]; rfl
  rw [hzz] at hM
  have hbm : ∀ (i : Nat) (hi : i < X.slots.length), b ≠ fb := fun i hi => by
    rcases hS with e | ⟨b', o', e, _, _, hc⟩
    · rw [e] at hi; simp at hi
    · cases e; exact cell_noMap (hc i hi) hP.map.isMap
  have hfr : FrAt (fun k => S k ∨ k = b) (u W.drew) X.num (.agg (frArr ⟨X, sn⟩ (some ⟨b, 0, none⟩) k)) ⟨X, sn⟩ := by
    refine ⟨⟨_, _, rfl, ?_⟩, hF, rfl, hsn⟩
    rcases hS with e | ⟨b', o', e, _, _, hc⟩
    · exact .inl e
    · cases e
      exact .inr ⟨b, 0, rfl, .inr rfl, Nat.lt_of_lt_of_le hbl hsz, fun i hi => (World.cell?_of_block (w := W) (a := ⟨b, 0 + i, none⟩) (hkb b hbl (hbm i hi))).trans (hc i hi)⟩
  have hF1 : FrsAt (fun k => S k ∨ k = b) (u W.drew) M P.F := hP.frs.turn hP.map.isMap (fun k hk' hne => hkb k (hP.lt k hk') hne) hsz fun k x => .inl x
  have hP' := hP.turn (S' := fun k => S k ∨ k = b) (fun k hk' hne => hkb k (hP.lt k hk') hne) hsz (fun k x => .inl x) (by rintro k (x | rfl); exact Nat.lt_of_lt_of_le (hP.lt k x) hsz; exact Nat.lt_of_lt_of_le hbl hsz) hM (hF1.put hI h1 h2 hfr)
  have nfL : ∀ k, L k → k ≠ fb := fun k hk' e => g4 fb hP.sf (e ▸ hk')
  have nfD : ∀ k, D k → k ≠ fb := fun k hk' e => g5 fb hP.sf (e ▸ hk')
  refine ⟨fb, u, hP.cells.c3, hrun, fun k => A k ∨ k = b, ⟨⟨fun k => S k ∨ k = b, L, D, ⟨fb, pv, _, hP'⟩, hL.same (fun k hk' => hkb k (hL.lt hk') (nfL k hk')) hsz, hD.same (fun k hk' => hkb k (hD.lt hk') (nfD k hk')) hsz, ?_, ?_, g6, ?_⟩, g8, ?_⟩, ?_⟩
  · rintro k (x | rfl) y
    · exact g4 k x y
    · exact hnA (g7 k (.inr (.inl y)))
  · rintro k (x | rfl) y
    · exact g5 k x y
    · exact hnA (g7 k (.inr (.inr y)))
  · rintro k ((x | rfl) | x)
    · exact .inl (g7 k (.inl x))
    · exact .inr rfl
    · exact .inl (g7 k (.inr x))
  · rintro k (x | rfl)
    · exact Nat.lt_of_lt_of_le (g9 k x) hsz
    · exact Nat.lt_of_lt_of_le hbl hsz
  · have hmv := h.mv
    refine ⟨⟨hk.os.trans hmv.1.os, hk.tape.trans hmv.1.tape, hk.output.trans hmv.1.output, Nat.le_trans hmv.1.size hsz, fun i hi hs => ?_⟩, ?_⟩
    · have k1 := hmv.off hi hs
      exact (hkb i (Nat.lt_of_lt_of_le hi hmv.1.size) fun e => k1.2 (e ▸ g7 fb (.inl hP.sf))).trans k1.1
    · rintro k (x | rfl)
      · exact hmv.2 k x
      · exact .inr hb

/-- The look-up of a frame, and of what is no frame. -/
theorem PoolAt.looks {w : World} {p fb : Nat} {pv : Value} {M : DataW Value} {S : Nat → Prop} {P : PG} (h : PoolAt w p fb pv M S P) {n : Nat} (hn : n < 4294967296) :
    ∃ (g : FrV) (ga : Option Addr) (gc : Nat), (∀ w', Below w.heap.size w w' → (Instr.lookup 105 (.map (some fb)) (.int .u32 n) true).run Tryz.prog w' = .ok (.tuple #[.agg #[.int .u32 g.sh.num, .int .u64 g.sh.lsn, .int .i64 g.sh.kind, .string g.sh.head, .slice ga g.sh.slots.length gc, .int .u64 g.since], .bool (P.F n).isSome]) w') ∧
      g.since = oldS P n ∧ g.since < 18446744073709551616 ∧ (∀ f, P.F n = some f → g = f ∧ StrsIn S w ga f.sh.slots) := by
  cases e : P.F n with
  | none => exact ⟨⟨sheet0, 0⟩, none, 0, fun w' hb => ((h.below hb).look hn).1 e, by simp only [oldS, e], by show (0 : Nat) < _; omega, fun f hf => by cases hf⟩
  | some f =>
    obtain ⟨h1, ⟨a, c, ev, hm⟩, _, _, h5⟩ := h.frs.yes n f hn e
    refine ⟨f, a, c, fun w' hb => ?_, by simp only [oldS, e], h5, fun g hg => by cases hg; exact ⟨rfl, hm⟩⟩
    have hl' := (h.below hb).map.lookOk pageKeyed Tryz.underlying105 (frameZero w') (keyL_key hn)
    rw [h1, ev] at hl'
    exact hl'

set_option maxHeartbeats 3200000 in
set_option maxRecDepth 8000 in
theorem poolPut_any {w : World} {p : Nat} {A : Nat → Prop} {P P1 : PG} {l l1 : LG} {d d1 : DG} (hS : Sys w p A P l d) (X : SheetV) (a : Option Addr) (c : Nat) (hX : X.Ok w a) (hoff : ∀ b o, a = some ⟨b, o, none⟩ → ¬ A b) (h1 : 1 ≤ X.num) (h2 : X.num ≤ 2048) (hE : encE X = 0)
    (hR : P.F X.num = none → RoomTo p P l d P1 l1 d1 ∧ P1.F X.num = none) (hR' : P.F X.num ≠ none → P1 = P ∧ l1 = l ∧ d1 = d) (hz : P1.z ≤ 1000000) :
    Calls Tryz.prog 33 #[.pointer (some ⟨p, 0, none⟩), X.val a c] w fun e w' => e = .returned (.int .i64 0) ∧ ∃ A', Sys w' p A' (putP P1 X) l1 d1 ∧ Moves A A' w w' := by
  have hFit : X.Fits := (encE_fits hX).1 hE
  have HEN : Hid (∀ W, Below w.heap.size w W → Calls Tryz.prog 89 #[X.val a c] W fun e w' => e = .returned (.tuple #[.string (encS X), .int .i64 0]) ∧ Below W.heap.size W w') := fun W hb => by
    have := encode_any X a c W (hX.below hb)
    rw [hE] at this
    exact this
  have HMB : Hid (∀ W, Calls Tryz.prog 88 #[.int .u32 X.num] W fun x w' => x = .returned (.bool true) ∧ w' = W) := fun W => by
    have := pmayBe_any X.num W (by omega)
    rw [decide_eq_true (by omega)] at this
    exact this
  have HV : Hid (X.val a c = .agg #[.int .u32 X.num, .int .u64 X.lsn, .int .i64 X.kind, .string X.head, .slice a X.slots.length c]) := rfl
  generalize encS X = ES at *
  obtain ⟨W0, HW0⟩ : ∃ W0, Hid (W0 = w.alloc (.cells #[.int .u32 X.num, .int .u64 X.lsn, .int .i64 X.kind, .string X.head, .slice a X.slots.length c] 100)) := ⟨_, rfl⟩
  have b0 : Below w.heap.size w W0 := by rw [HW0.out]; exact (Below.refl _ _).alloc (Nat.le_refl _) _
  have kx : Blk W0 w.heap.size (X.arr a c) 100 := by rw [HW0.out]; exact Blk.made w _ _
  have x0 : W0.cell? ⟨w.heap.size, 0, none⟩ = some (.int .u32 X.num) := kx.cell 0
  have x1 : W0.cell? ⟨w.heap.size, 1, none⟩ = some (.int .u64 X.lsn) := kx.cell 1
  have x2 : W0.cell? ⟨w.heap.size, 2, none⟩ = some (.int .i64 X.kind) := kx.cell 2
  have x3 : W0.cell? ⟨w.heap.size, 3, none⟩ = some (.string X.head) := kx.cell 3
  have x4 : W0.cell? ⟨w.heap.size, 4, none⟩ = some (.slice a X.slots.length c) := kx.cell 4
  rw [HV.out] at HEN ⊢
  go_enter Tryz.func33, Tryz.ntmps33
  go_wp2_with fail
  rw [← HW0.out]
  refine (HMB.out _).mono ?_
  rintro x w1 ⟨rfl, rfl⟩
  go_wp2_with fail
  refine (HEN.out _ b0).mono ?_
  rintro x w1 ⟨rfl, b1⟩
  have kx1 := kx.same (b1.block _ kx.lt)
  have hS1 := (hS.below b0).below b1
  have bel1 := below_chain b0 b1
  have z1 : w.heap.size < w1.heap.size := Nat.lt_of_lt_of_le kx.lt b1.size
  clear x0 x1 x2 x3 x4 kx b0 b1 HW0 HEN HMB
  obtain ⟨⟨S, L, DD, ⟨fb, pv, M, hP⟩, hRR⟩, hld, hlt⟩ := id hS1
  obtain ⟨g, ga, gc, hlook, hold, hg64, hyes⟩ := hP.looks (n := X.num) (by omega)
  have x0 : w1.cell? ⟨w.heap.size, 0, none⟩ = some (.int .u32 X.num) := kx1.cell 0
  have c3 := hP.cells.c3
  have hpl : p < w1.heap.size := hP.lt p hP.sp
  have k1 := hlook w1.drew (Below.refl _ _).drew
  have k2 := hlook (w1.alloc (.cells #[.int .u32 0, .int .u64 0, .int .i64 0, .string ⟨#[]⟩, .slice none 0 0, .int .u64 0] 169)).drew ((Below.refl _ _).alloc (Nat.le_refl _) _).drew
  have HYS := hid hyes
  clear hlook hyes
  have HHE : Hid ((P.F X.num).isSome = true ∨ (P.F X.num).isSome = false) := by show _ ∨ _; cases (P.F X.num).isSome <;> simp
  obtain ⟨here, hhere⟩ : ∃ here, here = (P.F X.num).isSome := ⟨_, rfl⟩
  rw [← hhere] at k1 k2
  have HH := hid hhere
  clear hhere HHE
  have HOLD := hid hold
  have H64 := hid hg64
  clear hold hg64
  have nA1 : ∀ k, w.heap.size ≤ k → ¬ A k := fun k hk hA => by have := hS.lt k hA; omega
  have hxs : StrsIn (fun b => ¬ A b) w1 a X.slots := by
    rcases hX.mem with e | ⟨b, o, e, g2, g3⟩
    · exact .inl e
    · exact .inr ⟨b, o, e, hoff b o e, Nat.lt_of_lt_of_le g2 bel1.size, fun i hi => (bel1.cell (p := ⟨b, o + i, none⟩) g2).trans (g3 i hi)⟩
  go_upto_region 6 with fail
  go_cut [7, 8] from 26 to 35 (fun np hv wx => np = .pointer (some ⟨w1.heap.size, 0, none⟩) ∧ hv = .bool here ∧ Hid (Blk wx w1.heap.size (frArr g ga gc) 169 ∧ Below w1.heap.size w1 wx))
  case first =>
    go_region
    all_goals
      go_wp2_with fail
      go_meet
      case rel => exact ⟨rfl, rfl, ⟨Blk.made w1 _ _, ((Below.refl _ _).alloc (Nat.le_refl _) _).drew⟩⟩
  case rest =>
    obtain ⟨rfl, rfl, HB⟩ := hcut
    have HP : PuAt w wc p A A P l d X a c w1.heap.size (frArr g ga gc) := ⟨hS1.below HB.out.2, kx1.same (HB.out.2.block _ z1), HB.out.1, z1, HB.out.1.lt, nA1 _ (Nat.le_refl _), nA1 _ (by omega), Moves.of_kept (Kept.of_below (below_chain bel1 HB.out.2))⟩
    have HBB := HB.out.2
    clear HB
    have HC : Hid (∀ (W : World), StrsAt W a X.slots → Calls Tryz.prog 91 #[X.val a c] W fun e w' => ∃ b, e = .returned (X.val (some ⟨b, 0, none⟩) X.slots.length) ∧ W.heap.size < b ∧ b < w'.heap.size ∧ RowV w' b X.slots.length (fun j => .string (X.slots.getD j ByteArray.empty)) ∧ Below W.heap.size W w') := fun W hm => pcopyOf_any X a c W (hFit.ok hm)
    rw [HV.out] at HC
    have HXS : Hid (StrsIn (fun b => ¬ A b) wc a X.slots) := hxs.moved (Moves.of_kept (Kept.of_below HBB))
    have HPP := hid HP
    have HR0 : Hid ((P.F X.num).isSome = false → RoomTo p P l d P1 l1 d1 ∧ P1.F X.num = none) := fun e => hR (by simpa using e)
    have HR1 : Hid ((P.F X.num).isSome = true → P1 = P ∧ l1 = l ∧ d1 = d) := fun e => hR' (by intro h; rw [h] at e; cases e)
    generalize hq : w1.heap.size = q at *
    clear hxs HP kx1 hS1 bel1 z1 hP hR hRR hlt hpl c3 x0 k1 k2 hR' HYS hld hX hoff hS hq
    go_upto_if 37 with fail
    go_cut [] from 37 to 42 (fun wx => Hid (∃ A1, PuAt w wx p A A1 P1 l1 d1 X a c q (frArr g ga gc) ∧ StrsIn (fun b => ¬ A1 b) wx a X.slots))
    case first =>
      cases here
      · obtain ⟨hroom, _⟩ := HR0.out HH.out.symm
        go_wp2_with fail
        refine (hroom wc A HPP.out.sys).mono ?_
        rintro e w2 ⟨rfl, h2⟩
        have H2 := hid h2
        clear h2
        go_wp2_with fail
        go_meet
        case rel =>
          obtain ⟨A1, hs2, hm2⟩ := H2.out
          exact ⟨A1, HPP.out.moved hs2 hm2, HXS.out.moved hm2⟩
      · obtain ⟨rfl, rfl, rfl⟩ := HR1.out HH.out.symm
        go_wp2_with fail
        go_meet
        case rel => exact ⟨A, HPP.out, HXS.out⟩
    case rest =>
      rename_i wd
      obtain ⟨A1, H1, hx1⟩ := hcut.out
      clear hcut HPP HXS
      obtain ⟨x0, x1, x2, x3, x4, y0, y1, y2, y3, y4, y5, f0, f1, f2, f3, f4, f5⟩ := H1.cells
      have hmvs := H1.mv.1.size
      have hq1 := H1.l1
      go_wp2_with fail
      refine (HC.out _ hx1.at).mono ?_
      rintro e w4 ⟨b, rfl, hb1, hb2, hrow, b4⟩
      have H4 := H1.below b4
      have hnb : ¬ A1 b := fun hA => by have := H1.sys.lt b hA; omega
      have hst : ∀ j (hj : j < X.slots.length), w4.cell? ⟨b, 0 + j, none⟩ = some (.string X.slots[j]) := fun j hj => by
        rw [Nat.zero_add, (hrow j hj).1]
        show some (Value.string (X.slots.getD j ByteArray.empty)) = _
        rw [List.getD_eq_getElem?_getD, List.getElem?_eq_getElem hj]
        rfl
      have HXV2 : Hid (X.val (some ⟨b, 0, none⟩) X.slots.length = .agg #[.int .u32 X.num, .int .u64 X.lsn, .int .i64 X.kind, .string X.head, .slice (some ⟨b, 0, none⟩) X.slots.length X.slots.length]) := rfl
      rw [HXV2.out]
      clear x0 x1 x2 x3 x4 y0 y1 y2 y3 y4 y5 f0 f1 f2 f3 f4 f5 hrow
      have hqb : q ≠ b := by have := H1.l2; omega
      have hql := H4.l2
      clear H1 hx1 b4
      obtain ⟨x0, x1, x2, x3, x4, y0, y1, y2, y3, y4, y5, f0, f1, f2, f3, f4, f5⟩ := H4.cells
      obtain ⟨W5, HW5⟩ : ∃ W5, Hid (W5 = store5 w4 q (.int .u32 X.num) (.int .u64 X.lsn) (.int .i64 X.kind) (.string X.head) (.slice (some ⟨b, 0, none⟩) X.slots.length X.slots.length)) := ⟨_, rfl⟩
      have H5 : PuAt w W5 p A A1 P1 l1 d1 X a c q (frArr ⟨X, g.since⟩ (some ⟨b, 0, none⟩) X.slots.length) := by rw [HW5.out]; exact H4.copied b _
      have hst5 : StrsFrom w.heap.size W5 (some ⟨b, 0, none⟩) X.slots := by
        rw [HW5.out]
        exact .inr ⟨b, 0, rfl, by omega, by rw [store5_size]; exact hb2, fun j hj => (World.cell?_of_block (w := w4) (a := ⟨b, 0 + j, none⟩) (store5_other _ _ _ _ _ _ _ _ (Ne.symm hqb))).trans (hst j hj)⟩
      have HPT : Hid (∀ SN, SN = sinceF g.since X.lsn → putP P1 X = { P1 with F := setFr P1.F X.num ⟨X, SN⟩, z := if (P1.F X.num).isSome = true then P1.z else P1.z + 1 }) := fun SN e => by
        have ho : oldS P1 X.num = g.since := by
          cases here with
          | false =>
            have h3 := (HR0.out HH.out.symm).2
            have h4 := HOLD.out
            have h5 := HH.out
            unfold oldS at h4 ⊢
            rw [h3]
            cases e6 : P.F X.num with
            | none => rw [e6] at h4; exact h4.symm
            | some f => rw [e6] at h5; cases h5
          | true =>
            obtain ⟨rfl, _, _⟩ := HR1.out HH.out.symm
            exact HOLD.out.symm
        unfold putP
        rw [ho, ← e]
      have hb5 : b < W5.heap.size := by rw [HW5.out, store5_size]; exact hb2
      by_cases hsn : g.since = 0
      · have hsi : (g.since : Int) = 0 := by omega
        have hmx : max (X.lsn : Int) 1 = ((max X.lsn 1 : Nat) : Int) := by omega
        go_upto_region 14 with fail
        rw [show (((((w4.setCell ⟨q, 0, none⟩ (.int .u32 X.num)).setCell ⟨q, 1, none⟩ (.int .u64 X.lsn)).setCell ⟨q, 2, none⟩ (.int .i64 X.kind)).setCell ⟨q, 3, none⟩ (.string X.head)).setCell ⟨q, 4, none⟩ (.slice (some ⟨b, 0, none⟩) X.slots.length X.slots.length)) = W5 from HW5.out.symm]
        obtain ⟨SN, hSNe⟩ : ∃ SN, SN = max X.lsn 1 := ⟨_, rfl⟩
        have hput : putP P1 X = { P1 with F := setFr P1.F X.num ⟨X, SN⟩, z := if (P1.F X.num).isSome = true then P1.z else P1.z + 1 } := HPT.out _ (by unfold sinceF; rw [if_pos hsn, hSNe])
        have hSN : SN < 18446744073709551616 := by have := hFit.lsn; omega
        rw [← hSNe]
        obtain ⟨W6, HW6⟩ : ∃ W6, Hid (W6 = W5.setCell ⟨q, 5, none⟩ (.int .u64 SN)) := ⟨_, rfl⟩
        have H6 : PuAt w W6 p A A1 P1 l1 d1 X a c q (frArr ⟨X, SN⟩ (some ⟨b, 0, none⟩) X.slots.length) := by rw [HW6.out]; exact H5.sinced SN
        have hst6 : StrsFrom w.heap.size W6 (some ⟨b, 0, none⟩) X.slots := by
          rw [HW6.out]
          rcases hst5 with e | ⟨b', o', e, g1, g2, g3⟩
          · exact .inl e
          · cases e
            exact .inr ⟨b, 0, rfl, g1, by simpa using g2, fun j hj => (World.cell?_of_block (w := W5) (a := ⟨b, 0 + j, none⟩) (Below.heap_setCell _ _ _ _ (by show b ≠ q; omega))).trans (g3 j hj)⟩
        have hb6 : b < W6.heap.size := by rw [HW6.out]; simpa using hb5
        rw [← HW6.out]
        clear hSNe hmx
        obtain ⟨fb', u, hc3, hrun, HF⟩ := H6.done (b := b) (k := X.slots.length) (by omega) hnb hst6 hb6 hFit h1 h2 hz SN hSN
        have HFF := hid HF
        obtain ⟨x0, x1, x2, x3, x4, y0, y1, y2, y3, y4, y5, f0, f1, f2, f3, f4, f5⟩ := H6.cells
        unfold frArr at hrun
        simp only at hrun y0 y1 y2 y3 y4 y5
        clear H5 H6 HF
        go_region
        all_goals
          go_wp2
          go_ret
          obtain ⟨A', hA1, hA2⟩ := HFF.out
          exact ⟨rfl, A', by rw [hput]; exact hA1, hA2⟩
      · go_upto_region 14 with fail
        rw [show (((((w4.setCell ⟨q, 0, none⟩ (.int .u32 X.num)).setCell ⟨q, 1, none⟩ (.int .u64 X.lsn)).setCell ⟨q, 2, none⟩ (.int .i64 X.kind)).setCell ⟨q, 3, none⟩ (.string X.head)).setCell ⟨q, 4, none⟩ (.slice (some ⟨b, 0, none⟩) X.slots.length X.slots.length)) = W5 from HW5.out.symm]
        have hput : putP P1 X = { P1 with F := setFr P1.F X.num ⟨X, g.since⟩, z := if (P1.F X.num).isSome = true then P1.z else P1.z + 1 } := HPT.out _ (by unfold sinceF; rw [if_neg hsn])
        obtain ⟨SN, hSNe⟩ : ∃ SN, SN = g.since := ⟨_, rfl⟩
        have hSN : SN < 18446744073709551616 := by rw [hSNe]; exact H64.out
        rw [← hSNe] at H5 hput
        clear hSNe
        obtain ⟨fb', u, hc3, hrun, HF⟩ := H5.done (b := b) (k := X.slots.length) (by omega) hnb hst5 hb5 hFit h1 h2 hz SN hSN
        have HFF := hid HF
        obtain ⟨x0, x1, x2, x3, x4, y0, y1, y2, y3, y4, y5, f0, f1, f2, f3, f4, f5⟩ := H5.cells
        unfold frArr at hrun
        simp only at hrun y0 y1 y2 y3 y4 y5
        clear H5 HF
        go_region
        all_goals
          go_wp2
          go_ret
          obtain ⟨A', hA1, hA2⟩ := HFF.out
          exact ⟨rfl, A', by rw [hput]; exact hA1, hA2⟩

end Go.Proofs.YtjemeopafkafgaaGreat

namespace Go.Proofs.YtjemeopafkafgaaGreat
open Go.RowKit Go.Sort
set_option linter.unusedVariables false

/-- The texts of what pcopyOf hands back. -/
theorem copied_strs {B b : Nat} {w : World} {L : List ByteArray} (h1 : B ≤ b) (h2 : b < w.heap.size) (h : RowV w b L.length (fun j => .string (L.getD j ByteArray.empty))) : StrsFrom B w (some ⟨b, 0, none⟩) L :=
  .inr ⟨b, 0, rfl, h1, h2, fun j hj => by
    rw [Nat.zero_add, (h j hj).1]
    show some (Value.string (L.getD j ByteArray.empty)) = _
    rw [List.getD_eq_getElem?_getD, List.getElem?_eq_getElem hj]
    rfl⟩

set_option maxHeartbeats 1600000 in
set_option maxRecDepth 8000 in
theorem get_here {w : World} {p : Nat} {A : Nat → Prop} {P : PG} {l : LG} {d : DG} (hS : Sys w p A P l d) (n : Nat) (h1 : 1 ≤ n) (h2 : n ≤ 2048) {f : FrV} (hf : P.F n = some f) :
    Calls Tryz.prog 92 #[.pointer (some ⟨p, 0, none⟩), .int .u32 n] w (ShOut w f.sh fun v => .returned (.tuple #[v, .int .i64 0])) := by
  have HMB : Hid (∀ W, Calls Tryz.prog 88 #[.int .u32 n] W fun x w' => x = .returned (.bool true) ∧ W = w') := fun W => by
    have := pmayBe_any n W (by omega)
    rw [decide_eq_true (by omega)] at this
    exact this.mono fun x w' h => ⟨h.1, h.2.symm⟩
  obtain ⟨⟨S, L, D, ⟨fb, pv, M, hP⟩, _⟩, _, _⟩ := hS
  obtain ⟨g, ga, gc, hlook, hold, hg64, hyes⟩ := hP.looks (n := n) (by omega)
  obtain ⟨rfl, hst⟩ := hyes f hf
  rw [hf] at hlook
  have hfit := (hP.frs.yes n g (by omega) hf).2.fits
  have HC : Hid (∀ (W : World), StrsAt W ga g.sh.slots → Calls Tryz.prog 91 #[g.sh.val ga gc] W fun e w' => ∃ b, e = .returned (g.sh.val (some ⟨b, 0, none⟩) g.sh.slots.length) ∧ W.heap.size < b ∧ b < w'.heap.size ∧ RowV w' b g.sh.slots.length (fun j => .string (g.sh.slots.getD j ByteArray.empty)) ∧ Below W.heap.size W w') := fun W hm => pcopyOf_any g.sh ga gc W (hfit.ok hm)
  have HV : Hid (g.sh.val ga gc = .agg #[.int .u32 g.sh.num, .int .u64 g.sh.lsn, .int .i64 g.sh.kind, .string g.sh.head, .slice ga g.sh.slots.length gc]) := rfl
  rw [HV.out] at HC
  have c3 := hP.cells.c3
  have hpl : p < w.heap.size := hP.lt p hP.sp
  obtain ⟨W0, HW0⟩ : ∃ W0, Hid (W0 = w.alloc (.cells #[.int .u32 0, .int .u64 0, .int .i64 0, .string ⟨#[]⟩, .slice none 0 0] 100)) := ⟨_, rfl⟩
  have b0 : Below w.heap.size w W0 := by rw [HW0.out]; exact (Below.refl _ _).alloc (Nat.le_refl _) _
  have kz : Blk W0 w.heap.size zero5 100 := by rw [HW0.out]; exact Blk.made w _ _
  have c3' : W0.cell? ⟨p, 3, none⟩ = some (.map (some fb)) := (b0.cell (p := ⟨p, 3, none⟩) hpl).trans c3
  have k1 := hlook W0 b0
  have HST := hid hst
  clear hP hlook hold hf hst c3 hyes
  simp only [Option.isSome] at k1
  go_enter Tryz.func92, Tryz.ntmps92
  go_wp2_with fail
  rw [← HW0.out]
  refine (HMB.out _).mono ?_
  rintro x w1 ⟨rfl, rfl⟩
  obtain ⟨W2, HW2⟩ : ∃ W2, Hid (W2 = W0.alloc (.cells #[.int .u32 g.sh.num, .int .u64 g.sh.lsn, .int .i64 g.sh.kind, .string g.sh.head, .slice ga g.sh.slots.length gc, .int .u64 g.since] 169)) := ⟨_, rfl⟩
  have b2 : Below W0.heap.size W0 W2 := by rw [HW2.out]; exact (Below.refl _ _).alloc (Nat.le_refl _) _
  go_wp2_with fail
  rw [← HW2.out]
  have bel2 := below_chain b0 b2
  refine (HC.out _ (HST.out.at.below bel2)).mono ?_
  rintro e w3 ⟨b, rfl, hb1, hb2, hrow, b3⟩
  have bel3 := below_chain bel2 b3
  have zz := bel2.size
  have kz3 := (kz.same (b2.block _ kz.lt)).same (b3.block _ (Nat.lt_of_lt_of_le kz.lt b2.size))
  have HXV : Hid (g.sh.val (some ⟨b, 0, none⟩) g.sh.slots.length = .agg #[.int .u32 g.sh.num, .int .u64 g.sh.lsn, .int .i64 g.sh.kind, .string g.sh.head, .slice (some ⟨b, 0, none⟩) g.sh.slots.length g.sh.slots.length]) := rfl
  rw [HXV.out]
  clear HW0 HW2 kz k1 c3'
  have f0 := kz3.frozen 0
  have f1 := kz3.frozen 1
  have f2 := kz3.frozen 2
  have f3 := kz3.frozen 3
  have f4 := kz3.frozen 4
  have e0 : w3.cell? ⟨w.heap.size, 0, none⟩ = some (.int .u32 0) := kz3.cell 0
  have e1 : w3.cell? ⟨w.heap.size, 1, none⟩ = some (.int .u64 0) := kz3.cell 1
  have e2 : w3.cell? ⟨w.heap.size, 2, none⟩ = some (.int .i64 0) := kz3.cell 2
  have e3 : w3.cell? ⟨w.heap.size, 3, none⟩ = some (.string ⟨#[]⟩) := kz3.cell 3
  have e4 : w3.cell? ⟨w.heap.size, 4, none⟩ = some (.slice none 0 0) := kz3.cell 4
  have hst3 : StrsFrom (w.heap.size + 1) w3 (some ⟨b, 0, none⟩) g.sh.slots := copied_strs (by omega) hb2 hrow
  go_wp2
  refine bodyPost_ret (v := .tuple #[.agg #[.int .u32 g.sh.num, .int .u64 g.sh.lsn, .int .i64 g.sh.kind, .string g.sh.head, .slice (some ⟨b, 0, none⟩) g.sh.slots.length g.sh.slots.length], .int .i64 0]) (by simp [results, Tryz.results92, go_sem, e0, e1, e2, e3, e4]) rfl ?_
  exact ⟨⟨some ⟨b, 0, none⟩, g.sh.slots.length, rfl, (hst3.store5 (by omega) _ _ _ _ _).mono (by omega), below_set5 bel3 (Nat.le_refl _) _ _ _ _ _⟩⟩

end Go.Proofs.YtjemeopafkafgaaGreat

namespace Go.Proofs.YtjemeopafkafgaaGreat
open Go.RowKit Go.Sort Go.Shelf
set_option linter.unusedVariables false
set_option linter.unusedSimpArgs false

/-- A new pool. -/
def pool0 (dp lp most : Nat) : PG := ⟨dp, lp, most, fun _ => none, 0, [], 0, 0⟩

set_option maxHeartbeats 800000 in
set_option maxRecDepth 60000 in
theorem pnew_ok (w : World) (dp lp most : Nat) (h1 : 4 ≤ most) (h2 : most ≤ 256) :
    Calls Tryz.prog 32 #[.pointer (some ⟨dp, 0, none⟩), .pointer (some ⟨lp, 0, none⟩), .int .i64 most] w fun e w' => ∃ p S, e = .returned (.tuple #[.pointer (some ⟨p, 0, none⟩), .int .i64 0]) ∧ IsPool w' p S (pool0 dp lp most) ∧ (∀ k, S k → w.heap.size ≤ k) ∧ Below w.heap.size w w' := by
  have hmm := @run_makeMap Tryz.prog
  have h1' : (4 : Int) ≤ most := by omega
  have h2' : (most : Int) ≤ 256 := by omega
  go_enter Tryz.func32, Tryz.ntmps32
  go_wp2
  go_ret2
  refine ⟨w.heap.size + 1, fun k => k = w.heap.size ∨ k = w.heap.size + 1, rfl, ⟨w.heap.size, .slice none 0 0, .map [], ⟨?_, ?_, ⟨fun n _ _ => rfl, (fun n f _ e => by cases e), (fun l hl => by cases hl)⟩, ⟨none, 0, rfl, Nat.le_refl _, by unfold maxLen; omega, .inl rfl⟩, .inr rfl, .inl rfl, (fun b e => by cases e), (fun b e => by cases e), ?_⟩⟩, (by rintro k (e | e) <;> omega), ((Below.refl _ _).alloc (Nat.le_refl _) _).alloc (by simp) _⟩
  · have h := Blk.made (w.alloc (.map #[] 0)) (pvals w.heap.size (.slice none 0 0) (pool0 dp lp most)) 107
    have e : (w.alloc (.map #[] 0)).heap.size = w.heap.size + 1 := by simp
    rw [e] at h
    exact h
  · exact (MapV.made 46 w).same (heap_old _ _ (by simp))
  · rintro k (e | e)
    · simp; omega
    · simp; omega

section
variable (w : World)

end

end Go.Proofs.YtjemeopafkafgaaGreat

namespace Go.Proofs.YtjemeopafkafgaaGreat
open Go.RowKit Go.Sort Go.Shelf
set_option linter.unusedVariables false
set_option linter.unusedSimpArgs false

/-- A step of the log alone. -/
theorem Sys.log {w : World} {p : Nat} {A : Nat → Prop} {P : PG} {l : LG} {d : DG} (h : Sys w p A P l d) : ∃ L, IsLog w P.lp L l ∧ (∀ k, L k → A k) ∧ ∀ w' L' l', IsLog w' P.lp L' l' → l'.dp = l.dp → Moves L L' w w' → ∃ A', Sys w' p A' P l' d ∧ Moves A A' w w' := by
  obtain ⟨⟨S, L, D, hP, hL, hD, g4, g5, g6, g7⟩, g8, g9⟩ := h
  refine ⟨L, hL, fun k x => g7 k (.inr (.inl x)), fun w' L' l' hL' hdp hm => ?_⟩
  have kP := hP.beside hm g4
  have kD := hD.beside hm fun k x y => g6 k y x
  refine ⟨fun k => S k ∨ L' k ∨ D k, ⟨⟨S, L', D, kP.1, hL', kD.1, kP.2, g5, fun k x y => kD.2 k y x, fun _ x => x⟩, hdp.trans g8, ?_⟩, hm.1.mono fun k x => g7 k (.inr (.inl x)), ?_⟩
  · rintro k (x | x | x)
    · exact kP.1.lt x
    · exact hL'.lt x
    · exact kD.1.lt x
  · rintro k (x | x | x)
    · exact .inl (g7 k (.inl x))
    · rcases hm.2 k x with y | y
      · exact .inl (g7 k (.inr (.inl y)))
      · exact .inr y
    · exact .inl (g7 k (.inr (.inr x)))

/-- Append, the pool beside it. -/
theorem sys_append {w : World} {p : Nat} {A : Nat → Prop} {P : PG} {l : LG} {d : DG} (h : Sys w p A P l d) (hb : l.bytes.length ≤ 4194304) (hn : l.starts.length ≤ 10000000) (hk : l.kept ≤ 4194304) (s : ByteArray) (h1 : 1 ≤ s.size) (h2 : s.size ≤ 8192) (hm : s.size + 12 + l.kept + l.bytes.length ≤ 4194304) :
    Calls Tryz.prog 56 #[.pointer (some ⟨P.lp, 0, none⟩), .string s] w fun e w' => e = .returned (.tuple #[.int .u64 ((l.bytes.length + 1 : Nat) : Int), .int .i64 0]) ∧ ∃ A', Sys w' p A' P (putG l s) d ∧ Moves A A' w w' := by
  obtain ⟨L, hL, _, hstep⟩ := h.log
  refine (append_out hL hb hn hk s h1 h2 hm).mono ?_
  rintro e w' ⟨rfl, L', hL', hm'⟩
  exact ⟨rfl, hstep w' L' _ hL' rfl hm'⟩

end Go.Proofs.YtjemeopafkafgaaGreat
