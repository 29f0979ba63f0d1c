/-
  The laying of a contract of the library's shelf at this program's numbers (plain text by the library's own command).
  strings.Repeat at this program's numbers, and what the program asks of it: 512 zeros.
  A disk in memory: what its eleven cells hold, where its pages, its loose writes, its log and its plan lie, which blocks are its own, and what of the world a step leaves.
  The disk as plain data, and where it lies in memory.
-/
import Derived.Test.YtgmfgkdecpldeaaGreatProg
import Derived.Shelf.Lays
import Derived.Shelf.Strings.Repeat
import Derived.WalkKit
import Derived.WalkSpells
import Derived.Maps.OwnSet
import Derived.Maps.StringElems
import Derived.Maps.AppendAt
import Derived.Lib.AppendStr
import Derived.WalkLawsBesides
namespace Go.Proofs.YtgmfgkdecpldeaaGreat
open Go.Shelf Go.RowKit

def repeatLays_ren : Go.Shelf.Ren := ⟨fun | 105 => 80 | 212 => 106 | 99 => 107 | 165 => 108 | 166 => 109 | 170 => 110 | 169 => 111 | 263 => 135 | 264 => 136 | 206 => 137 | 240 => 138 | 241 => 139 | 276 => 148 | 277 => 149 | n => n, fun | 9 => 9 | 3 => 3 | 4 => 4 | 20 => 20 | 0 => 0 | 46 => 164 | 109 => 169 | 5 => 5 | 72 => 174 | 76 => 177 | 51 => 53 | 146 => 201 | 53 => 36 | 148 => 203 | 70 => 172 | 37 => 47 | 75 => 176 | 127 => 184 | 164 => 212 | 80 => 140 | n => n, fun | n => n⟩
theorem repeatLays : Go.Proofs.Lays.n105 Tryz.prog repeatLays_ren := {
  mixed := by kernel_rfl
  f99 := Tryz.func107.trans (congrArg some (by kernel_rfl))
  f105 := Tryz.func80.trans (congrArg some (by kernel_rfl))
  f165 := Tryz.func108.trans (congrArg some (by kernel_rfl))
  f166 := Tryz.func109.trans (congrArg some (by kernel_rfl))
  f169 := Tryz.func111.trans (congrArg some (by kernel_rfl))
  f170 := Tryz.func110.trans (congrArg some (by kernel_rfl))
  f206 := Tryz.func137.trans (congrArg some (by kernel_rfl))
  f212 := Tryz.func106.trans (congrArg some (by kernel_rfl))
  f240 := Tryz.func138.trans (congrArg some (by kernel_rfl))
  f241 := Tryz.func139.trans (congrArg some (by kernel_rfl))
  f263 := Tryz.func135.trans (congrArg some (by kernel_rfl))
  f264 := Tryz.func136.trans (congrArg some (by kernel_rfl))
  f276 := Tryz.func148.trans (congrArg some (by kernel_rfl))
  f277 := Tryz.func149.trans (congrArg some (by kernel_rfl))
  t0 := Tryz.underlying0
  a0 := Tryz.isAgg0
  z0 := Tryz.sizeOf0
  v0 := Tryz.zeroValue0
  t3 := Tryz.underlying3
  a3 := Tryz.isAgg3
  z3 := Tryz.sizeOf3
  v3 := Tryz.zeroValue3
  t4 := Tryz.underlying4
  a4 := Tryz.isAgg4
  z4 := Tryz.sizeOf4
  v4 := Tryz.zeroValue4
  t5 := Tryz.underlying5
  a5 := Tryz.isAgg5
  z5 := Tryz.sizeOf5
  v5 := Tryz.zeroValue5
  t9 := Tryz.underlying9
  a9 := Tryz.isAgg9
  z9 := Tryz.sizeOf9
  v9 := Tryz.zeroValue9
  t20 := Tryz.underlying20
  a20 := Tryz.isAgg20
  z20 := Tryz.sizeOf20
  v20 := Tryz.zeroValue20
  t37 := Tryz.underlying47
  a37 := Tryz.isAgg47
  z37 := Tryz.sizeOf47
  v37 := Tryz.zeroValue47
  t46 := Tryz.underlying164
  a46 := Tryz.isAgg164
  z46 := Tryz.sizeOf164
  v46 := Tryz.zeroValue164
  t51 := Tryz.underlying53
  a51 := Tryz.isAgg53
  z51 := Tryz.sizeOf53
  v51 := Tryz.zeroValue53
  t53 := Tryz.underlying36
  a53 := Tryz.isAgg36
  z53 := Tryz.sizeOf36
  v53 := Tryz.zeroValue36
  t70 := Tryz.underlying172
  a70 := Tryz.isAgg172
  z70 := Tryz.sizeOf172
  v70 := Tryz.zeroValue172
  t72 := Tryz.underlying174
  a72 := Tryz.isAgg174
  z72 := Tryz.sizeOf174
  v72 := Tryz.zeroValue174
  t75 := Tryz.underlying176
  a75 := Tryz.isAgg176
  z75 := Tryz.sizeOf176
  v75 := Tryz.zeroValue176
  t76 := Tryz.underlying177
  a76 := Tryz.isAgg177
  z76 := Tryz.sizeOf177
  v76 := Tryz.zeroValue177
  t109 := Tryz.underlying169
  a109 := Tryz.isAgg169
  z109 := Tryz.sizeOf169
  v109 := Tryz.zeroValue169
  t127 := Tryz.underlying184
  a127 := Tryz.isAgg184
  z127 := Tryz.sizeOf184
  v127 := Tryz.zeroValue184
  t146 := Tryz.underlying201
  a146 := Tryz.isAgg201
  z146 := Tryz.sizeOf201
  v146 := Tryz.zeroValue201
  t148 := Tryz.underlying203
  a148 := Tryz.isAgg203
  z148 := Tryz.sizeOf203
  v148 := Tryz.zeroValue203
  t164 := Tryz.underlying212
  a164 := Tryz.isAgg212
  z164 := Tryz.sizeOf212
  v164 := Tryz.zeroValue212 }

theorem repeatExtra : Builder.Extra Tryz.prog repeatLays_ren := {
  sizeBuilder := by kernel_rfl
  liesBuilder := by kernel_rfl
  t5 := Tryz.underlying5
  a5 := Tryz.isAgg5
  z5 := Tryz.sizeOf5
  v5 := Tryz.zeroValue5
  infoByte := by kernel_rfl
  cellsByte := by kernel_rfl
  sizeByte := by kernel_rfl
  neB5 := by decide }

theorem repeatL_one_zero (n : Nat) : Lib.repeatL [0] n = List.replicate n (0 : UInt8) := by
  induction n with
  | zero => rfl
  | succ n ih => rw [List.replicate_succ, ← ih]; rfl

theorem zeros_made (n : Nat) (w : World) (hn : n ≤ 1000000) : Calls Tryz.prog 80 #[.string ⟨#[0]⟩, .int .i64 n] w fun e w' => e = .returned (.string ⟨(List.replicate n 0).toArray⟩) ∧ Below w.heap.size w w' := by
  have h := Any.strings_Repeat repeatLays repeatExtra ⟨#[0]⟩ n w (by omega) (by show 1 * n ≤ _; omega)
  have e : Lib.repeatL (ByteArray.mk #[0]).data.toList n = List.replicate n 0 := repeatL_one_zero n
  rw [e] at h
  exact h

end Go.Proofs.YtgmfgkdecpldeaaGreat

namespace Go.Proofs.YtgmfgkdecpldeaaGreat
open Go.Shelf Go.RowKit

/-- A page of zeros. -/
def dzerosL : List UInt8 := List.replicate 512 0
def zerosS : ByteArray := ⟨dzerosL.toArray⟩

theorem dzeros_any (w : World) : Calls Tryz.prog 80 #[.string ⟨#[0]⟩, .int .i64 512] w fun e w' => e = .returned (.string zerosS) ∧ Below w.heap.size w w' := zeros_made 512 w (by omega)

theorem zerosS_size : zerosS.size = 512 := by
  show dzerosL.toArray.size = 512
  rw [List.size_toArray]
  exact List.length_replicate

end Go.Proofs.YtgmfgkdecpldeaaGreat

namespace Go.Proofs.YtgmfgkdecpldeaaGreat
open Go.RowKit
set_option linter.unusedVariables false

/-- Outside the blocks S, and but for new blocks, w' is as w was. -/
structure Kept (S : Nat → Prop) (w w' : World) : Prop where
  os : w'.os = w.os
  tape : w'.tape = w.tape
  output : w'.output = w.output
  size : w.heap.size ≤ w'.heap.size
  block : ∀ k, k < w.heap.size → ¬ S k → w'.heap[k]? = w.heap[k]?

theorem Kept.refl (S : Nat → Prop) (w : World) : Kept S w w := ⟨rfl, rfl, rfl, Nat.le_refl _, fun _ _ _ => rfl⟩

theorem Kept.trans {S : Nat → Prop} {u v w : World} (h : Kept S u v) (k : Kept S v w) : Kept S u w :=
  ⟨k.os.trans h.os, k.tape.trans h.tape, k.output.trans h.output, Nat.le_trans h.size k.size, fun i hi hs => (k.block i (Nat.lt_of_lt_of_le hi h.size) hs).trans (h.block i hi hs)⟩

theorem Kept.mono {S S' : Nat → Prop} {w w' : World} (h : Kept S w w') (k : ∀ b, S b → S' b) : Kept S' w w' :=
  ⟨h.os, h.tape, h.output, h.size, fun i hi hs => h.block i hi fun x => hs (k i x)⟩

theorem Kept.of_below {S : Nat → Prop} {w w' : World} (h : Below w.heap.size w w') : Kept S w w' := ⟨h.os, h.tape, h.output, h.size, fun k hk _ => h.block k hk⟩

theorem Kept.alloc (S : Nat → Prop) (w : World) (o : Obj) : Kept S w (w.alloc o) := Kept.of_below ((Below.refl _ _).alloc (Nat.le_refl _) o)

theorem Kept.drewN {S : Nat → Prop} {w w' : World} (h : Kept S w w') (n : Nat) : Kept S w (w'.drewN n) := ⟨h.os, h.tape, h.output, h.size, h.block⟩
theorem Kept.drew {S : Nat → Prop} {w w' : World} (h : Kept S w w') : Kept S w w'.drew := ⟨h.os, h.tape, h.output, h.size, h.block⟩

theorem Kept.of_grown {S : Nat → Prop} {w w' : World} {row : Option Nat} (h : w.grownBy w' row) (k : ∀ b, row = some b → S b) : Kept S w w' :=
  ⟨h.os, h.tape, h.output, h.size, fun i hi hs => h.block i hi fun e => hs (k i e.symm)⟩

theorem Kept.setCell (S : Nat → Prop) (w : World) (b i : Nat) (v : Value) (h : S b) : Kept S w (w.setCell ⟨b, i, none⟩ v) :=
  ⟨rfl, rfl, rfl, by simp, fun k _ hk => Below.heap_setCell _ _ _ _ fun e => hk (e ▸ h)⟩

/-- A step of what owns the blocks S, and then S'. -/
def Moves (S S' : Nat → Prop) (w w' : World) : Prop := Kept S w w' ∧ ∀ k, S' k → S k ∨ w.heap.size ≤ k

theorem Moves.refl (S : Nat → Prop) (w : World) : Moves S S w w := ⟨Kept.refl _ _, fun _ h => .inl h⟩

theorem Moves.trans {S S' S'' : Nat → Prop} {u v w : World} (h : Moves S S' u v) (k : Moves S' S'' v w) : Moves S S'' u w :=
  ⟨⟨k.1.os.trans h.1.os, k.1.tape.trans h.1.tape, k.1.output.trans h.1.output, Nat.le_trans h.1.size k.1.size, fun i hi hs =>
      (k.1.block i (Nat.lt_of_lt_of_le hi h.1.size) fun x => by rcases h.2 i x with a | a; exact hs a; omega).trans (h.1.block i hi hs)⟩,
    fun i hi => by
      rcases k.2 i hi with a | a
      · exact h.2 i a
      · exact .inr (Nat.le_trans h.1.size a)⟩

theorem Moves.off {S S' : Nat → Prop} {w w' : World} (h : Moves S S' w w') {r : Nat} (hr : r < w.heap.size) (hs : ¬ S r) : w'.heap[r]? = w.heap[r]? ∧ ¬ S' r :=
  ⟨h.1.block r hr hs, fun x => by rcases h.2 r x with a | a; exact hs a; omega⟩

theorem Moves.kept {S S' : Nat → Prop} {w w' w'' : World} (h : Moves S S' w w') (k : Kept S' w' w'') : Moves S S' w w'' := h.trans ⟨k, fun _ x => .inl x⟩

theorem Moves.of_kept {S : Nat → Prop} {w w' : World} (k : Kept S w w') : Moves S S w w' := ⟨k, fun _ x => .inl x⟩

/-- A block of cells that may all be written. -/
def Blk (w : World) (p : Nat) (cs : Array Value) (t : TypeId) : Prop := w.heap[p]? = some (.cells cs t (0, 0))

theorem Blk.cell {w : World} {p : Nat} {cs : Array Value} {t : TypeId} (h : Blk w p cs t) (i : Nat) : w.cell? ⟨p, i, none⟩ = cs[i]? := by
  unfold Blk at h
  simp [World.cell?, h]

theorem Blk.frozen {w : World} {p : Nat} {cs : Array Value} {t : TypeId} (h : Blk w p cs t) (i : Nat) : w.frozen? ⟨p, i, none⟩ = false := by
  unfold Blk at h
  simp [World.frozen?, h]

theorem Blk.set {w : World} {p : Nat} {cs : Array Value} {t : TypeId} (h : Blk w p cs t) (i : Nat) (v : Value) : Blk (w.setCell ⟨p, i, none⟩ v) p (cs.setIfInBounds i v) t := by
  unfold Blk at h ⊢
  simp [World.setCell, Array.getElem?_modify, h]

theorem Blk.lt {w : World} {p : Nat} {cs : Array Value} {t : TypeId} (h : Blk w p cs t) : p < w.heap.size := by
  unfold Blk at h
  exact (Array.getElem?_eq_some_iff.1 h).1

theorem Blk.same {w w' : World} {p : Nat} {cs : Array Value} {t : TypeId} (h : Blk w p cs t) (e : w'.heap[p]? = w.heap[p]?) : Blk w' p cs t := e.trans h

theorem Blk.made (w : World) (cs : Array Value) (t : TypeId) : Blk (w.alloc (.cells cs t)) w.heap.size cs t := heap_alloc_new w _

/-! The pages. -/

def keyL (p : Nat) : Lit := .int .u32 p

theorem pageKeyed : Maps.Keyed Tryz.prog 54 := Maps.int_keyed (q := .u32) Tryz.underlying54

theorem keyL_wf {p : Nat} (hp : p < 4294967296) : (keyL p).wf = true := by
  unfold keyL
  have h1 : IntKind.u32.min = 0 := by decide
  have h2 : IntKind.u32.max = 4294967295 := by decide
  simp only [Lit.wf, h1, h2, Bool.and_eq_true, decide_eq_true_eq]
  omega

theorem keyL_key {p : Nat} (hp : p < 4294967296) : keyOf Tryz.prog 54 (.int .u32 p) = some (keyL p) := Maps.keyOf_int_mk Tryz.underlying54 (keyL_wf hp)

theorem keyL_lit (p : Nat) : WideAt.IsKeyLit (keyL p) := by simp [keyL, WideAt.IsKeyLit]

theorem keyL_ne {p q : Nat} (h : p ≠ q) : keyL p ≠ keyL q := by
  intro e
  simp only [keyL, Lit.int.injEq, true_and] at e
  omega

/-- Block b is a map of at most n pages: that of p (from 1 on) is f p. -/
def IsPages (w : World) (b n : Nat) (f : Nat → Option ByteArray) : Prop :=
  ∃ D : DataW Unit, w.ownsMap Tryz.prog 54 (plainElem Tryz.prog 9) b n D ∧
    ∀ p, 1 ≤ p → p < 4294967296 → Maps.has D (keyL p) = (f p).isSome ∧ D.atKey (keyL p) (.lit (.string [])) = .lit (.string ((f p).getD ⟨#[]⟩).data.toList)

theorem IsPages.lt {w : World} {b n : Nat} {f : Nat → Option ByteArray} (h : IsPages w b n f) : b < w.heap.size := by
  obtain ⟨D, hD, _⟩ := h
  exact hD.lt

theorem IsPages.isMap {w : World} {b n : Nat} {f : Nat → Option ByteArray} (h : IsPages w b n f) : ∃ es c, w.heap[b]? = some (.map es c) := by
  obtain ⟨D, ⟨es, c, hb, _⟩, _⟩ := h
  exact ⟨es, c, hb⟩

theorem IsPages.same {w w' : World} {b n : Nat} {f : Nat → Option ByteArray} (h : IsPages w b n f) (e : w'.heap[b]? = w.heap[b]?) : IsPages w' b n f := by
  obtain ⟨D, ⟨es, c, hb, k⟩, h2⟩ := h
  exact ⟨D, ⟨es, c, e.trans hb, k⟩, h2⟩

theorem IsPages.mono {w : World} {b n n' : Nat} {f : Nat → Option ByteArray} (h : IsPages w b n f) (e : n ≤ n') : IsPages w b n' f := by
  obtain ⟨D, hD, h2⟩ := h
  exact ⟨D, hD.mono e, h2⟩

theorem IsPages.congr {w : World} {b n : Nat} {f g : Nat → Option ByteArray} (h : IsPages w b n f) (e : ∀ p, 1 ≤ p → f p = g p) : IsPages w b n g := by
  obtain ⟨D, hD, h2⟩ := h
  exact ⟨D, hD, fun p h0 hp => by rw [← e p h0]; exact h2 p h0 hp⟩

theorem IsPages.made (w : World) : IsPages (w.alloc (.map #[] 0)) w.heap.size 0 (fun _ => none) :=
  ⟨.map [], World.ownsMap_made _ _ _ _, fun p _ hp => ⟨rfl, rfl⟩⟩

theorem byteArray_ext {a b : ByteArray} (h : a.data.toList = b.data.toList) : a = b := by
  cases a; cases b
  simp only [ByteArray.mk.injEq]
  exact Array.ext' h

theorem zeroString (w : World) : (zeroValue 9).run Tryz.prog w = .ok (.string ⟨#[]⟩) w := Tryz.zeroValue9 w

theorem IsPages.look {w : World} {b n : Nat} {f : Nat → Option ByteArray} (h : IsPages w b n f) {p : Nat} (h0 : 1 ≤ p) (hp : p < 4294967296) :
    (Instr.lookup 95 (.map (some b)) (.int .u32 p) true).run Tryz.prog w = .ok (.tuple #[.string ((f p).getD ⟨#[]⟩), .bool (f p).isSome]) w := by
  obtain ⟨D, hD, h2⟩ := h
  obtain ⟨v, ps, hr, hv⟩ := hD.look_ok pageKeyed Tryz.underlying95 (zeroString w) (zd := .lit (.string [])) (zp := []) (plainElem_string Tryz.underlying9 (s := ⟨#[]⟩) (by decide)) (keyL_key hp)
  obtain ⟨s, rfl, hz, _⟩ := plainElem_string_inv Tryz.underlying9 hv
  rw [(h2 p h0 hp).2] at hz
  simp only [Prod.mk.injEq, DataW.lit.injEq, Lit.string.injEq] at hz
  rw [hr, (h2 p h0 hp).1, byteArray_ext hz.1.symm]

def setF (f : Nat → Option ByteArray) (p : Nat) (s : ByteArray) : Nat → Option ByteArray := fun q => if q = p then some s else f q

theorem IsPages.put1 {w : World} {b n : Nat} {f : Nat → Option ByteArray} (h : IsPages w b n f) (hn : n ≤ 1000000000) {p : Nat} (hp : p < 4294967296) (s : ByteArray) (hs : s.size ≤ 1000000000) :
    ∃ w', (Instr.mapUpdate 95 (.map (some b)) (.int .u32 p) (.string s)).run Tryz.prog w = .ok () w' ∧ IsPages w' b (n + 1) (setF f p s) ∧ w.mapTurned w' b := by
  obtain ⟨D, hD, h2⟩ := h
  obtain ⟨w', hr, hD', ht⟩ := hD.store pageKeyed Tryz.underlying95 (by unfold maxLen; omega) (keyL_key hp) (plainElem_string Tryz.underlying9 (s := s) (by unfold maxLen; omega))
  refine ⟨w', hr, ⟨_, hD', fun q h0 hq => ?_⟩, ht⟩
  by_cases c : q = p
  · subst c
    simp only [setF, if_pos]
    exact ⟨Maps.has_put_same hD.isMap (keyL_lit q) _, Maps.atKey_put_same hD.isMap (keyL_lit q) _ _⟩
  · simp only [setF, if_neg c]
    rw [Maps.has_put_other (keyL_ne c), Maps.atKey_put_other (keyL_ne c)]
    exact h2 q h0 hq

/-- Putting a page as a function of the world. -/
theorem putP_ex (b p : Nat) (s : ByteArray) : ∃ u : World → World, ∀ (w : World) (n : Nat) (f : Nat → Option ByteArray), IsPages w b n f → n ≤ 1000000000 → p < 4294967296 → s.size ≤ 1000000000 →
    (Instr.mapUpdate 95 (.map (some b)) (.int .u32 p) (.string s)).run Tryz.prog w = .ok () (u w) ∧ IsPages (u w) b (n + 1) (setF f p s) ∧ w.mapTurned (u w) b := by
  refine ⟨fun w => match (Instr.mapUpdate 95 (.map (some b)) (.int .u32 p) (.string s)).run Tryz.prog w with
    | .ok _ w' => w'
    | _ => w, fun w n f h hn hp hs => ?_⟩
  obtain ⟨w', hr, h1, h2⟩ := h.put1 hn hp s hs
  simp only [hr]
  exact ⟨trivial, h1, h2⟩

theorem mapTurned_kept {w w' : World} {b : Nat} (h : w.mapTurned w' b) {S : Nat → Prop} (hb : S b) : Kept S w w' := Kept.of_grown h.grown fun k e => by cases e; exact hb

end Go.Proofs.YtgmfgkdecpldeaaGreat

namespace Go.Proofs.YtgmfgkdecpldeaaGreat
open Go.RowKit
set_option linter.unusedVariables false

/-- The cells of bytes. -/
def dcellsOf (l : List UInt8) : List Value := l.map fun c => .int .u8 (c.toNat : Int)

theorem dstrCells_eq (s : ByteArray) : Lib.strCells s = dcellsOf s.data.toList := by
  unfold Lib.strCells dcellsOf
  rfl

/-- A loose write: of the mark, if the page is 0. -/
structure LW where
  page : Nat
  s : ByteArray
  mark : Nat

/-- A fall. -/
structure FG where
  call : Int
  keep : Nat
  torn : Int
  bytes : Int
  log : Int

def wcells (x : LW) : List Value := [.int .u32 x.page, .string x.s, .int .u64 x.mark]
def fcells (f : FG) : List Value := [.int .i64 f.call, .int .u64 f.keep, .int .i64 f.torn, .int .i64 f.bytes, .int .i64 f.log]

/-- A disk, as plain data: nS, nF are bounds of how many pages its two maps hold. -/
structure DG where
  room : Nat
  dead : Bool
  calls : Nat
  plan : List FG
  sure : Nat → ByteArray
  sm : Nat
  loose : List LW
  fresh : Nat → Option ByteArray
  mark : Nat
  log : List UInt8
  sl : Nat
  nS : Nat
  nF : Nat

/-- Where its parts lie. -/
structure Mem where
  planV : Value
  looseV : Value
  logV : Value
  sure : Nat
  fresh : Nat

def dvals (m : Mem) (d : DG) : Array Value :=
  #[.int .i64 d.room, .bool d.dead, .int .i64 d.calls, m.planV, .map (some m.sure), .int .u64 d.sm, m.looseV, .map (some m.fresh), .int .u64 d.mark, m.logV, .int .i64 d.sl]

def IsFalls (w : World) (v : Value) (l : List FG) : Prop :=
  (v = .slice none 0 0 ∧ l = []) ∨ ∃ g o cap cur, v = .slice (some ⟨g, o, none⟩) l.length cap ∧ l.length ≤ cap ∧ cap ≤ maxLen ∧ Blk w g cur 38 ∧
    ∀ k u, (l.flatMap fcells)[k]? = some u → w.cell? ⟨g, o + k, none⟩ = some u

theorem IsFalls.block {w : World} {v : Value} {l : List FG} (h : IsFalls w v l) {g : Nat} (e : v.ownBlock = some g) : ∃ cur, Blk w g cur 38 := by
  rcases h with ⟨rfl, _⟩ | ⟨g', o, cap, cur, rfl, _, _, hb, _⟩
  · cases e
  · cases e; exact ⟨cur, hb⟩

theorem IsFalls.same {w w' : World} {v : Value} {l : List FG} (h : IsFalls w v l) (e : ∀ g, v.ownBlock = some g → w'.heap[g]? = w.heap[g]?) : IsFalls w' v l := by
  rcases h with ⟨rfl, hl⟩ | ⟨g, o, cap, cur, rfl, h1, h2, hb, hc⟩
  · exact .inl ⟨rfl, hl⟩
  · have e1 := e g rfl
    exact .inr ⟨g, o, cap, cur, rfl, h1, h2, hb.same e1, fun k u hk => (World.cell?_of_block (w := w) (a := ⟨g, o + k, none⟩) e1).trans (hc k u hk)⟩

theorem owns_block {w : World} {e : TypeId} {z n : Nat} {v : Value} {xs : List Value} (h : w.ownsRow 0 e z v n xs) {g : Nat} (k : v.ownBlock = some g) : ∃ cur, Blk w g cur e := by
  rcases h.2 with ⟨rfl, _⟩ | ⟨g', cap, cur, rfl, _, hb, _⟩
  · cases k
  · cases k; exact ⟨cur, hb⟩

theorem owns_same {w w' : World} {e : TypeId} {z n : Nat} {v : Value} {xs : List Value} (h : w.ownsRow 0 e z v n xs) (k : ∀ g, v.ownBlock = some g → w'.heap[g]? = w.heap[g]?) : w'.ownsRow 0 e z v n xs := by
  refine ⟨h.1, ?_⟩
  rcases h.2 with ⟨rfl, h1⟩ | ⟨g', cap, cur, rfl, h0, hb, hr⟩
  · exact .inl ⟨rfl, h1⟩
  · exact .inr ⟨g', cap, cur, rfl, h0, (k g' rfl).trans hb, hr⟩

/-- All but its eleven cells. -/
structure Parts (w : World) (m : Mem) (d : DG) : Prop where
  plan : IsFalls w m.planV d.plan
  sure : ∃ f, IsPages w m.sure d.nS f ∧ ∀ q, 1 ≤ q → q < 4294967296 → (f q).getD zerosS = d.sure q
  fresh : IsPages w m.fresh d.nF d.fresh
  ne : m.sure ≠ m.fresh
  loose : w.ownsRow 0 128 3 m.looseV d.loose.length (d.loose.flatMap wcells)
  log : w.ownsRow 0 5 1 m.logV d.log.length (dcellsOf d.log)

theorem Parts.to {w : World} {m : Mem} {d d' : DG} (h : Parts w m d) (e1 : d'.plan = d.plan) (e2 : d'.sure = d.sure) (e3 : d'.loose = d.loose) (e4 : d'.fresh = d.fresh) (e5 : d'.log = d.log) (e6 : d'.nS = d.nS) (e7 : d'.nF = d.nF) : Parts w m d' :=
  ⟨by rw [e1]; exact h.plan, by rw [e2, e6]; exact h.sure, by rw [e4, e7]; exact h.fresh, h.ne, by rw [e3]; exact h.loose, by rw [e5]; exact h.log⟩

/-- The parts' blocks. -/
def Mem.rest (m : Mem) (k : Nat) : Prop := k = m.sure ∨ k = m.fresh ∨ m.looseV.ownBlock = some k ∨ m.logV.ownBlock = some k ∨ m.planV.ownBlock = some k

theorem Parts.same {w w' : World} {m : Mem} {d : DG} (h : Parts w m d) (e : ∀ k, m.rest k → w'.heap[k]? = w.heap[k]?) : Parts w' m d := by
  obtain ⟨f, hf, hz⟩ := h.sure
  exact ⟨h.plan.same fun g k => e g (.inr (.inr (.inr (.inr k)))), ⟨f, hf.same (e _ (.inl rfl)), hz⟩, h.fresh.same (e _ (.inr (.inl rfl))), h.ne,
    owns_same h.loose fun g k => e g (.inr (.inr (.inl k))), owns_same h.log fun g k => e g (.inr (.inr (.inr (.inl k))))⟩

structure DiskAt (w : World) (p : Nat) (m : Mem) (d : DG) : Prop where
  blk : Blk w p (dvals m d) 98
  parts : Parts w m d

theorem DiskAt.off {w : World} {p : Nat} {m : Mem} {d : DG} (h : DiskAt w p m d) {k : Nat} (hk : m.rest k) : k ≠ p := by
  rintro rfl
  have hb := h.blk
  unfold Blk at hb
  rcases hk with rfl | rfl | hk | hk | hk
  · obtain ⟨f, hf, _⟩ := h.parts.sure
    obtain ⟨es, c, e⟩ := hf.isMap
    rw [e] at hb; cases hb
  · obtain ⟨es, c, e⟩ := h.parts.fresh.isMap
    rw [e] at hb; cases hb
  · obtain ⟨cur, e⟩ := owns_block h.parts.loose hk
    unfold Blk at e; rw [e] at hb
    simp only [Option.some.injEq, Obj.cells.injEq] at hb
    exact absurd hb.2.1 (by decide)
  · obtain ⟨cur, e⟩ := owns_block h.parts.log hk
    unfold Blk at e; rw [e] at hb
    simp only [Option.some.injEq, Obj.cells.injEq] at hb
    exact absurd hb.2.1 (by decide)
  · obtain ⟨cur, e⟩ := h.parts.plan.block hk
    unfold Blk at e; rw [e] at hb
    simp only [Option.some.injEq, Obj.cells.injEq] at hb
    exact absurd hb.2.1 (by decide)

/-- Two blocks of different makes are not one. -/
theorem Parts.apart {w : World} {m : Mem} {d : DG} (h : Parts w m d) :
    (∀ g, m.looseV.ownBlock = some g → g ≠ m.sure ∧ g ≠ m.fresh ∧ m.logV.ownBlock ≠ some g ∧ m.planV.ownBlock ≠ some g) ∧
    (∀ g, m.logV.ownBlock = some g → g ≠ m.sure ∧ g ≠ m.fresh ∧ m.planV.ownBlock ≠ some g) ∧
    (∀ g, m.planV.ownBlock = some g → g ≠ m.sure ∧ g ≠ m.fresh) := by
  obtain ⟨f, hf, _⟩ := h.sure
  obtain ⟨es1, c1, e1⟩ := hf.isMap
  obtain ⟨es2, c2, e2⟩ := h.fresh.isMap
  have nomap : ∀ {g cur t}, Blk w g cur t → g ≠ m.sure ∧ g ≠ m.fresh := fun {g cur t} hb =>
    ⟨(by rintro rfl; unfold Blk at hb; rw [e1] at hb; cases hb), (by rintro rfl; unfold Blk at hb; rw [e2] at hb; cases hb)⟩
  refine ⟨fun g k => ?_, fun g k => ?_, fun g k => ?_⟩
  · obtain ⟨cur, hb⟩ := owns_block h.loose k
    refine ⟨(nomap hb).1, (nomap hb).2, fun k' => ?_, fun k' => ?_⟩
    · obtain ⟨cur', e⟩ := owns_block h.log k'
      unfold Blk at e hb; rw [e] at hb
      simp only [Option.some.injEq, Obj.cells.injEq] at hb
      exact absurd hb.2.1 (by decide)
    · obtain ⟨cur', e⟩ := h.plan.block k'
      unfold Blk at e hb; rw [e] at hb
      simp only [Option.some.injEq, Obj.cells.injEq] at hb
      exact absurd hb.2.1 (by decide)
  · obtain ⟨cur, hb⟩ := owns_block h.log k
    refine ⟨(nomap hb).1, (nomap hb).2, fun k' => ?_⟩
    obtain ⟨cur', e⟩ := h.plan.block k'
    unfold Blk at e hb; rw [e] at hb
    simp only [Option.some.injEq, Obj.cells.injEq] at hb
    exact absurd hb.2.1 (by decide)
  · obtain ⟨cur, hb⟩ := h.plan.block k
    exact nomap hb

def Mem.has (m : Mem) (p k : Nat) : Prop := k = p ∨ m.rest k

/-- A disk in block p, whose blocks are among S. -/
def IsDisk (w : World) (p : Nat) (S : Nat → Prop) (d : DG) : Prop := ∃ m, DiskAt w p m d ∧ (∀ k, m.has p k → S k) ∧ ∀ k, S k → k < w.heap.size

theorem IsDisk.same {w w' : World} {p : Nat} {S : Nat → Prop} {d : DG} (h : IsDisk w p S d) (e : ∀ k, S k → w'.heap[k]? = w.heap[k]?) (hs : w.heap.size ≤ w'.heap.size) : IsDisk w' p S d := by
  obtain ⟨m, hd, h1, h2⟩ := h
  exact ⟨m, ⟨hd.blk.same (e p (h1 p (.inl rfl))), hd.parts.same fun k hk => e k (h1 k (.inr hk))⟩, h1, fun k hk => Nat.lt_of_lt_of_le (h2 k hk) hs⟩

theorem IsDisk.below {w w' : World} {p : Nat} {S : Nat → Prop} {d : DG} (h : IsDisk w p S d) (k : Below w.heap.size w w') : IsDisk w' p S d :=
  h.same (fun i hi => k.block i (by obtain ⟨m, _, _, h2⟩ := h; exact h2 i hi)) k.size

theorem IsDisk.drewN {w : World} {p : Nat} {S : Nat → Prop} {d : DG} (h : IsDisk w p S d) (n : Nat) : IsDisk (w.drewN n) p S d := h.same (fun _ _ => rfl) (Nat.le_refl _)

/-- The disk's cells, one by one. -/
structure Cells (w : World) (p : Nat) (m : Mem) (d : DG) : Prop where
  c0 : w.cell? ⟨p, 0, none⟩ = some (.int .i64 d.room)
  c1 : w.cell? ⟨p, 1, none⟩ = some (.bool d.dead)
  c2 : w.cell? ⟨p, 2, none⟩ = some (.int .i64 d.calls)
  c3 : w.cell? ⟨p, 3, none⟩ = some m.planV
  c4 : w.cell? ⟨p, 4, none⟩ = some (.map (some m.sure))
  c5 : w.cell? ⟨p, 5, none⟩ = some (.int .u64 d.sm)
  c6 : w.cell? ⟨p, 6, none⟩ = some m.looseV
  c7 : w.cell? ⟨p, 7, none⟩ = some (.map (some m.fresh))
  c8 : w.cell? ⟨p, 8, none⟩ = some (.int .u64 d.mark)
  c9 : w.cell? ⟨p, 9, none⟩ = some m.logV
  c10 : w.cell? ⟨p, 10, none⟩ = some (.int .i64 d.sl)
  fr : ∀ i, w.frozen? ⟨p, i, none⟩ = false

theorem Blk.cells {w : World} {p : Nat} {m : Mem} {d : DG} (h : Blk w p (dvals m d) 98) : Cells w p m d :=
  ⟨h.cell 0, h.cell 1, h.cell 2, h.cell 3, h.cell 4, h.cell 5, h.cell 6, h.cell 7, h.cell 8, h.cell 9, h.cell 10, h.frozen⟩

theorem DiskAt.lt {w : World} {p : Nat} {m : Mem} {d : DG} (h : DiskAt w p m d) : p < w.heap.size := h.blk.lt

/-- A cell of the disk is written; its parts are as they were. -/
theorem DiskAt.set {w : World} {p : Nat} {m : Mem} {d : DG} (h : DiskAt w p m d) (i : Nat) (v : Value) :
    Blk (w.setCell ⟨p, i, none⟩ v) p ((dvals m d).setIfInBounds i v) 98 ∧ Parts (w.setCell ⟨p, i, none⟩ v) m d :=
  ⟨h.blk.set i v, h.parts.same fun k hk => Below.heap_setCell _ _ _ _ (h.off hk)⟩

end Go.Proofs.YtgmfgkdecpldeaaGreat
