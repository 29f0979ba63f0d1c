/-
  A pool in memory: its frames as plain data, and where they lie; a pool, its log and its disk side by side.
  The walks of (*disk.Disk).Read that is refused, of (*pool.Pool).read and (*pool.Pool).fetch.
  A pool whose map has turned: a frame was put in, or taken out.
  The walk of (*pool.Pool).makeRoom, as long as there is room; what it is to make room.
  The walk of (*pool.Pool).Put of a page that fits.
-/
import Derived.Test.YtgmfgkdecpldeaaGreatBase5C
namespace Go.Proofs.YtgmfgkdecpldeaaGreat
open Go.RowKit Go.Sort
set_option linter.unusedVariables false

/-- A frame: a page, and since when it is dirty (0: it is not). -/
structure FrV where
  sh : SheetV
  since : Nat

def FrV.val (f : FrV) (a : Option Addr) (c : Nat) : Value := .agg #[.int .u32 f.sh.num, .int .u64 f.sh.lsn, .int .i64 f.sh.kind, .string f.sh.head, .slice a f.sh.slots.length c, .int .u64 f.since]

def zeroF : Value := .agg #[.int .u32 0, .int .u64 0, .int .i64 0, .string ⟨#[]⟩, .slice none 0 0, .int .u64 0]

/-- A pool as plain data: z frames; that of the page n is F n. -/
structure PG where
  dp : Nat
  lp : Nat
  most : Nat
  F : Nat → Option FrV
  z : Nat
  picks : List Int
  fetched : Nat
  written : Nat

/-- The texts of a frame, in blocks among S. -/
def StrsIn (S : Nat → Prop) (w : World) (a : Option Addr) (L : List ByteArray) : Prop :=
  L = [] ∨ ∃ b o, a = some ⟨b, o, none⟩ ∧ S b ∧ b < w.heap.size ∧ ∀ i (hi : i < L.length), w.cell? ⟨b, o + i, none⟩ = some (.string L[i])

theorem StrsIn.at {S : Nat → Prop} {w : World} {a : Option Addr} {L : List ByteArray} (h : StrsIn S w a L) : StrsAt w a L := by
  rcases h with h | ⟨b, o, e, _, hb, hc⟩
  · exact .inl h
  · exact .inr ⟨b, o, e, hb, hc⟩

theorem StrsIn.same {S : Nat → Prop} {w w' : World} {a : Option Addr} {L : List ByteArray} (h : StrsIn S w a L) (k : ∀ b, S b → w'.heap[b]? = w.heap[b]?) (hs : w.heap.size ≤ w'.heap.size) : StrsIn S w' a L := by
  rcases h with h | ⟨b, o, e, h1, hb, hc⟩
  · exact .inl h
  · exact .inr ⟨b, o, e, h1, Nat.lt_of_lt_of_le hb hs, fun i hi => (World.cell?_of_block (w := w) (a := ⟨b, o + i, none⟩) (k b h1)).trans (hc i hi)⟩

theorem StrsIn.mono {S S' : Nat → Prop} {w : World} {a : Option Addr} {L : List ByteArray} (h : StrsIn S w a L) (k : ∀ b, S b → S' b) : StrsIn S' w a L := by
  rcases h with h | ⟨b, o, e, h1, hb, hc⟩
  · exact .inl h
  · exact .inr ⟨b, o, e, k b h1, hb, hc⟩

theorem StrsFrom.into {B : Nat} {w : World} {a : Option Addr} {L : List ByteArray} (h : StrsFrom B w a L) {S : Nat → Prop} (k : ∀ b o, a = some ⟨b, o, none⟩ → S b) : StrsIn S w a L := by
  rcases h with h | ⟨b, o, e, h1, hb, hc⟩
  · exact .inl h
  · exact .inr ⟨b, o, e, k b o e, hb, hc⟩

/-- The frame f of the page n, as a value. -/
structure FrAt (S : Nat → Prop) (w : World) (n : Nat) (v : Value) (f : FrV) : Prop where
  val : ∃ a c, v = f.val a c ∧ StrsIn S w a f.sh.slots
  fits : f.sh.Fits
  num : f.sh.num = n
  since : f.since < 18446744073709551616

theorem FrAt.same {S : Nat → Prop} {w w' : World} {n : Nat} {v : Value} {f : FrV} (h : FrAt S w n v f) (k : ∀ b, S b → w'.heap[b]? = w.heap[b]?) (hs : w.heap.size ≤ w'.heap.size) : FrAt S w' n v f := by
  obtain ⟨⟨a, c, e, hm⟩, h2, h3, h4⟩ := h
  exact ⟨⟨a, c, e, hm.same k hs⟩, h2, h3, h4⟩

theorem FrAt.mono {S S' : Nat → Prop} {w : World} {n : Nat} {v : Value} {f : FrV} (h : FrAt S w n v f) (k : ∀ b, S b → S' b) : FrAt S' w n v f := by
  obtain ⟨⟨a, c, e, hm⟩, h2, h3, h4⟩ := h
  exact ⟨⟨a, c, e, hm.mono k⟩, h2, h3, h4⟩

/-- The picks that are left. -/
def PicksAt (w : World) (v : Value) (L : List Int) : Prop :=
  ∃ a c, v = .slice a L.length c ∧ L.length ≤ c ∧ c ≤ maxLen ∧ (L = [] ∨ ∃ b o, a = some ⟨b, o, none⟩ ∧ b < w.heap.size ∧ ∀ i (hi : i < L.length), w.cell? ⟨b, o + i, none⟩ = some (.int .i64 L[i]))

theorem PicksAt.same {w w' : World} {v : Value} {L : List Int} (h : PicksAt w v L) (k : ∀ b, v.ownBlock = some b → w'.heap[b]? = w.heap[b]?) (hs : w.heap.size ≤ w'.heap.size) : PicksAt w' v L := by
  obtain ⟨a, c, rfl, h1, h2, h3⟩ := h
  refine ⟨a, c, rfl, h1, h2, ?_⟩
  rcases h3 with h | ⟨b, o, rfl, hb, hc⟩
  · exact .inl h
  · exact .inr ⟨b, o, rfl, Nat.lt_of_lt_of_le hb hs, fun i hi => (World.cell?_of_block (w := w) (a := ⟨b, o + i, none⟩) (k b rfl)).trans (hc i hi)⟩

def pvals (fb : Nat) (pv : Value) (P : PG) : Array Value :=
  #[.pointer (some ⟨P.dp, 0, none⟩), .pointer (some ⟨P.lp, 0, none⟩), .int .i64 P.most, .map (some fb), pv, .int .i64 P.fetched, .int .i64 P.written]

/-- The frames of a map that reads as D. -/
structure FrsAt (S : Nat → Prop) (w : World) (D : DataW Value) (F : Nat → Option FrV) : Prop where
  no : ∀ n, n < 4294967296 → F n = none → Maps.has D (keyL n) = false
  yes : ∀ n f, n < 4294967296 → F n = some f → Maps.has D (keyL n) = true ∧ FrAt S w n (getV D (keyL n) zeroF) f
  keys : ∀ l, Maps.has D l = true → ∃ n, 1 ≤ n ∧ n ≤ 2048 ∧ l = keyL n

structure PoolAt (w : World) (p fb : Nat) (pv : Value) (D : DataW Value) (S : Nat → Prop) (P : PG) : Prop where
  blk : Blk w p (pvals fb pv P) 112
  map : MapV 54 w fb P.z D
  frs : FrsAt S w D P.F
  picks : PicksAt w pv P.picks
  sp : S p
  sf : S fb
  sv : ∀ b, pv.ownBlock = some b → S b
  sq : ∀ b, pv.ownBlock = some b → b ≠ p
  lt : ∀ k, S k → k < w.heap.size

/-- A pool in block p, whose blocks are S. -/
def IsPool (w : World) (p : Nat) (S : Nat → Prop) (P : PG) : Prop := ∃ fb pv D, PoolAt w p fb pv D S P

theorem FrsAt.same {S : Nat → Prop} {w w' : World} {D : DataW Value} {F : Nat → Option FrV} (h : FrsAt S w D F) (k : ∀ b, S b → w'.heap[b]? = w.heap[b]?) (hs : w.heap.size ≤ w'.heap.size) : FrsAt S w' D F :=
  ⟨h.no, fun n f hn e => ⟨(h.yes n f hn e).1, (h.yes n f hn e).2.same k hs⟩, h.keys⟩

theorem PoolAt.same {w w' : World} {p fb : Nat} {pv : Value} {D : DataW Value} {S : Nat → Prop} {P : PG} (h : PoolAt w p fb pv D S P) (k : ∀ b, S b → w'.heap[b]? = w.heap[b]?) (hs : w.heap.size ≤ w'.heap.size) : PoolAt w' p fb pv D S P :=
  ⟨h.blk.same (k p h.sp), h.map.same (k fb h.sf), h.frs.same k hs, h.picks.same (fun b e => k b (h.sv b e)) hs, h.sp, h.sf, h.sv, h.sq, fun b hb => Nat.lt_of_lt_of_le (h.lt b hb) hs⟩

theorem IsPool.same {w w' : World} {p : Nat} {S : Nat → Prop} {P : PG} (h : IsPool w p S P) (k : ∀ b, S b → w'.heap[b]? = w.heap[b]?) (hs : w.heap.size ≤ w'.heap.size) : IsPool w' p S P := by
  obtain ⟨fb, pv, D, h⟩ := h
  exact ⟨fb, pv, D, h.same k hs⟩

theorem IsPool.lt {w : World} {p : Nat} {S : Nat → Prop} {P : PG} (h : IsPool w p S P) {k : Nat} (hk : S k) : k < w.heap.size := by
  obtain ⟨fb, pv, D, h⟩ := h
  exact h.lt k hk

theorem PoolAt.below {w w' : World} {p fb : Nat} {pv : Value} {D : DataW Value} {S : Nat → Prop} {P : PG} (h : PoolAt w p fb pv D S P) (k : Below w.heap.size w w') : PoolAt w' p fb pv D S P :=
  h.same (fun b hb => k.block b (h.lt b hb)) k.size

theorem IsPool.below {w w' : World} {p : Nat} {S : Nat → Prop} {P : PG} (h : IsPool w p S P) (k : Below w.heap.size w w') : IsPool w' p S P := by
  obtain ⟨fb, pv, D, h⟩ := h
  exact ⟨fb, pv, D, h.below k⟩

theorem IsPool.beside {w w' : World} {p : Nat} {S D D' : Nat → Prop} {P : PG} (h : IsPool w p S P) (hm : Moves D D' w w') (ha : ∀ k, S k → ¬ D k) : IsPool w' p S P ∧ ∀ k, S k → ¬ D' k :=
  ⟨h.same (fun k hk => hm.1.block k (h.lt hk) (ha k hk)) hm.1.size, fun k hk => (hm.off (h.lt hk) (ha k hk)).2⟩

/-- The pool's cells. -/
structure PCells (w : World) (p fb : Nat) (pv : Value) (P : PG) : Prop where
  c0 : w.cell? ⟨p, 0, none⟩ = some (.pointer (some ⟨P.dp, 0, none⟩))
  c1 : w.cell? ⟨p, 1, none⟩ = some (.pointer (some ⟨P.lp, 0, none⟩))
  c2 : w.cell? ⟨p, 2, none⟩ = some (.int .i64 P.most)
  c3 : w.cell? ⟨p, 3, none⟩ = some (.map (some fb))
  c4 : w.cell? ⟨p, 4, none⟩ = some pv
  c5 : w.cell? ⟨p, 5, none⟩ = some (.int .i64 P.fetched)
  c6 : w.cell? ⟨p, 6, none⟩ = some (.int .i64 P.written)
  fr : ∀ i, w.frozen? ⟨p, i, none⟩ = false

theorem PoolAt.cells {w : World} {p fb : Nat} {pv : Value} {D : DataW Value} {S : Nat → Prop} {P : PG} (h : PoolAt w p fb pv D S P) : PCells w p fb pv P :=
  ⟨h.blk.cell 0, h.blk.cell 1, h.blk.cell 2, h.blk.cell 3, h.blk.cell 4, h.blk.cell 5, h.blk.cell 6, h.blk.frozen⟩

theorem PoolAt.pf {w : World} {p fb : Nat} {pv : Value} {D : DataW Value} {S : Nat → Prop} {P : PG} (h : PoolAt w p fb pv D S P) : fb ≠ p := by
  rintro rfl
  obtain ⟨es, c, e⟩ := h.map.isMap
  have := h.blk
  unfold Blk at this
  rw [e] at this
  cases this

/-- A pool with its log and its disk: their blocks are among A. -/
structure Sys (w : World) (p : Nat) (A : Nat → Prop) (P : PG) (l : LG) (d : DG) : Prop where
  ex : ∃ S L D, IsPool w p S P ∧ IsLog w P.lp L l ∧ IsDisk w P.dp D d ∧ (∀ k, S k → ¬ L k) ∧ (∀ k, S k → ¬ D k) ∧ (∀ k, L k → ¬ D k) ∧ ∀ k, S k ∨ L k ∨ D k → A k
  ld : l.dp = P.dp
  lt : ∀ k, A k → k < w.heap.size

theorem Sys.same {w w' : World} {p : Nat} {A : Nat → Prop} {P : PG} {l : LG} {d : DG} (h : Sys w p A P l d) (k : ∀ b, A b → w'.heap[b]? = w.heap[b]?) (hs : w.heap.size ≤ w'.heap.size) : Sys w' p A P l d := by
  obtain ⟨⟨S, L, D, h1, h2, h3, h4, h5, h6, h7⟩, h8, h9⟩ := h
  exact ⟨⟨S, L, D, h1.same (fun b hb => k b (h7 b (.inl hb))) hs, h2.same (fun b hb => k b (h7 b (.inr (.inl hb)))) hs, h3.same (fun b hb => k b (h7 b (.inr (.inr hb)))) hs, h4, h5, h6, h7⟩, h8, fun b hb => Nat.lt_of_lt_of_le (h9 b hb) hs⟩

theorem Sys.below {w w' : World} {p : Nat} {A : Nat → Prop} {P : PG} {l : LG} {d : DG} (h : Sys w p A P l d) (k : Below w.heap.size w w') : Sys w' p A P l d :=
  h.same (fun b hb => k.block b (h.lt b hb)) k.size

/-- A step of the pool alone. -/
theorem Sys.pool {w w' : World} {p : Nat} {S L D S' : Nat → Prop} {P P' : PG} {l : LG} {d : DG} {A : Nat → Prop} (h2 : IsLog w P.lp L l) (h3 : IsDisk w P.dp D d) (h4 : ∀ k, S k → ¬ L k) (h5 : ∀ k, S k → ¬ D k) (h6 : ∀ k, L k → ¬ D k) (h7 : ∀ k, S k ∨ L k ∨ D k → A k) (h8 : l.dp = P.dp) (h9 : ∀ k, A k → k < w.heap.size)
    (h1 : IsPool w' p S' P') (hm : Moves S S' w w') (e1 : P'.dp = P.dp) (e2 : P'.lp = P.lp) : ∃ A', Sys w' p A' P' l d ∧ Moves A A' w w' := by
  have k2 := h2.beside hm fun k hk hs => h4 k hs hk
  have k3 := h3.beside hm fun k hk hs => h5 k hs hk
  refine ⟨fun k => S' k ∨ L k ∨ D k, ⟨⟨S', L, D, h1, by rw [e2]; exact k2.1, by rw [e1]; exact k3.1, fun k a b => k2.2 k b a, fun k a b => k3.2 k b a, h6, fun _ x => x⟩, h8.trans e1.symm, ?_⟩, hm.1.mono fun k x => h7 k (.inl x), ?_⟩
  · rintro k (x | x | x)
    · exact h1.lt x
    · exact k2.1.lt x
    · exact k3.1.lt x
  · rintro k (x | x | x)
    · rcases hm.2 k x with y | y
      · exact .inl (h7 k (.inl y))
      · exact .inr y
    · exact .inl (h7 k (.inr (.inl x)))
    · exact .inl (h7 k (.inr (.inr x)))

end Go.Proofs.YtgmfgkdecpldeaaGreat

namespace Go.Proofs.YtgmfgkdecpldeaaGreat
open Go.RowKit Go.Sort
set_option linter.unusedVariables false

set_option maxHeartbeats 1600000 in
set_option maxRecDepth 8000 in
theorem read_err {w : World} {p : Nat} {S : Nat → Prop} {d : DG} (h : IsDisk w p S d) (hd : d.dead = false) (q : Nat) (hq : q < 4294967296) (hc : checkE d.room q ≠ 0) :
    Calls Tryz.prog 22 #[.pointer (some ⟨p, 0, none⟩), .int .u32 q] w fun x w' => x = .returned (.tuple #[.string ⟨#[]⟩, .int .i64 (checkE d.room q)]) ∧ w' = w := by
  obtain ⟨m, hD, _⟩ := h
  have HD : Hid (DiskAt w p m d) := hD
  have HC : Hid (Calls Tryz.prog 58 #[.pointer (some ⟨p, 0, none⟩), .int .u32 q] w fun x w' => x = .returned (.int .i64 (checkE d.room q)) ∧ w' = w) := check_any hD.blk.cells q hq
  clear hD
  generalize checkE d.room q = E at *
  go_enter Tryz.func22, Tryz.ntmps22
  go_wp2_with fail
  refine (dead_any HD.out.blk.cells).mono ?_
  rintro x w1 ⟨rfl, rfl⟩
  rw [hd]
  go_wp2_with fail
  refine HC.out.mono ?_
  rintro x w1 ⟨rfl, rfl⟩
  go_wp2
  go_ret2
  exact ⟨rfl, rfl⟩

theorem twinOf_any (n : Nat) (w : World) (hn : n ≤ 2048) : Calls Tryz.prog 112 #[.int .u32 n] w fun x w' => x = .returned (.int .u32 ((n + 2048 : Nat) : Int)) ∧ w' = w := by
  go_enter Tryz.func112, Tryz.ntmps112
  go_wp2
  go_ret
  exact ⟨by simp, rfl⟩

theorem ret_boolP {a b : Bool} (h : a = b) : Ending.returned (.bool a) = .returned (.bool b) := by rw [h]

theorem mayBe_any (n : Nat) (w : World) (hn : n < 4294967296) : Calls Tryz.prog 46 #[.int .u32 n] w fun x w' => x = .returned (.bool (decide (1 ≤ n ∧ n ≤ 2048))) ∧ w' = w := by
  by_cases h : 1 ≤ n
  · have h' : (1 : Int) ≤ n := by omega
    go_enter Tryz.func46, Tryz.ntmps46
    go_wp2
    go_ret
    exact ⟨ret_boolP (by rw [Bool.eq_iff_iff]; simp <;> omega), rfl⟩
  · have h' : ¬ (1 : Int) ≤ n := by omega
    go_enter Tryz.func46, Tryz.ntmps46
    go_wp2
    go_ret
    exact ⟨ret_boolP rfl, rfl⟩

theorem check_twin {room n : Nat} (hn : n ≤ 2048) (hc : checkE room n = 0) : checkE room (n + 2048) = 0 := by
  unfold checkE at hc ⊢
  split at hc
  · cases hc
  · split at hc
    · cases hc
    · rw [if_neg (by omega), if_neg (by omega)]

set_option maxHeartbeats 1600000 in
set_option maxRecDepth 8000 in
theorem pread_ok {w : World} {p dp : Nat} {D : Nat → Prop} {d : DG} (hc0 : w.cell? ⟨p, 0, none⟩ = some (.pointer (some ⟨dp, 0, none⟩))) (hlt : p < w.heap.size) (hd : IsDisk w dp D d) (hD : d.dead = false) (n : Nat) (hn : n ≤ 2048) (hc : checkE d.room n = 0) (hs : ∀ q, (readD d q).size ≤ 1000000) :
    Calls Tryz.prog 91 #[.pointer (some ⟨p, 0, none⟩), .int .u32 n] w fun x w' => x = .returned (.tuple #[.agg #[.string (readD d n), .string (readD d (n + 2048))], .int .i64 0]) ∧ Below w.heap.size w w' := by
  have HR1 : Hid (∀ W, Below w.heap.size w W → Calls Tryz.prog 22 #[.pointer (some ⟨dp, 0, none⟩), .int .u32 n] W fun x w' => x = .returned (.tuple #[.string (readD d n), .int .i64 0]) ∧ Below W.heap.size W w') := fun W hb => read_out (hd.below hb) hD n (by omega) hc (hs n)
  have HR2 : Hid (∀ W, Below w.heap.size w W → Calls Tryz.prog 22 #[.pointer (some ⟨dp, 0, none⟩), .int .u32 ((n + 2048 : Nat) : Int)] W fun x w' => x = .returned (.tuple #[.string (readD d (n + 2048)), .int .i64 0]) ∧ Below W.heap.size W w') := fun W hb => read_out (hd.below hb) hD (n + 2048) (by omega) (check_twin hn hc) (hs _)
  have HT : Hid (∀ W, Calls Tryz.prog 112 #[.int .u32 n] W fun x w' => x = .returned (.int .u32 ((n + 2048 : Nat) : Int)) ∧ w' = W) := fun W => twinOf_any n W hn
  clear hs hc hD hd
  generalize readD d n = s1 at *
  generalize readD d (n + 2048) = s2 at *
  go_enter Tryz.func91, Tryz.ntmps91
  go_wp2_with fail
  refine (HR1.out _ ((Below.refl _ _).alloc (Nat.le_refl _) _)).mono ?_
  rintro x w1 ⟨rfl, b1⟩
  have bel1 : Below w.heap.size w w1 := ((Below.refl _ _).alloc (Nat.le_refl _) _).trans (b1.mono (by simp))
  have kz : Blk w1 w.heap.size #[.string ⟨#[]⟩, .string ⟨#[]⟩] 150 := (Blk.made w _ _).same (b1.block _ (by simp))
  have g0 : w1.cell? ⟨p, 0, none⟩ = some (.pointer (some ⟨dp, 0, none⟩)) := (bel1.cell (p := ⟨p, 0, none⟩) hlt).trans hc0
  have z1 : w.heap.size < w1.heap.size := by have := b1.size; simp at this; omega
  clear hc0 b1
  have gg0 := cell_regrown g0
  have cT : ∀ dd os, Calls Tryz.prog 112 #[.int .u32 n] (grow (redrawn w1 dd) os) fun e w'' => e = .returned (.int .u32 ((n + 2048 : Nat) : Int)) ∧ ∃ p : Regrown, w'' = grow (redrawn w1 p.d) p.os := fun dd os => Calls.regrown_of ((HT.out _).mono fun x w' hx => ⟨hx.1, by rw [hx.2]; exact Below.refl _ _⟩)
  have cR : ∀ dd os, Calls Tryz.prog 22 #[.pointer (some ⟨dp, 0, none⟩), .int .u32 ((n + 2048 : Nat) : Int)] (grow (redrawn w1 dd) os) fun e w'' => e = .returned (.tuple #[.string s2, .int .i64 0]) ∧ ∃ p : Regrown, w'' = grow (redrawn w1 p.d) p.os := fun dd os => Calls.regrown_of (HR2.out _ (below_chain bel1 (below_regrown w1 dd os)))
  go_wp2_with fail
  refine wp_region_quiet_below mixed (by kernel_rfl) ?_
  repeat (quiet_step (first | exact cT _ _ | exact cR _ _))
  refine wpQuiet_nil ?_
  intro _ hw'
  obtain ⟨⟨dq, osq⟩, hw''⟩ := hw'
  subst hw''
  have b2 := below_regrown w1 dq osq
  obtain ⟨w2, HW2⟩ : ∃ w2, Hid (w2 = grow (redrawn w1 dq) osq) := ⟨_, rfl⟩
  rw [← HW2.out] at b2
  rw [← HW2.out]
  clear HW2 gg0 cT cR
  have kz2 := kz.same (b2.block _ z1)
  have f0 := kz2.frozen 0
  have f1 := kz2.frozen 1
  have e0 : w2.cell? ⟨w.heap.size, 0, none⟩ = some (.string ⟨#[]⟩) := kz2.cell 0
  have e1 : w2.cell? ⟨w.heap.size, 1, none⟩ = some (.string ⟨#[]⟩) := kz2.cell 1
  go_wp2
  refine bodyPost_ret (v := .tuple #[.agg #[.string s1, .string s2], .int .i64 0]) (by simp [results, Tryz.results91, go_sem, e0, e1]) rfl ?_
  exact ⟨rfl, ((below_chain bel1 b2).setCell (p := ⟨w.heap.size, 0, none⟩) (Nat.le_refl _) _).setCell (p := ⟨w.heap.size, 1, none⟩) (Nat.le_refl _) _⟩

set_option maxHeartbeats 1600000 in
set_option maxRecDepth 8000 in
theorem pread_no {w : World} {p dp : Nat} {D : Nat → Prop} {d : DG} (hc0 : w.cell? ⟨p, 0, none⟩ = some (.pointer (some ⟨dp, 0, none⟩))) (hlt : p < w.heap.size) (hd : IsDisk w dp D d) (hD : d.dead = false) (n : Nat) (hn : n ≤ 2048) (hc : checkE d.room n ≠ 0) :
    Calls Tryz.prog 91 #[.pointer (some ⟨p, 0, none⟩), .int .u32 n] w fun x w' => x = .returned (.tuple #[.agg #[.string ⟨#[]⟩, .string ⟨#[]⟩], .int .i64 (checkE d.room n)]) ∧ Below w.heap.size w w' := by
  have HR1 : Hid (∀ W, Below w.heap.size w W → Calls Tryz.prog 22 #[.pointer (some ⟨dp, 0, none⟩), .int .u32 n] W fun x w' => x = .returned (.tuple #[.string ⟨#[]⟩, .int .i64 (checkE d.room n)]) ∧ w' = W) := fun W hb => read_err (hd.below hb) hD n (by omega) hc
  clear hd hD
  generalize checkE d.room n = E at *
  go_enter Tryz.func91, Tryz.ntmps91
  go_wp2_with fail
  refine (HR1.out _ ((Below.refl _ _).alloc (Nat.le_refl _) _)).mono ?_
  rintro x w1 ⟨rfl, rfl⟩
  go_wp2
  refine bodyPost_ret (v := .tuple #[.agg #[.string ⟨#[]⟩, .string ⟨#[]⟩], .int .i64 E]) (by simp [results, Tryz.results91, go_sem]) rfl ?_
  exact ⟨rfl, (Below.refl _ _).alloc (Nat.le_refl _) _⟩

/-- The page n as the disk has it, and its error. -/
def feX (d : DG) (n : Nat) : SheetV := if checkE d.room n = 0 then chX n (readD d n) (readD d (n + 2048)) else sheet0
def feE (d : DG) (n : Nat) : Int := if checkE d.room n = 0 then chE n (readD d n) (readD d (n + 2048)) else checkE d.room n

set_option maxHeartbeats 1600000 in
set_option maxRecDepth 8000 in
theorem fetch_any {w : World} {p dp : Nat} {D : Nat → Prop} {d : DG} (hc0 : w.cell? ⟨p, 0, none⟩ = some (.pointer (some ⟨dp, 0, none⟩))) (hlt : p < w.heap.size) (hd : IsDisk w dp D d) (hD : d.dead = false) (n : Nat) (hn : n ≤ 2048) (hs : ∀ q, (readD d q).size ≤ 1000000) :
    Calls Tryz.prog 57 #[.pointer (some ⟨p, 0, none⟩), .int .u32 n] w (ShOut w (feX d n) fun v => .returned (.tuple #[v, .int .i64 (feE d n)])) := by
  have hcA : ∀ W, Below w.heap.size w W → W.cell? ⟨p, 0, none⟩ = some (.pointer (some ⟨dp, 0, none⟩)) := fun W hb => (hb.cell (p := ⟨p, 0, none⟩) hlt).trans hc0
  by_cases hc : checkE d.room n = 0
  · have HR : Hid (∀ W, Below w.heap.size w W → Calls Tryz.prog 91 #[.pointer (some ⟨p, 0, none⟩), .int .u32 n] W fun x w' => x = .returned (.tuple #[.agg #[.string (readD d n), .string (readD d (n + 2048))], .int .i64 0]) ∧ Below W.heap.size W w') := fun W hb => pread_ok (hcA W hb) (Nat.lt_of_lt_of_le hlt hb.size) (hd.below hb) hD n hn hc hs
    have HC : Hid (∀ W, Calls Tryz.prog 92 #[.agg #[.string (readD d n), .string (readD d (n + 2048))], .int .u32 n] W (ShOut W (chX n (readD d n) (readD d (n + 2048))) fun v => .returned (.tuple #[v, .bool (chT n (readD d n) (readD d (n + 2048))), .int .i64 (chE n (readD d n) (readD d (n + 2048)))]))) := fun W => choose_any n _ _ W (by omega) (by have := hs n; unfold maxLen; omega) (by have := hs (n + 2048); unfold maxLen; omega)
    have e1 : feX d n = chX n (readD d n) (readD d (n + 2048)) := by unfold feX; rw [if_pos hc]
    have e2 : feE d n = chE n (readD d n) (readD d (n + 2048)) := by unfold feE; rw [if_pos hc]
    rw [e1, e2]
    clear e1 e2 hs hc hD hd hcA hc0
    generalize chX n (readD d n) (readD d (n + 2048)) = X at *
    generalize chT n (readD d n) (readD d (n + 2048)) = T at *
    generalize chE n (readD d n) (readD d (n + 2048)) = E at *
    generalize readD d n = s1 at *
    generalize readD d (n + 2048) = s2 at *
    go_enter Tryz.func57, Tryz.ntmps57
    go_wp2_with fail
    refine (HR.out _ ((Below.refl _ _).alloc (Nat.le_refl _) _)).mono ?_
    rintro x w1 ⟨rfl, b1⟩
    have bel1 : Below w.heap.size w w1 := ((Below.refl _ _).alloc (Nat.le_refl _) _).trans (b1.mono (by simp))
    have kz : Blk w1 w.heap.size zero5 56 := (Blk.made w _ _).same (b1.block _ (by simp))
    have z1 : w.heap.size < w1.heap.size := by have := b1.size; simp at this; omega
    clear b1
    obtain ⟨W2, HW2⟩ : ∃ W2, Hid (W2 = w1.alloc (.cells #[.string s1, .string s2] 150)) := ⟨_, rfl⟩
    have b2 : Below w1.heap.size w1 W2 := by rw [HW2.out]; exact (Below.refl _ _).alloc (Nat.le_refl _) _
    go_wp2_with fail
    rw [← HW2.out]
    have kz2 := kz.same (b2.block _ z1)
    have bel2 := below_chain bel1 b2
    have z2 : w.heap.size < W2.heap.size := Nat.lt_of_lt_of_le z1 b2.size
    clear HW2 b2 kz z1 bel1
    refine (HC.out _).mono ?_
    rintro x w3 ⟨a, c, rfl, hs3, b3⟩
    have kz3 := kz2.same (b3.block _ z2)
    have bel3 := below_chain bel2 b3
    have z3 : w.heap.size < w3.heap.size := Nat.lt_of_lt_of_le z2 b3.size
    have hs3' : StrsFrom (w.heap.size + 1) w3 a X.slots := hs3.mono (by omega)
    have HXV : Hid (X.val a c = .agg #[.int .u32 X.num, .int .u64 X.lsn, .int .i64 X.kind, .string X.head, .slice a X.slots.length c]) := rfl
    rw [HXV.out]
    clear hs3 kz2 bel2 z2 b3
    have f0 := kz3.frozen 0
    have f1 := kz3.frozen 1
    have f2 := kz3.frozen 2
    have f3 := kz3.frozen 3
    have f4 := kz3.frozen 4
    have e0 : w3.cell? ⟨w.heap.size, 0, none⟩ = some (.int .u32 0) := kz3.cell 0
    have e1 : w3.cell? ⟨w.heap.size, 1, none⟩ = some (.int .u64 0) := kz3.cell 1
    have e2 : w3.cell? ⟨w.heap.size, 2, none⟩ = some (.int .i64 0) := kz3.cell 2
    have e3 : w3.cell? ⟨w.heap.size, 3, none⟩ = some (.string ⟨#[]⟩) := kz3.cell 3
    have e4 : w3.cell? ⟨w.heap.size, 4, none⟩ = some (.slice none 0 0) := kz3.cell 4
    go_wp2
    refine bodyPost_ret (v := .tuple #[.agg #[.int .u32 X.num, .int .u64 X.lsn, .int .i64 X.kind, .string X.head, .slice a X.slots.length c], .int .i64 E]) (by simp [results, Tryz.results57, go_sem, e0, e1, e2, e3, e4, z3]) rfl ?_
    exact ⟨⟨a, c, rfl, rd_over w3 _ _ _ _ _ _ _ hs3', (below_set5 bel3 (Nat.le_refl _) _ _ _ _ _).alloc (by rw [store5_size]; omega) _⟩⟩
  · have HR : Hid (∀ W, Below w.heap.size w W → Calls Tryz.prog 91 #[.pointer (some ⟨p, 0, none⟩), .int .u32 n] W fun x w' => x = .returned (.tuple #[.agg #[.string ⟨#[]⟩, .string ⟨#[]⟩], .int .i64 (checkE d.room n)]) ∧ Below W.heap.size W w') := fun W hb => pread_no (hcA W hb) (Nat.lt_of_lt_of_le hlt hb.size) (hd.below hb) hD n hn hc
    have e1 : feX d n = sheet0 := by unfold feX; rw [if_neg hc]
    have e2 : feE d n = checkE d.room n := by unfold feE; rw [if_neg hc]
    rw [e1, e2]
    clear e1 e2 hs hD hd hcA hc0
    generalize checkE d.room n = E at *
    go_enter Tryz.func57, Tryz.ntmps57
    go_wp2_with fail
    refine (HR.out _ ((Below.refl _ _).alloc (Nat.le_refl _) _)).mono ?_
    rintro x w1 ⟨rfl, b1⟩
    have bel1 : Below w.heap.size w w1 := ((Below.refl _ _).alloc (Nat.le_refl _) _).trans (b1.mono (by simp))
    have kz : Blk w1 w.heap.size zero5 56 := (Blk.made w _ _).same (b1.block _ (by simp))
    have z1 : w.heap.size < w1.heap.size := by have := b1.size; simp at this; omega
    have f0 := kz.frozen 0
    have f1 := kz.frozen 1
    have f2 := kz.frozen 2
    have f3 := kz.frozen 3
    have f4 := kz.frozen 4
    have e0 : w1.cell? ⟨w.heap.size, 0, none⟩ = some (.int .u32 0) := kz.cell 0
    have e1 : w1.cell? ⟨w.heap.size, 1, none⟩ = some (.int .u64 0) := kz.cell 1
    have e2 : w1.cell? ⟨w.heap.size, 2, none⟩ = some (.int .i64 0) := kz.cell 2
    have e3 : w1.cell? ⟨w.heap.size, 3, none⟩ = some (.string ⟨#[]⟩) := kz.cell 3
    have e4 : w1.cell? ⟨w.heap.size, 4, none⟩ = some (.slice none 0 0) := kz.cell 4
    go_wp2
    refine bodyPost_ret (v := .tuple #[.agg #[.int .u32 0, .int .u64 0, .int .i64 0, .string ⟨#[]⟩, .slice none 0 0], .int .i64 E]) (by simp [results, Tryz.results57, go_sem, e0, e1, e2, e3, e4, z1]) rfl ?_
    exact ⟨⟨none, 0, rfl, .inl rfl, (below_set5 bel1 (Nat.le_refl _) _ _ _ _ _).alloc (by rw [store5_size]; omega) _⟩⟩

end Go.Proofs.YtgmfgkdecpldeaaGreat

namespace Go.Proofs.YtgmfgkdecpldeaaGreat
open Go.RowKit Go.Sort
set_option linter.unusedVariables false

theorem cell_noMap {w : World} {b fb : Nat} {o : Nat} {v : Value} (h : w.cell? ⟨b, o, none⟩ = some v) (hm : ∃ es c, w.heap[fb]? = some (.map es c)) : b ≠ fb := by
  rintro rfl
  obtain ⟨es, c, e⟩ := hm
  simp [World.cell?, e] at h

theorem StrsIn.turn {S S' : Nat → Prop} {w w' : World} {a : Option Addr} {L : List ByteArray} {fb : Nat} (h : StrsIn S w a L) (hm : ∃ es c, w.heap[fb]? = some (.map es c)) (k : ∀ b, S b → b ≠ fb → w'.heap[b]? = w.heap[b]?) (hs : w.heap.size ≤ w'.heap.size) (hS : ∀ b, S b → S' b) : StrsIn S' w' a L := by
  rcases h with h | ⟨b, o, e, h1, hb, hc⟩
  · exact .inl h
  · by_cases hL : L = []
    · exact .inl hL
    · have h0 : 0 < L.length := List.length_pos_iff.2 hL
      have hne : b ≠ fb := cell_noMap (hc 0 h0) hm
      exact .inr ⟨b, o, e, hS b h1, Nat.lt_of_lt_of_le hb hs, fun i hi => (World.cell?_of_block (w := w) (a := ⟨b, o + i, none⟩) (k b h1 hne)).trans (hc i hi)⟩

theorem FrAt.turn {S S' : Nat → Prop} {w w' : World} {n : Nat} {v : Value} {f : FrV} {fb : Nat} (h : FrAt S w n v f) (hm : ∃ es c, w.heap[fb]? = some (.map es c)) (k : ∀ b, S b → b ≠ fb → w'.heap[b]? = w.heap[b]?) (hs : w.heap.size ≤ w'.heap.size) (hS : ∀ b, S b → S' b) : FrAt S' w' n v f := by
  obtain ⟨⟨a, c, e, hm'⟩, h2, h3, h4⟩ := h
  exact ⟨⟨a, c, e, hm'.turn hm k hs hS⟩, h2, h3, h4⟩

theorem PicksAt.turn {w w' : World} {v : Value} {L : List Int} {fb : Nat} {S : Nat → Prop} (h : PicksAt w v L) (hv : ∀ b, v.ownBlock = some b → S b) (hm : ∃ es c, w.heap[fb]? = some (.map es c)) (k : ∀ b, S b → b ≠ fb → w'.heap[b]? = w.heap[b]?) (hs : w.heap.size ≤ w'.heap.size) : PicksAt w' v L := by
  obtain ⟨a, c, rfl, h1, h2, h3⟩ := h
  refine ⟨a, c, rfl, h1, h2, ?_⟩
  rcases h3 with h | ⟨b, o, rfl, hb, hc⟩
  · exact .inl h
  · by_cases hL : L = []
    · exact .inl hL
    · have h0 : 0 < L.length := List.length_pos_iff.2 hL
      have hne : b ≠ fb := cell_noMap (hc 0 h0) hm
      exact .inr ⟨b, o, rfl, Nat.lt_of_lt_of_le hb hs, fun i hi => (World.cell?_of_block (w := w) (a := ⟨b, o + i, none⟩) (k b (hv b rfl) hne)).trans (hc i hi)⟩

theorem FrsAt.turn {S S' : Nat → Prop} {w w' : World} {D : DataW Value} {F : Nat → Option FrV} {fb : Nat} (h : FrsAt S w D F) (hm : ∃ es c, w.heap[fb]? = some (.map es c)) (k : ∀ b, S b → b ≠ fb → w'.heap[b]? = w.heap[b]?) (hs : w.heap.size ≤ w'.heap.size) (hS : ∀ b, S b → S' b) : FrsAt S' w' D F :=
  ⟨h.no, fun n f hn e => ⟨(h.yes n f hn e).1, (h.yes n f hn e).2.turn hm k hs hS⟩, h.keys⟩

def setFr (F : Nat → Option FrV) (n : Nat) (f : FrV) : Nat → Option FrV := fun q => if q = n then some f else F q
def delFr (F : Nat → Option FrV) (n : Nat) : Nat → Option FrV := fun q => if q = n then none else F q

theorem FrsAt.put {S : Nat → Prop} {w : World} {D : DataW Value} {F : Nat → Option FrV} (h : FrsAt S w D F) (hI : Maps.IsMap D) {n : Nat} (h1 : 1 ≤ n) (h2 : n ≤ 2048) {v : Value} {f : FrV} (hv : FrAt S w n v f) : FrsAt S w (D.put (keyL n) (.held v)) (setFr F n f) := by
  refine ⟨fun q hq e => ?_, fun q g hq e => ?_, fun l hl => ?_⟩
  · unfold setFr at e
    split at e
    · cases e
    · rename_i hne
      rw [Maps.has_put_other (keyL_ne hne)]
      exact h.no q hq e
  · unfold setFr at e
    split at e
    · rename_i heq
      subst heq
      cases e
      refine ⟨Maps.has_put_same hI (keyL_lit q) _, ?_⟩
      rw [getV_put_same hI (keyL_lit q)]
      exact hv
    · rename_i hne
      rw [Maps.has_put_other (keyL_ne hne), getV_put_other (keyL_ne hne)]
      exact h.yes q g hq e
  · by_cases e : l = keyL n
    · exact ⟨n, h1, h2, e⟩
    · rw [Maps.has_put_other e] at hl
      exact h.keys l hl

theorem FrsAt.del {S : Nat → Prop} {w : World} {D : DataW Value} {F : Nat → Option FrV} (h : FrsAt S w D F) (n : Nat) : FrsAt S w (D.del (keyL n)) (delFr F n) := by
  refine ⟨fun q hq e => ?_, fun q g hq e => ?_, fun l hl => ?_⟩
  · unfold delFr at e
    by_cases hne : q = n
    · subst hne
      exact Maps.has_del_same
    · rw [if_neg hne] at e
      rw [Maps.has_del_other (keyL_ne hne)]
      exact h.no q hq e
  · unfold delFr at e
    split at e
    · cases e
    · rename_i hne
      rw [Maps.has_del_other (keyL_ne hne), getV_del_other (keyL_ne hne)]
      exact h.yes q g hq e
  · by_cases e : l = keyL n
    · subst e
      rw [Maps.has_del_same] at hl
      cases hl
    · rw [Maps.has_del_other e] at hl
      exact h.keys l hl

/-- The pool with another map. -/
theorem PoolAt.turn {w w' : World} {p fb : Nat} {pv : Value} {D D' : DataW Value} {S S' : Nat → Prop} {P : PG} (h : PoolAt w p fb pv D S P) (k : ∀ b, S b → b ≠ fb → w'.heap[b]? = w.heap[b]?) (hs : w.heap.size ≤ w'.heap.size) (hS : ∀ b, S b → S' b) (hlt : ∀ b, S' b → b < w'.heap.size) {z' : Nat} {F' : Nat → Option FrV}
    (hM : MapV 54 w' fb z' D') (hF : FrsAt S' w' D' F') : PoolAt w' p fb pv D' S' { P with F := F', z := z' } :=
  ⟨h.blk.same (k p h.sp (Ne.symm h.pf)), hM, hF, h.picks.turn h.sv h.map.isMap k hs, hS p h.sp, hS fb h.sf, fun b e => hS b (h.sv b e), h.sq, hlt⟩

/-- The pool with another count in one of its cells. -/
theorem PoolAt.cell {w : World} {p fb : Nat} {pv : Value} {D : DataW Value} {S : Nat → Prop} {P P' : PG} (h : PoolAt w p fb pv D S P) (i : Nat) (v : Value) (e : (pvals fb pv P).setIfInBounds i v = pvals fb pv P') (e1 : P'.F = P.F) (e2 : P'.z = P.z) (e3 : P'.picks = P.picks) : PoolAt (w.setCell ⟨p, i, none⟩ v) p fb pv D S P' := by
  have k : ∀ b, b ≠ p → (w.setCell ⟨p, i, none⟩ v).heap[b]? = w.heap[b]? := fun b hb => Below.heap_setCell _ _ _ _ hb
  refine ⟨?_, ?_, ?_, ?_, h.sp, h.sf, h.sv, h.sq, fun b hb => by simpa using h.lt b hb⟩
  · have := h.blk.set i v
    rw [e] at this
    exact this
  · rw [e2]; exact h.map.same (k fb h.pf)
  · rw [e1]
    refine ⟨h.frs.no, fun n f hn hf => ⟨(h.frs.yes n f hn hf).1, ?_⟩, h.frs.keys⟩
    obtain ⟨⟨a, c, ev, hm⟩, g2, g3, g4⟩ := (h.frs.yes n f hn hf).2
    refine ⟨⟨a, c, ev, ?_⟩, g2, g3, g4⟩
    rcases hm with hm | ⟨b, o, e, g5, hb, hc⟩
    · exact .inl hm
    · refine .inr ⟨b, o, e, g5, by simpa using hb, fun j hj => ?_⟩
      by_cases hbp : b = p
      · subst hbp
        have h1 := hc j hj
        rw [h.blk.cell] at h1
        have hlt : o + j < 7 := by
          have := (Array.getElem?_eq_some_iff.1 h1).1
          simpa [pvals] using this
        exfalso
        obtain ⟨ap, cp, epv, _⟩ := h.picks
        rw [epv] at h1
        have : o + j = 0 ∨ o + j = 1 ∨ o + j = 2 ∨ o + j = 3 ∨ o + j = 4 ∨ o + j = 5 ∨ o + j = 6 := by omega
        rcases this with x | x | x | x | x | x | x <;> rw [x] at h1 <;> simp [pvals] at h1
      · exact (World.cell?_of_block (w := w) (a := ⟨b, o + j, none⟩) (k b hbp)).trans (hc j hj)
  · rw [e3]
    obtain ⟨a, c, ev, h1, h2, h3⟩ := h.picks
    refine ⟨a, c, ev, h1, h2, ?_⟩
    rcases h3 with hm | ⟨b, o, e, hb, hc⟩
    · exact .inl hm
    · have hbp : b ≠ p := h.sq b (by rw [ev, e]; rfl)
      exact .inr ⟨b, o, e, by simpa using hb, fun j hj => (World.cell?_of_block (w := w) (a := ⟨b, o + j, none⟩) (k b hbp)).trans (hc j hj)⟩

end Go.Proofs.YtgmfgkdecpldeaaGreat

namespace Go.Proofs.YtgmfgkdecpldeaaGreat
open Go.RowKit Go.Sort
set_option linter.unusedVariables false

/-- What makeRoom makes of a pool, its log and its disk. -/
def RoomTo (p : Nat) (P : PG) (l : LG) (d : DG) (P1 : PG) (l1 : LG) (d1 : DG) : Prop :=
  ∀ W A, Sys W p A P l d → Calls Tryz.prog 48 #[.pointer (some ⟨p, 0, none⟩)] W fun e w' => e = .returned (.int .i64 0) ∧ ∃ A', Sys w' p A' P1 l1 d1 ∧ Moves A A' W w'

theorem Sys.drewN {w : World} {p : Nat} {A : Nat → Prop} {P : PG} {l : LG} {d : DG} (h : Sys w p A P l d) (n : Nat) : Sys (w.drewN n) p A P l d := h.same (fun _ _ => rfl) (Nat.le_refl _)

set_option maxHeartbeats 1600000 in
theorem room_roomy {p : Nat} {P : PG} {l : LG} {d : DG} (h1 : P.z < P.most) (h2 : P.most ≤ 1000000) : RoomTo p P l d P l d := by
  intro W A hS
  have HS := hid hS
  obtain ⟨⟨S, L, D, ⟨fb, pv, M, hP⟩, _⟩, _, _⟩ := hS
  have c2 := hP.cells.c2
  have c3 := hP.cells.c3
  have hlen' : ∀ ty, (Builtin.len_ #[110] ty #[.map (some fb)]).run Tryz.prog W.drew = .ok (.int .i64 P.z) W.drew := fun ty => by
    have := (hP.map.same (w' := W.drew) rfl).1.len (t := 110) (e := 108) Tryz.underlying110 ty
    rw [hP.map.2] at this
    exact this
  have h1' : (P.z : Int) < P.most := by omega
  clear hP
  go_enter Tryz.func48, Tryz.ntmps48
  go_wp2_with fail
  go_region
  go_wp2
  go_ret
  exact ⟨rfl, A, HS.out.drewN 1, Moves.of_kept ((Kept.refl _ _).drewN _)⟩

end Go.Proofs.YtgmfgkdecpldeaaGreat

namespace Go.Proofs.YtgmfgkdecpldeaaGreat
open Go.RowKit Go.Sort
set_option linter.unusedVariables false

/-- Since when a page is dirty that is put. -/
def sinceF (old lsn : Nat) : Nat := if old = 0 then max lsn 1 else old

/-- Since when a page is dirty; 0: it is not. -/
def oldS (P : PG) (n : Nat) : Nat := match P.F n with | some f => f.since | none => 0

/-- A page is put into a pool. -/
def putP (P : PG) (X : SheetV) : PG := { P with F := setFr P.F X.num ⟨X, sinceF (oldS P X.num) X.lsn⟩, z := if (P.F X.num).isSome = true then P.z else P.z + 1 }

def frArr (f : FrV) (a : Option Addr) (c : Nat) : Array Value := #[.int .u32 f.sh.num, .int .u64 f.sh.lsn, .int .i64 f.sh.kind, .string f.sh.head, .slice a f.sh.slots.length c, .int .u64 f.since]

theorem frameZero (w : World) : (zeroValue 108).run Tryz.prog w = .ok zeroF w := Tryz.zeroValue108 w

/-- What a look-up of a frame tells. -/
theorem PoolAt.look {w : World} {p fb : Nat} {pv : Value} {M : DataW Value} {S : Nat → Prop} {P : PG} (h : PoolAt w p fb pv M S P) {n : Nat} (hn : n < 4294967296) :
    (P.F n = none → (Instr.lookup 110 (.map (some fb)) (.int .u32 n) true).run Tryz.prog w = .ok (.tuple #[zeroF, .bool false]) w) ∧
    (∀ f, P.F n = some f → ∃ a c, StrsIn S w a f.sh.slots ∧ (Instr.lookup 110 (.map (some fb)) (.int .u32 n) true).run Tryz.prog w = .ok (.tuple #[.agg (frArr f a c), .bool true]) w) := by
  have hl := h.map.lookOk pageKeyed Tryz.underlying110 (frameZero w) (keyL_key hn)
  refine ⟨fun e => ?_, fun f e => ?_⟩
  · have h1 := h.frs.no n hn e
    rw [h1, getV_none h1] at hl
    exact hl
  · obtain ⟨h1, ⟨a, c, ev, hm⟩, _⟩ := h.frs.yes n f hn e
    rw [h1, ev] at hl
    exact ⟨a, c, hm, hl⟩

/-- Where Put stands: the boxes of the page and of the frame, behind the look-up. -/
structure PuAt (w W : World) (p : Nat) (A0 A : Nat → Prop) (P : PG) (l : LG) (d : DG) (X : SheetV) (a : Option Addr) (c q : Nat) (fc : Array Value) : Prop where
  sys : Sys W p A P l d
  x : Blk W w.heap.size (X.arr a c) 56
  f : Blk W q fc 108
  l1 : w.heap.size < q
  l2 : q < W.heap.size
  nx : ¬ A w.heap.size
  nq : ¬ A q
  mv : Moves A0 A w W

/-- A step that turns only blocks that are new. -/
theorem Moves.late {S S' T : Nat → Prop} {u v w : World} (h : Moves S S' u v) (k : Kept T v w) (ht : ∀ b, T b → u.heap.size ≤ b) : Moves S S' u w :=
  ⟨⟨k.os.trans h.1.os, k.tape.trans h.1.tape, k.output.trans h.1.output, Nat.le_trans h.1.size k.size, fun i hi hs => (k.block i (Nat.lt_of_lt_of_le hi h.1.size) fun x => by have := ht i x; omega).trans (h.1.block i hi hs)⟩, h.2⟩

theorem StrsIn.moved {A A' : Nat → Prop} {W W' : World} {a : Option Addr} {L : List ByteArray} (h : StrsIn (fun b => ¬ A b) W a L) (hm : Moves A A' W W') : StrsIn (fun b => ¬ A' b) W' a L := by
  rcases h with e | ⟨b, o, e, g1, g2, g3⟩
  · exact .inl e
  · have k3 := hm.off g2 g1
    exact .inr ⟨b, o, e, k3.2, Nat.lt_of_lt_of_le g2 hm.1.size, fun i hi => (World.cell?_of_block (w := W) (a := ⟨b, o + i, none⟩) k3.1).trans (g3 i hi)⟩

theorem PuAt.moved {w W W' : World} {p : Nat} {A0 A A' : Nat → Prop} {P P' : PG} {l l' : LG} {d d' : DG} {X : SheetV} {a : Option Addr} {c q : Nat} {fc : Array Value} (h : PuAt w W p A0 A P l d X a c q fc) (hs : Sys W' p A' P' l' d') (hm : Moves A A' W W') : PuAt w W' p A0 A' P' l' d' X a c q fc := by
  have h1 := h.l1
  have h2 := h.l2
  have k1 := hm.off (r := w.heap.size) (by omega) h.nx
  have k2 := hm.off (r := q) (by omega) h.nq
  exact ⟨hs, h.x.same k1.1, h.f.same k2.1, h1, Nat.lt_of_lt_of_le h2 hm.1.size, k1.2, k2.2, h.mv.trans hm⟩

theorem PuAt.below {w W W' : World} {p : Nat} {A0 A : Nat → Prop} {P : PG} {l : LG} {d : DG} {X : SheetV} {a : Option Addr} {c q : Nat} {fc : Array Value} (h : PuAt w W p A0 A P l d X a c q fc) (hb : Below W.heap.size W W') : PuAt w W' p A0 A P l d X a c q fc :=
  h.moved (h.sys.below hb) (Moves.of_kept (Kept.of_below hb))

theorem PuAt.setF {w W : World} {p : Nat} {A0 A : Nat → Prop} {P : PG} {l : LG} {d : DG} {X : SheetV} {a : Option Addr} {c q : Nat} {fc : Array Value} (h : PuAt w W p A0 A P l d X a c q fc) (i : Nat) (v : Value) : PuAt w (W.setCell ⟨q, i, none⟩ v) p A0 A P l d X a c q (fc.setIfInBounds i v) := by
  have h1 := h.l1
  have h2 := h.l2
  have k : ∀ b, b ≠ q → (W.setCell ⟨q, i, none⟩ v).heap[b]? = W.heap[b]? := fun b hb => Below.heap_setCell _ _ _ _ hb
  exact ⟨h.sys.same (fun b hb => k b fun e => h.nq (e ▸ hb)) (by simp), h.x.same (k _ (by omega)), h.f.set i v, h1, by simpa using h2, h.nx, h.nq, h.mv.late (Kept.setCell (fun k => k = q) W q i v rfl) fun k e => by omega⟩

/-- The boxes' cells. -/
structure PuC (w W : World) (X : SheetV) (a : Option Addr) (c q : Nat) (f : FrV) (ga : Option Addr) (gc : Nat) : Prop where
  x0 : W.cell? ⟨w.heap.size, 0, none⟩ = some (.int .u32 X.num)
  x1 : W.cell? ⟨w.heap.size, 1, none⟩ = some (.int .u64 X.lsn)
  x2 : W.cell? ⟨w.heap.size, 2, none⟩ = some (.int .i64 X.kind)
  x3 : W.cell? ⟨w.heap.size, 3, none⟩ = some (.string X.head)
  x4 : W.cell? ⟨w.heap.size, 4, none⟩ = some (.slice a X.slots.length c)
  y0 : W.cell? ⟨q, 0, none⟩ = some (.int .u32 f.sh.num)
  y1 : W.cell? ⟨q, 1, none⟩ = some (.int .u64 f.sh.lsn)
  y2 : W.cell? ⟨q, 2, none⟩ = some (.int .i64 f.sh.kind)
  y3 : W.cell? ⟨q, 3, none⟩ = some (.string f.sh.head)
  y4 : W.cell? ⟨q, 4, none⟩ = some (.slice ga f.sh.slots.length gc)
  y5 : W.cell? ⟨q, 5, none⟩ = some (.int .u64 f.since)
  f0 : W.frozen? ⟨q, 0, none⟩ = false
  f1 : W.frozen? ⟨q, 1, none⟩ = false
  f2 : W.frozen? ⟨q, 2, none⟩ = false
  f3 : W.frozen? ⟨q, 3, none⟩ = false
  f4 : W.frozen? ⟨q, 4, none⟩ = false
  f5 : W.frozen? ⟨q, 5, none⟩ = false

theorem PuAt.cells {w W : World} {p : Nat} {A0 A : Nat → Prop} {P : PG} {l : LG} {d : DG} {X : SheetV} {a : Option Addr} {c q : Nat} {f : FrV} {ga : Option Addr} {gc : Nat} (h : PuAt w W p A0 A P l d X a c q (frArr f ga gc)) : PuC w W X a c q f ga gc :=
  ⟨h.x.cell 0, h.x.cell 1, h.x.cell 2, h.x.cell 3, h.x.cell 4, h.f.cell 0, h.f.cell 1, h.f.cell 2, h.f.cell 3, h.f.cell 4, h.f.cell 5, h.f.frozen 0, h.f.frozen 1, h.f.frozen 2, h.f.frozen 3, h.f.frozen 4, h.f.frozen 5⟩

theorem PuAt.copied {w W : World} {p : Nat} {A0 A : Nat → Prop} {P : PG} {l : LG} {d : DG} {X : SheetV} {a : Option Addr} {c q : Nat} {f : FrV} {ga : Option Addr} {gc : Nat} (h : PuAt w W p A0 A P l d X a c q (frArr f ga gc)) (b k : Nat) :
    PuAt w (store5 W q (.int .u32 X.num) (.int .u64 X.lsn) (.int .i64 X.kind) (.string X.head) (.slice (some ⟨b, 0, none⟩) X.slots.length k)) p A0 A P l d X a c q (frArr ⟨X, f.since⟩ (some ⟨b, 0, none⟩) k) :=
  ((((h.setF 0 _).setF 1 _).setF 2 _).setF 3 _).setF 4 _

theorem PuAt.sinced {w W : World} {p : Nat} {A0 A : Nat → Prop} {P : PG} {l : LG} {d : DG} {X : SheetV} {a : Option Addr} {c q : Nat} {f : FrV} {ga : Option Addr} {gc : Nat} (h : PuAt w W p A0 A P l d X a c q (frArr f ga gc)) (n : Nat) :
    PuAt w (W.setCell ⟨q, 5, none⟩ (.int .u64 n)) p A0 A P l d X a c q (frArr ⟨f.sh, n⟩ ga gc) := h.setF 5 _

/-- The frame is put into the map. -/
theorem PuAt.done {w W : World} {p : Nat} {A0 A : Nat → Prop} {P : PG} {l : LG} {d : DG} {X : SheetV} {a : Option Addr} {c q : Nat} {fc : Array Value} (h : PuAt w W p A0 A P l d X a c q fc) {b k : Nat} (hb : w.heap.size ≤ b) (hnA : ¬ A b) (hS : StrsFrom w.heap.size W (some ⟨b, 0, none⟩) X.slots) (hbl : b < W.heap.size) (hF : X.Fits) (h1 : 1 ≤ X.num) (h2 : X.num ≤ 2048) (hz : P.z ≤ 1000000) (sn : Nat) (hsn : sn < 18446744073709551616) :
    ∃ (fb : Nat) (u : World → World), W.cell? ⟨p, 3, none⟩ = some (.map (some fb)) ∧ (Instr.mapUpdate 110 (.map (some fb)) (.int .u32 X.num) (.agg (frArr ⟨X, sn⟩ (some ⟨b, 0, none⟩) k))).run Tryz.prog W.drew = .ok () (u W.drew) ∧
      ∃ A', Sys (u W.drew) p A' { P with F := setFr P.F X.num ⟨X, sn⟩, z := if (P.F X.num).isSome = true then P.z else P.z + 1 } l d ∧ Moves A0 A' w (u W.drew) := by
  obtain ⟨⟨S, L, D, ⟨fb, pv, M, hP⟩, hL, hD, g4, g5, g6, g7⟩, g8, g9⟩ := h.sys
  obtain ⟨u, hu⟩ := put_ex 54 110 108 fb (.int .u32 X.num) (.agg (frArr ⟨X, sn⟩ (some ⟨b, 0, none⟩) k))
  obtain ⟨hrun, hM, ht⟩ := hu W.drew P.z M (keyL X.num) (hP.map.same rfl) pageKeyed Tryz.underlying110 hz (keyL_key (by omega))
  have hk : Kept (fun k => k = fb) W.drew (u W.drew) := mapTurned_kept ht rfl
  have hkb : ∀ k, k < W.heap.size → k ≠ fb → (u W.drew).heap[k]? = W.heap[k]? := fun k hk' hne => hk.block k hk' hne
  have hsz : W.heap.size ≤ (u W.drew).heap.size := hk.size
  have hI : Maps.IsMap M := (hP.map.tidy pageKeyed).isMap
  have hzz : Maps.size (M.put (keyL X.num) (.held (.agg (frArr ⟨X, sn⟩ (some ⟨b, 0, none⟩) k)))) = if (P.F X.num).isSome = true then P.z else P.z + 1 := by
    rw [Maps.size_put (hP.map.tidy pageKeyed), hP.map.2]
    cases e : P.F X.num with
    | none => rw [hP.frs.no _ (by omega) e]; rfl
    | some f => rw [(hP.frs.yes _ f (by omega) e).1]; rfl
  rw [hzz] at hM
  have hbm : ∀ (i : Nat) (hi : i < X.slots.length), b ≠ fb := fun i hi => by
    rcases hS with e | ⟨b', o', e, _, _, hc⟩
    · rw [e] at hi; simp at hi
    · cases e; exact cell_noMap (hc i hi) hP.map.isMap
  have hfr : FrAt (fun k => S k ∨ k = b) (u W.drew) X.num (.agg (frArr ⟨X, sn⟩ (some ⟨b, 0, none⟩) k)) ⟨X, sn⟩ := by
    refine ⟨⟨_, _, rfl, ?_⟩, hF, rfl, hsn⟩
    rcases hS with e | ⟨b', o', e, _, _, hc⟩
    · exact .inl e
    · cases e
      exact .inr ⟨b, 0, rfl, .inr rfl, Nat.lt_of_lt_of_le hbl hsz, fun i hi => (World.cell?_of_block (w := W) (a := ⟨b, 0 + i, none⟩) (hkb b hbl (hbm i hi))).trans (hc i hi)⟩
  have hF1 : FrsAt (fun k => S k ∨ k = b) (u W.drew) M P.F := hP.frs.turn hP.map.isMap (fun k hk' hne => hkb k (hP.lt k hk') hne) hsz fun k x => .inl x
  have hP' := hP.turn (S' := fun k => S k ∨ k = b) (fun k hk' hne => hkb k (hP.lt k hk') hne) hsz (fun k x => .inl x) (by rintro k (x | rfl); exact Nat.lt_of_lt_of_le (hP.lt k x) hsz; exact Nat.lt_of_lt_of_le hbl hsz) hM (hF1.put hI h1 h2 hfr)
  have nfL : ∀ k, L k → k ≠ fb := fun k hk' e => g4 fb hP.sf (e ▸ hk')
  have nfD : ∀ k, D k → k ≠ fb := fun k hk' e => g5 fb hP.sf (e ▸ hk')
  refine ⟨fb, u, hP.cells.c3, hrun, fun k => A k ∨ k = b, ⟨⟨fun k => S k ∨ k = b, L, D, ⟨fb, pv, _, hP'⟩, hL.same (fun k hk' => hkb k (hL.lt hk') (nfL k hk')) hsz, hD.same (fun k hk' => hkb k (hD.lt hk') (nfD k hk')) hsz, ?_, ?_, g6, ?_⟩, g8, ?_⟩, ?_⟩
  · rintro k (x | rfl) y
    · exact g4 k x y
    · exact hnA (g7 k (.inr (.inl y)))
  · rintro k (x | rfl) y
    · exact g5 k x y
    · exact hnA (g7 k (.inr (.inr y)))
  · rintro k ((x | rfl) | x)
    · exact .inl (g7 k (.inl x))
    · exact .inr rfl
    · exact .inl (g7 k (.inr x))
  · rintro k (x | rfl)
    · exact Nat.lt_of_lt_of_le (g9 k x) hsz
    · exact Nat.lt_of_lt_of_le hbl hsz
  · have hmv := h.mv
    refine ⟨⟨hk.os.trans hmv.1.os, hk.tape.trans hmv.1.tape, hk.output.trans hmv.1.output, Nat.le_trans hmv.1.size hsz, fun i hi hs => ?_⟩, ?_⟩
    · have k1 := hmv.off hi hs
      exact (hkb i (Nat.lt_of_lt_of_le hi hmv.1.size) fun e => k1.2 (e ▸ g7 fb (.inl hP.sf))).trans k1.1
    · rintro k (x | rfl)
      · exact hmv.2 k x
      · exact .inr hb

theorem Blk.alloc {w : World} {b : Nat} {cs : Array Value} {t : TypeId} (h : Blk w b cs t) (o : Obj) : Blk (w.alloc o) b cs t := h.same (heap_old _ _ h.lt)

/-- The look-up of a frame, and of what is no frame. -/
theorem PoolAt.looks {w : World} {p fb : Nat} {pv : Value} {M : DataW Value} {S : Nat → Prop} {P : PG} (h : PoolAt w p fb pv M S P) {n : Nat} (hn : n < 4294967296) :
    ∃ (g : FrV) (ga : Option Addr) (gc : Nat), (∀ w', Below w.heap.size w w' → (Instr.lookup 110 (.map (some fb)) (.int .u32 n) true).run Tryz.prog w' = .ok (.tuple #[.agg #[.int .u32 g.sh.num, .int .u64 g.sh.lsn, .int .i64 g.sh.kind, .string g.sh.head, .slice ga g.sh.slots.length gc, .int .u64 g.since], .bool (P.F n).isSome]) w') ∧
      g.since = oldS P n ∧ g.since < 18446744073709551616 ∧ (∀ f, P.F n = some f → g = f ∧ StrsIn S w ga f.sh.slots) := by
  cases e : P.F n with
  | none => exact ⟨⟨sheet0, 0⟩, none, 0, fun w' hb => ((h.below hb).look hn).1 e, by simp only [oldS, e], by show (0 : Nat) < _; omega, fun f hf => by cases hf⟩
  | some f =>
    obtain ⟨h1, ⟨a, c, ev, hm⟩, _, _, h5⟩ := h.frs.yes n f hn e
    refine ⟨f, a, c, fun w' hb => ?_, by simp only [oldS, e], h5, fun g hg => by cases hg; exact ⟨rfl, hm⟩⟩
    have hl' := (h.below hb).map.lookOk pageKeyed Tryz.underlying110 (frameZero w') (keyL_key hn)
    rw [h1, ev] at hl'
    exact hl'

set_option maxHeartbeats 3200000 in
set_option maxRecDepth 8000 in
theorem poolPut_any {w : World} {p : Nat} {A : Nat → Prop} {P P1 : PG} {l l1 : LG} {d d1 : DG} (hS : Sys w p A P l d) (X : SheetV) (a : Option Addr) (c : Nat) (hX : X.Ok w a) (hoff : ∀ b o, a = some ⟨b, o, none⟩ → ¬ A b) (h1 : 1 ≤ X.num) (h2 : X.num ≤ 2048) (hE : encE X = 0)
    (hR : P.F X.num = none → RoomTo p P l d P1 l1 d1 ∧ P1.F X.num = none) (hR' : P.F X.num ≠ none → P1 = P ∧ l1 = l ∧ d1 = d) (hz : P1.z ≤ 1000000) :
    Calls Tryz.prog 15 #[.pointer (some ⟨p, 0, none⟩), X.val a c] w fun e w' => e = .returned (.int .i64 0) ∧ ∃ A', Sys w' p A' (putP P1 X) l1 d1 ∧ Moves A A' w w' := by
  have hFit : X.Fits := (encE_fits hX).1 hE
  have HEN : Hid (∀ W, Below w.heap.size w W → Calls Tryz.prog 47 #[X.val a c] W fun e w' => e = .returned (.tuple #[.string (encS X), .int .i64 0]) ∧ Below W.heap.size W w') := fun W hb => by
    have := encode_any X a c W (hX.below hb)
    rw [hE] at this
    exact this
  have HMB : Hid (∀ W, Calls Tryz.prog 46 #[.int .u32 X.num] W fun x w' => x = .returned (.bool true) ∧ w' = W) := fun W => by
    have := mayBe_any X.num W (by omega)
    rw [decide_eq_true (by omega)] at this
    exact this
  have HV : Hid (X.val a c = .agg #[.int .u32 X.num, .int .u64 X.lsn, .int .i64 X.kind, .string X.head, .slice a X.slots.length c]) := rfl
  generalize encS X = ES at *
  obtain ⟨W0, HW0⟩ : ∃ W0, Hid (W0 = w.alloc (.cells #[.int .u32 X.num, .int .u64 X.lsn, .int .i64 X.kind, .string X.head, .slice a X.slots.length c] 56)) := ⟨_, rfl⟩
  have b0 : Below w.heap.size w W0 := by rw [HW0.out]; exact (Below.refl _ _).alloc (Nat.le_refl _) _
  have kx : Blk W0 w.heap.size (X.arr a c) 56 := by rw [HW0.out]; exact Blk.made w _ _
  have x0 : W0.cell? ⟨w.heap.size, 0, none⟩ = some (.int .u32 X.num) := kx.cell 0
  have x1 : W0.cell? ⟨w.heap.size, 1, none⟩ = some (.int .u64 X.lsn) := kx.cell 1
  have x2 : W0.cell? ⟨w.heap.size, 2, none⟩ = some (.int .i64 X.kind) := kx.cell 2
  have x3 : W0.cell? ⟨w.heap.size, 3, none⟩ = some (.string X.head) := kx.cell 3
  have x4 : W0.cell? ⟨w.heap.size, 4, none⟩ = some (.slice a X.slots.length c) := kx.cell 4
  rw [HV.out] at HEN ⊢
  go_enter Tryz.func15, Tryz.ntmps15
  go_wp2_with fail
  rw [← HW0.out]
  refine (HMB.out _).mono ?_
  rintro x w1 ⟨rfl, rfl⟩
  go_wp2_with fail
  refine (HEN.out _ b0).mono ?_
  rintro x w1 ⟨rfl, b1⟩
  have kx1 := kx.same (b1.block _ kx.lt)
  have hS1 := (hS.below b0).below b1
  have bel1 := below_chain b0 b1
  have z1 : w.heap.size < w1.heap.size := Nat.lt_of_lt_of_le kx.lt b1.size
  clear x0 x1 x2 x3 x4 kx b0 b1 HW0 HEN HMB
  obtain ⟨⟨S, L, DD, ⟨fb, pv, M, hP⟩, hRR⟩, hld, hlt⟩ := id hS1
  obtain ⟨g, ga, gc, hlook, hold, hg64, hyes⟩ := hP.looks (n := X.num) (by omega)
  have x0 : w1.cell? ⟨w.heap.size, 0, none⟩ = some (.int .u32 X.num) := kx1.cell 0
  have c3 := hP.cells.c3
  have hpl : p < w1.heap.size := hP.lt p hP.sp
  have k1 := hlook w1.drew (Below.refl _ _).drew
  have k2 := hlook (w1.alloc (.cells #[.int .u32 0, .int .u64 0, .int .i64 0, .string ⟨#[]⟩, .slice none 0 0, .int .u64 0] 108)).drew ((Below.refl _ _).alloc (Nat.le_refl _) _).drew
  have HYS := hid hyes
  clear hlook hyes
  have HHE : Hid ((P.F X.num).isSome = true ∨ (P.F X.num).isSome = false) := by show _ ∨ _; cases (P.F X.num).isSome <;> simp
  obtain ⟨here, hhere⟩ : ∃ here, here = (P.F X.num).isSome := ⟨_, rfl⟩
  rw [← hhere] at k1 k2
  have HH := hid hhere
  clear hhere HHE
  have HOLD := hid hold
  have H64 := hid hg64
  clear hold hg64
  have nA1 : ∀ k, w.heap.size ≤ k → ¬ A k := fun k hk hA => by have := hS.lt k hA; omega
  have hxs : StrsIn (fun b => ¬ A b) w1 a X.slots := by
    rcases hX.mem with e | ⟨b, o, e, g2, g3⟩
    · exact .inl e
    · exact .inr ⟨b, o, e, hoff b o e, Nat.lt_of_lt_of_le g2 bel1.size, fun i hi => (bel1.cell (p := ⟨b, o + i, none⟩) g2).trans (g3 i hi)⟩
  go_upto_region 6 with fail
  go_cut [7, 8] from 26 to 35 (fun np hv wx => np = .pointer (some ⟨w1.heap.size, 0, none⟩) ∧ hv = .bool here ∧ Hid (Blk wx w1.heap.size (frArr g ga gc) 108 ∧ Below w1.heap.size w1 wx))
  case first =>
    go_region
    all_goals
      go_wp2_with fail
      go_meet
      case rel => exact ⟨rfl, rfl, ⟨Blk.made w1 _ _, ((Below.refl _ _).alloc (Nat.le_refl _) _).drew⟩⟩
  case rest =>
    obtain ⟨rfl, rfl, HB⟩ := hcut
    have HP : PuAt w wc p A A P l d X a c w1.heap.size (frArr g ga gc) := ⟨hS1.below HB.out.2, kx1.same (HB.out.2.block _ z1), HB.out.1, z1, HB.out.1.lt, nA1 _ (Nat.le_refl _), nA1 _ (by omega), Moves.of_kept (Kept.of_below (below_chain bel1 HB.out.2))⟩
    have HBB := HB.out.2
    clear HB
    have HC : Hid (∀ (W : World), StrsAt W a X.slots → Calls Tryz.prog 49 #[X.val a c] W fun e w' => ∃ b, e = .returned (X.val (some ⟨b, 0, none⟩) X.slots.length) ∧ W.heap.size < b ∧ b < w'.heap.size ∧ RowV w' b X.slots.length (fun j => .string (X.slots.getD j ByteArray.empty)) ∧ Below W.heap.size W w') := fun W hm => pcopyOf_any X a c W (hFit.ok hm)
    rw [HV.out] at HC
    have HXS : Hid (StrsIn (fun b => ¬ A b) wc a X.slots) := hxs.moved (Moves.of_kept (Kept.of_below HBB))
    have HPP := hid HP
    have HR0 : Hid ((P.F X.num).isSome = false → RoomTo p P l d P1 l1 d1 ∧ P1.F X.num = none) := fun e => hR (by simpa using e)
    have HR1 : Hid ((P.F X.num).isSome = true → P1 = P ∧ l1 = l ∧ d1 = d) := fun e => hR' (by intro h; rw [h] at e; cases e)
    generalize hq : w1.heap.size = q at *
    clear hxs HP kx1 hS1 bel1 z1 hP hR hRR hlt hpl c3 x0 k1 k2 hR' HYS hld hX hoff hS hq
    go_upto_if 37 with fail
    go_cut [] from 37 to 42 (fun wx => Hid (∃ A1, PuAt w wx p A A1 P1 l1 d1 X a c q (frArr g ga gc) ∧ StrsIn (fun b => ¬ A1 b) wx a X.slots))
    case first =>
      cases here
      · obtain ⟨hroom, _⟩ := HR0.out HH.out.symm
        go_wp2_with fail
        refine (hroom wc A HPP.out.sys).mono ?_
        rintro e w2 ⟨rfl, h2⟩
        have H2 := hid h2
        clear h2
        go_wp2_with fail
        go_meet
        case rel =>
          obtain ⟨A1, hs2, hm2⟩ := H2.out
          exact ⟨A1, HPP.out.moved hs2 hm2, HXS.out.moved hm2⟩
      · obtain ⟨rfl, rfl, rfl⟩ := HR1.out HH.out.symm
        go_wp2_with fail
        go_meet
        case rel => exact ⟨A, HPP.out, HXS.out⟩
    case rest =>
      rename_i wd
      obtain ⟨A1, H1, hx1⟩ := hcut.out
      clear hcut HPP HXS
      obtain ⟨x0, x1, x2, x3, x4, y0, y1, y2, y3, y4, y5, f0, f1, f2, f3, f4, f5⟩ := H1.cells
      have hmvs := H1.mv.1.size
      have hq1 := H1.l1
      go_wp2_with fail
      refine (HC.out _ hx1.at).mono ?_
      rintro e w4 ⟨b, rfl, hb1, hb2, hrow, b4⟩
      have H4 := H1.below b4
      have hnb : ¬ A1 b := fun hA => by have := H1.sys.lt b hA; omega
      have hst : ∀ j (hj : j < X.slots.length), w4.cell? ⟨b, 0 + j, none⟩ = some (.string X.slots[j]) := fun j hj => by
        rw [Nat.zero_add, (hrow j hj).1]
        show some (Value.string (X.slots.getD j ByteArray.empty)) = _
        rw [List.getD_eq_getElem?_getD, List.getElem?_eq_getElem hj]
        rfl
      have HXV2 : Hid (X.val (some ⟨b, 0, none⟩) X.slots.length = .agg #[.int .u32 X.num, .int .u64 X.lsn, .int .i64 X.kind, .string X.head, .slice (some ⟨b, 0, none⟩) X.slots.length X.slots.length]) := rfl
      rw [HXV2.out]
      clear x0 x1 x2 x3 x4 y0 y1 y2 y3 y4 y5 f0 f1 f2 f3 f4 f5 hrow
      have hqb : q ≠ b := by have := H1.l2; omega
      have hql := H4.l2
      clear H1 hx1 b4
      obtain ⟨x0, x1, x2, x3, x4, y0, y1, y2, y3, y4, y5, f0, f1, f2, f3, f4, f5⟩ := H4.cells
      obtain ⟨W5, HW5⟩ : ∃ W5, Hid (W5 = store5 w4 q (.int .u32 X.num) (.int .u64 X.lsn) (.int .i64 X.kind) (.string X.head) (.slice (some ⟨b, 0, none⟩) X.slots.length X.slots.length)) := ⟨_, rfl⟩
      have H5 : PuAt w W5 p A A1 P1 l1 d1 X a c q (frArr ⟨X, g.since⟩ (some ⟨b, 0, none⟩) X.slots.length) := by rw [HW5.out]; exact H4.copied b _
      have hst5 : StrsFrom w.heap.size W5 (some ⟨b, 0, none⟩) X.slots := by
        rw [HW5.out]
        exact .inr ⟨b, 0, rfl, by omega, by rw [store5_size]; exact hb2, fun j hj => (World.cell?_of_block (w := w4) (a := ⟨b, 0 + j, none⟩) (store5_other _ _ _ _ _ _ _ _ (Ne.symm hqb))).trans (hst j hj)⟩
      have HPT : Hid (∀ SN, SN = sinceF g.since X.lsn → putP P1 X = { P1 with F := setFr P1.F X.num ⟨X, SN⟩, z := if (P1.F X.num).isSome = true then P1.z else P1.z + 1 }) := fun SN e => by
        have ho : oldS P1 X.num = g.since := by
          cases here with
          | false =>
            have h3 := (HR0.out HH.out.symm).2
            have h4 := HOLD.out
            have h5 := HH.out
            unfold oldS at h4 ⊢
            rw [h3]
            cases e6 : P.F X.num with
            | none => rw [e6] at h4; exact h4.symm
            | some f => rw [e6] at h5; cases h5
          | true =>
            obtain ⟨rfl, _, _⟩ := HR1.out HH.out.symm
            exact HOLD.out.symm
        unfold putP
        rw [ho, ← e]
      have hb5 : b < W5.heap.size := by rw [HW5.out, store5_size]; exact hb2
      by_cases hsn : g.since = 0
      · have hsi : (g.since : Int) = 0 := by omega
        have hmx : max (X.lsn : Int) 1 = ((max X.lsn 1 : Nat) : Int) := by omega
        go_upto_region 14 with fail
        rw [show (((((w4.setCell ⟨q, 0, none⟩ (.int .u32 X.num)).setCell ⟨q, 1, none⟩ (.int .u64 X.lsn)).setCell ⟨q, 2, none⟩ (.int .i64 X.kind)).setCell ⟨q, 3, none⟩ (.string X.head)).setCell ⟨q, 4, none⟩ (.slice (some ⟨b, 0, none⟩) X.slots.length X.slots.length)) = W5 from HW5.out.symm]
        obtain ⟨SN, hSNe⟩ : ∃ SN, SN = max X.lsn 1 := ⟨_, rfl⟩
        have hput : putP P1 X = { P1 with F := setFr P1.F X.num ⟨X, SN⟩, z := if (P1.F X.num).isSome = true then P1.z else P1.z + 1 } := HPT.out _ (by unfold sinceF; rw [if_pos hsn, hSNe])
        have hSN : SN < 18446744073709551616 := by have := hFit.lsn; omega
        rw [← hSNe]
        obtain ⟨W6, HW6⟩ : ∃ W6, Hid (W6 = W5.setCell ⟨q, 5, none⟩ (.int .u64 SN)) := ⟨_, rfl⟩
        have H6 : PuAt w W6 p A A1 P1 l1 d1 X a c q (frArr ⟨X, SN⟩ (some ⟨b, 0, none⟩) X.slots.length) := by rw [HW6.out]; exact H5.sinced SN
        have hst6 : StrsFrom w.heap.size W6 (some ⟨b, 0, none⟩) X.slots := by
          rw [HW6.out]
          rcases hst5 with e | ⟨b', o', e, g1, g2, g3⟩
          · exact .inl e
          · cases e
            exact .inr ⟨b, 0, rfl, g1, by simpa using g2, fun j hj => (World.cell?_of_block (w := W5) (a := ⟨b, 0 + j, none⟩) (Below.heap_setCell _ _ _ _ (by show b ≠ q; omega))).trans (g3 j hj)⟩
        have hb6 : b < W6.heap.size := by rw [HW6.out]; simpa using hb5
        rw [← HW6.out]
        clear hSNe hmx
        obtain ⟨fb', u, hc3, hrun, HF⟩ := H6.done (b := b) (k := X.slots.length) (by omega) hnb hst6 hb6 hFit h1 h2 hz SN hSN
        have HFF := hid HF
        obtain ⟨x0, x1, x2, x3, x4, y0, y1, y2, y3, y4, y5, f0, f1, f2, f3, f4, f5⟩ := H6.cells
        unfold frArr at hrun
        simp only at hrun y0 y1 y2 y3 y4 y5
        clear H5 H6 HF
        go_region
        all_goals
          go_wp2
          go_ret
          obtain ⟨A', hA1, hA2⟩ := HFF.out
          exact ⟨rfl, A', by rw [hput]; exact hA1, hA2⟩
      · go_upto_region 14 with fail
        rw [show (((((w4.setCell ⟨q, 0, none⟩ (.int .u32 X.num)).setCell ⟨q, 1, none⟩ (.int .u64 X.lsn)).setCell ⟨q, 2, none⟩ (.int .i64 X.kind)).setCell ⟨q, 3, none⟩ (.string X.head)).setCell ⟨q, 4, none⟩ (.slice (some ⟨b, 0, none⟩) X.slots.length X.slots.length)) = W5 from HW5.out.symm]
        have hput : putP P1 X = { P1 with F := setFr P1.F X.num ⟨X, g.since⟩, z := if (P1.F X.num).isSome = true then P1.z else P1.z + 1 } := HPT.out _ (by unfold sinceF; rw [if_neg hsn])
        obtain ⟨SN, hSNe⟩ : ∃ SN, SN = g.since := ⟨_, rfl⟩
        have hSN : SN < 18446744073709551616 := by rw [hSNe]; exact H64.out
        rw [← hSNe] at H5 hput
        clear hSNe
        obtain ⟨fb', u, hc3, hrun, HF⟩ := H5.done (b := b) (k := X.slots.length) (by omega) hnb hst5 hb5 hFit h1 h2 hz SN hSN
        have HFF := hid HF
        obtain ⟨x0, x1, x2, x3, x4, y0, y1, y2, y3, y4, y5, f0, f1, f2, f3, f4, f5⟩ := H5.cells
        unfold frArr at hrun
        simp only at hrun y0 y1 y2 y3 y4 y5
        clear H5 HF
        go_region
        all_goals
          go_wp2
          go_ret
          obtain ⟨A', hA1, hA2⟩ := HFF.out
          exact ⟨rfl, A', by rw [hput]; exact hA1, hA2⟩

end Go.Proofs.YtgmfgkdecpldeaaGreat
