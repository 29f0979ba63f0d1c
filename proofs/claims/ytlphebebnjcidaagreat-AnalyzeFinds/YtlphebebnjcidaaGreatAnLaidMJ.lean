/-
  Where girderlaw19.laid stands: the log, the records told so far with their lists, and the one that is being told.
-/
import Derived.Test.YtlphebebnjcidaaGreatAnLogC
import Derived.Test.YtlphebebnjcidaaGreatRecPutsJ
import Derived.Deep.MidRow
set_option linter.unusedVariables false
set_option linter.unusedSimpArgs false
namespace Go.Proofs.YtlphebebnjcidaaGreat
open Go.RowKit Go.Sort Go.Shelf Go.Lib

structure RefV where
  at' : Nat
  kind : Int
  tx : Int
  next : Nat
  page : Nat
  txs : List TxV
  dirty : List DiV

def c7 (x : RefV × Value × Value) : List Value := [.int .u64 x.1.at', .int .i64 x.1.kind, .int .i64 x.1.tx, .int .u64 x.1.next, .int .u32 x.1.page, x.2.1, x.2.2]

def rsAt (B : Nat) (w : World) (v : Value) (L : List TxV) : Prop := w.ownsRow B 46 4 v L.length (L.flatMap atcells)
def rdAt (B : Nat) (w : World) (v : Value) (L : List DiV) : Prop := w.ownsRow B 52 2 v L.length (L.flatMap adcells)
def roAt (B : Nat) (w : World) (v : Value) (X : List (RefV × Value × Value)) : Prop := w.ownsRow B 74 7 v X.length (X.flatMap c7)

theorem owns_same7 {B : Nat} {w w' : World} {e : TypeId} {s : Nat} {v : Value} {n : Nat} {xs : List Value} (h : w.ownsRow B e s v n xs) (k : ∀ g, v.ownBlock = some g → w'.heap[g]? = w.heap[g]?) : w'.ownsRow B e s v n xs := by
  rcases h.2 with ⟨q, r⟩ | ⟨g, cap, cur, q, h1, h2, h3⟩
  · exact ⟨h.1, .inl ⟨q, r⟩⟩
  · exact ⟨h.1, .inr ⟨g, cap, cur, q, h1, (k g (by rw [q]; rfl)).trans h2, h3⟩⟩

theorem owns_val7 {B : Nat} {w : World} {e : TypeId} {s : Nat} {v : Value} {n : Nat} {xs : List Value} (h : w.ownsRow B e s v n xs) : ∃ a c, v = .slice a n c := by
  rcases h.2 with ⟨rfl, h1⟩ | ⟨g', cap, cur, rfl, h0, hb, hr⟩
  · exact ⟨_, _, by rw [h1]⟩
  · exact ⟨_, _, rfl⟩

theorem owns_base7 {B B' : Nat} {w : World} {e : TypeId} {s : Nat} {v : Value} {n : Nat} {xs : List Value} (h : w.ownsRow B e s v n xs) (hb : B' ≤ B) : w.ownsRow B' e s v n xs := by
  rcases h.2 with ⟨q, r⟩ | ⟨g, cap, cur, q, h1, h2, h3⟩
  · exact ⟨h.1, .inl ⟨q, r⟩⟩
  · exact ⟨h.1, .inr ⟨g, cap, cur, q, Nat.le_trans hb h1, h2, h3⟩⟩

theorem rsAt.lt {B : Nat} {w : World} {v : Value} {L : List TxV} (h : rsAt B w v L) : ∀ g, v.ownBlock = some g → B ≤ g ∧ g < w.heap.size := fun g hg => World.ownsRow.lt h g hg
theorem rdAt.lt {B : Nat} {w : World} {v : Value} {L : List DiV} (h : rdAt B w v L) : ∀ g, v.ownBlock = some g → B ≤ g ∧ g < w.heap.size := fun g hg => World.ownsRow.lt h g hg
theorem roAt.lt {B : Nat} {w : World} {v : Value} {X : List (RefV × Value × Value)} (h : roAt B w v X) : ∀ g, v.ownBlock = some g → B ≤ g ∧ g < w.heap.size := fun g hg => World.ownsRow.lt h g hg

structure XbAt (wA wr : World) (xb : Nat) (x : RefV) (tv dv : Value) : Prop where
  bel : Below wA.heap.size wA wr
  hxb : wA.heap.size ≤ xb
  box : Blk wr xb (c7 (x, tv, dv)).toArray 74
  own1 : rsAt (xb + 1) wr tv x.txs
  own2 : rdAt (xb + 1) wr dv x.dirty
  off : ∀ g, tv.ownBlock = some g → dv.ownBlock ≠ some g

section
variable {wA wr wx w2 : World} {xb : Nat} {x : RefV} {tv dv : Value}

theorem XbAt.below (h : XbAt wA wr xb x tv dv) (k : Below wr.heap.size wr wx) : XbAt wA wx xb x tv dv :=
  ⟨below_chain h.bel k, h.hxb, h.box.same (k.block _ h.box.lt), owns_same7 h.own1 fun g hg => k.block g (h.own1.lt g hg).2, owns_same7 h.own2 fun g hg => k.block g (h.own2.lt g hg).2, h.off⟩

theorem XbAt.push1 (h : XbAt wA wr xb x tv dv) (t : TxV) {g2 cap2 : Nat} (own : w2.ownsRow (xb + 1) 46 4 (.slice (some ⟨g2, 0, none⟩) (x.txs.length + 1) cap2) (x.txs.length + 1) (x.txs.flatMap atcells ++ atcells t)) (gr : wr.grownBy w2 tv.ownBlock) (loc : tv.ownBlock = some g2 ∨ g2 = wr.heap.size) :
    XbAt wA (w2.setCell ⟨xb, 5, none⟩ (.slice (some ⟨g2, 0, none⟩) (x.txs.length + 1) cap2)) xb { x with txs := x.txs ++ [t] } (.slice (some ⟨g2, 0, none⟩) (x.txs.length + 1) cap2) dv ∧ w2.frozen? ⟨xb, 5, none⟩ = false ∧ w2.cell? ⟨xb, 5, none⟩ = some tv := by
  have hV := h.box.lt
  have keep : ∀ k, k < wr.heap.size → tv.ownBlock ≠ some k → w2.heap[k]? = wr.heap[k]? := fun k hk hn => gr.block k hk fun e => hn e.symm
  have no1 : ∀ k, k ≤ xb → tv.ownBlock ≠ some k := fun k hk e => by have := (h.own1.lt _ e).1; omega
  have hbox : Blk w2 xb (c7 (x, tv, dv)).toArray 74 := h.box.same (keep _ hV (no1 _ (Nat.le_refl _)))
  have hb2 : ∀ k, k ≠ xb → (w2.setCell ⟨xb, 5, none⟩ (.slice (some ⟨g2, 0, none⟩) (x.txs.length + 1) cap2)).heap[k]? = w2.heap[k]? := fun k hk => Below.heap_setCell _ _ _ _ fun e => hk e
  have hxb := h.hxb
  refine ⟨⟨?_, h.hxb, hbox.set 5 _, ?_, ?_, ?_⟩, hbox.frozen 5, hbox.cell 5⟩
  · have bV := h.bel
    exact (⟨gr.os.trans bV.os, gr.tape.trans bV.tape, gr.output.trans bV.output, Nat.le_trans bV.size gr.size, fun k hk => (keep k (Nat.lt_of_lt_of_le hk bV.size) (no1 _ (by omega))).trans (bV.block k hk)⟩ : RowKit.Below wA.heap.size wA w2).setCell (p := ⟨xb, 5, none⟩) hxb _
  · have o1 : rsAt (xb + 1) w2 (.slice (some ⟨g2, 0, none⟩) (x.txs.length + 1) cap2) (x.txs ++ [t]) := by
      unfold rsAt
      rw [List.length_append, List.flatMap_append]
      simp only [List.length_singleton, List.flatMap_cons, List.flatMap_nil, List.append_nil]
      exact own
    exact owns_same7 o1 fun q hq => hb2 q (by have := (o1.lt q hq).1; omega)
  · have o2 : rdAt (xb + 1) w2 dv x.dirty := owns_same7 h.own2 fun q hq => keep q (h.own2.lt q hq).2 fun e => h.off q e hq
    exact owns_same7 o2 fun q hq => hb2 q (by have := (o2.lt q hq).1; omega)
  · intro q hq
    simp only [Value.ownBlock, Option.some.injEq] at hq
    subst hq
    rcases loc with e | e
    · exact h.off _ e
    · intro e'
      have := (h.own2.lt _ e').2
      omega

theorem XbAt.push2 (h : XbAt wA wr xb x tv dv) (t : DiV) {g2 cap2 : Nat} (own : w2.ownsRow (xb + 1) 52 2 (.slice (some ⟨g2, 0, none⟩) (x.dirty.length + 1) cap2) (x.dirty.length + 1) (x.dirty.flatMap adcells ++ adcells t)) (gr : wr.grownBy w2 dv.ownBlock) (loc : dv.ownBlock = some g2 ∨ g2 = wr.heap.size) :
    XbAt wA (w2.setCell ⟨xb, 6, none⟩ (.slice (some ⟨g2, 0, none⟩) (x.dirty.length + 1) cap2)) xb { x with dirty := x.dirty ++ [t] } tv (.slice (some ⟨g2, 0, none⟩) (x.dirty.length + 1) cap2) ∧ w2.frozen? ⟨xb, 6, none⟩ = false ∧ w2.cell? ⟨xb, 6, none⟩ = some dv := by
  have hV := h.box.lt
  have keep : ∀ k, k < wr.heap.size → dv.ownBlock ≠ some k → w2.heap[k]? = wr.heap[k]? := fun k hk hn => gr.block k hk fun e => hn e.symm
  have no1 : ∀ k, k ≤ xb → dv.ownBlock ≠ some k := fun k hk e => by have := (h.own2.lt _ e).1; omega
  have hbox : Blk w2 xb (c7 (x, tv, dv)).toArray 74 := h.box.same (keep _ hV (no1 _ (Nat.le_refl _)))
  have hb2 : ∀ k, k ≠ xb → (w2.setCell ⟨xb, 6, none⟩ (.slice (some ⟨g2, 0, none⟩) (x.dirty.length + 1) cap2)).heap[k]? = w2.heap[k]? := fun k hk => Below.heap_setCell _ _ _ _ fun e => hk e
  have hxb := h.hxb
  refine ⟨⟨?_, h.hxb, hbox.set 6 _, ?_, ?_, ?_⟩, hbox.frozen 6, hbox.cell 6⟩
  · have bV := h.bel
    exact (⟨gr.os.trans bV.os, gr.tape.trans bV.tape, gr.output.trans bV.output, Nat.le_trans bV.size gr.size, fun k hk => (keep k (Nat.lt_of_lt_of_le hk bV.size) (no1 _ (by omega))).trans (bV.block k hk)⟩ : RowKit.Below wA.heap.size wA w2).setCell (p := ⟨xb, 6, none⟩) hxb _
  · have o1 : rsAt (xb + 1) w2 tv x.txs := owns_same7 h.own1 fun q hq => keep q (h.own1.lt q hq).2 fun e => h.off q hq e
    exact owns_same7 o1 fun q hq => hb2 q (by have := (o1.lt q hq).1; omega)
  · have o2 : rdAt (xb + 1) w2 (.slice (some ⟨g2, 0, none⟩) (x.dirty.length + 1) cap2) (x.dirty ++ [t]) := by
      unfold rdAt
      rw [List.length_append, List.flatMap_append]
      simp only [List.length_singleton, List.flatMap_cons, List.flatMap_nil, List.append_nil]
      exact own
    exact owns_same7 o2 fun q hq => hb2 q (by have := (o2.lt q hq).1; omega)
  · intro q hq e'
    simp only [Value.ownBlock, Option.some.injEq] at e'
    subst e'
    rcases loc with e | e
    · exact h.off _ hq e
    · have := (h.own1.lt _ hq).2
      omega

end

structure LaAt (w wr : World) (q : Nat) (A : Nat → Prop) (rs : List ByteArray) (sure mark j : Nat) (v : Value) (X : List (RefV × Value × Value)) : Prop where
  bel : Below w.heap.size w wr
  lg : LgAt wr q A rs sure mark j
  lo : ∀ k, A k → w.heap.size ≤ k
  own : roAt w.heap.size wr v X
  voff : ∀ g, v.ownBlock = some g → ¬ A g
  nest : ∀ x ∈ X, rsAt w.heap.size wr x.2.1 x.1.txs ∧ rdAt w.heap.size wr x.2.2 x.1.dirty
  noff : ∀ x ∈ X, ∀ g, (x.2.1.ownBlock = some g ∨ x.2.2.ownBlock = some g) → ¬ A g ∧ v.ownBlock ≠ some g

section
variable {w wr wx : World} {q : Nat} {A A' : Nat → Prop} {rs rs' : List ByteArray} {sure sure' mark mark' j j' : Nat} {v : Value} {X : List (RefV × Value × Value)}

theorem LaAt.below (h : LaAt w wr q A rs sure mark j v X) (k : Below wr.heap.size wr wx) : LaAt w wx q A rs sure mark j v X :=
  ⟨below_chain h.bel k, h.lg.below k, h.lo, owns_same7 h.own fun g hg => k.block g (h.own.lt g hg).2, h.voff, fun x hx => ⟨owns_same7 (h.nest x hx).1 fun g hg => k.block g ((h.nest x hx).1.lt g hg).2, owns_same7 (h.nest x hx).2 fun g hg => k.block g ((h.nest x hx).2.lt g hg).2⟩, h.noff⟩

theorem LaAt.log (h : LaAt w wr q A rs sure mark j v X) (hl : LgAt wx q A' rs' sure' mark' j') (m : Moves A A' wr wx) : LaAt w wx q A' rs' sure' mark' j' v X := by
  have hoff : ∀ g, g < wr.heap.size → ¬ A g → wx.heap[g]? = wr.heap[g]? ∧ ¬ A' g := fun g hg hn => m.off hg hn
  have hs := h.bel.size
  refine ⟨⟨m.1.os.trans h.bel.os, m.1.tape.trans h.bel.tape, m.1.output.trans h.bel.output, Nat.le_trans hs m.1.size, fun k hk => (m.1.block k (Nat.lt_of_lt_of_le hk hs) (fun e => by have := h.lo k e; omega)).trans (h.bel.block k hk)⟩, hl, fun k hk => ?_, owns_same7 h.own fun g hg => (hoff g (h.own.lt g hg).2 (h.voff g hg)).1, fun g hg => (hoff g (h.own.lt g hg).2 (h.voff g hg)).2, fun x hx => ⟨owns_same7 (h.nest x hx).1 fun g hg => (hoff g ((h.nest x hx).1.lt g hg).2 (h.noff x hx g (.inl hg)).1).1, owns_same7 (h.nest x hx).2 fun g hg => (hoff g ((h.nest x hx).2.lt g hg).2 (h.noff x hx g (.inr hg)).1).1⟩, fun x hx g hg => ⟨?_, (h.noff x hx g hg).2⟩⟩
  · rcases m.2 k hk with e | e
    · exact h.lo k e
    · omega
  · refine (hoff g ?_ (h.noff x hx g hg).1).2
    rcases hg with e | e
    · exact ((h.nest x hx).1.lt g e).2
    · exact ((h.nest x hx).2.lt g e).2

theorem LaAt.push {wA V w2 : World} {xb : Nat} {x : RefV} {tv dv : Value} (h : LaAt w wA q A rs sure mark j v X) (hx : XbAt wA V xb x tv dv) {g2 cap2 : Nat} (own : w2.ownsRow w.heap.size 74 7 (.slice (some ⟨g2, 0, none⟩) (X.length + 1) cap2) (X.length + 1) (X.flatMap c7 ++ c7 (x, tv, dv))) (gr : V.grownBy w2 v.ownBlock) (loc : v.ownBlock = some g2 ∨ g2 = V.heap.size) :
    LaAt w w2 q A rs sure mark j (.slice (some ⟨g2, 0, none⟩) (X.length + 1) cap2) (X ++ [(x, tv, dv)]) := by
  have hV := h.below hx.bel
  have hsA := h.bel.size
  have hAV := hx.bel.size
  have hxb := hx.hxb
  have hvA : ∀ g, v.ownBlock = some g → g < wA.heap.size := fun g hg => (h.own.lt g hg).2
  have keep : ∀ k, k < V.heap.size → v.ownBlock ≠ some k → w2.heap[k]? = V.heap[k]? := fun k hk hn => gr.block k hk fun e => hn e.symm
  have hA2 : ∀ k, A k → k < wA.heap.size := fun k hk => h.lg.lt hk
  have g2A : ¬ A g2 := by
    rcases loc with e | e
    · exact h.voff _ e
    · intro hk; have := hA2 _ hk; omega
  refine ⟨⟨gr.os.trans hV.bel.os, gr.tape.trans hV.bel.tape, gr.output.trans hV.bel.output, Nat.le_trans hV.bel.size gr.size, fun k hk => (keep k (Nat.lt_of_lt_of_le hk hV.bel.size) (fun e => by have := (h.own.lt _ e).1; omega)).trans (hV.bel.block k hk)⟩, hV.lg.same (fun k hk => keep k (hV.lg.lt hk) (fun e => h.voff _ e hk)) gr.size, h.lo, ?_, ?_, ?_, ?_⟩
  · unfold roAt
    rw [List.length_append, List.flatMap_append]
    simp only [List.length_singleton, List.flatMap_cons, List.flatMap_nil, List.append_nil]
    exact own
  · intro g hg
    simp only [Value.ownBlock, Option.some.injEq] at hg
    subst hg
    exact g2A
  · intro y hy
    rcases List.mem_append.1 hy with e | e
    · exact ⟨owns_same7 (hV.nest y e).1 fun g hg => keep g ((hV.nest y e).1.lt g hg).2 (hV.noff y e g (.inl hg)).2, owns_same7 (hV.nest y e).2 fun g hg => keep g ((hV.nest y e).2.lt g hg).2 (hV.noff y e g (.inr hg)).2⟩
    · rw [List.mem_singleton.1 e]
      exact ⟨owns_base7 (owns_same7 hx.own1 fun g hg => keep g (hx.own1.lt g hg).2 (fun q => by have := hvA g q; have := (hx.own1.lt g hg).1; omega)) (by omega), owns_base7 (owns_same7 hx.own2 fun g hg => keep g (hx.own2.lt g hg).2 (fun q => by have := hvA g q; have := (hx.own2.lt g hg).1; omega)) (by omega)⟩
  · intro y hy g hg
    rcases List.mem_append.1 hy with e | e
    · refine ⟨(h.noff y e g hg).1, fun q => ?_⟩
      simp only [Value.ownBlock, Option.some.injEq] at q
      subst q
      rcases loc with e' | e'
      · exact (h.noff y e _ hg).2 e'
      · have : g2 < V.heap.size := by
          rcases hg with z | z
          · exact ((hV.nest y e).1.lt _ z).2
          · exact ((hV.nest y e).2.lt _ z).2
        omega
    · rw [List.mem_singleton.1 e] at hg
      have hgl : xb + 1 ≤ g ∧ g < V.heap.size := by
        rcases hg with z | z
        · exact hx.own1.lt _ z
        · exact hx.own2.lt _ z
      refine ⟨fun q => by have := hA2 _ q; omega, fun q => ?_⟩
      simp only [Value.ownBlock, Option.some.injEq] at q
      subst q
      rcases loc with e' | e'
      · have := hvA _ e'; omega
      · omega

end

end Go.Proofs.YtlphebebnjcidaaGreat

namespace Go.Proofs.YtlphebebnjcidaaGreat
open Go.RowKit Go.Sort Go.Shelf Go.Lib

structure RIn where
  r : RecV
  ta : Option Addr
  da : Option Addr
  tc : Nat
  dc : Nat

def RIn.cells (x : RIn) : Array Value := x.r.cells x.ta x.da x.tc x.dc

structure RIn.Ok (x : RIn) (w : World) : Prop where
  ok : x.r.Ok w x.ta x.da
  wide : x.r.Wide

def InsAt (w : World) (a : Option Addr) (RL : List RIn) : Prop :=
  RL = [] ∨ ∃ b o, a = some ⟨b, o, none⟩ ∧ b < w.heap.size ∧ ∀ i (hi : i < RL.length), w.rangeAt b (o + i * 17) RL[i].cells.toList ∧ RL[i].Ok w

theorem InsAt.below {w w' : World} {a : Option Addr} {RL : List RIn} (h : InsAt w a RL) (k : Below w.heap.size w w') : InsAt w' a RL := by
  rcases h with h | ⟨b, o, e, hb, h⟩
  · exact .inl h
  · exact .inr ⟨b, o, e, Nat.lt_of_lt_of_le hb k.size, fun i hi => ⟨fun j v hv => (World.cell?_of_block (w := w) (w' := w') (a := ⟨b, o + i * 17 + j, none⟩) (k.block b hb)).trans ((h i hi).1 j v hv), ⟨(h i hi).2.ok.below k, (h i hi).2.wide⟩⟩⟩

theorem textB_len (s : ByteArray) : (textB s).length ≤ s.size + 2 := by
  unfold textB
  split
  · rw [List.length_append, putL_length]
    have : s.data.toList.length = s.size := Array.length_toList
    omega
  · simp

theorem encR_8192 {r : RecV} (h : MayR r) : (encR r).length ≤ 8192 := by
  unfold encR
  simp only [List.length_append, putL_length]
  have hn : (if nextB r then putL r.next 8 else []).length ≤ 8 := by split <;> simp [putL_length]
  have hc : (if changeB r then changeL r else []).length ≤ 1036 := by
    split
    · rename_i hb
      obtain ⟨_, _, _, h1, h2, _⟩ := h.change hb
      unfold changeL
      have a1 := textB_len r.op.S
      have a2 := textB_len r.op.old
      simp only [List.length_append, putL_length]
      omega
    · simp
  have hk : (if keyB r then rkeyL r else []).length ≤ 80 := by
    split
    · rename_i hb
      obtain ⟨_, h1, _⟩ := h.key hb
      unfold rkeyL
      have a1 := textB_len r.key
      simp only [List.length_append, putL_length]
      omega
    · simp
  have hl : (if listsB r then txsL r.txs ++ disL r.dirty else []).length ≤ 6800 := by
    split
    · rename_i hb
      obtain ⟨h1, h2, _⟩ := h.lists hb
      have a1 := txL_len r.txs r.txs.length
      have a2 := diL_len r.dirty r.dirty.length
      rw [List.take_length] at a1 a2
      unfold txsL disL
      simp only [List.length_append, putL_length]
      omega
    · simp
  omega

def textR (r : RecV) : ByteArray := ⟨(encR r).toArray⟩

theorem textR_size (r : RecV) : (textR r).size = (encR r).length := by
  unfold textR
  generalize encR r = l
  exact List.size_toArray

def refV (a : Nat) (r : RecV) : RefV := ⟨a, r.kind, r.tx, r.next, r.page, r.txs, r.dirty⟩

def stepL (s : List ByteArray × List RefV) (x : RIn) : List ByteArray × List RefV :=
  if mayR x.r then (s.1 ++ [textR x.r], s.2 ++ [refV (placeOf s.1 s.1.length) x.r]) else s

def laidTo (RL : List RIn) (k : Nat) : List ByteArray × List RefV := (RL.take k).foldl stepL ([], [])

theorem laidTo_succ {RL : List RIn} {k : Nat} (hk : k < RL.length) : laidTo RL (k + 1) = stepL (laidTo RL k) RL[k] := by
  unfold laidTo
  rw [List.take_succ_eq_append_getElem hk, List.foldl_append]
  rfl

theorem place_more (rs : List ByteArray) (s : ByteArray) : placeOf (rs ++ [s]) (rs ++ [s]).length = placeOf rs rs.length + (s.size + 12) := by
  have e := getD_last rs s
  rw [List.length_append, List.length_singleton]
  show placeOf (rs ++ [s]) rs.length + (((rs ++ [s]).getD rs.length ⟨#[]⟩).size + 12) = _
  rw [placeOf_snoc rs s _ (Nat.le_refl _), e]

structure LoAt (w wr : World) (q : Nat) (RL : List RIn) (i : Nat) (v : Value) (A : Nat → Prop) (j : Nat) (X : List (RefV × Value × Value)) : Prop where
  la : LaAt w wr q A (laidTo RL i).1 0 0 j v X
  eq : X.map (·.1) = (laidTo RL i).2
  len : X.length = (laidTo RL i).1.length
  few : (laidTo RL i).1.length ≤ i
  jj : j ≤ i
  pl : placeOf (laidTo RL i).1 (laidTo RL i).1.length ≤ 1 + i * 8204

theorem LoAt.below {w wr wx : World} {q : Nat} {RL : List RIn} {i : Nat} {v : Value} {A : Nat → Prop} {j : Nat} {X : List (RefV × Value × Value)} (h : LoAt w wr q RL i v A j X) (k : Below wr.heap.size wr wx) : LoAt w wx q RL i v A j X :=
  ⟨h.la.below k, h.eq, h.len, h.few, h.jj, h.pl⟩

theorem LoAt.skip {w wr : World} {q : Nat} {RL : List RIn} {i : Nat} {v : Value} {A : Nat → Prop} {j : Nat} {X : List (RefV × Value × Value)} (h : LoAt w wr q RL i v A j X) (hi : i < RL.length) (hm : mayR RL[i].r = false) : LoAt w wr q RL (i + 1) v A j X := by
  have e : laidTo RL (i + 1) = laidTo RL i := by rw [laidTo_succ hi]; unfold stepL; rw [hm]; rfl
  have := h.jj
  have := h.few
  have := h.pl
  exact ⟨by rw [e]; exact h.la, by rw [e]; exact h.eq, by rw [e]; exact h.len, by rw [e]; omega, by omega, by simp only [e]; exact Nat.le_trans h.pl (Nat.add_le_add_left (Nat.mul_le_mul_right _ (Nat.le_succ i)) 1)⟩

theorem LoAt.more {w wr wx : World} {q : Nat} {RL : List RIn} {i : Nat} {v v' : Value} {A A' : Nat → Prop} {j : Nat} {X : List (RefV × Value × Value)} {x : RefV} {tv dv : Value} (h : LoAt w wr q RL i v A j X) (hi : i < RL.length) (hm : mayR RL[i].r = true)
    (la : LaAt w wx q A' ((laidTo RL i).1 ++ [textR RL[i].r]) 0 0 (j + 1) v' (X ++ [(x, tv, dv)])) (hx : x = refV (placeOf (laidTo RL i).1 (laidTo RL i).1.length) RL[i].r) : LoAt w wx q RL (i + 1) v' A' (j + 1) (X ++ [(x, tv, dv)]) := by
  have e : laidTo RL (i + 1) = ((laidTo RL i).1 ++ [textR RL[i].r], (laidTo RL i).2 ++ [x]) := by rw [laidTo_succ hi]; unfold stepL; rw [hm, hx]; rfl
  have h1 := h.jj
  have h2 := h.few
  have h3 := h.pl
  have h4 := h.len
  have h5 := encR_8192 (may_parts hm)
  have h6 : (textR RL[i].r).size = (encR RL[i].r).length := textR_size _
  refine ⟨by rw [e]; exact la, by rw [e, List.map_append, h.eq]; rfl, by rw [e, List.length_append, List.length_append, h4]; rfl, by rw [e, List.length_append, List.length_singleton]; omega, by omega, ?_⟩
  have := place_more (laidTo RL i).1 (textR RL[i].r)
  simp only [e]
  omega

theorem laidTo_at (RL : List RIn) : ∀ n, n ≤ RL.length → (laidTo RL n).2.length = (laidTo RL n).1.length ∧ ∀ k x, (laidTo RL n).2[k]? = some x → x.at' = placeOf (laidTo RL n).1 k
  | 0, _ => ⟨rfl, fun k x h => by
      have e : (laidTo RL 0).2 = [] := rfl
      rw [e] at h
      simp at h⟩
  | n + 1, hn => by
    obtain ⟨h1, h2⟩ := laidTo_at RL n (by omega)
    rw [laidTo_succ (by omega)]
    unfold stepL
    split
    · refine ⟨by simp only [List.length_append, List.length_singleton]; omega, fun k x h => ?_⟩
      dsimp only at h ⊢
      by_cases hk : k < (laidTo RL n).2.length
      · rw [List.getElem?_append_left hk] at h
        rw [placeOf_snoc _ _ _ (by omega)]
        exact h2 k x h
      · have hk2 : k = (laidTo RL n).2.length := by
          have := (List.getElem?_eq_some_iff.1 h).1
          rw [List.length_append, List.length_singleton] at this
          omega
        subst hk2
        rw [List.getElem?_append_right (Nat.le_refl _), Nat.sub_self] at h
        simp only [List.getElem?_cons_zero, Option.some.injEq] at h
        rw [← h, h1, placeOf_snoc _ _ _ (Nat.le_refl _)]
        rfl
    · exact ⟨h1, h2⟩

theorem c7_len (x : RefV × Value × Value) : (c7 x).length = 7 := rfl

theorem flat7 : ∀ (X : List (RefV × Value × Value)) (k j : Nat) (hk : k < X.length), j < 7 → (X.flatMap c7)[k * 7 + j]? = (c7 X[k])[j]?
  | [], k, j, hk, _ => absurd hk (Nat.not_lt_zero _)
  | x :: X, 0, j, _, hj => by
    rw [List.flatMap_cons, Nat.zero_mul, Nat.zero_add, List.getElem?_append_left (by rw [c7_len]; exact hj)]
    rfl
  | x :: X, k + 1, j, hk, hj => by
    rw [List.flatMap_cons, List.getElem?_append_right (by rw [c7_len]; omega), c7_len, show (k + 1) * 7 + j - 7 = k * 7 + j by omega]
    exact flat7 X k j (by simpa using hk) hj

theorem wpList_load_midA {P : Program} {ops : Array Oper} {rest : List Oper} {op : Oper} {a : Act} {w : World} {Q : Exit → Act → World → Prop} (hgd : op.guard = none) (ty : TypeId) (x : Operand) (ho : op.op = .load ty x)
    (b o : Nat) (hx : a.eval x = .pointer (some ⟨b, o, none⟩)) (cs : Array Value) (d : TypeDesc) (hc : w.rangeAt b o cs.toList)
    (hu : P.underlying ty = some d) (hd : d.isRow = true) (hi : (P.info? ty).map (·.size) = some cs.size)
    (h : wpList P ops Q rest (a.put op.dst (.agg cs)) w) : wpList P ops Q (op :: rest) a w := by
  refine wpList_load_mid hgd ty x ho b o hx cs.toList d hc hu hd (by simpa using hi) ?_
  rw [Array.toArray_toList]
  exact h

end Go.Proofs.YtlphebebnjcidaaGreat
