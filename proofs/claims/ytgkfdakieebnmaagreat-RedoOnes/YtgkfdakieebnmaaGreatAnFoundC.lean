/-
  The walk of (*heard).found: all that was heard, by the numbers.
-/
import Derived.Test.YtgkfdakieebnmaaGreatAnNextC
import Derived.Test.YtgkfdakieebnmaaGreatAnMinC
import Derived.Deep.RegionWith
import Derived.Deep.CutRange
set_option linter.unusedVariables false
set_option linter.unusedSimpArgs false
namespace Go.Proofs.YtgkfdakieebnmaaGreat
open Go.RowKit Go.Sort Go.Shelf Go.Lib

theorem infoTxA : (Tryz.prog.info? 161).map (fun i => (i.zero, i.size, i.bytes)) = some (some (.agg #[.int .i64 0, .int .i64 0, .int .u64 0, .int .u64 0]), 4, 32) := by kernel_rfl
theorem infoDiA : (Tryz.prog.info? 166).map (fun i => (i.zero, i.size, i.bytes)) = some (some (.agg #[.int .u32 0, .int .u64 0]), 2, 16) := by kernel_rfl

def fdCells (v1 v2 : Value) (re : Nat) (g : HearG) : Array Value := #[v1, v2, .int .u64 re, .int .i64 g.most, .int .i64 g.recs]
def fdZero : Array Value := #[.slice none 0 0, .slice none 0 0, .int .u64 0, .int .i64 0, .int .i64 0]

structure FdAt (w wr : World) (v1 v2 : Value) (en : Nat) (g : HearG) (L1 : List TxV) (L2 : List DiV) : Prop where
  bel : Below w.heap.size w wr
  res : Blk wr w.heap.size fdZero 43
  box : Blk wr (w.heap.size + 1) (fdCells v1 v2 en g) 43
  own1 : atAt (w.heap.size + 2) wr v1 L1
  own2 : adAt (w.heap.size + 2) wr v2 L2
  off : ∀ g, v1.ownBlock = some g → v2.ownBlock ≠ some g

theorem FdAt.same {w wr wx : World} {v1 v2 : Value} {en : Nat} {g : HearG} {L1 : List TxV} {L2 : List DiV} (h : FdAt w wr v1 v2 en g L1 L2) (k : Below wr.heap.size wr wx) : FdAt w wx v1 v2 en g L1 L2 :=
  ⟨below_chain h.bel k, h.res.same (k.block _ h.res.lt), h.box.same (k.block _ h.box.lt), h.own1.same fun g hg => k.block g (h.own1.lt g hg).2, h.own2.same fun g hg => k.block g (h.own2.lt g hg).2, h.off⟩

theorem grown_set (w : World) (b i : Nat) (v : Value) : w.grownBy (w.setCell ⟨b, i, none⟩ v) (some b) := ⟨rfl, rfl, rfl, by simp, fun k _ hk => Below.heap_setCell _ _ _ _ fun e => hk (by subst e; rfl)⟩

theorem FdAt.push1 {w V w2 : World} {v1 v2 : Value} {en : Nat} {g : HearG} {L1 : List TxV} {L2 : List DiV} (h : FdAt w V v1 v2 en g L1 L2) (x : TxV) {g2 cap2 : Nat} (own : w2.ownsRow (w.heap.size + 2) 161 4 (.slice (some ⟨g2, 0, none⟩) (L1.length + 1) cap2) (L1.length + 1) (L1.flatMap atcells ++ atcells x)) (gr : V.grownBy w2 v1.ownBlock) (loc : v1.ownBlock = some g2 ∨ g2 = V.heap.size) :
    FdAt w (w2.setCell ⟨w.heap.size + 1, 0, none⟩ (.slice (some ⟨g2, 0, none⟩) (L1.length + 1) cap2)) (.slice (some ⟨g2, 0, none⟩) (L1.length + 1) cap2) v2 en g (L1 ++ [x]) L2 ∧ w2.frozen? ⟨w.heap.size + 1, 0, none⟩ = false ∧ w2.cell? ⟨w.heap.size + 1, 0, none⟩ = some v1 := by
  have hV := h.box.lt
  have keep : ∀ k, k < V.heap.size → v1.ownBlock ≠ some k → w2.heap[k]? = V.heap[k]? := fun k hk hn => gr.block k hk fun e => hn e.symm
  have no1 : v1.ownBlock ≠ some (w.heap.size + 1) := fun e => by have := (h.own1.lt _ e).1; omega
  have no0 : v1.ownBlock ≠ some w.heap.size := fun e => by have := (h.own1.lt _ e).1; omega
  have hbox : Blk w2 (w.heap.size + 1) (fdCells v1 v2 en g) 43 := h.box.same (keep _ hV no1)
  have hb2 : ∀ k, k ≠ w.heap.size + 1 → (w2.setCell ⟨w.heap.size + 1, 0, none⟩ (.slice (some ⟨g2, 0, none⟩) (L1.length + 1) cap2)).heap[k]? = w2.heap[k]? := fun k hk => Below.heap_setCell _ _ _ _ fun e => hk e
  have g2ge : w.heap.size + 2 ≤ g2 := (World.ownsRow.lt own g2 rfl).1
  refine ⟨⟨?_, (h.res.same (keep _ h.res.lt no0)).same (hb2 _ (by omega)), hbox.set 0 _, ?_, ?_, ?_⟩, hbox.frozen 0, hbox.cell 0⟩
  · have bV := h.bel
    exact (⟨gr.os.trans bV.os, gr.tape.trans bV.tape, gr.output.trans bV.output, Nat.le_trans bV.size gr.size, fun k hk => (keep k (Nat.lt_of_lt_of_le hk bV.size) fun e => by have := (h.own1.lt _ e).1; omega).trans (bV.block k hk)⟩ : RowKit.Below w.heap.size w w2).setCell (p := ⟨w.heap.size + 1, 0, none⟩) (by show w.heap.size ≤ w.heap.size + 1; omega) _
  · have o1 : atAt (w.heap.size + 2) w2 (.slice (some ⟨g2, 0, none⟩) (L1.length + 1) cap2) (L1 ++ [x]) := by
      unfold atAt
      rw [List.length_append, List.flatMap_append]
      simp only [List.length_singleton, List.flatMap_cons, List.flatMap_nil, List.append_nil]
      exact own
    exact o1.same fun q hq => hb2 q (by have := (o1.lt q hq).1; omega)
  · have o2 : adAt (w.heap.size + 2) w2 v2 L2 := h.own2.same fun q hq => keep q (h.own2.lt q hq).2 fun e => h.off q e hq
    exact o2.same fun q hq => hb2 q (by have := (o2.lt q hq).1; omega)
  · intro q hq
    simp only [Value.ownBlock, Option.some.injEq] at hq
    subst hq
    rcases loc with e | e
    · exact h.off _ e
    · intro e'
      have := (h.own2.lt _ e').2
      omega

theorem FdAt.push2 {w V w2 : World} {v1 v2 : Value} {en : Nat} {g : HearG} {L1 : List TxV} {L2 : List DiV} (h : FdAt w V v1 v2 en g L1 L2) (x : DiV) {g2 cap2 : Nat} (own : w2.ownsRow (w.heap.size + 2) 166 2 (.slice (some ⟨g2, 0, none⟩) (L2.length + 1) cap2) (L2.length + 1) (L2.flatMap adcells ++ adcells x)) (gr : V.grownBy w2 v2.ownBlock) (loc : v2.ownBlock = some g2 ∨ g2 = V.heap.size) :
    FdAt w (w2.setCell ⟨w.heap.size + 1, 1, none⟩ (.slice (some ⟨g2, 0, none⟩) (L2.length + 1) cap2)) v1 (.slice (some ⟨g2, 0, none⟩) (L2.length + 1) cap2) en g L1 (L2 ++ [x]) ∧ w2.frozen? ⟨w.heap.size + 1, 1, none⟩ = false ∧ w2.cell? ⟨w.heap.size + 1, 1, none⟩ = some v2 := by
  have hV := h.box.lt
  have keep : ∀ k, k < V.heap.size → v2.ownBlock ≠ some k → w2.heap[k]? = V.heap[k]? := fun k hk hn => gr.block k hk fun e => hn e.symm
  have no1 : v2.ownBlock ≠ some (w.heap.size + 1) := fun e => by have := (h.own2.lt _ e).1; omega
  have no0 : v2.ownBlock ≠ some w.heap.size := fun e => by have := (h.own2.lt _ e).1; omega
  have hbox : Blk w2 (w.heap.size + 1) (fdCells v1 v2 en g) 43 := h.box.same (keep _ hV no1)
  have hb2 : ∀ k, k ≠ w.heap.size + 1 → (w2.setCell ⟨w.heap.size + 1, 1, none⟩ (.slice (some ⟨g2, 0, none⟩) (L2.length + 1) cap2)).heap[k]? = w2.heap[k]? := fun k hk => Below.heap_setCell _ _ _ _ fun e => hk e
  have g2ge : w.heap.size + 2 ≤ g2 := (World.ownsRow.lt own g2 rfl).1
  refine ⟨⟨?_, (h.res.same (keep _ h.res.lt no0)).same (hb2 _ (by omega)), hbox.set 1 _, ?_, ?_, ?_⟩, hbox.frozen 1, hbox.cell 1⟩
  · have bV := h.bel
    exact (⟨gr.os.trans bV.os, gr.tape.trans bV.tape, gr.output.trans bV.output, Nat.le_trans bV.size gr.size, fun k hk => (keep k (Nat.lt_of_lt_of_le hk bV.size) fun e => by have := (h.own2.lt _ e).1; omega).trans (bV.block k hk)⟩ : RowKit.Below w.heap.size w w2).setCell (p := ⟨w.heap.size + 1, 1, none⟩) (by show w.heap.size ≤ w.heap.size + 1; omega) _
  · have o1 : atAt (w.heap.size + 2) w2 v1 L1 := h.own1.same fun q hq => keep q (h.own1.lt q hq).2 fun e => h.off q hq e
    exact o1.same fun q hq => hb2 q (by have := (o1.lt q hq).1; omega)
  · have o2 : adAt (w.heap.size + 2) w2 (.slice (some ⟨g2, 0, none⟩) (L2.length + 1) cap2) (L2 ++ [x]) := by
      unfold adAt
      rw [List.length_append, List.flatMap_append]
      simp only [List.length_singleton, List.flatMap_cons, List.flatMap_nil, List.append_nil]
      exact own
    exact o2.same fun q hq => hb2 q (by have := (o2.lt q hq).1; omega)
  · intro q hq e'
    simp only [Value.ownBlock, Option.some.injEq] at e'
    subst e'
    rcases loc with e | e
    · exact h.off _ hq e
    · have := (h.own1.lt _ hq).2
      omega

theorem FdAt.grown {w wr wx : World} {v1 v2 : Value} {en : Nat} {g : HearG} {L1 : List TxV} {L2 : List DiV} {r : Nat} (h : FdAt w wr v1 v2 en g L1 L2) (k : wr.grownBy wx (some r)) (hr : w.heap.size + 2 ≤ r) (r1 : ∀ g, v1.ownBlock = some g → g ≠ r) (r2 : ∀ g, v2.ownBlock = some g → g ≠ r) : FdAt w wx v1 v2 en g L1 L2 :=
  have kb : ∀ i, i < wr.heap.size → i ≠ r → wx.heap[i]? = wr.heap[i]? := fun i hi hn => k.block i hi fun e => hn (by cases e; rfl)
  ⟨⟨k.os.trans h.bel.os, k.tape.trans h.bel.tape, k.output.trans h.bel.output, Nat.le_trans h.bel.size k.size, fun i hi => (kb i (Nat.lt_of_lt_of_le hi h.bel.size) (by omega)).trans (h.bel.block i hi)⟩,
    h.res.same (kb _ h.res.lt (by omega)), h.box.same (kb _ h.box.lt (by omega)), h.own1.same fun g hg => kb g (h.own1.lt g hg).2 (r1 g hg), h.own2.same fun g hg => kb g (h.own2.lt g hg).2 (r2 g hg), h.off⟩

structure F1At (w wr : World) (tb : Nat) (D : DataW Value) (z r : Nat) (v : Value) (en : Nat) (g : HearG) (NL : List Int) (left : Lit → Bool) (cnt : Nat) : Prop where
  fd : FdAt w wr v (.slice none 0 0) en g (NL.map (tOf g)) []
  rg : wr.ranges Tryz.prog 3 rawElem tb r z D left cnt
  rn : w.heap.size + 2 ≤ r
  rv : ∀ g, v.ownBlock = some g → g ≠ r
  ks : KeysIn g.T aikey left NL
  len : NL.length + cnt ≤ z

theorem FdAt.sorted1 {w wr wx : World} {v1 v2 : Value} {en : Nat} {g : HearG} {L1 L1' : List TxV} {L2 : List DiV} (h : FdAt w wr v1 v2 en g L1 L2) (k : wr.grownBy wx v1.ownBlock) (ho : atAt (w.heap.size + 2) wx v1 L1') : FdAt w wx v1 v2 en g L1' L2 :=
  have kb : ∀ i, i < wr.heap.size → v1.ownBlock ≠ some i → wx.heap[i]? = wr.heap[i]? := fun i hi hn => k.block i hi fun e => hn e.symm
  have lo : ∀ i, i < w.heap.size + 2 → v1.ownBlock ≠ some i := fun i hi e => by have := (h.own1.lt _ e).1; omega
  ⟨⟨k.os.trans h.bel.os, k.tape.trans h.bel.tape, k.output.trans h.bel.output, Nat.le_trans h.bel.size k.size, fun i hi => (kb i (Nat.lt_of_lt_of_le hi h.bel.size) (lo i (by omega))).trans (h.bel.block i hi)⟩,
    h.res.same (kb _ h.res.lt (lo _ (by omega))), h.box.same (kb _ h.box.lt (lo _ (by omega))), ho, h.own2.same fun g hg => kb g (h.own2.lt g hg).2 (fun e => h.off g e hg), h.off⟩

theorem FdAt.sorted2 {w wr wx : World} {v1 v2 : Value} {en : Nat} {g : HearG} {L1 : List TxV} {L2 L2' : List DiV} (h : FdAt w wr v1 v2 en g L1 L2) (k : wr.grownBy wx v2.ownBlock) (ho : adAt (w.heap.size + 2) wx v2 L2') : FdAt w wx v1 v2 en g L1 L2' :=
  have kb : ∀ i, i < wr.heap.size → v2.ownBlock ≠ some i → wx.heap[i]? = wr.heap[i]? := fun i hi hn => k.block i hi fun e => hn e.symm
  have lo : ∀ i, i < w.heap.size + 2 → v2.ownBlock ≠ some i := fun i hi e => by have := (h.own2.lt _ e).1; omega
  ⟨⟨k.os.trans h.bel.os, k.tape.trans h.bel.tape, k.output.trans h.bel.output, Nat.le_trans h.bel.size k.size, fun i hi => (kb i (Nat.lt_of_lt_of_le hi h.bel.size) (lo i (by omega))).trans (h.bel.block i hi)⟩,
    h.res.same (kb _ h.res.lt (lo _ (by omega))), h.box.same (kb _ h.box.lt (lo _ (by omega))), h.own1.same fun g hg => kb g (h.own1.lt g hg).2 (fun e => h.off g hg e), ho, h.off⟩

def fset5 (w : World) (b : Nat) (v0 v1 v2 v3 v4 : Value) : World := ((((w.setCell ⟨b, 0, none⟩ v0).setCell ⟨b, 1, none⟩ v1).setCell ⟨b, 2, none⟩ v2).setCell ⟨b, 3, none⟩ v3).setCell ⟨b, 4, none⟩ v4

theorem fset5_kept (w : World) (b : Nat) (v0 v1 v2 v3 v4 : Value) : Kept (fun k => k = b) w (fset5 w b v0 v1 v2 v3 v4) :=
  ((((Kept.setCell (fun k => k = b) w b 0 v0 rfl).trans (Kept.setCell (fun k => k = b) _ b 1 v1 rfl)).trans (Kept.setCell (fun k => k = b) _ b 2 v2 rfl)).trans (Kept.setCell (fun k => k = b) _ b 3 v3 rfl)).trans (Kept.setCell (fun k => k = b) _ b 4 v4 rfl)

theorem fset5_blk {w : World} {b : Nat} {u0 u1 u2 u3 u4 : Value} {t : TypeId} (h : Blk w b #[u0, u1, u2, u3, u4] t) (v0 v1 v2 v3 v4 : Value) : Blk (fset5 w b v0 v1 v2 v3 v4) b #[v0, v1, v2, v3, v4] t :=
  ((((h.set 0 v0).set 1 v1).set 2 v2).set 3 v3).set 4 v4

theorem FdAt.fin {w w4 : World} {v1 v2 : Value} {en : Nat} {g : HearG} {L1 : List TxV} {L2 : List DiV} (h : FdAt w w4 v1 v2 en g L1 L2) {wx : World} (k : Kept (fun k => k = w.heap.size) w4 wx) : atAt (w.heap.size + 2) wx v1 L1 ∧ adAt (w.heap.size + 2) wx v2 L2 ∧ Below w.heap.size w wx :=
  ⟨h.own1.same fun q hq => k.block q (h.own1.lt q hq).2 (by have := (h.own1.lt q hq).1; omega), h.own2.same fun q hq => k.block q (h.own2.lt q hq).2 (by have := (h.own2.lt q hq).1; omega), ⟨k.os.trans h.bel.os, k.tape.trans h.bel.tape, k.output.trans h.bel.output, Nat.le_trans h.bel.size k.size, fun i hi => (k.block i (Nat.lt_of_lt_of_le hi h.bel.size) (by omega)).trans (h.bel.block i hi)⟩⟩

structure F2At (w wr : World) (db : Nat) (D : DataW Value) (z r : Nat) (v1 v : Value) (en : Nat) (g : HearG) (L1 : List TxV) (NL : List Int) (left : Lit → Bool) (cnt : Nat) : Prop where
  fd : FdAt w wr v1 v en g L1 (NL.map (dOf g))
  rg : wr.ranges Tryz.prog 49 rawElem db r z D left cnt
  rn : w.heap.size + 2 ≤ r
  rv1 : ∀ g, v1.ownBlock = some g → g ≠ r
  rv : ∀ g, v.ownBlock = some g → g ≠ r
  ks : KeysIn g.D apkey left NL
  len : NL.length + cnt ≤ z

set_option maxHeartbeats 6400000 in
set_option maxRecDepth 20000 in
theorem found_any {w : World} {hb tb db N : Nat} {g : HearG} (h : HearAt w hb tb db N g) (wf : g.Wf) (hN : N ≤ 900000) (en : Nat) :
    Calls Tryz.prog 38 #[.pointer (some ⟨hb, 0, none⟩), .int .u64 en] w fun e w' => ∃ v1 v2 L1 L2, e = .returned (.agg (fdCells v1 v2 (redoL en L2) g)) ∧ Can keyT L1 g.T ∧ Can keyD L2 g.D ∧ atAt (w.heap.size + 2) w' v1 L1 ∧ adAt (w.heap.size + 2) w' v2 L2 ∧ Below w.heap.size w w' := by
  obtain ⟨i0, hi, hzz⟩ := Option.map_eq_some_iff.1 infoTxA
  simp only [Prod.mk.injEq] at hzz
  obtain ⟨hz0, hz1, hz2⟩ := hzz
  obtain ⟨j0, hj, hjj⟩ := Option.map_eq_some_iff.1 infoDiA
  simp only [Prod.mk.injEq] at hjj
  obtain ⟨hj0, hj1, hj2⟩ := hjj
  obtain ⟨W, HW⟩ : ∃ W, Hid (W = w.alloc (.cells fdZero 43)) := ⟨_, rfl⟩
  have bW : Below w.heap.size w W := by rw [HW.out]; exact (Below.refl _ _).alloc (Nat.le_refl _) _
  have sW : W.heap.size = w.heap.size + 1 := by rw [HW.out]; simp
  have hR : Blk W w.heap.size fdZero 43 := by rw [HW.out]; exact Blk.made _ _ _
  have HLT := hida h.lt
  have HHW := hida (h.below bW)
  obtain ⟨TD, DD, nt, nd, hh⟩ := h
  have H0 := hida hh
  have HI := hida (hh.same fun i hi => bW.block i (HLT.out i hi))
  have HBD : Hid (∀ n, g.T n ≠ none → -9223372036854775808 ≤ n ∧ n ≤ 9223372036854775807) := fun n hn => by
    cases e : g.T n with
    | none => exact absurd e hn
    | some x => have := (hh.tyes n x e).2.2; omega
  have HBP : Hid (∀ n, g.D n ≠ none → 0 ≤ n ∧ n < 4294967296) := fun n hn => by
    cases e : g.D n with
    | none => exact absurd e hn
    | some x => exact (hh.dyes n x e).2.2
  have HWF := hida wf
  clear hh wf
  obtain ⟨c0, c1, c2, c3, f2, f3⟩ := HHW.out.cell
  have HZ : Hid (fdZero = #[.slice none 0 0, .slice none 0 0, .int .u64 0, .int .i64 0, .int .i64 0]) := rfl
  rw [HZ.out] at HW
  go_enter Tryz.func38, Tryz.ntmps38
  go_upto_region 1 with fail
  rw [← HW.out]
  clear HW
  have n1 : hb ≠ W.heap.size := by have := HHW.out.lt hb (.inl rfl); omega
  have bz : Below W.heap.size W (W.alloc (.cells #[.slice none 0 0, .slice none 0 0, .int .u64 0, .int .i64 0, .int .i64 0] 43)) := (Below.refl _ _).alloc (Nat.le_refl _) _
  obtain ⟨c0z, c1z, c2z, c3z, f2z, f3z⟩ := (HHW.out.below bz).cell
  have HS := hida (show Below w.heap.size w W ∧ W.heap.size = w.heap.size + 1 ∧ Blk W w.heap.size fdZero 43 from ⟨bW, sW, hR⟩)
  clear bz bW sW hR
  go_cut [5] from 10 to 19 (fun v5 wx => v5 = .pointer (some ⟨W.heap.size, 0, none⟩) ∧ Hid (Below W.heap.size W wx ∧ Blk wx W.heap.size (fdCells (.slice none 0 0) (.slice none 0 0) en g) 43))
  case first =>
    go_region
    all_goals
      go_wp2_with fail
      go_meet
      case rel =>
        exact ⟨rfl, hida ⟨((Below.refl _ _).alloc (Nat.le_refl _) _).drew, (Blk.made W _ _).same rfl⟩⟩
  obtain ⟨rfl, HC1⟩ := hcut
  clear c0 c1 c2 c3 f2 f3 n1 c0z c1z c2z c3z f2z f3z HZ
  have HF0 := hida (show FdAt w wc (.slice none 0 0) (.slice none 0 0) en g [] [] from ⟨below_chain HS.out.1 HC1.out.1, HS.out.2.2.same (HC1.out.1.block _ HS.out.2.2.lt), by have := HC1.out.2; rw [HS.out.2.1] at this; exact this, atAt.nil _ _, adAt.nil _ _, fun g hg => by cases hg⟩)
  have HH1 := hida (HI.out.same fun i hi => HC1.out.1.block i (HHW.out.lt i hi))
  have hsz := HS.out.2.1
  rw [hsz]
  have c0 : wc.cell? ⟨hb, 0, none⟩ = some (.map (some tb)) := HH1.out.blk.cell 0
  have hm1 : wc.ownsMap Tryz.prog 3 rawElem tb nt TD := HH1.out.tm.1
  have hm2 : Maps.size TD = nt := HH1.out.tm.2
  clear HC1 HI HHW HS hsz
  go_wp2_with (at_range; refine wpList_range_own _ rfl _ 104 rfl 3 161 aiKeyed Tryz.underlying104 _ tb nt TD rfl hm1 ?_; intro w0 hrg0 hg0 hs0)
  go_frame
  have hb0 : Below wc.heap.size wc w0 := ⟨hg0.os, hg0.tape, hg0.output, hg0.size, fun k hk => hg0.block k hk (by simp)⟩
  have HA0 : Hid (F1At w w0 tb TD nt wc.heap.size (.slice none 0 0) en g [] (Maps.has TD) nt) := by
    refine ⟨HF0.out.same hb0, (by rw [hm2] at hrg0; exact hrg0), (by have := HF0.out.box.lt; omega), fun g hg => (by cases hg), ⟨List.nodup_nil, fun n => ?_⟩, (by simp)⟩
    constructor
    · intro x; simp at x
    · rintro ⟨x, y⟩
      cases e : g.T n with
      | none => exact absurd e x
      | some t => have := (HH1.out.tyes n t e).1; rw [this] at y; cases y
  clear hrg0 hg0 hs0 hb0 c0 hm1 hm2 HF0
  generalize wc.heap.size = r at *
  go_loopw [7] (fun t wr => ∃ v NL left cnt, Hid (F1At w wr tb TD nt r v en g NL left cnt)) (fun _ wr => wr.rangeLeft tb r)
  case atStart => exact ⟨_, _, _, _, HA0⟩
  case round =>
    obtain ⟨v, NL, left, cnt, HA⟩ := hrel
    clear HA0
    go_wp2_with (at_next; refine wpList_next_an _ rfl _ rfl tb r nt TD left cnt g.T rfl HA.out.rg HH1.out.tkeys HBD.out ?_ ?_)
    · intro _ hl0
      have HKS := hida (HA.out.ks.done hl0)
      have HLN := hida (show NL.length ≤ 900000 from by have := HA.out.len; have := HH1.out.nt; omega)
      obtain ⟨L1, HL1⟩ : ∃ L1, Hid (NL.map (tOf g) = L1) := ⟨_, rfl⟩
      have HF1 := hida (show FdAt w wr v (.slice none 0 0) en g L1 [] from by rw [← HL1.out]; exact HA.out.fd)
      have HHr := hida (H0.out.same fun i hi => HA.out.fd.bel.block i (HLT.out i hi))
      have c1 : wr.cell? ⟨hb, 1, none⟩ = some (.map (some db)) := HHr.out.blk.cell 1
      have hm1 : wr.ownsMap Tryz.prog 49 rawElem db nd DD := HHr.out.dm.1
      have hm2 : Maps.size DD = nd := HHr.out.dm.2
      clear HA hl0 HH1
      go_wp2_with (at_range; refine wpList_range_own _ rfl _ 105 rfl 49 41 pageKeyed Tryz.underlying105 _ db nd DD rfl hm1 ?_; intro w0 hrg0 hg0 hs0)
      go_frame
      have hb0 : Below wr.heap.size wr w0 := ⟨hg0.os, hg0.tape, hg0.output, hg0.size, fun k hk => hg0.block k hk (by simp)⟩
      have HA0 : Hid (F2At w w0 db DD nd wr.heap.size v (.slice none 0 0) en g L1 [] (Maps.has DD) nd) := by
        refine ⟨HF1.out.same hb0, (by rw [hm2] at hrg0; exact hrg0), (by have := HF1.out.box.lt; omega), fun g hg => (by have := (HF1.out.own1.lt g hg).2; omega), fun g hg => (by cases hg), ⟨List.nodup_nil, fun n => ?_⟩, (by simp)⟩
        constructor
        · intro x; simp at x
        · rintro ⟨x, y⟩
          cases e : g.D n with
          | none => exact absurd e x
          | some t => have := (HHr.out.dyes n t e).1; rw [this] at y; cases y
      clear hrg0 hg0 hs0 hb0 c1 hm1 hm2 HF1
      generalize wr.heap.size = r2 at *
      go_loopw [8, 9] (fun _ _ wr => ∃ v2 PL left cnt, Hid (F2At w wr db DD nd r2 v v2 en g L1 PL left cnt)) (fun _ _ wr => wr.rangeLeft db r2)
      case atStart => exact ⟨_, _, _, _, HA0⟩
      case round =>
        obtain ⟨v2, PL, left, cnt, HA⟩ := hrel
        clear HA0
        go_wp2_with (at_next; refine wpList_next_ad _ rfl _ rfl db r2 nd DD left cnt g.D rfl HA.out.rg HHr.out.dkeys HBP.out ?_ ?_)
        · intro _ hl0
          have HKP := hida (HA.out.ks.done hl0)
          have HLP := hida (show PL.length ≤ 900000 from by have := HA.out.len; have := HHr.out.nd; omega)
          have HF2 := hida HA.out.fd
          clear HA hl0 HHr
          have HSO := hida (atsorts_any (w.heap.size + 2) L1 wr v (by rw [← HL1.out, List.length_map]; have := HLN.out; omega) HF2.out.own1 (Classical.em _))
          have b0 : wr.cell? ⟨w.heap.size + 1, 0, none⟩ = some v := HF2.out.box.cell 0
          go_wp2_with fail
          refine HSO.out.mono ?_
          rintro e w3 ⟨rfl, M1, hp1, hs1, ho1, gr1⟩
          have HF3 := hida (HF2.out.sorted1 gr1 ho1)
          have HC1 : Hid (Can keyT M1 g.T) := HKS.out.can HWF.out.t (0, 0, 0, 0) (by have := hp1; rw [← HL1.out] at this; exact this) (hs1.imp fun {a b} h => by unfold atxF at h; have := cmpA_lt b.1 a.1; show a.1 ≤ b.1; omega)
          clear HSO HF2 hp1 hs1 ho1 gr1 b0
          have HSO := hida (adsorts_any (w.heap.size + 2) (PL.map (dOf g)) w3 v2 (by rw [List.length_map]; have := HLP.out; omega) HF3.out.own2 (Classical.em _))
          have b0 : w3.cell? ⟨w.heap.size + 1, 1, none⟩ = some v2 := HF3.out.box.cell 1
          go_wp2_with fail
          refine HSO.out.mono ?_
          rintro e w4 ⟨rfl, M2, hp2, hs2, ho2, gr2⟩
          have HF4 := hida (HF3.out.sorted2 gr2 ho2)
          have HC2 : Hid (Can keyD M2 g.D) := HKP.out.can HWF.out.d (0, 0) hp2 (hs2.imp fun {a b} h => by unfold adxF at h; have := cmpA_lt (b.1 : Int) a.1; show (a.1 : Int) ≤ b.1; omega)
          have HL4 : Hid (M2.length ≤ 900000) := by show _ ≤ _; rw [hp2.length_eq, List.length_map]; exact HLP.out
          clear HSO HF3 hp2 hs2 ho2 gr2 b0
          have b1 : w4.cell? ⟨w.heap.size + 1, 1, none⟩ = some v2 := HF4.out.box.cell 1
          obtain ⟨a1, c1, rfl⟩ := HF4.out.own1.val
          cases hM : M2 with
          | nil =>
            rw [hM] at HF4 HC2
            have hv2 : ∃ a2 c2, v2 = .slice a2 0 c2 := HF4.out.own2.val
            obtain ⟨a2, c2, rfl⟩ := hv2
            have HRT := hida HC2.out
            clear HC2 hM HL4
            have d0 : w4.cell? ⟨w.heap.size + 1, 0, none⟩ = some (.slice a1 M1.length c1) := HF4.out.box.cell 0
            have d2 : w4.cell? ⟨w.heap.size + 1, 2, none⟩ = some (.int .u64 en) := HF4.out.box.cell 2
            have d3 : w4.cell? ⟨w.heap.size + 1, 3, none⟩ = some (.int .i64 g.most) := HF4.out.box.cell 3
            have d4 : w4.cell? ⟨w.heap.size + 1, 4, none⟩ = some (.int .i64 g.recs) := HF4.out.box.cell 4
            have q0 : w4.cell? ⟨w.heap.size, 0, none⟩ = some (.slice none 0 0) := HF4.out.res.cell 0
            have q1 : w4.cell? ⟨w.heap.size, 1, none⟩ = some (.slice none 0 0) := HF4.out.res.cell 1
            have q2 : w4.cell? ⟨w.heap.size, 2, none⟩ = some (.int .u64 0) := HF4.out.res.cell 2
            have q3 : w4.cell? ⟨w.heap.size, 3, none⟩ = some (.int .i64 0) := HF4.out.res.cell 3
            have q4 : w4.cell? ⟨w.heap.size, 4, none⟩ = some (.int .i64 0) := HF4.out.res.cell 4
            have f0 := HF4.out.res.frozen 0
            have f1 := HF4.out.res.frozen 1
            have f2 := HF4.out.res.frozen 2
            have f3 := HF4.out.res.frozen 3
            have f4 := HF4.out.res.frozen 4
            have hrb := fset5_blk (show Blk w4 w.heap.size #[.slice none 0 0, .slice none 0 0, .int .u64 0, .int .i64 0, .int .i64 0] 43 from HF4.out.res) (.slice a1 M1.length c1) (.slice a2 0 c2) (.int .u64 en) (.int .i64 g.most) (.int .i64 g.recs)
            have hfn := HF4.out.fin (fset5_kept w4 w.heap.size (.slice a1 M1.length c1) (.slice a2 0 c2) (.int .u64 en) (.int .i64 g.most) (.int .i64 g.recs))
            obtain ⟨WX, HWX⟩ : ∃ WX, Hid (fset5 w4 w.heap.size (.slice a1 M1.length c1) (.slice a2 0 c2) (.int .u64 en) (.int .i64 g.most) (.int .i64 g.recs) = WX) := ⟨_, rfl⟩
            rw [HWX.out] at hrb hfn
            have HRB := hida hrb
            have HFN := hida hfn
            clear HF4 hrb hfn
            go_wp2_with fail
            rw [show (((((w4.setCell ⟨w.heap.size, 0, none⟩ (.slice a1 M1.length c1)).setCell ⟨w.heap.size, 1, none⟩ (.slice a2 0 c2)).setCell ⟨w.heap.size, 2, none⟩ (.int .u64 en)).setCell ⟨w.heap.size, 3, none⟩ (.int .i64 g.most)).setCell ⟨w.heap.size, 4, none⟩ (.int .i64 g.recs)) = WX from HWX.out]
            have t0 : WX.cell? ⟨w.heap.size, 0, none⟩ = some (.slice a1 M1.length c1) := HRB.out.cell 0
            have t1 : WX.cell? ⟨w.heap.size, 1, none⟩ = some (.slice a2 0 c2) := HRB.out.cell 1
            have t2 : WX.cell? ⟨w.heap.size, 2, none⟩ = some (.int .u64 en) := HRB.out.cell 2
            have t3 : WX.cell? ⟨w.heap.size, 3, none⟩ = some (.int .i64 g.most) := HRB.out.cell 3
            have t4 : WX.cell? ⟨w.heap.size, 4, none⟩ = some (.int .i64 g.recs) := HRB.out.cell 4
            refine bodyPost_ret (v := .agg #[.slice a1 M1.length c1, .slice a2 0 c2, .int .u64 en, .int .i64 g.most, .int .i64 g.recs]) (by simp [results, Tryz.results38, go_sem, t0, t1, t2, t3, t4]) rfl ?_
            exact ⟨.slice a1 M1.length c1, .slice a2 0 c2, M1, [], rfl, HC1.out, HRT.out, HFN.out⟩
          | cons x l =>
            rw [hM] at HF4 HC2 HL4
            have hv2 : ∃ a2 c2, v2 = .slice a2 (l.length + 1 : Nat) c2 := HF4.out.own2.val
            obtain ⟨a2, c2, rfl⟩ := hv2
            have HRT := hida HC2.out
            have HMI := hida (min_any (w.heap.size + 2) x l w4 (.slice a2 (l.length + 1 : Nat) c2) (by have := HL4.out; simp only [List.length_cons] at this; omega) HF4.out.own2)
            have hre := minD_redo en x l
            clear HC2 hM HL4
            have b1 : w4.cell? ⟨w.heap.size + 1, 1, none⟩ = some (.slice a2 (l.length + 1 : Nat) c2) := HF4.out.box.cell 1
            have hlen : decide ((0 : Int) < ((l.length + 1 : Nat) : Int)) = true := decide_eq_true (by omega)
            have hlen2 : decide ((0 : Int) < (l.length : Int) + 1) = true := decide_eq_true (by omega)
            go_upto_region 13 with fail
            go_wp2_with fail
            refine HMI.out.mono ?_
            rintro e w5 ⟨rfl, b5⟩
            have HF5 := hida (HF4.out.same b5)
            obtain ⟨m, HMM⟩ : ∃ m, Hid (minD x l = m) := ⟨_, rfl⟩
            rw [HMM.out] at hre
            rw [HMM.out]
            obtain ⟨m0, m1⟩ := m
            simp only at hre
            dsimp only
            have HRE := hida hre
            clear HMI b5 HF4 b1 hre
            have hfl : ∀ wx : World, (Instr.field 166 (.agg #[.int .u32 m0, .int .u64 m1]) 1).run Tryz.prog wx = .ok (.int .u64 m1) wx := fun wx => by kernel_rfl
            have z0 : w5.frozen? ⟨w.heap.size + 1, 2, none⟩ = false := HF5.out.box.frozen 2
            have z1 : w5.cell? ⟨w.heap.size + 1, 2, none⟩ = some (.int .u64 en) := HF5.out.box.cell 2
            obtain ⟨W6, HW6⟩ : ∃ W6, Hid (W6 = w5.setCell ⟨w.heap.size + 1, 2, none⟩ (.int .u64 m1)) := ⟨_, rfl⟩
            have HF6 : Hid (FdAt w W6 (.slice a1 M1.length c1) (.slice a2 (l.length + 1 : Nat) c2) m1 g M1 (x :: l)) := by
              show FdAt _ _ _ _ _ _ _ _
              rw [HW6.out]
              have hb2 : ∀ k, k ≠ w.heap.size + 1 → (w5.setCell ⟨w.heap.size + 1, 2, none⟩ (.int .u64 m1)).heap[k]? = w5.heap[k]? := fun k hk => Below.heap_setCell _ _ _ _ fun e => hk e
              exact ⟨HF5.out.bel.setCell (p := ⟨w.heap.size + 1, 2, none⟩) (by show w.heap.size ≤ w.heap.size + 1; omega) _, HF5.out.res.same (hb2 _ (by omega)), HF5.out.box.set 2 _, HF5.out.own1.same fun q hq => hb2 q (by have := (HF5.out.own1.lt q hq).1; omega), HF5.out.own2.same fun q hq => hb2 q (by have := (HF5.out.own2.lt q hq).1; omega), HF5.out.off⟩
            go_upto_region 14 with fail
            rw [← HW6.out]
            clear HW6 HF5 z0 z1
            have d0 : W6.cell? ⟨w.heap.size + 1, 0, none⟩ = some (.slice a1 M1.length c1) := HF6.out.box.cell 0
            have d1 : W6.cell? ⟨w.heap.size + 1, 1, none⟩ = some (.slice a2 (l.length + 1 : Nat) c2) := HF6.out.box.cell 1
            have d2 : W6.cell? ⟨w.heap.size + 1, 2, none⟩ = some (.int .u64 m1) := HF6.out.box.cell 2
            have d3 : W6.cell? ⟨w.heap.size + 1, 3, none⟩ = some (.int .i64 g.most) := HF6.out.box.cell 3
            have d4 : W6.cell? ⟨w.heap.size + 1, 4, none⟩ = some (.int .i64 g.recs) := HF6.out.box.cell 4
            have q0 : W6.cell? ⟨w.heap.size, 0, none⟩ = some (.slice none 0 0) := HF6.out.res.cell 0
            have q1 : W6.cell? ⟨w.heap.size, 1, none⟩ = some (.slice none 0 0) := HF6.out.res.cell 1
            have q2 : W6.cell? ⟨w.heap.size, 2, none⟩ = some (.int .u64 0) := HF6.out.res.cell 2
            have q3 : W6.cell? ⟨w.heap.size, 3, none⟩ = some (.int .i64 0) := HF6.out.res.cell 3
            have q4 : W6.cell? ⟨w.heap.size, 4, none⟩ = some (.int .i64 0) := HF6.out.res.cell 4
            have f0 := HF6.out.res.frozen 0
            have f1 := HF6.out.res.frozen 1
            have f2 := HF6.out.res.frozen 2
            have f3 := HF6.out.res.frozen 3
            have f4 := HF6.out.res.frozen 4
            have hrb := fset5_blk (show Blk W6 w.heap.size #[.slice none 0 0, .slice none 0 0, .int .u64 0, .int .i64 0, .int .i64 0] 43 from HF6.out.res) (.slice a1 M1.length c1) (.slice a2 (l.length + 1 : Nat) c2) (.int .u64 m1) (.int .i64 g.most) (.int .i64 g.recs)
            have hfn := HF6.out.fin (fset5_kept W6 w.heap.size (.slice a1 M1.length c1) (.slice a2 (l.length + 1 : Nat) c2) (.int .u64 m1) (.int .i64 g.most) (.int .i64 g.recs))
            obtain ⟨WX, HWX⟩ : ∃ WX, Hid (fset5 W6 w.heap.size (.slice a1 M1.length c1) (.slice a2 (l.length + 1 : Nat) c2) (.int .u64 m1) (.int .i64 g.most) (.int .i64 g.recs) = WX) := ⟨_, rfl⟩
            rw [HWX.out] at hrb hfn
            have HRB := hida hrb
            have HFN := hida hfn
            clear HF6 hrb hfn
            go_wp2_with fail
            rw [show (((((W6.setCell ⟨w.heap.size, 0, none⟩ (.slice a1 M1.length c1)).setCell ⟨w.heap.size, 1, none⟩ (.slice a2 (l.length + 1 : Nat) c2)).setCell ⟨w.heap.size, 2, none⟩ (.int .u64 m1)).setCell ⟨w.heap.size, 3, none⟩ (.int .i64 g.most)).setCell ⟨w.heap.size, 4, none⟩ (.int .i64 g.recs)) = WX from HWX.out]
            have t0 : WX.cell? ⟨w.heap.size, 0, none⟩ = some (.slice a1 M1.length c1) := HRB.out.cell 0
            have t1 : WX.cell? ⟨w.heap.size, 1, none⟩ = some (.slice a2 (l.length + 1 : Nat) c2) := HRB.out.cell 1
            have t2 : WX.cell? ⟨w.heap.size, 2, none⟩ = some (.int .u64 m1) := HRB.out.cell 2
            have t3 : WX.cell? ⟨w.heap.size, 3, none⟩ = some (.int .i64 g.most) := HRB.out.cell 3
            have t4 : WX.cell? ⟨w.heap.size, 4, none⟩ = some (.int .i64 g.recs) := HRB.out.cell 4
            refine bodyPost_ret (v := .agg #[.slice a1 M1.length c1, .slice a2 (l.length + 1 : Nat) c2, .int .u64 m1, .int .i64 g.most, .int .i64 g.recs]) (by simp [results, Tryz.results38, go_sem, t0, t1, t2, t3, t4]) rfl ?_
            exact ⟨.slice a1 M1.length c1, .slice a2 (l.length + 1 : Nat) c2, M1, x :: l, by rw [← HRE.out]; rfl, HC1.out, HRT.out, HFN.out⟩
        · intro nm c w' cnt' hT hl0 hh hgv hrg' hc hgr hsz hen
          obtain ⟨x, hx⟩ : ∃ x, g.D nm = some x := by
            cases e : g.D nm with
            | none => exact absurd e hT
            | some t => exact ⟨t, rfl⟩
          rw [(HHr.out.dyes nm x hx).2.1] at hgv
          subst hgv
          have hx1 : (x.1 : Int) = nm := HWF.out.d nm x hx
          have hfd := HA.out.fd.grown hgr HA.out.rn HA.out.rv1 HA.out.rv
          have htx : dOf g nm = x := by unfold dOf; rw [hx]; rfl
          obtain ⟨x1, x2⟩ := x
          obtain rfl : x1 = nm := by simp only at hx1; omega
          obtain ⟨U, HU⟩ : ∃ U, Hid (U = w'.alloc (.cells #[.int .u32 x1, .int .u64 x2] 166)) := ⟨_, rfl⟩
          have bU : Below w'.heap.size w' U := by rw [HU.out]; exact (Below.refl _ _).alloc (Nat.le_refl _) _
          have HFU := hida (hfd.same bU)
          have hrgU : U.ranges Tryz.prog 49 rawElem db r2 nd DD (fun z => left z && !z.sameKey (apkey x1)) cnt' := by
            have h1 := hrg'.alloc (.cells #[.int .u32 x1, .int .u64 x2] 166)
            rw [← HU.out] at h1
            exact h1
          have hnews : Hid (∀ j u, [Value.int .u32 x1, Value.int .u64 x2][j]? = some u → U.cell? ((⟨w'.heap.size, 0, none⟩ : Addr).add j) = some u) := by
            show ∀ j u, _
            rw [HU.out]
            exact World.news_of_block (heap_alloc_new _ _)
          have hlenL : (PL.map (dOf g)).length + 1 ≤ 900001 := by have := HA.out.len; have := HHr.out.nd; rw [List.length_map]; omega
          have htb : db < w.heap.size := HLT.out db (.inr (.inr rfl))
          have HPU : Hid (∀ (g2 cap2 : Nat) w2, w2.ownsRow (w.heap.size + 2) 166 2 (.slice (some ⟨g2, 0, none⟩) ((PL.map (dOf g)).length + 1) cap2) ((PL.map (dOf g)).length + 1) ((PL.map (dOf g)).flatMap adcells ++ [.int .u32 x1, .int .u64 x2]) → U.grownBy w2 v2.ownBlock → (v2.ownBlock = some g2 ∨ g2 = U.heap.size) →
              F2At w (w2.setCell ⟨w.heap.size + 1, 1, none⟩ (.slice (some ⟨g2, 0, none⟩) ((PL.map (dOf g)).length + 1) cap2)) db DD nd r2 v (.slice (some ⟨g2, 0, none⟩) ((PL.map (dOf g)).length + 1) cap2) en g L1 (PL ++ [(x1 : Int)]) (fun z => left z && !z.sameKey (apkey x1)) cnt' ∧ w2.frozen? ⟨w.heap.size + 1, 1, none⟩ = false ∧ w2.cell? ⟨w.heap.size + 1, 1, none⟩ = some v2) := by
            intro g2 cap2 w2 own2 grow2 loc2
            have hp := HFU.out.push2 (x1, x2) own2 grow2 loc2
            refine ⟨⟨by rw [List.map_append, List.map_cons, List.map_nil, htx]; exact hp.1, ?_, HA.out.rn, HA.out.rv1, ?_, HA.out.ks.push apkey_lit apkey_ne hT hl0, by have := HA.out.len; rw [List.length_append]; simp; omega⟩, hp.2⟩
            · have h1 := hrgU.kept grow2 (fun q => by have := (HFU.out.own2.lt _ q.symm).1; omega) (fun q => HA.out.rv _ q.symm rfl)
              exact h1.kept (grown_set _ _ _ _) (by intro q; cases q; omega) (by intro q; cases q; have := HA.out.rn; omega)
            · intro q hq
              simp only [Value.ownBlock, Option.some.injEq] at hq
              subst hq
              rcases loc2 with e | e
              · exact HA.out.rv _ e
              · have := hrgU.lt
                omega
          have hleft := HA.out.rg.left_eq
          have HC := hida hc
          have HLE := hida hleft
          have HOK : Hid (w.heap.size + 2 ≤ U.heap.size) := by show _ ≤ _; have := HFU.out.box.lt; omega
          have hen' : (Instr.entry (.pointer (some ⟨r2, 0, none⟩))).run Tryz.prog w' = .ok (.tuple #[.int .u32 x1, .int .u64 x2]) w' := hen
          have b0 : w'.cell? ⟨w.heap.size + 1, 1, none⟩ = some v2 := hfd.box.cell 1
          clear HA hT hl0 hh hrg' hc hgr hsz hfd bU hx htx hleft hen hrgU hx1
          dsimp only
          rw [HU.out] at HFU hnews HPU HOK
          clear HU
          go_wp2_with (at_builtin; refine wpList_append_lies _ rfl _ _ 40 rfl (w.heap.size + 2) 166 j0 _ 2 16 Tryz.underlying40 hj hj0 hj1 hj2 rfl (by decide) v2 (PL.map (dOf g)).length ((PL.map (dOf g)).flatMap adcells) rfl HFU.out.own2 ⟨w'.heap.size, 0, none⟩ 1 1 [.int .u32 x1, .int .u64 x2] rfl rfl hnews.out (by intro u' hu'; simp at hu'; rcases hu' with rfl | rfl <;> rfl) (by decide) (by unfold maxLen; omega) (by omega) HOK.out _ rfl ?_; intro g2 cap2 w2 own2 grow2 loc2 lt2; have HN := hida (HPU.out g2 cap2 w2 own2 grow2 loc2); have z0 := HN.out.2.1; have z1 := HN.out.2.2; clear own2 grow2 loc2 lt2)
          go_roundw
          case rel => rw [List.length_map] at HN; exact ⟨_, _, _, _, HN.out.1⟩
          case measure => rw [List.length_map] at HN; rw [HN.out.1.rg.left_eq, HLE.out]; exact HC.out
    · intro nm c w' cnt' hT hl0 hh hgv hrg' hc hgr hsz hen
      obtain ⟨x, hx⟩ : ∃ x, g.T nm = some x := by
        cases e : g.T nm with
        | none => exact absurd e hT
        | some t => exact ⟨t, rfl⟩
      rw [(HH1.out.tyes nm x hx).2.1] at hgv
      subst hgv
      have hfd := HA.out.fd.grown hgr HA.out.rn HA.out.rv (fun g hg => by cases hg)
      have htx : tOf g nm = x := by unfold tOf; rw [hx]; rfl
      obtain ⟨x1, x2, x3, x4⟩ := x
      obtain ⟨V, HV⟩ : ∃ V, Hid (V = w'.alloc (.cells #[.int .i64 x1, .int .i64 x2, .int .u64 x3, .int .u64 x4] 161)) := ⟨_, rfl⟩
      have bV : Below w'.heap.size w' V := by rw [HV.out]; exact (Below.refl _ _).alloc (Nat.le_refl _) _
      have rV : RowV V w'.heap.size 4 (four (.int .i64 x1) (.int .i64 x2) (.int .u64 x3) (.int .u64 x4)) := by rw [HV.out]; exact RowV.four_new _ _ _ _ _ _
      obtain ⟨U, HU⟩ : ∃ U, Hid (U = V.alloc (.cells #[.int .i64 x1, .int .i64 x2, .int .u64 x3, .int .u64 x4] 161)) := ⟨_, rfl⟩
      have bU : Below V.heap.size V U := by rw [HU.out]; exact (Below.refl _ _).alloc (Nat.le_refl _) _
      have hfU := (hfd.same bV).same bU
      have HFU := hida hfU
      have hrgU : U.ranges Tryz.prog 3 rawElem tb r nt TD (fun z => left z && !z.sameKey (aikey nm)) cnt' := by
        have h1 := hrg'.alloc (.cells #[.int .i64 x1, .int .i64 x2, .int .u64 x3, .int .u64 x4] 161)
        rw [← HV.out] at h1
        have h2 := h1.alloc (.cells #[.int .i64 x1, .int .i64 x2, .int .u64 x3, .int .u64 x4] 161)
        rw [← HU.out] at h2
        exact h2
      have hnews : Hid (∀ j u, [Value.int .i64 x1, Value.int .i64 x2, Value.int .u64 x3, Value.int .u64 x4][j]? = some u → U.cell? ((⟨V.heap.size, 0, none⟩ : Addr).add j) = some u) := by
        show ∀ j u, _
        rw [HU.out]
        exact World.news_of_block (heap_alloc_new _ _)
      have hlenL : (NL.map (tOf g)).length + 1 ≤ 900001 := by have := HA.out.len; have := HH1.out.nt; rw [List.length_map]; omega
      have htb : tb < w.heap.size := HLT.out tb (.inr (.inl rfl))
      have HPU : Hid (∀ (g2 cap2 : Nat) w2, w2.ownsRow (w.heap.size + 2) 161 4 (.slice (some ⟨g2, 0, none⟩) ((NL.map (tOf g)).length + 1) cap2) ((NL.map (tOf g)).length + 1) ((NL.map (tOf g)).flatMap atcells ++ [.int .i64 x1, .int .i64 x2, .int .u64 x3, .int .u64 x4]) → U.grownBy w2 v.ownBlock → (v.ownBlock = some g2 ∨ g2 = U.heap.size) →
          F1At w (w2.setCell ⟨w.heap.size + 1, 0, none⟩ (.slice (some ⟨g2, 0, none⟩) ((NL.map (tOf g)).length + 1) cap2)) tb TD nt r (.slice (some ⟨g2, 0, none⟩) ((NL.map (tOf g)).length + 1) cap2) en g (NL ++ [nm]) (fun z => left z && !z.sameKey (aikey nm)) cnt' ∧ w2.frozen? ⟨w.heap.size + 1, 0, none⟩ = false ∧ w2.cell? ⟨w.heap.size + 1, 0, none⟩ = some v) := by
        intro g2 cap2 w2 own2 grow2 loc2
        have hp := HFU.out.push1 (x1, x2, x3, x4) own2 grow2 loc2
        refine ⟨⟨by rw [List.map_append, List.map_cons, List.map_nil, htx]; exact hp.1, ?_, HA.out.rn, ?_, HA.out.ks.push aikey_lit aikey_ne hT hl0, by have := HA.out.len; rw [List.length_append]; simp; omega⟩, hp.2⟩
        · have h1 := hrgU.kept grow2 (fun q => by have := (HFU.out.own1.lt _ q.symm).1; omega) (fun q => HA.out.rv _ q.symm rfl)
          exact h1.kept (grown_set _ _ _ _) (by intro q; cases q; omega) (by intro q; cases q; have := HA.out.rn; omega)
        · intro q hq
          simp only [Value.ownBlock, Option.some.injEq] at hq
          subst hq
          rcases loc2 with e | e
          · exact HA.out.rv _ e
          · have := hrgU.lt
            omega
      have hleft := HA.out.rg.left_eq
      have HC := hida hc
      have HLE := hida hleft
      have HOK : Hid (w.heap.size + 2 ≤ U.heap.size) := by show _ ≤ _; have := HFU.out.box.lt; omega
      have hen' : (Instr.entry (.pointer (some ⟨r, 0, none⟩))).run Tryz.prog w' = .ok (.tuple #[.int .i64 nm, .agg #[.int .i64 x1, .int .i64 x2, .int .u64 x3, .int .u64 x4]]) w' := hen
      have HVF := hida (show V.cell? ⟨w.heap.size + 1, 0, none⟩ = some v from (hfd.same bV).box.cell 0)
      obtain ⟨a0, a1, a2, a3⟩ := rV.cells4
      clear HA hT hl0 hh hrg' hc hgr hsz hfd bV bU hfU hx htx hleft hen rV hrgU
      dsimp only [txVal]
      go_upto_region 5 with fail
      rw [← HV.out]
      clear HV hen'
      have b0 := HVF.out
      rw [HU.out] at HFU hnews HPU HOK
      clear HU HVF
      go_wp2_with (at_builtin; refine wpList_append_lies _ rfl _ _ 39 rfl (w.heap.size + 2) 161 i0 _ 4 32 Tryz.underlying39 hi hz0 hz1 hz2 rfl (by decide) v (NL.map (tOf g)).length ((NL.map (tOf g)).flatMap atcells) rfl HFU.out.own1 ⟨V.heap.size, 0, none⟩ 1 1 [.int .i64 x1, .int .i64 x2, .int .u64 x3, .int .u64 x4] rfl rfl hnews.out (by intro u' hu'; simp at hu'; rcases hu' with rfl | rfl | rfl | rfl <;> rfl) (by decide) (by unfold maxLen; omega) (by omega) HOK.out _ rfl ?_; intro g2 cap2 w2 own2 grow2 loc2 lt2; have HN := hida (HPU.out g2 cap2 w2 own2 grow2 loc2); have z0 := HN.out.2.1; have z1 := HN.out.2.2; clear own2 grow2 loc2 lt2)
      go_roundw
      case rel => rw [List.length_map] at HN; exact ⟨_, _, _, _, HN.out.1⟩
      case measure => rw [List.length_map] at HN; rw [HN.out.1.rg.left_eq, HLE.out]; exact HC.out

end Go.Proofs.YtgkfdakieebnmaaGreat
