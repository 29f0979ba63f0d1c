/-
  The walk of (*heard).hearCheck: what a checkpoint says of transactions and of pages.
-/
import Derived.Test.YtgkfdakieebnmaaGreatAnKnownC
import Derived.Deep.RegionWith
import Derived.Deep.CutRange
set_option linter.unusedVariables false
set_option linter.unusedSimpArgs false
namespace Go.Proofs.YtgkfdakieebnmaaGreat
open Go.RowKit Go.Sort

structure CkAt (w wr : World) (hb tb db M : Nat) (g : HearG) (r : RecV) (ta da : Option Addr) (tc dc : Nat) : Prop where
  h : HearAt wr hb tb db M g
  kept : Kept (HB hb tb db) w wr
  box : BlkR wr w.heap.size (r.cells ta da tc dc) 64
  txs : TxsAt wr ta r.txs
  dis : DisAt wr da r.dirty
  hl : ∀ i, HB hb tb db i → i < w.heap.size

structure LstOff (hb tb db : Nat) (r : RecV) (ta da : Option Addr) : Prop where
  t : ∀ x, ta = some x → r.txs ≠ [] → ¬ HB hb tb db x.block
  d : ∀ x, da = some x → r.dirty ≠ [] → ¬ HB hb tb db x.block

theorem HearAt.off {w : World} {hb tb db N : Nat} {g : HearG} (h : HearAt w hb tb db N g) {r : RecV} {ta da : Option Addr} (ht : TxsAt w ta r.txs) (hd : DisAt w da r.dirty) : LstOff hb tb db r ta da := by
  obtain ⟨TD, DD, nt, nd, h⟩ := h
  obtain ⟨e1, c1, m1⟩ := h.tm.isMap
  obtain ⟨e2, c2, m2⟩ := h.dm.isMap
  have hmap : ∀ (b i : Nat) es c, w.heap[b]? = some (.map es c) → w.cell? ⟨b, i, none⟩ = none := fun b i es c e => by simp [World.cell?, e]
  constructor
  · intro x e hne
    rcases ht with q | ⟨b, o, e', hb', hc⟩
    · exact absurd q hne
    · rw [e] at e'
      cases e'
      have k := hc 0 (List.length_pos_iff.2 hne)
      rw [Nat.zero_mul, Nat.add_zero] at k
      rintro (q | q | q)
      · have q' : b = hb := q
        subst q'
        have a0 := k.c0
        have a2 := k.c2
        rw [h.blk.cell] at a0 a2
        match o, a0, a2 with
        | 0, a0, _ => cases a0
        | 1, a0, _ => cases a0
        | 2, _, a2 => cases a2
        | 3, _, a2 => cases a2
        | o + 4, a0, _ => simp [hearCells] at a0
      · have q' : b = tb := q
        subst q'
        have a0 := k.c0
        rw [hmap _ _ _ _ m1] at a0
        cases a0
      · have q' : b = db := q
        subst q'
        have a0 := k.c0
        rw [hmap _ _ _ _ m2] at a0
        cases a0
  · intro x e hne
    rcases hd with q | ⟨b, o, e', hb', hc⟩
    · exact absurd q hne
    · rw [e] at e'
      cases e'
      have k := hc 0 (List.length_pos_iff.2 hne)
      rw [Nat.zero_mul, Nat.add_zero] at k
      rintro (q | q | q)
      · have q' : b = hb := q
        subst q'
        have a0 := k.c0
        rw [h.blk.cell] at a0
        match o, a0 with
        | 0, a0 => cases a0
        | 1, a0 => cases a0
        | 2, a0 => cases a0
        | 3, a0 => cases a0
        | o + 4, a0 => simp [hearCells] at a0
      · have q' : b = tb := q
        subst q'
        have a0 := k.c0
        rw [hmap _ _ _ _ m1] at a0
        cases a0
      · have q' : b = db := q
        subst q'
        have a0 := k.c0
        rw [hmap _ _ _ _ m2] at a0
        cases a0

theorem TxsAt.keep {w w' : World} {a : Option Addr} {L : List TxV} (h : TxsAt w a L) {S : Nat → Prop} (k : Kept S w w') (ho : ∀ x, a = some x → L ≠ [] → ¬ S x.block) : TxsAt w' a L := by
  by_cases hL : L = []
  · exact .inl hL
  rcases h with h | ⟨b, o, e, hb, hc⟩
  · exact .inl h
  · exact .inr ⟨b, o, e, Nat.lt_of_lt_of_le hb k.size, fun i hi => (hc i hi).same (k.block b hb (ho _ e hL))⟩
theorem DisAt.keep {w w' : World} {a : Option Addr} {L : List DiV} (h : DisAt w a L) {S : Nat → Prop} (k : Kept S w w') (ho : ∀ x, a = some x → L ≠ [] → ¬ S x.block) : DisAt w' a L := by
  by_cases hL : L = []
  · exact .inl hL
  rcases h with h | ⟨b, o, e, hb, hc⟩
  · exact .inl h
  · exact .inr ⟨b, o, e, Nat.lt_of_lt_of_le hb k.size, fun i hi => (hc i hi).same (k.block b hb (ho _ e hL))⟩

def lkD (o : Option DiV) : Nat := match o with | some x => x.2 | none => 0

section
variable {w wr wx : World} {hb tb db M : Nat} {g g' : HearG} {r : RecV} {ta da : Option Addr} {tc dc : Nat}

theorem CkAt.step (h : CkAt w wr hb tb db M g r ta da tc dc) (o : LstOff hb tb db r ta da) {M' : Nat} (k : Kept (HB hb tb db) wr wx) (h' : HearAt wx hb tb db M' g') : CkAt w wx hb tb db M' g' r ta da tc dc :=
  ⟨h', h.kept.trans k, h.box.same (k.block _ h.box.lt (fun e => by have := h.hl _ e; omega)), h.txs.keep k o.t, h.dis.keep k o.d, h.hl⟩

theorem CkAt.below (h : CkAt w wr hb tb db M g r ta da tc dc) (o : LstOff hb tb db r ta da) (k : Below wr.heap.size wr wx) : CkAt w wx hb tb db M g r ta da tc dc :=
  h.step o (Kept.of_below k) (h.h.below k)

theorem HearAt.cell (h : HearAt wr hb tb db M g) : wr.cell? ⟨hb, 0, none⟩ = some (.map (some tb)) ∧ wr.cell? ⟨hb, 1, none⟩ = some (.map (some db)) ∧ wr.cell? ⟨hb, 2, none⟩ = some (.int .i64 g.most) ∧ wr.cell? ⟨hb, 3, none⟩ = some (.int .i64 g.recs) ∧ wr.frozen? ⟨hb, 2, none⟩ = false ∧ wr.frozen? ⟨hb, 3, none⟩ = false := by
  obtain ⟨TD, DD, nt, nd, h⟩ := h
  exact ⟨h.blk.cell 0, h.blk.cell 1, h.blk.cell 2, h.blk.cell 3, h.blk.frozen 2, h.blk.frozen 3⟩

theorem HearAt.setTop (h : HearAt wr hb tb db M g) (n : Int) : HearAt (wr.setCell ⟨hb, 2, none⟩ (.int .i64 (max g.most n))) hb tb db M (g.top n) := by
  refine h.cells (g' := g.top n) ?_ rfl rfl (Kept.setCell _ _ _ _ _ rfl)
  obtain ⟨TD, DD, nt, nd, h⟩ := h
  exact h.blk.set 2 _

theorem HearAt.setRecs (h : HearAt wr hb tb db M g) : HearAt (wr.setCell ⟨hb, 3, none⟩ (.int .i64 ((g.recs + 1 : Nat) : Int))) hb tb db M { g with recs := g.recs + 1 } := by
  refine h.cells (g' := { g with recs := g.recs + 1 }) ?_ rfl rfl (Kept.setCell _ _ _ _ _ rfl)
  obtain ⟨TD, DD, nt, nd, h⟩ := h
  exact h.blk.set 3 _

theorem HearAt.drewN (h : HearAt wr hb tb db M g) (n : Nat) : HearAt (wr.drewN n) hb tb db M g := h.same fun _ _ => rfl

set_option maxHeartbeats 6400000 in
set_option maxRecDepth 20000 in
theorem hearCheck_any (h : HearAt w hb tb db M g) (o : LstOff hb tb db r ta da) (ht : TxsAt w ta r.txs) (hd : DisAt w da r.dirty) (hlt : r.txs.length ≤ 64) (hld : r.dirty.length ≤ 256) (hM : M ≤ 800000)
    (hrt : ∀ x ∈ r.txs, 0 ≤ x.1 ∧ x.1 ≤ 2147483647) (hrd : ∀ x ∈ r.dirty, x.1 < 4294967296) :
    Calls Tryz.prog 85 #[.pointer (some ⟨hb, 0, none⟩), .agg (r.cells ta da tc dc)] w fun e w' => e = .returned (.tuple #[]) ∧ HearAt w' hb tb db (M + 320) (r.dirty.foldl hearDi (r.txs.foldl hearTx g)) ∧ Kept (HB hb tb db) w w' := by
  obtain ⟨W, HW⟩ : ∃ W, Hid (W = w.alloc (.cells (r.cells ta da tc dc) 64)) := ⟨_, rfl⟩
  have bW : Below w.heap.size w W := by rw [HW.out]; exact (Below.refl _ _).alloc (Nat.le_refl _) _
  have HC0 : Hid (CkAt w W hb tb db M g r ta da tc dc) := ⟨h.below bW, Kept.of_below bW, by rw [HW.out]; exact Blk.made _ _ _, ht.below bW, hd.below bW, h.lt⟩
  have HO := hida o
  have HPAR : Hid (r.cells ta da tc dc = #[.int .i64 r.kind, .int .i64 r.tx, .int .u64 r.prev, .int .u64 r.next, .int .u32 r.page, .int .i64 r.op.kind, .int .i64 r.op.at', .string r.op.S, .string r.op.old, .int .i64 r.undo, .int .i64 r.index, .string r.key, .int .u32 r.rpage, .int .i64 r.rslot, .bool r.live, .slice ta r.txs.length tc, .slice da r.dirty.length dc]) := rfl
  have HRT := hida hrt
  have HRD := hida hrd
  clear h ht hd o bW hrt hrd
  rw [HPAR.out]
  go_enter Tryz.func85, Tryz.ntmps85
  go_upto_region 1 with fail
  rw [← HPAR.out, show w.alloc (.cells (r.cells ta da tc dc) 64) = W from HW.out.symm]
  clear HW HPAR
  have c15 : W.cell? ⟨w.heap.size, 15, none⟩ = some (.slice ta r.txs.length tc) := HC0.out.box.cell 15
  go_wp2_with fail
  clear c15
  go_loopw [15] (fun x wr => ∃ k : Nat, x = .int .i64 k ∧ k ≤ r.txs.length ∧ Hid (CkAt w wr hb tb db (M + k) ((r.txs.take k).foldl hearTx g) r ta da tc dc)) (fun x _ => r.txs.length - (intOf x).toNat)
  case atStart => exact ⟨0, rfl, Nat.zero_le _, HC0⟩
  case round =>
    obtain ⟨k, rfl, hk, HC⟩ := hrel
    clear HC0
    by_cases hlt1 : k < r.txs.length
    · have d1 : decide ((k : Int) < (r.txs.length : Int)) = true := by simp; omega
      have i1 : (0 : Int) ≤ (k : Int) := by omega
      have i2 : (k : Int) < (r.txs.length : Int) := by omega
      obtain ⟨b1, o1, rfl, hb1, g1⟩ : ∃ b1 o1, ta = some ⟨b1, o1, none⟩ ∧ b1 < wr.heap.size ∧ TxAt wr b1 (o1 + k * 4) r.txs[k] := by
        rcases HC.out.txs with h | ⟨b1, o1, e, hb, h⟩
        · rw [h] at hlt1; simp at hlt1
        · exact ⟨b1, o1, e, hb, h k hlt1⟩
      have hR := HRT.out _ (List.getElem_mem hlt1)
      have HN : Hid (hearTx ((r.txs.take k).foldl hearTx g) r.txs[k] = (r.txs.take (k + 1)).foldl hearTx g) := by
        show _ = _
        rw [List.take_succ_eq_append_getElem hlt1, List.foldl_append]
        rfl
      generalize (r.txs.take k).foldl hearTx g = G at *
      obtain ⟨G', HG'⟩ : ∃ G', Hid ((r.txs.take (k + 1)).foldl hearTx g = G') := ⟨_, rfl⟩
      rw [HG'.out] at HN
      generalize r.txs[k] = t at *
      obtain ⟨t0, t1, t2, t3⟩ := t
      obtain ⟨p0, p1, p2, p3⟩ := g1
      simp only at p0 p1 p2 p3 hR
      obtain ⟨V, HV⟩ : ∃ V, Hid (V = wr.alloc (.cells #[.int .i64 t0, .int .i64 t1, .int .u64 t2, .int .u64 t3] 161)) := ⟨_, rfl⟩
      have bV : Below wr.heap.size wr V := by rw [HV.out]; exact (Below.refl _ _).alloc (Nat.le_refl _) _
      have HCV := hida (HC.out.below HO.out bV)
      have HXV : Hid (RowV V wr.heap.size 4 (four (.int .i64 t0) (.int .i64 t1) (.int .u64 t2) (.int .u64 t3)) ∧ wr.heap.size < V.heap.size ∧ ¬ HB hb tb db wr.heap.size) := ⟨by rw [HV.out]; exact RowV.four_new _ _ _ _ _ _, by rw [HV.out]; simp, fun e => by have := HC.out.h.lt _ e; omega⟩
      go_upto_region 4 with fail
      rw [← HV.out]
      clear HV HC bV p0 p1 p2 p3
      generalize wr.heap.size = x0 at *
      obtain ⟨a0, a1, a2, a3⟩ := HXV.out.1.cells4
      obtain ⟨c0, c1, c2, c3, f2, f3⟩ := HCV.out.h.cell
      go_cut [] from 19 to 28 (fun wx => Hid (CkAt w wx hb tb db (M + k) (G.top t0) r (some ⟨b1, o1, none⟩) da tc dc) ∧ Hid (RowV wx x0 4 (four (.int .i64 t0) (.int .i64 t1) (.int .u64 t2) (.int .u64 t3)) ∧ x0 < wx.heap.size))
      case first =>
        have hne : hb ≠ x0 := fun e => HXV.out.2.2 (.inl e.symm)
        have hx2 := HXV.out.2.1
        go_region
        all_goals
          go_wp2_with fail
          go_meet
          case rel =>
            exact ⟨HCV.out.step HO.out ((Kept.setCell _ _ _ _ _ (.inl rfl)).drew) (HCV.out.h.setTop t0 |>.same fun _ _ => rfl), fun j hj => (HXV.out.1.set_other hne (.int .i64 (max G.most t0))) j hj, by show x0 < (V.setCell _ _).heap.size; rw [World.size_setCell]; exact hx2⟩
      obtain ⟨HC1, HX1⟩ := hcut
      clear HCV a0 a1 a2 a3 c0 c1 c2 c3 f2 f3
      have HNB := hida HXV.out.2.2
      clear HXV
      obtain ⟨a0, a1, a2, a3⟩ := HX1.out.1.cells4
      obtain ⟨c0, c1, c2, c3, f2, f3⟩ := HC1.out.h.cell
      go_upto_region 5 with fail
      go_cut [6, 7] from 29 to 38 (fun v6 v7 wx => v7 = .bool ((G.T t0).isSome) ∧ Hid (CkAt w wx hb tb db (M + k) (G.top t0) r (some ⟨b1, o1, none⟩) da tc dc) ∧ Hid (RowV wx x0 4 (four (.int .i64 t0) (.int .i64 t1) (.int .u64 t2) (.int .u64 t3)) ∧ x0 < wx.heap.size))
      case first =>
        obtain ⟨q, HQ⟩ : ∃ q : TxV, Hid ((match G.T t0 with | some x => txVal x | none => zeroTx) = txVal q) := by
          cases e : G.T t0 with
          | none => exact ⟨(0, 0, 0, 0), rfl⟩
          | some x => exact ⟨x, rfl⟩
        obtain ⟨q0, q1, q2, q3⟩ := q
        have hlkA : ∀ wx : World, Below wc.heap.size wc wx → (Instr.lookup 104 (.map (some tb)) (.int .i64 t0) true).run Tryz.prog wx = .ok (.tuple #[.agg #[.int .i64 q0, .int .i64 q1, .int .u64 q2, .int .u64 q3], .bool (G.T t0).isSome]) wx := fun wx k' => by
          have := (HC1.out.h.below k').lookT t0 (by omega) (by omega)
          change _ = Result.ok (Value.tuple #[match G.T t0 with | some x => txVal x | none => zeroTx, .bool (G.T t0).isSome]) wx at this
          rw [HQ.out] at this
          exact this
        clear HQ HN
        generalize (G.T t0).isSome = b at *
        have HE := hida (fun (wx : World) (k' : Below wc.heap.size wc wx) => (show CkAt w wx hb tb db (M + k) (G.top t0) r (some ⟨b1, o1, none⟩) da tc dc ∧ RowV wx x0 4 (four (.int .i64 t0) (.int .i64 t1) (.int .u64 t2) (.int .u64 t3)) ∧ x0 < wx.heap.size from ⟨HC1.out.below HO.out k', HX1.out.1.below k' HX1.out.2, Nat.lt_of_lt_of_le HX1.out.2 k'.size⟩))
        have n1 : x0 ≠ wc.heap.size := by have := HX1.out.2; omega
        have n2 : hb ≠ wc.heap.size := by have := HC1.out.h.lt hb (.inl rfl); omega
        have hlk2 : (Instr.lookup 104 (.map (some tb)) (.int .i64 t0) true).run Tryz.prog (wc.alloc (.cells #[.int .i64 0, .int .i64 0, .int .u64 0, .int .u64 0] 161)).drew = .ok (.tuple #[.agg #[.int .i64 q0, .int .i64 q1, .int .u64 q2, .int .u64 q3], .bool b]) (wc.alloc (.cells #[.int .i64 0, .int .i64 0, .int .u64 0, .int .u64 0] 161)).drew := hlkA _ (((Below.refl _ _).alloc (Nat.le_refl _) _).drew)
        have hlk3 := hlkA wc.drew ((Below.refl _ _).drew)
        have hlk1 := hlkA wc (Below.refl _ _)
        clear hlkA
        have bz : Below wc.heap.size wc (wc.alloc (.cells #[.int .i64 0, .int .i64 0, .int .u64 0, .int .u64 0] 161)) := (Below.refl _ _).alloc (Nat.le_refl _) _
        obtain ⟨a0z, a1z, a2z, a3z⟩ := (HX1.out.1.below bz HX1.out.2).cells4
        obtain ⟨c0z, c1z, c2z, c3z, f2z, f3z⟩ := (HC1.out.h.below bz).cell
        clear bz
        go_region
        all_goals
          go_wp2_with fail
          go_meet
          case rel =>
            refine ⟨rfl, (fun z => ⟨z.1, z.2⟩) (HE.out _ ?_)⟩
            repeat (first | with_reducible exact Below.refl _ _ | with_reducible refine Below.drew ?_ | with_reducible refine Below.alloc ?_ (Nat.le_refl _) _ | with_reducible refine Below.setCell ?_ (Nat.le_refl _) _)
      obtain ⟨rfl, HC2, HX2⟩ := hcut
      clear HC1 HX1 a0 a1 a2 a3 c0 c1 c2 c3 f2 f3
      cases hb : (G.T t0).isSome with
      | true =>
        have HN2 : Hid (G.top t0 = G') := by
          show _ = _
          rw [← HN.out]
          unfold hearTx
          rw [if_pos hb]
        clear HN hb
        go_wp2_with fail
        go_roundw
        case rel => exact ⟨k + 1, by go_num, by omega, by rw [HG'.out, ← HN2.out]; exact ⟨HC2.out.h.more (by omega), HC2.out.kept, HC2.out.box, HC2.out.txs, HC2.out.dis, HC2.out.hl⟩⟩
        case measure => simp [intOf]; omega
      | false =>
        have HN2 : Hid ((G.top t0).setT (t0, t1, t2, t3) = G') := by
          show _ = _
          rw [← HN.out]
          unfold hearTx
          rw [if_neg (by rw [hb]; simp)]
        clear HN hb
        go_upto_region 7 with fail
        obtain ⟨a0, a1, a2, a3⟩ := HX2.out.1.cells4
        obtain ⟨c0, c1, c2, c3, f2, f3⟩ := HC2.out.h.cell
        obtain ⟨u, hu⟩ := HC2.out.h.putT (t0, t1, t2, t3) hR.1 hR.2 (by omega)
        obtain ⟨hrun, hh, hkp⟩ := hu wc.drew (fun _ _ => rfl)
        have hrun' : (Instr.mapUpdate 104 (.map (some tb)) (.int .i64 t0) (.agg #[.int .i64 t0, .int .i64 t1, .int .u64 t2, .int .u64 t3])).run Tryz.prog wc.drew = .ok () (u wc.drew) := hrun
        have HE := hida (show CkAt w (u wc.drew) hb tb db (M + (k + 1)) ((r.txs.take (k + 1)).foldl hearTx g) r (some ⟨b1, o1, none⟩) da tc dc from by
          rw [HG'.out, ← HN2.out]
          exact HC2.out.step HO.out (((Kept.refl _ _).drew).trans (Kept.mono hkp (fun _ e => .inr (.inl e)))) hh)
        clear hu hh hkp hrun HN2 HC2 HX2
        go_region
        all_goals
          go_wp2_with fail
          go_roundw
          case rel => exact ⟨k + 1, by go_num, by omega, HE⟩
          case measure => simp [intOf]; omega
    · obtain rfl : k = r.txs.length := by omega
      rw [List.take_length] at HC
      obtain ⟨G, HG⟩ : ∃ G, Hid (r.txs.foldl hearTx g = G) := ⟨_, rfl⟩
      rw [HG.out] at HC
      clear HRT
      have d1 : decide (((r.txs.length : Nat) : Int) < ((r.txs.length : Nat) : Int)) = false := by simp
      have c16 : wr.cell? ⟨w.heap.size, 16, none⟩ = some (.slice da r.dirty.length dc) := HC.out.box.cell 16
      go_wp2_with fail
      clear c16 d1
      go_loopw [52] (fun x wr => ∃ k : Nat, x = .int .i64 k ∧ k ≤ r.dirty.length ∧ Hid (CkAt w wr hb tb db (M + r.txs.length + k) ((r.dirty.take k).foldl hearDi G) r ta da tc dc)) (fun x _ => r.dirty.length - (intOf x).toNat)
      case atStart => exact ⟨0, rfl, Nat.zero_le _, HC⟩
      case round =>
        clear HC hk
        obtain ⟨k, rfl, hk, HC⟩ := hrel
        by_cases hlt1 : k < r.dirty.length
        · have d1 : decide ((k : Int) < (r.dirty.length : Int)) = true := by simp; omega
          have i1 : (0 : Int) ≤ (k : Int) := by omega
          have i2 : (k : Int) < (r.dirty.length : Int) := by omega
          obtain ⟨b1, o1, rfl, hb1, g1⟩ : ∃ b1 o1, da = some ⟨b1, o1, none⟩ ∧ b1 < wr.heap.size ∧ DiAt wr b1 (o1 + k * 2) r.dirty[k] := by
            rcases HC.out.dis with h | ⟨b1, o1, e, hb, h⟩
            · rw [h] at hlt1; simp at hlt1
            · exact ⟨b1, o1, e, hb, h k hlt1⟩
          have hR := HRD.out _ (List.getElem_mem hlt1)
          have HN : Hid (hearDi ((r.dirty.take k).foldl hearDi G) r.dirty[k] = (r.dirty.take (k + 1)).foldl hearDi G) := by
            show _ = _
            rw [List.take_succ_eq_append_getElem hlt1, List.foldl_append]
            rfl
          generalize (r.dirty.take k).foldl hearDi G = F at *
          obtain ⟨F', HF'⟩ : ∃ F', Hid ((r.dirty.take (k + 1)).foldl hearDi G = F') := ⟨_, rfl⟩
          rw [HF'.out] at HN
          generalize r.dirty[k] = t at *
          obtain ⟨t0, t1⟩ := t
          obtain ⟨p0, p1⟩ := g1
          simp only at p0 p1 hR
          obtain ⟨V, HV⟩ : ∃ V, Hid (V = wr.alloc (.cells #[.int .u32 t0, .int .u64 t1] 166)) := ⟨_, rfl⟩
          have bV : Below wr.heap.size wr V := by rw [HV.out]; exact (Below.refl _ _).alloc (Nat.le_refl _) _
          have HCV := hida (HC.out.below HO.out bV)
          have hX : Blk V wr.heap.size #[.int .u32 t0, .int .u64 t1] 166 := by rw [HV.out]; exact Blk.made _ _ _
          have HXV := hida hX
          go_upto_region 12 with fail
          rw [← HV.out]
          clear HV HC bV p0 p1 hX
          generalize wr.heap.size = x0 at *
          have a0 : V.cell? ⟨x0, 0, none⟩ = some (.int .u32 t0) := HXV.out.cell 0
          obtain ⟨c0, c1, c2, c3, f2, f3⟩ := HCV.out.h.cell
          have hlk : (Instr.lookup 105 (.map (some db)) (.int .u32 t0) true).run Tryz.prog V.drew = .ok (.tuple #[.int .u64 (lkD (F.D t0) : Nat), .bool (F.D t0).isSome]) V.drew := (show HearAt V.drew hb tb db (M + r.txs.length + k) F from HCV.out.h.same fun _ _ => rfl).lookD t0 hR
          go_cut [10, 11] from 56 to 65 (fun v10 v11 wx => v10 = .int .u64 (lkD (F.D t0) : Nat) ∧ v11 = .bool (F.D t0).isSome ∧ Hid (CkAt w wx hb tb db (M + r.txs.length + k) F r ta (some ⟨b1, o1, none⟩) tc dc) ∧ Hid (Blk wx x0 #[.int .u32 t0, .int .u64 t1] 166))
          case first =>
            clear HN
            generalize lkD (F.D t0) = q at *
            generalize (F.D t0).isSome = b at *
            go_region
            all_goals
              go_wp2_with fail
              go_meet
              case rel => exact ⟨rfl, rfl, HCV.out.step HO.out ((Kept.refl _ _).drew) (HCV.out.h.same fun _ _ => rfl), HXV.out.same rfl⟩
          obtain ⟨rfl, rfl, HC2, HX2⟩ := hcut
          clear HCV a0 c0 c1 c2 c3 f2 f3 hlk HXV
          have a0 : wc.cell? ⟨x0, 0, none⟩ = some (.int .u32 t0) := HX2.out.cell 0
          have a1 : wc.cell? ⟨x0, 1, none⟩ = some (.int .u64 t1) := HX2.out.cell 1
          obtain ⟨c0, c1, c2, c3, f2, f3⟩ := HC2.out.h.cell
          obtain ⟨u, hu⟩ := HC2.out.h.putD (t0, t1) hR (by omega)
          obtain ⟨hrun, hh, hkp⟩ := hu wc.drew (fun _ _ => rfl)
          have hrun' : (Instr.mapUpdate 105 (.map (some db)) (.int .u32 t0) (.int .u64 t1)).run Tryz.prog wc.drew = .ok () (u wc.drew) := hrun
          have HSET : Hid (F.setD (t0, t1) = F' → CkAt w (u wc.drew) hb tb db (M + r.txs.length + (k + 1)) ((r.dirty.take (k + 1)).foldl hearDi G) r ta (some ⟨b1, o1, none⟩) tc dc) := fun e => by
            rw [HF'.out, ← e]
            exact HC2.out.step HO.out (((Kept.refl _ _).drew).trans (Kept.mono hkp (fun _ e => .inr (.inr e)))) hh
          have HKEEP : Hid (F = F' → CkAt w wc hb tb db (M + r.txs.length + (k + 1)) ((r.dirty.take (k + 1)).foldl hearDi G) r ta (some ⟨b1, o1, none⟩) tc dc) := fun e => by
            rw [HF'.out, ← e]
            exact ⟨HC2.out.h.more (by omega), HC2.out.kept, HC2.out.box, HC2.out.txs, HC2.out.dis, HC2.out.hl⟩
          unfold hearDi at HN
          clear hu hh hkp hrun HC2 HX2
          cases e : F.D t0 with
          | none =>
            have HE := hida (HSET.out (by have := HN.out; simp only [e] at this; exact this))
            clear HSET HKEEP HN e
            go_upto_region 14 with fail
            go_region
            all_goals
              go_wp2_with fail
              go_roundw
              case rel => exact ⟨k + 1, by go_num, by omega, HE⟩
              case measure => simp [intOf]; omega
          | some s =>
            have HN2 : Hid ((if t1 < s.2 then F.setD (t0, t1) else F) = F') := by have := HN.out; simp only [e] at this; exact this
            clear HN e
            obtain ⟨s0, s1⟩ := s
            simp only at HN2
            rw [show lkD (some (s0, s1)) = s1 from rfl]
            by_cases hs : t1 < s1
            · have HE := hida (HSET.out (by rw [← HN2.out, if_pos hs]))
              have d5 : decide ((t1 : Int) < (s1 : Int)) = true := by simp; omega
              clear HSET HKEEP HN2
              go_upto_region 14 with fail
              go_region
              all_goals
                go_wp2_with fail
                go_roundw
                case rel => exact ⟨k + 1, by go_num, by omega, HE⟩
                case measure => simp [intOf]; omega
            · have HE := hida (HKEEP.out (by rw [← HN2.out, if_neg hs]))
              have d5 : decide ((t1 : Int) < (s1 : Int)) = false := by simp; omega
              clear HSET HKEEP HN2
              go_wp2_with fail
              go_roundw
              case rel => exact ⟨k + 1, by go_num, by omega, HE⟩
              case measure => simp [intOf]; omega
        · obtain rfl : k = r.dirty.length := by omega
          rw [List.take_length] at HC
          have d1 : decide (((r.dirty.length : Nat) : Int) < ((r.dirty.length : Nat) : Int)) = false := by simp
          have HE := hida (show HearAt wr hb tb db (M + 320) (r.dirty.foldl hearDi G) ∧ Kept (HB hb tb db) w wr from ⟨HC.out.h.more (by omega), HC.out.kept⟩)
          clear HC HRD
          go_wp2_with fail
          go_end0
          exact ⟨rfl, by rw [HG.out]; exact HE.out⟩

end

end Go.Proofs.YtgkfdakieebnmaaGreat
