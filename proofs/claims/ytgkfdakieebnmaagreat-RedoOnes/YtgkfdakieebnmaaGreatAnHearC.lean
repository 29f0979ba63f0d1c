/-
  The walk of (*heard).hear: what a record says.
-/
import Derived.Test.YtgkfdakieebnmaaGreatAnCheckC
import Derived.Test.YtgkfdakieebnmaaGreatRowOpsJ
import Derived.Test.YtgkfdakieebnmaaGreatRecHasJ
import Derived.Test.YtgkfdakieebnmaaGreatRecPutsJ
set_option linter.unusedVariables false
set_option linter.unusedSimpArgs false
namespace Go.Proofs.YtgkfdakieebnmaaGreat
open Go.RowKit Go.Sort

theorem amixed : Tryz.prog.follows .mixedOrders = true := by kernel_rfl

structure HrOk (r : RecV) : Prop where
  tx : 0 ≤ r.tx ∧ r.tx ≤ 2147483647
  page : r.page < 4294967296
  lt : r.txs.length ≤ 64
  ld : r.dirty.length ≤ 256
  txs : ∀ x ∈ r.txs, 0 ≤ x.1 ∧ x.1 ≤ 2147483647
  dis : ∀ x ∈ r.dirty, x.1 < 4294967296

section
variable {w wr wx : World} {hb tb db M : Nat} {g g' : HearG} {r : RecV} {ta da : Option Addr} {tc dc : Nat}

set_option maxHeartbeats 6400000 in
set_option maxRecDepth 20000 in
theorem hear_any (h : HearAt w hb tb db M g) (wf : g.Wf) (o : LstOff hb tb db r ta da) (ht : TxsAt w ta r.txs) (hd : DisAt w da r.dirty) (ok : HrOk r) (at' : Nat) (hM : M ≤ 700000) (hr : g.recs ≤ 1000000) :
    Calls Tryz.prog 37 #[.pointer (some ⟨hb, 0, none⟩), .int .u64 at', .agg (r.cells ta da tc dc)] w fun e w' => e = .returned (.tuple #[]) ∧ HearAt w' hb tb db (M + 321) (hearRec g at' r) ∧ Kept (HB hb tb db) w w' := by
  obtain ⟨W, HW⟩ : ∃ W, Hid (W = w.alloc (.cells (r.cells ta da tc dc) 64)) := ⟨_, rfl⟩
  have bW : Below w.heap.size w W := by rw [HW.out]; exact (Below.refl _ _).alloc (Nat.le_refl _) _
  have HC0 : Hid (CkAt w W hb tb db M g r ta da tc dc) := ⟨h.below bW, Kept.of_below bW, by rw [HW.out]; exact Blk.made _ _ _, ht.below bW, hd.below bW, h.lt⟩
  have HO := hida o
  have HPAR : Hid (r.cells ta da tc dc = #[.int .i64 r.kind, .int .i64 r.tx, .int .u64 r.prev, .int .u64 r.next, .int .u32 r.page, .int .i64 r.op.kind, .int .i64 r.op.at', .string r.op.S, .string r.op.old, .int .i64 r.undo, .int .i64 r.index, .string r.key, .int .u32 r.rpage, .int .i64 r.rslot, .bool r.live, .slice ta r.txs.length tc, .slice da r.dirty.length dc]) := rfl
  have HOK := hida ok
  obtain ⟨g1, HG1⟩ : ∃ g1 : HearG, Hid (({ g with recs := g.recs + 1, most := max g.most r.tx } : HearG) = g1) := ⟨_, rfl⟩
  have HWF : Hid g1.Wf := by show HearG.Wf _; rw [← HG1.out]; exact ⟨wf.t, wf.d⟩
  obtain ⟨G, HG⟩ : ∃ G, Hid (hearRec g at' r = G) := ⟨_, rfl⟩
  have HGR : Hid ((if r.kind = 1 ∨ r.kind = 2 then hearChg (hearOwn g1 at' r) r.page at' else hearOwn g1 at' r) = G) := by
    show _ = _
    rw [← HG.out, ← HG1.out]
    rfl
  rw [HG.out]
  clear h ht hd o bW ok wf HG
  rw [HPAR.out]
  go_enter Tryz.func37, Tryz.ntmps37
  go_upto_region 1 with fail
  rw [← HPAR.out, show w.alloc (.cells (r.cells ta da tc dc) 64) = W from HW.out.symm]
  clear HW HPAR
  obtain ⟨c0, c1, c2, c3, f2, f3⟩ := HC0.out.h.cell
  obtain ⟨V, HV⟩ : ∃ V, Hid (V = W.setCell ⟨hb, 3, none⟩ (.int .i64 ((g.recs : Int) + 1))) := ⟨_, rfl⟩
  have HC1 : Hid (CkAt w V hb tb db M { g with recs := g.recs + 1 } r ta da tc dc) := by
    show CkAt _ _ _ _ _ _ _ _ _ _ _ _
    rw [HV.out]
    have := HC0.out.h.setRecs
    rw [show (((g.recs + 1 : Nat) : Int)) = (g.recs : Int) + 1 by omega] at this
    exact HC0.out.step HO.out (Kept.setCell _ _ _ _ _ (.inl rfl)) this
  go_upto_region 2 with fail
  rw [← HV.out]
  clear HV HC0 c0 c1 c2 c3 f2 f3
  obtain ⟨c0, c1, c2, c3, f2, f3⟩ := HC1.out.h.cell
  have k1 : V.cell? ⟨w.heap.size, 1, none⟩ = some (.int .i64 r.tx) := HC1.out.box.cell 1
  go_cut [] from 13 to 22 (fun wx => Hid (CkAt w wx hb tb db M g1 r ta da tc dc))
  case first =>
    have HE : Hid (CkAt w ((V.setCell ⟨hb, 2, none⟩ (.int .i64 (max g.most r.tx))).drew) hb tb db M g1 r ta da tc dc) := by
      show CkAt _ _ _ _ _ _ _ _ _ _ _ _
      rw [← HG1.out]
      exact HC1.out.step HO.out ((Kept.setCell _ _ _ _ _ (.inl rfl)).drew) (HC1.out.h.setTop r.tx |>.same fun _ _ => rfl)
    clear HC1
    go_region
    all_goals
      go_wp2_with fail
      go_meet
      case rel => exact HE
  have HC2 := hcut
  clear HC1 c0 c1 c2 c3 f2 f3 k1 hcut HG1
  have k0 : wc.cell? ⟨w.heap.size, 0, none⟩ = some (.int .i64 r.kind) := HC2.out.box.cell 0
  obtain ⟨K, HK⟩ : ∃ K, Hid (r.kind = K) := ⟨_, rfl⟩
  rw [HK.out] at k0 HGR
  have HOWN : Hid (hearOwn g1 at' r = if K = 7 then g1 else if K = 8 then r.dirty.foldl hearDi (r.txs.foldl hearTx g1) else if K = 6 then g1.delT r.tx else g1.setT (behindF (knownF g1 r.tx) at' K r.next)) := by
    show _ = _
    rw [← HK.out]
    rfl
  by_cases e7 : K = 7
  · have hG : g1 = G := by rw [← HGR.out, HOWN.out, if_pos e7, if_neg (by omega)]
    subst e7
    clear HOWN HGR
    go_wp2_with fail
    go_end0
    exact ⟨rfl, by rw [← hG]; exact HC2.out.h.more (by omega), HC2.out.kept⟩
  · by_cases e8 : K = 8
    · have hG := hida (show r.dirty.foldl hearDi (r.txs.foldl hearTx g1) = G by rw [← HGR.out, HOWN.out, if_neg e7, if_pos e8, if_neg (by omega)])
      have HCC := hida (hearCheck_any (tc := tc) (dc := dc) HC2.out.h HO.out HC2.out.txs HC2.out.dis HOK.out.lt HOK.out.ld (by omega) HOK.out.txs HOK.out.dis)
      have hk1 : Hid (Kept (HB hb tb db) w wc ∧ w.heap.size < wc.heap.size ∧ ∀ i, HB hb tb db i → i < w.heap.size) := ⟨HC2.out.kept, HC2.out.box.lt, HC2.out.hl⟩
      have HBX := hida HC2.out.box
      subst e8
      clear HOWN HGR
      go_upto_region 7 with fail
      refine wp_region_lit ?_
      refine wpList_moveL rfl _ rfl ?_
      refine wpList_loadRow rfl _ _ rfl w.heap.size rfl (r.cells ta da tc dc) _ (0, 0) HBX.out _ Tryz.underlying64 rfl (by kernel_rfl) ?_
      go_wp2_with fail
      refine HCC.out.mono ?_
      rintro e w3 ⟨rfl, h3, kp3⟩
      have k3 : w3.cell? ⟨w.heap.size, 0, none⟩ = some (.int .i64 8) := (World.cell?_of_block (w := wc) (a := ⟨w.heap.size, 0, none⟩) (kp3.block _ hk1.out.2.1 (fun e => absurd (hk1.out.2.2 _ e) (Nat.lt_irrefl _)))).trans k0
      have HF := hida (show HearAt w3 hb tb db (M + 321) G ∧ Kept (HB hb tb db) w w3 from ⟨by rw [← hG.out]; exact h3.more (by omega), hk1.out.1.trans kp3⟩)
      clear HCC hk1 HBX h3 kp3 hG HC2 k0
      go_wp2_with fail
      go_end0
      exact ⟨rfl, HF.out⟩
    · by_cases e6 : K = 6
      · have hG := hida (show g1.delT r.tx = G by rw [← HGR.out, HOWN.out, if_neg e7, if_neg e8, if_pos e6, if_neg (by omega)])
        subst e6
        clear HOWN HGR
        obtain ⟨u, hu⟩ := HC2.out.h.delT r.tx HOK.out.tx.1 HOK.out.tx.2 0
        obtain ⟨hrun, hh, hkp⟩ := hu wc.drew (fun _ _ => rfl)
        obtain ⟨c0, c1, c2, c3, f2, f3⟩ := HC2.out.h.cell
        have k1 : wc.cell? ⟨w.heap.size, 1, none⟩ = some (.int .i64 r.tx) := HC2.out.box.cell 1
        have hC3 := HC2.out.step HO.out (((Kept.refl _ _).drew).trans (Kept.mono hkp (fun _ e => .inr (.inl e)))) hh
        have k3 : (u wc.drew).cell? ⟨w.heap.size, 0, none⟩ = some (.int .i64 6) := by have := hC3.box.cell 0; rw [this, ← HK.out]; rfl
        have HF := hida (show HearAt (u wc.drew) hb tb db (M + 321) G ∧ Kept (HB hb tb db) w (u wc.drew) from ⟨by rw [← hG.out]; exact hC3.h.more (by omega), hC3.kept⟩)
        clear hu hh hkp hG HC2 hC3
        go_upto_region 9 with fail
        go_region
        all_goals
          go_wp2_with fail
          go_end0
          exact ⟨rfl, HF.out⟩
      · have hx : (behindF (knownF g1 r.tx) at' K r.next).1 = r.tx := knownF_tx HWF.out r.tx
        have hG := hida (show (if K = 1 ∨ K = 2 then hearChg (g1.setT (behindF (knownF g1 r.tx) at' K r.next)) r.page at' else g1.setT (behindF (knownF g1 r.tx) at' K r.next)) = G by rw [← HGR.out, HOWN.out, if_neg e7, if_neg e8, if_neg e6])
        have d7 : (K == 7) = false := beq_eq_false_iff_ne.2 e7
        have d8 : (K == 8) = false := beq_eq_false_iff_ne.2 e8
        have d6 : (K == 6) = false := beq_eq_false_iff_ne.2 e6
        obtain ⟨u, hu⟩ := HC2.out.h.putT (behindF (knownF g1 r.tx) at' K r.next) (by rw [hx]; exact HOK.out.tx.1) (by rw [hx]; exact HOK.out.tx.2) (by omega)
        rw [hx] at hu
        obtain ⟨c0, c1, c2, c3, f2, f3⟩ := HC2.out.h.cell
        have k1 : wc.cell? ⟨w.heap.size, 1, none⟩ = some (.int .i64 r.tx) := HC2.out.box.cell 1
        have x0 := cell_regrown c0
        have x1 := cell_regrown k1
        have HBX := hida HC2.out.box
        have cK : ∀ dd os, Calls Tryz.prog 87 #[.pointer (some ⟨hb, 0, none⟩), .int .i64 r.tx] (grow (redrawn wc dd) os) fun e w'' => e = .returned (txVal (knownF g1 r.tx)) ∧ ∃ p : Regrown, w'' = grow (redrawn wc p.d) p.os := fun dd os => Calls.regrown_of (known_any (HC2.out.h.below (below_regrown wc dd os)) r.tx (by have := HOK.out.tx; omega) (by have := HOK.out.tx; omega))
        have cB : ∀ dd os, Calls Tryz.prog 86 #[txVal (knownF g1 r.tx), .int .u64 at', .agg (r.cells ta da tc dc)] (grow (redrawn wc dd) os) fun e w'' => e = .returned (txVal (behindF (knownF g1 r.tx) at' K r.next)) ∧ ∃ p : Regrown, w'' = grow (redrawn wc p.d) p.os := fun dd os => Calls.regrown_of (by have := behind_any (knownF g1 r.tx) at' r ta da tc dc (grow (redrawn wc dd) os); rw [HK.out] at this; exact this)
        have HU : Hid (∀ w5, Below wc.heap.size wc w5 → (Instr.mapUpdate 104 (.map (some tb)) (.int .i64 r.tx) (txVal (behindF (knownF g1 r.tx) at' K r.next))).run Tryz.prog w5 = .ok () (u w5) ∧ CkAt w (u w5) hb tb db (M + 1) (g1.setT (behindF (knownF g1 r.tx) at' K r.next)) r ta da tc dc) := fun w5 b5 => by
          obtain ⟨q1, q2, q3⟩ := hu w5 (fun i hi => b5.block i (HC2.out.h.lt i hi))
          exact ⟨q1, HC2.out.step HO.out ((Kept.of_below b5).trans (Kept.mono q3 (fun _ e => .inr (.inl e)))) q2⟩
        clear hu HOWN HGR hx
        generalize behindF (knownF g1 r.tx) at' K r.next = xb at *
        generalize knownF g1 r.tx = xk at *
        go_upto_region 4 with fail
        refine wp_region_quiet_last { dst := none, op := Op.move (Operand.tmp 0), type := 0, pos := "", after := #[], guard := none } amixed rfl (by kernel_rfl) (by kernel_rfl) ?_
        simp only [List.dropLast_cons_cons, List.dropLast_singleton, List.getLast?_cons_cons, List.getLast?_singleton, Option.getD_some]
        iterate 11 (quiet_step (first | (go_at_call 87; exact cK _ _)))
        refine wpQuiet_loadRow rfl _ _ rfl w.heap.size rfl (r.cells ta da tc dc) _ (0, 0) HBX.out _ Tryz.underlying64 rfl (by kernel_rfl) ?_
        quiet_step (first | (go_at_call 86; exact cB _ _))
        refine wpQuiet_nil ?_
        intro w5 hw'
        obtain ⟨⟨dq, osq⟩, hw''⟩ := hw'
        have b5 := below_regrown wc dq osq
        rw [← hw''] at b5
        clear hw''
        obtain ⟨hrun, hC5⟩ := HU.out w5 b5
        have k4 : (u w5).cell? ⟨w.heap.size, 0, none⟩ = some (.int .i64 K) := by have := hC5.box.cell 0; rw [this, ← HK.out]; rfl
        have k5 : (u w5).cell? ⟨w.heap.size, 4, none⟩ = some (.int .u32 r.page) := hC5.box.cell 4
        have HC5 := hida hC5
        clear HU cK cB x0 x1 c0 c1 c2 c3 f2 f3 k1 hC5 b5 HBX HC2
        show Oper.wp _ _ _ _ _ _
        go_simp
        by_cases e1 : K = 1 ∨ K = 2
        · have hG2 := hida (show hearChg (g1.setT xb) r.page at' = G by rw [← hG.out, if_pos e1])
          have HCC := hida (hearChange_any HC5.out.h r.page at' HOK.out.page (by omega))
          have HKP := hida HC5.out.kept
          clear hG HC5
          rcases e1 with rfl | rfl
          all_goals
            go_wp2_with fail
            refine HCC.out.mono ?_
            rintro e w7 ⟨rfl, h7, kp7⟩
            have HF := hida (show HearAt w7 hb tb db (M + 321) G ∧ Kept (HB hb tb db) w w7 from ⟨by rw [← hG2.out]; exact h7.more (by omega), HKP.out.trans (Kept.mono kp7 (fun _ e => .inr (.inr e)))⟩)
            clear HCC h7 kp7 hG2
            go_wp2_with fail
            go_end0
            exact ⟨rfl, HF.out⟩
        · have hG2 := hida (show g1.setT xb = G by rw [← hG.out, if_neg e1])
          have d1 : (K == 1) = false := beq_eq_false_iff_ne.2 (fun e => e1 (.inl e))
          have d2 : (K == 2) = false := beq_eq_false_iff_ne.2 (fun e => e1 (.inr e))
          have HF := hida (show HearAt (u w5) hb tb db (M + 321) G ∧ Kept (HB hb tb db) w (u w5) from ⟨by rw [← hG2.out]; exact HC5.out.h.more (by omega), HC5.out.kept⟩)
          clear hG2 hG HC5 e1
          go_wp2_with fail
          go_end0
          exact ⟨rfl, HF.out⟩

end

end Go.Proofs.YtgkfdakieebnmaaGreat
