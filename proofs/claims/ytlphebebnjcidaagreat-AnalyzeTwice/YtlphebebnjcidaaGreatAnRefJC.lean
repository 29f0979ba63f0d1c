/-
  The walk of girderref19.Run.
-/
import Derived.Test.YtlphebebnjcidaaGreatAnRefGJ
import Derived.BigRegion
import Derived.BigQuiet
import Derived.Deep.RegionWith
import Derived.Deep.CutRange
set_option linter.unusedVariables false
set_option linter.unusedSimpArgs false
namespace Go.Proofs.YtlphebebnjcidaaGreat
open Go.RowKit Go.Sort Go.Shelf Go.Lib

def foTo (X : List (RefV × Value × Value)) (k : Nat) : FoV := foAll fo0 ((X.take k).map (·.1))

theorem foTo_succ {X : List (RefV × Value × Value)} {k : Nat} (hk : k < X.length) : foTo X (k + 1) = (foTo X k).one X[k].1 := by
  unfold foTo foAll
  rw [List.take_succ_eq_append_getElem hk, List.map_append, List.foldl_append]
  rfl

theorem redo_take {L : List DiV} {e k : Nat} (hk : k < L.length) : redoL e (L.take (k + 1)) = if k = 0 ∨ L[k].2 < redoL e (L.take k) then L[k].2 else redoL e (L.take k) := by
  cases L with
  | nil => simp at hk
  | cons x l =>
    cases k with
    | zero => simp [redoL]
    | succ k =>
      have hk' : k < l.length := by simpa using hk
      rw [List.take_succ_cons, List.take_succ_cons]
      show (l.take (k + 1)).foldl _ x.2 = _
      rw [List.take_succ_eq_append_getElem hk', List.foldl_append]
      simp only [List.foldl_cons, List.foldl_nil, List.getElem_cons_succ, Nat.add_eq_zero_iff, Nat.one_ne_zero, and_false, false_or]
      rfl

structure RoundAt (w wr : World) (X : List (RefV × Value × Value)) (en k : Nat) (tv dv : Value) : Prop where
  ru : RuAt w wr tv dv (foTo X k) en
  lt : (foTo X k).txs.length ≤ k * 65
  ld : (foTo X k).dis.length ≤ k * 257
  recs : (foTo X k).recs = k

set_option maxHeartbeats 12800000 in
set_option maxRecDepth 20000 in
theorem rrun_any (X : List (RefV × Value × Value)) (a : Option Addr) (c en : Nat) (w : World) (h : RxAt w a X) (hl : X.length ≤ 60) (hlt : ∀ x ∈ X, x.1.txs.length ≤ 64 ∧ x.1.dirty.length ≤ 256) :
    Calls Tryz.prog 8 #[.slice a X.length c, .int .u64 (en : Nat)] w fun e w' => ∃ tv dv, e = .returned (.agg (fo5 tv dv (foTo X X.length) (redoL en (foTo X X.length).dis))) ∧ rsAt w.heap.size w' tv (foTo X X.length).txs ∧ rdAt w.heap.size w' dv (foTo X X.length).dis ∧ Below w.heap.size w w' := by
  have HX := hida h
  have HLT := hida hlt
  clear h hlt
  obtain ⟨W, HW⟩ : ∃ W, Hid (W = (w.alloc (.cells #[.slice none 0 0, .slice none 0 0, .int .u64 0, .int .i64 0, .int .i64 0] 40)).alloc (.cells #[.slice none 0 0, .slice none 0 0, .int .u64 (en : Nat), .int .i64 0, .int .i64 0] 40)) := ⟨_, rfl⟩
  have H0 : Hid (RoundAt w W X en 0 (.slice none 0 0) (.slice none 0 0)) := by
    rw [HW.out]
    have b1 : Below w.heap.size w (w.alloc (.cells #[.slice none 0 0, .slice none 0 0, .int .u64 0, .int .i64 0, .int .i64 0] 40)) := (Below.refl _ _).alloc (Nat.le_refl _) _
    have s1 : (w.alloc (.cells #[.slice none 0 0, .slice none 0 0, .int .u64 0, .int .i64 0, .int .i64 0] 40)).heap.size = w.heap.size + 1 := by simp
    have z1 : Blk (w.alloc (.cells #[.slice none 0 0, .slice none 0 0, .int .u64 0, .int .i64 0, .int .i64 0] 40)) w.heap.size #[.slice none 0 0, .slice none 0 0, .int .u64 0, .int .i64 0, .int .i64 0] 40 := Blk.made _ _ _
    refine ⟨⟨b1.alloc (by omega) _, z1.same (((Below.refl _ _).alloc (Nat.le_refl _) _).block _ z1.lt), ?_, ⟨rfl, .inl ⟨rfl, rfl⟩⟩, ⟨rfl, .inl ⟨rfl, rfl⟩⟩⟩, Nat.zero_le _, Nat.zero_le _, rfl⟩
    have := Blk.made (w.alloc (.cells #[.slice none 0 0, .slice none 0 0, .int .u64 0, .int .i64 0, .int .i64 0] 40)) #[.slice none 0 0, .slice none 0 0, .int .u64 (en : Nat), .int .i64 0, .int .i64 0] 40
    rw [s1] at this
    exact this
  go_enter Tryz.func8, Tryz.ntmps8
  go_upto_region 2 with fail
  rw [← HW.out]
  clear HW
  go_wp2_with fail
  go_loopw [6] (fun x wr => ∃ (k : Nat) (tv dv : Value), x = .int .i64 k ∧ k ≤ X.length ∧ Hid (RoundAt w wr X en k tv dv)) (fun x _ => X.length - (intOf x).toNat)
  case atStart => exact ⟨0, _, _, rfl, Nat.zero_le _, H0⟩
  case round =>
    obtain ⟨k, tv, dv, rfl, hk, HB⟩ := hrel
    clear H0
    by_cases hlt : k < X.length
    · have e1 : decide ((k : Int) < (X.length : Int)) = true := decide_eq_true (by omega)
      have e2 : (0 : Int) ≤ (k : Int) := by omega
      have e3 : (k : Int) < (X.length : Int) := by omega
      have hlk := HLT.out X[k] (List.getElem_mem hlt)
      have HN := hida (foTo_succ hlt)
      obtain ⟨b1, o1, rfl, g1, sT, sD⟩ : ∃ b1 o1, a = some ⟨b1, o1, none⟩ ∧ C7At wr b1 (o1 + k * 7) X[k] ∧ SlT w X[k].2.1 X[k].1.txs ∧ SlD w X[k].2.2 X[k].1.dirty := by
        rcases HX.out with h | ⟨b1, o1, e, hb, h⟩
        · rw [h] at hlt; simp at hlt
        · exact ⟨b1, o1, e, (h k hlt).1.same (HB.out.ru.bel.block b1 hb), (h k hlt).2⟩
      obtain ⟨x, hx⟩ : ∃ x, X[k] = x := ⟨_, rfl⟩
      rw [hx] at g1 sT sD hlk HN
      clear hx
      obtain ⟨⟨rat, rk, rtx, rnx, rpg, rT, rD⟩, v1, v2⟩ := x
      dsimp only at sT sD hlk HN
      obtain ⟨a1, c1, rfl, hT⟩ := sT
      obtain ⟨a2, c2, rfl, hD⟩ := sD
      obtain ⟨p0, p1, p2, p3, p4, p5, p6⟩ := g1
      dsimp only at p0 p1 p2 p3 p4 p5 p6
      have HRU := hida HB.out.ru
      have HBN := hida (show (foTo X k).txs.length ≤ k * 65 ∧ (foTo X k).dis.length ≤ k * 257 ∧ (foTo X k).recs = k from ⟨HB.out.lt, HB.out.ld, HB.out.recs⟩)
      clear HB
      generalize foTo X k = G at *
      obtain ⟨V, HV⟩ : ∃ V, Hid (V = wr.alloc (.cells #[.int .u64 (rat : Nat), .int .i64 rk, .int .i64 rtx, .int .u64 (rnx : Nat), .int .u32 (rpg : Nat), .slice a1 rT.length c1, .slice a2 rD.length c2] 74)) := ⟨_, rfl⟩
      have bV : Below wr.heap.size wr V := by rw [HV.out]; exact (Below.refl _ _).alloc (Nat.le_refl _) _
      have HRV := hida (HRU.out.below bV)
      have HRC : Hid (RcAt w V wr.heap.size (⟨rat, rk, rtx, rnx, rpg, rT, rD⟩, .slice a1 rT.length c1, .slice a2 rD.length c2)) := ⟨by have := HRU.out.box.lt; omega, by rw [HV.out]; exact Blk.made _ _ _, ⟨_, _, rfl, hT⟩, ⟨_, _, rfl, hD⟩⟩
      clear HRU bV
      go_upto_region 6 with fail
      rw [← HV.out]
      clear HV p0 p1 p2 p3 p4 p5 p6
      generalize wr.heap.size = rb at *
      -- one record more
      have hre : G.recs ≤ 60 := by have := HBN.out.2.2; omega
      have f4 : V.cell? ⟨w.heap.size + 1, 4, none⟩ = some (.int .i64 ((G.recs : Nat) : Int)) := HRV.out.box.cell 4
      have z4 := HRV.out.box.frozen 4
      obtain ⟨V1, HV1⟩ : ∃ V1, Hid (V1 = V.setCell ⟨w.heap.size + 1, 4, none⟩ (.int .i64 ((G.recs : Int) + 1))) := ⟨_, rfl⟩
      have HR1 : Hid (RuAt w V1 tv dv ⟨G.txs, G.dis, G.most, G.recs + 1⟩ en) := by
        rw [HV1.out]; exact HRV.out.setRecs
      have HC1 : Hid (RcAt w V1 rb (⟨rat, rk, rtx, rnx, rpg, rT, rD⟩, .slice a1 rT.length c1, .slice a2 rD.length c2)) := by rw [HV1.out]; exact HRC.out.set _ _
      clear HRV HRC
      go_upto_region 7 with fail
      rw [← HV1.out]
      clear HV1 f4 z4
      -- the greatest number
      have f3 : V1.cell? ⟨w.heap.size + 1, 3, none⟩ = some (.int .i64 G.most) := HR1.out.box.cell 3
      have z3 := HR1.out.box.frozen 3
      have k2 : V1.cell? ⟨rb, 2, none⟩ = some (.int .i64 rtx) := HC1.out.box.cell 2
      go_upto_if 31 with fail
      go_cut [] from 27 to 34 (fun wx => Hid (RuAt w wx tv dv ⟨G.txs, G.dis, max G.most rtx, G.recs + 1⟩ en) ∧ Hid (RcAt w wx rb (⟨rat, rk, rtx, rnx, rpg, rT, rD⟩, .slice a1 rT.length c1, .slice a2 rD.length c2)))
      case first =>
        by_cases hm : G.most < rtx
        · have d1 : decide (G.most < rtx) = true := decide_eq_true hm
          have HE : Hid (RuAt w (V1.setCell ⟨w.heap.size + 1, 3, none⟩ (.int .i64 rtx)) tv dv ⟨G.txs, G.dis, max G.most rtx, G.recs + 1⟩ en ∧ RcAt w (V1.setCell ⟨w.heap.size + 1, 3, none⟩ (.int .i64 rtx)) rb (⟨rat, rk, rtx, rnx, rpg, rT, rD⟩, .slice a1 rT.length c1, .slice a2 rD.length c2)) := by
            rw [show max G.most rtx = rtx by omega]
            exact ⟨HR1.out.setMost rtx, HC1.out.set _ _⟩
          clear HR1 HC1
          go_wp2_with fail
          go_meet
          case rel => exact ⟨hida HE.out.1, hida HE.out.2⟩
        · have d1 : decide (G.most < rtx) = false := decide_eq_false hm
          have HE : Hid (RuAt w V1 tv dv ⟨G.txs, G.dis, max G.most rtx, G.recs + 1⟩ en ∧ RcAt w V1 rb (⟨rat, rk, rtx, rnx, rpg, rT, rD⟩, .slice a1 rT.length c1, .slice a2 rD.length c2)) := by
            rw [show max G.most rtx = G.most by omega]
            exact ⟨HR1.out, HC1.out⟩
          clear HR1 HC1
          go_wp2_with fail
          go_meet
          case rel => exact ⟨hida HE.out.1, hida HE.out.2⟩
      obtain ⟨HR2, HC2⟩ := hcut
      clear HR1 HC1 f3 z3 k2
      have k1 : wc.cell? ⟨rb, 1, none⟩ = some (.int .i64 rk) := HC2.out.box.cell 1
      obtain ⟨LT, HLE⟩ : ∃ LT, Hid ((if rk < 7 then recordL G.txs ⟨rat, rk, rtx, rnx, rpg, rT, rD⟩ else G.txs) = LT) := ⟨_, rfl⟩
      go_upto_if 37 with fail
      -- what it says of its own transaction
      go_cut [] from 35 to 42 (fun wx => ∃ tv' : Value, Hid (RuAt w wx tv' dv ⟨LT, G.dis, max G.most rtx, G.recs + 1⟩ en) ∧ Hid (RcAt w wx rb (⟨rat, rk, rtx, rnx, rpg, rT, rD⟩, .slice a1 rT.length c1, .slice a2 rD.length c2)))
      case first =>
        by_cases h7 : rk < 7
        · have d1 : decide (rk < 7) = true := decide_eq_true h7
          have eL : recordL G.txs ⟨rat, rk, rtx, rnx, rpg, rT, rD⟩ = LT := by rw [← HLE.out, if_pos h7]
          obtain ⟨ta, tc, rfl, hTA⟩ := HR2.out.own1.sl
          dsimp only at hTA
          have f0 : wc.cell? ⟨w.heap.size + 1, 0, none⟩ = some (.slice ta G.txs.length tc) := HR2.out.box.cell 0
          have k0 : wc.cell? ⟨rb, 0, none⟩ = some (.int .u64 (rat : Nat)) := HC2.out.box.cell 0
          have k2 : wc.cell? ⟨rb, 2, none⟩ = some (.int .i64 rtx) := HC2.out.box.cell 2
          have k3 : wc.cell? ⟨rb, 3, none⟩ = some (.int .u64 (rnx : Nat)) := HC2.out.box.cell 3
          have k4 : wc.cell? ⟨rb, 4, none⟩ = some (.int .u32 (rpg : Nat)) := HC2.out.box.cell 4
          have k5 : wc.cell? ⟨rb, 5, none⟩ = some (.slice a1 rT.length c1) := HC2.out.box.cell 5
          have k6 : wc.cell? ⟨rb, 6, none⟩ = some (.slice a2 rD.length c2) := HC2.out.box.cell 6
          have HRE := hida (rrecord_any G.txs ta tc ⟨rat, rk, rtx, rnx, rpg, rT, rD⟩ a1 a2 rT.length c1 rD.length c2 wc hTA (by have := HBN.out.1; omega))
          dsimp only at HRE
          go_wp2_with fail
          refine HRE.out.mono ?_
          rintro e w5 ⟨v, rfl, ho, hb⟩
          rw [eL] at ho
          obtain ⟨va, vc, rfl⟩ := owns_val7 ho
          have q0 : w5.cell? ⟨w.heap.size + 1, 0, none⟩ = some (.slice ta G.txs.length tc) := (HR2.out.below hb).box.cell 0
          have z0 := (HR2.out.below hb).box.frozen 0
          have HE := hida (show RuAt w (w5.setCell ⟨w.heap.size + 1, 0, none⟩ (.slice va LT.length vc)) (.slice va LT.length vc) dv ⟨LT, G.dis, max G.most rtx, G.recs + 1⟩ en ∧ RcAt w (w5.setCell ⟨w.heap.size + 1, 0, none⟩ (.slice va LT.length vc)) rb (⟨rat, rk, rtx, rnx, rpg, rT, rD⟩, .slice a1 rT.length c1, .slice a2 rD.length c2) from ⟨HR2.out.setT hb ho, (HC2.out.below hb).set _ _⟩)
          clear HRE ho hb HR2 HC2 f0 k0 k1 k2 k3 k4 k5 k6
          go_wp2_with fail
          go_meet
          case rel => exact ⟨_, hida HE.out.1, hida HE.out.2⟩
        · have d1 : decide (rk < 7) = false := decide_eq_false h7
          have eL : LT = G.txs := by rw [← HLE.out, if_neg h7]
          subst eL
          go_wp2_with fail
          go_meet
          case rel => exact ⟨tv, HR2, HC2⟩
      clear HR2 HC2 k1
      obtain ⟨tv', HR2, HC2⟩ := hcut
      -- the page that it changes
      go_upto_region 11 with fail
      go_cut [50] from 43 to 49 (fun v50 wx => v50 = .bool (decide (rk = 1 ∨ rk = 2)) ∧ Hid (wx = wc))
      case first =>
        have k1 : wc.cell? ⟨rb, 1, none⟩ = some (.int .i64 rk) := HC2.out.box.cell 1
        by_cases h1 : rk = 1
        · have d1 : (rk == 1) = true := beq_iff_eq.2 h1
          go_wp2_with fail
          go_meet
          case rel => exact ⟨by rw [decide_eq_true (Or.inl h1)], hida rfl⟩
        · have d1 : (rk == 1) = false := beq_eq_false_iff_ne.2 h1
          by_cases h2 : rk = 2
          · have d2 : (rk == 2) = true := beq_iff_eq.2 h2
            go_wp2_with fail
            go_meet
            case rel => exact ⟨by rw [decide_eq_true (Or.inr h2)], hida rfl⟩
          · have d2 : (rk == 2) = false := beq_eq_false_iff_ne.2 h2
            go_wp2_with fail
            go_meet
            case rel => exact ⟨by rw [decide_eq_false (fun h => by rcases h with h | h; exact h1 h; exact h2 h)], hida rfl⟩
      obtain ⟨rfl, HWC⟩ := hcut
      rw [← HWC.out] at HR2 HC2
      clear HWC
      go_upto_if 50 with fail
      go_cut [] from 43 to 59 (fun wx => ∃ tv dv : Value, Hid (RuAt w wx tv dv (G.own ⟨rat, rk, rtx, rnx, rpg, rT, rD⟩) en) ∧ Hid (RcAt w wx rb (⟨rat, rk, rtx, rnx, rpg, rT, rD⟩, .slice a1 rT.length c1, .slice a2 rD.length c2)))
      case first =>
        by_cases h12 : rk = 1 ∨ rk = 2
        · have HO : Hid (G.own ⟨rat, rk, rtx, rnx, rpg, rT, rD⟩ = ⟨LT, frL G.dis (rpg, rat), max G.most rtx, G.recs + 1⟩) := by
            show _ = _
            unfold FoV.own
            dsimp only
            rw [if_pos h12, HLE.out]
          obtain ⟨da, dc, rfl, hDA⟩ := HR2.out.own2.sl
          dsimp only at hDA
          have f1 : wc.cell? ⟨w.heap.size + 1, 1, none⟩ = some (.slice da G.dis.length dc) := HR2.out.box.cell 1
          have k0 : wc.cell? ⟨rb, 0, none⟩ = some (.int .u64 (rat : Nat)) := HC2.out.box.cell 0
          have k4 : wc.cell? ⟨rb, 4, none⟩ = some (.int .u32 (rpg : Nat)) := HC2.out.box.cell 4
          have HFR := hida (rfresh_any G.dis da dc (rpg, rat) wc hDA (by have := HBN.out.2.1; omega))
          dsimp only at HFR
          have HFF : Hid (∀ (w5 : World) (v : Value), (((∃ x ∈ G.dis, x.1 = rpg) ∧ v = .slice da G.dis.length dc) ∨ ((∀ x ∈ G.dis, x.1 ≠ rpg) ∧ rdAt wc.heap.size w5 v (putEnd (rpg, rat) (dirTo (rpg, rat) G.dis G.dis.length)))) → Below wc.heap.size wc w5 → RuAt w (w5.setCell ⟨w.heap.size + 1, 1, none⟩ v) tv' v (G.own ⟨rat, rk, rtx, rnx, rpg, rT, rD⟩) en ∧ RcAt w (w5.setCell ⟨w.heap.size + 1, 1, none⟩ v) rb (⟨rat, rk, rtx, rnx, rpg, rT, rD⟩, .slice a1 rT.length c1, .slice a2 rD.length c2) ∧ w5.cell? ⟨w.heap.size + 1, 1, none⟩ = some (.slice da G.dis.length dc) ∧ w5.frozen? ⟨w.heap.size + 1, 1, none⟩ = false) := by
            intro w5 v hv hb
            rw [HO.out]
            refine ⟨?_, (HC2.out.below hb).set _ _, (HR2.out.below hb).box.cell 1, (HR2.out.below hb).box.frozen 1⟩
            rcases hv with ⟨h1, rfl⟩ | ⟨h1, h2⟩
            · rw [← frL_of (L := G.dis) (d := (rpg, rat)) (M := G.dis) (.inl ⟨h1, rfl⟩)]
              exact HR2.out.setD0 hb
            · rw [← frL_of (L := G.dis) (d := (rpg, rat)) (M := putEnd (rpg, rat) (dirTo (rpg, rat) G.dis G.dis.length)) (.inr ⟨h1, rfl⟩)]
              exact HR2.out.setD hb h2
          clear HR2 HC2 hDA
          rw [decide_eq_true h12]
          go_wp2_with fail
          refine HFR.out.mono ?_
          rintro e w5 ⟨v, rfl, hv, hb⟩
          have HE := hida (HFF.out w5 v hv hb)
          obtain ⟨va, vn, vc, rfl⟩ : ∃ va vn vc, v = .slice va vn vc := by
            rcases hv with ⟨_, h⟩ | ⟨_, h⟩
            · exact ⟨_, _, _, h⟩
            · obtain ⟨x, y, h⟩ := owns_val7 h
              exact ⟨_, _, _, h⟩
          have q0 := HE.out.2.2.1
          have z0 := HE.out.2.2.2
          clear HFR HFF hv hb f1 k0 k4
          go_wp2_with fail
          go_meet
          case rel => exact ⟨tv', _, hida HE.out.1, hida HE.out.2.1⟩
        · have HE : Hid (RuAt w wc tv' dv (G.own ⟨rat, rk, rtx, rnx, rpg, rT, rD⟩) en) := by
            have e : G.own ⟨rat, rk, rtx, rnx, rpg, rT, rD⟩ = ⟨LT, G.dis, max G.most rtx, G.recs + 1⟩ := by
              unfold FoV.own
              dsimp only
              rw [if_neg h12, HLE.out]
            rw [e]
            exact HR2.out
          rw [decide_eq_false h12]
          clear HR2
          go_wp2_with fail
          go_meet
          case rel => exact ⟨tv', dv, HE, HC2⟩
      clear HR2 HC2 tv' tv dv
      obtain ⟨tv, dv, HR3, HC3⟩ := hcut
      -- the transactions that it names
      obtain ⟨G3, HG3⟩ : ∃ G3, Hid (G.own ⟨rat, rk, rtx, rnx, rpg, rT, rD⟩ = G3) := ⟨_, rfl⟩
      rw [HG3.out] at HR3
      have HB3 := hida (show G3.txs.length ≤ k * 65 + 1 ∧ G3.dis.length ≤ k * 257 + 1 ∧ G3.recs = k + 1 from by
        have h1 := own_len G ⟨rat, rk, rtx, rnx, rpg, rT, rD⟩
        rw [HG3.out] at h1
        refine ⟨by have := HBN.out.1; omega, by have := HBN.out.2.1; omega, ?_⟩
        rw [← HG3.out]
        show G.recs + 1 = _
        rw [HBN.out.2.2])
      have HN3 := hida (show foTo X (k + 1) = rD.foldl FoV.di (rT.foldl FoV.tx G3) by rw [HN.out, ← HG3.out]; rfl)
      clear HG3 HBN hre HN
      go_wp2_with fail
      go_loopw [8] (fun x wr => ∃ (j : Nat) (tv dv : Value), x = .int .i64 j ∧ j ≤ rT.length ∧ Hid (RuAt w wr tv dv ((rT.take j).foldl FoV.tx G3) en) ∧ Hid (RcAt w wr rb (⟨rat, rk, rtx, rnx, rpg, rT, rD⟩, .slice a1 rT.length c1, .slice a2 rD.length c2))) (fun x _ => rT.length - (intOf x).toNat)
      case atStart => exact ⟨0, tv, dv, rfl, Nat.zero_le _, HR3, HC3⟩
      case round =>
        clear HR3 HC3 tv dv
        obtain ⟨j, tv, dv, rfl, hj, HR, HC⟩ := hrel
        have k5 : wr.cell? ⟨rb, 5, none⟩ = some (.slice a1 rT.length c1) := HC.out.box.cell 5
        by_cases hjl : j < rT.length
        · have e4 : decide ((j : Int) < (rT.length : Int)) = true := decide_eq_true (by omega)
          have e5 : (0 : Int) ≤ (j : Int) := by omega
          have e6 : (j : Int) < (rT.length : Int) := by omega
          obtain ⟨tb, t9, hta, hg⟩ : ∃ b o, a1 = some ⟨b, o, none⟩ ∧ TxAt w b (o + j * 4) rT[j] ∧ b < w.heap.size := by
            obtain ⟨a', c', hq, h⟩ := HC.out.st
            dsimp only at hq h
            simp only [Value.slice.injEq] at hq
            obtain ⟨rfl, _, rfl⟩ := hq
            rcases h with h | ⟨b1, o1, e, hb, h⟩
            · rw [h] at hjl; simp at hjl
            · exact ⟨b1, o1, e, h j hjl, hb⟩
          subst hta
          have g1 := hg.1.same (HR.out.bel.block tb hg.2)
          have HN4 := hida (fold_take FoV.tx rT G3 hjl)
          have HL4 := hida (show ((rT.take j).foldl FoV.tx G3).txs.length ≤ 100000 by
            have h1 := (txs_len (rT.take j) G3).1
            have h2 := HB3.out.1
            have h3 : (rT.take j).length ≤ 64 := by rw [List.length_take]; have := hlk.1; omega
            omega)
          obtain ⟨t, ht⟩ : ∃ t, rT[j] = t := ⟨_, rfl⟩
          rw [ht] at hg g1 HN4
          have HG := hida hg
          clear ht hg
          generalize (rT.take j).foldl FoV.tx G3 = F at *
          obtain ⟨ta, tc, rfl, -⟩ := HR.out.own1.sl
          obtain ⟨t0, t1, t2, t3⟩ := t
          obtain ⟨g10, g11, g12, g13⟩ := g1
          dsimp only at g10 g11 g12 g13
          have f3 : wr.cell? ⟨w.heap.size + 1, 3, none⟩ = some (.int .i64 F.most) := HR.out.box.cell 3
          have z3 := HR.out.box.frozen 3
          go_upto_region 16 with fail
          go_quiet (fail)
          have HR := hida (HR.out.below (below_drewN (Below.refl _ _) nq))
          have HC := hida (HC.out.below (below_drewN (Below.refl _ _) nq))
          go_upto_if 75 with fail
          go_cut [] from 67 to 82 (fun wx => Hid (RuAt w wx (.slice ta F.txs.length tc) dv ⟨F.txs, F.dis, max F.most t0, F.recs⟩ en) ∧ Hid (RcAt w wx rb (⟨rat, rk, rtx, rnx, rpg, rT, rD⟩, .slice (some ⟨tb, t9, none⟩) rT.length c1, .slice a2 rD.length c2)))
          case first =>
            by_cases hm : F.most < t0
            · have d1 : decide (F.most < t0) = true := decide_eq_true hm
              have HE : Hid (RuAt w ((wr.drewN nq).setCell ⟨w.heap.size + 1, 3, none⟩ (.int .i64 t0)) (.slice ta F.txs.length tc) dv ⟨F.txs, F.dis, max F.most t0, F.recs⟩ en ∧ RcAt w ((wr.drewN nq).setCell ⟨w.heap.size + 1, 3, none⟩ (.int .i64 t0)) rb (⟨rat, rk, rtx, rnx, rpg, rT, rD⟩, .slice (some ⟨tb, t9, none⟩) rT.length c1, .slice a2 rD.length c2)) := by
                rw [show max F.most t0 = t0 by omega]
                exact ⟨HR.out.setMost t0, HC.out.set _ _⟩
              clear HR HC HG
              go_wp2_with fail
              go_meet
              case rel => exact ⟨hida HE.out.1, hida HE.out.2⟩
            · have d1 : decide (F.most < t0) = false := decide_eq_false hm
              have HE : Hid (RuAt w (wr.drewN nq) (.slice ta F.txs.length tc) dv ⟨F.txs, F.dis, max F.most t0, F.recs⟩ en ∧ RcAt w (wr.drewN nq) rb (⟨rat, rk, rtx, rnx, rpg, rT, rD⟩, .slice (some ⟨tb, t9, none⟩) rT.length c1, .slice a2 rD.length c2)) := by
                rw [show max F.most t0 = F.most by omega]
                exact ⟨HR.out, HC.out⟩
              clear HR HC HG
              go_wp2_with fail
              go_meet
              case rel => exact ⟨hida HE.out.1, hida HE.out.2⟩
          obtain ⟨HR2, HC2⟩ := hcut
          clear HR HC k5 g10 g11 g12 g13 f3 z3 e4
          go_upto_region 18 with fail
          go_cut [92] from 83 to 91 (fun v92 wx => v92 = .bool (decide (idxI (idxL keyT t0 F.txs) < 0)) ∧ Hid (RuAt w wx (.slice ta F.txs.length tc) dv ⟨F.txs, F.dis, max F.most t0, F.recs⟩ en) ∧ Hid (RcAt w wx rb (⟨rat, rk, rtx, rnx, rpg, rT, rD⟩, .slice (some ⟨tb, t9, none⟩) rT.length c1, .slice a2 rD.length c2)))
          case first =>
            have k5 : wc.cell? ⟨rb, 5, none⟩ = some (.slice (some ⟨tb, t9, none⟩) rT.length c1) := HC2.out.box.cell 5
            have f0 : wc.cell? ⟨w.heap.size + 1, 0, none⟩ = some (.slice ta F.txs.length tc) := HR2.out.box.cell 0
            obtain ⟨g10, g11, g12, g13⟩ := HG.out.1.same (HR2.out.bel.block tb HG.out.2)
            dsimp only at g10 g11 g12 g13
            have HST : Hid (∀ wx, Below wc.heap.size wc wx → Calls Tryz.prog 23 #[.slice ta F.txs.length tc, .int .i64 t0] wx fun e w' => e = .returned (.int .i64 (idxI (idxL keyT t0 F.txs))) ∧ w' = wx) := by
              obtain ⟨ta', tc', hv', hTA⟩ := HR2.out.own1.sl
              dsimp only at hv' hTA
              simp only [Value.slice.injEq] at hv'
              obtain ⟨rfl, _, rfl⟩ := hv'
              exact fun wx hb => rstate_any F.txs ta tc t0 wx (hTA.below hb) (by have := HL4.out; omega)
            have HE := hida (show RuAt w wc.drew (.slice ta F.txs.length tc) dv ⟨F.txs, F.dis, max F.most t0, F.recs⟩ en ∧ RcAt w wc.drew rb (⟨rat, rk, rtx, rnx, rpg, rT, rD⟩, .slice (some ⟨tb, t9, none⟩) rT.length c1, .slice a2 rD.length c2) from ⟨HR2.out.drew, HC2.out.below ((Below.refl _ _).drew)⟩)
            clear HR2 HC2
            generalize idxI (idxL keyT t0 F.txs) = ix at *
            go_region_with (go_at_call 23; refine (HST.out _ (by repeat (first | with_reducible exact Below.refl _ _ | with_reducible refine Below.drew ?_))).mono ?_; rintro e w2 ⟨rfl, rfl⟩)
            all_goals
              go_wp2_with fail
              go_meet
              case rel => exact ⟨rfl, hida HE.out.1, hida HE.out.2⟩
          clear HR2 HC2
          obtain ⟨rfl, HR2, HC2⟩ := hcut
          go_upto_if 92 with fail
          by_cases hs : idxI (idxL keyT t0 F.txs) < 0
          · rw [decide_eq_true hs]
            have k5 : wc.cell? ⟨rb, 5, none⟩ = some (.slice (some ⟨tb, t9, none⟩) rT.length c1) := HC2.out.box.cell 5
            have f0 : wc.cell? ⟨w.heap.size + 1, 0, none⟩ = some (.slice ta F.txs.length tc) := HR2.out.box.cell 0
            obtain ⟨g10, g11, g12, g13⟩ := HG.out.1.same (HR2.out.bel.block tb HG.out.2)
            dsimp only at g10 g11 g12 g13
            have HPT : Hid (∀ wx, Below wc.heap.size wc wx → Calls Tryz.prog 24 #[.slice ta F.txs.length tc, .agg #[.int .i64 t0, .int .i64 t1, .int .u64 (t2 : Nat), .int .u64 (t3 : Nat)]] wx fun e w' => ∃ v, e = .returned v ∧ rsAt wx.heap.size w' v (putEnd (t0, t1, t2, t3) (putTo keyT (t0, t1, t2, t3) F.txs F.txs.length)) ∧ Below wx.heap.size wx w') := by
              obtain ⟨ta', tc', hv', hTA⟩ := HR2.out.own1.sl
              dsimp only at hv' hTA
              simp only [Value.slice.injEq] at hv'
              obtain ⟨rfl, _, rfl⟩ := hv'
              exact fun wx hb => rput_any F.txs ta tc (t0, t1, t2, t3) wx (hTA.below hb) (by have := HL4.out; omega)
            have HFIN : Hid (∀ (wx w5 : World) (v : Value), Below wc.heap.size wc wx → rsAt wx.heap.size w5 v (putEnd (t0, t1, t2, t3) (putTo keyT (t0, t1, t2, t3) F.txs F.txs.length)) → Below wx.heap.size wx w5 → RuAt w (w5.setCell ⟨w.heap.size + 1, 0, none⟩ v) v dv ((rT.take (j + 1)).foldl FoV.tx G3) en ∧ RcAt w (w5.setCell ⟨w.heap.size + 1, 0, none⟩ v) rb (⟨rat, rk, rtx, rnx, rpg, rT, rD⟩, .slice (some ⟨tb, t9, none⟩) rT.length c1, .slice a2 rD.length c2) ∧ w5.cell? ⟨w.heap.size + 1, 0, none⟩ = some (.slice ta F.txs.length tc) ∧ w5.frozen? ⟨w.heap.size + 1, 0, none⟩ = false) := by
              intro wx w5 v h1 h2 h3
              have hr := HR2.out.below h1
              have e : F.tx (t0, t1, t2, t3) = ⟨putEnd (t0, t1, t2, t3) (putTo keyT (t0, t1, t2, t3) F.txs F.txs.length), F.dis, max F.most t0, F.recs⟩ := by
                unfold FoV.tx stL
                rw [if_pos hs]
              rw [HN4.out, e]
              exact ⟨hr.setT h3 h2, ((HC2.out.below h1).below h3).set _ _, (hr.below h3).box.cell 0, (hr.below h3).box.frozen 0⟩
            clear HR2 HC2 hs HN4 HL4 HG
            go_upto_region 19 with fail
            go_region_with (go_at_call 24; refine (HPT.out _ (by repeat (first | with_reducible exact Below.refl _ _ | with_reducible refine Below.drew ?_))).mono ?_; rintro e w5 ⟨v, rfl, ho, hb⟩; have HE := hida (HFIN.out _ w5 v (by repeat (first | with_reducible exact Below.refl _ _ | with_reducible refine Below.drew ?_)) ho hb); obtain ⟨va, vc, rfl⟩ := owns_val7 ho; have q0 := HE.out.2.2.1; have z0 := HE.out.2.2.2; clear ho hb)
            all_goals
              go_wp2_with fail
              go_roundw
              case rel => exact ⟨j + 1, _, dv, by go_num, by omega, hida HE.out.1, hida HE.out.2.1⟩
              case measure => simp [intOf]; omega
          · rw [decide_eq_false hs]
            have e : F.tx (t0, t1, t2, t3) = ⟨F.txs, F.dis, max F.most t0, F.recs⟩ := by
              unfold FoV.tx stL
              rw [if_neg hs]
            have HE := hida HR2.out
            rw [← e, ← HN4.out] at HE
            clear HR2 HN4 HL4 HG
            go_wp2_with fail
            go_roundw
            case rel => exact ⟨j + 1, _, dv, by go_num, by omega, HE, HC2⟩
            case measure => simp [intOf]; omega
        · have e4 : decide ((j : Int) < (rT.length : Int)) = false := decide_eq_false (by omega)
          obtain rfl : j = rT.length := by omega
          rw [List.take_length] at HR
          have HB4 := hida (show (rT.foldl FoV.tx G3).txs.length ≤ k * 65 + 65 ∧ (rT.foldl FoV.tx G3).dis.length ≤ k * 257 + 1 ∧ rT.foldl FoV.tx G3 = rT.foldl FoV.tx G3 from by
            have h1 := txs_len rT G3
            have h2 := HB3.out.1
            have h3 := HB3.out.2.1
            have h4 := hlk.1
            exact ⟨by omega, by rw [h1.2]; omega, rfl⟩)
          obtain ⟨G4, HG4⟩ : ∃ G4, Hid (rT.foldl FoV.tx G3 = G4) := ⟨_, rfl⟩
          rw [HG4.out] at HR HB4 HN3
          have HB5 := hida (show G4.txs.length ≤ (k + 1) * 65 ∧ G4.dis.length ≤ k * 257 + 1 ∧ G4.recs = k + 1 from ⟨by have := HB4.out.1; omega, HB4.out.2.1, by rw [← HG4.out, txs_recs]; exact HB3.out.2.2⟩)
          clear HG4 HB4 HB3 e4 hj hjl
          go_wp2_with fail
          clear k5
          go_loopw [9] (fun x wr => ∃ (j : Nat) (tv dv : Value), x = .int .i64 j ∧ j ≤ rD.length ∧ Hid (RuAt w wr tv dv ((rD.take j).foldl FoV.di G4) en) ∧ Hid (RcAt w wr rb (⟨rat, rk, rtx, rnx, rpg, rT, rD⟩, .slice a1 rT.length c1, .slice a2 rD.length c2))) (fun x _ => rD.length - (intOf x).toNat)
          case atStart => exact ⟨0, tv, dv, rfl, Nat.zero_le _, HR, HC⟩
          case round =>
            clear HR HC tv dv
            obtain ⟨j, tv, dv, rfl, hj, HR, HC⟩ := hrel
            have k6 : wr.cell? ⟨rb, 6, none⟩ = some (.slice a2 rD.length c2) := HC.out.box.cell 6
            by_cases hjl : j < rD.length
            · have e4 : decide ((j : Int) < (rD.length : Int)) = true := decide_eq_true (by omega)
              have e5 : (0 : Int) ≤ (j : Int) := by omega
              have e6 : (j : Int) < (rD.length : Int) := by omega
              obtain ⟨tb, t9, hta, hg⟩ : ∃ b o, a2 = some ⟨b, o, none⟩ ∧ DiAt w b (o + j * 2) rD[j] ∧ b < w.heap.size := by
                obtain ⟨a', c', hq, h⟩ := HC.out.sd
                dsimp only at hq h
                simp only [Value.slice.injEq] at hq
                obtain ⟨rfl, _, rfl⟩ := hq
                rcases h with h | ⟨b1, o1, e, hb, h⟩
                · rw [h] at hjl; simp at hjl
                · exact ⟨b1, o1, e, h j hjl, hb⟩
              subst hta
              have g1 := hg.1.same (HR.out.bel.block tb hg.2)
              have HN4 := hida (fold_take FoV.di rD G4 hjl)
              have HL4 := hida (show ((rD.take j).foldl FoV.di G4).dis.length ≤ 100000 by
                have h1 := (dis_len (rD.take j) G4).1
                have h2 := HB5.out.2.1
                have h3 : (rD.take j).length ≤ 256 := by rw [List.length_take]; have := hlk.2; omega
                omega)
              obtain ⟨t, ht⟩ : ∃ t, rD[j] = t := ⟨_, rfl⟩
              rw [ht] at g1 HN4
              clear ht hg
              generalize (rD.take j).foldl FoV.di G4 = F at *
              obtain ⟨da, dc, rfl, hDA⟩ := HR.out.own2.sl
              obtain ⟨t0, t1⟩ := t
              obtain ⟨g10, g11⟩ := g1
              dsimp only at g10 g11
              have f1 : wr.cell? ⟨w.heap.size + 1, 1, none⟩ = some (.slice da F.dis.length dc) := HR.out.box.cell 1
              have HDT : Hid (∀ wx, Below wr.heap.size wr wx → Calls Tryz.prog 25 #[.slice da F.dis.length dc, .agg #[.int .u32 (t0 : Nat), .int .u64 (t1 : Nat)]] wx fun e w' => ∃ v, e = .returned v ∧ rdAt wx.heap.size w' v (putEnd (t0, t1) (dirTo (t0, t1) F.dis F.dis.length)) ∧ Below wx.heap.size wx w') := fun wx hb => rdirty_any F.dis da dc (t0, t1) wx (hDA.below hb) (by have := HL4.out; omega)
              have HFIN : Hid (∀ (wx w5 : World) (v : Value), Below wr.heap.size wr wx → rdAt wx.heap.size w5 v (putEnd (t0, t1) (dirTo (t0, t1) F.dis F.dis.length)) → Below wx.heap.size wx w5 → RuAt w (w5.setCell ⟨w.heap.size + 1, 1, none⟩ v) tv v ((rD.take (j + 1)).foldl FoV.di G4) en ∧ RcAt w (w5.setCell ⟨w.heap.size + 1, 1, none⟩ v) rb (⟨rat, rk, rtx, rnx, rpg, rT, rD⟩, .slice a1 rT.length c1, .slice (some ⟨tb, t9, none⟩) rD.length c2) ∧ w5.cell? ⟨w.heap.size + 1, 1, none⟩ = some (.slice da F.dis.length dc) ∧ w5.frozen? ⟨w.heap.size + 1, 1, none⟩ = false) := by
                intro wx w5 v h1 h2 h3
                have hr := HR.out.below h1
                rw [HN4.out]
                exact ⟨hr.setD h3 h2, ((HC.out.below h1).below h3).set _ _, (hr.below h3).box.cell 1, (hr.below h3).box.frozen 1⟩
              clear HR HC hDA HL4 HN4
              go_upto_region 23 with fail
              go_region_with (go_at_call 25; refine (HDT.out _ (by repeat (first | with_reducible exact Below.refl _ _ | with_reducible refine Below.drew ?_))).mono ?_; rintro e w5 ⟨v, rfl, ho, hb⟩; have HE := hida (HFIN.out _ w5 v (by repeat (first | with_reducible exact Below.refl _ _ | with_reducible refine Below.drew ?_)) ho hb); obtain ⟨va, vc, rfl⟩ := owns_val7 ho; have q0 := HE.out.2.2.1; have z0 := HE.out.2.2.2; clear ho hb)
              all_goals
                go_wp2_with fail
                go_roundw
                case rel => exact ⟨j + 1, tv, _, by go_num, by omega, hida HE.out.1, hida HE.out.2.1⟩
                case measure => simp [intOf]; omega
            · have e4 : decide ((j : Int) < (rD.length : Int)) = false := decide_eq_false (by omega)
              obtain rfl : j = rD.length := by omega
              rw [List.take_length] at HR
              have HE : Hid (RoundAt w wr X en (k + 1) tv dv) := by
                have h1 := dis_len rD G4
                have h2 := HB5.out
                have h3 := hlk.2
                have h4 := dis_recs rD G4
                refine ⟨by rw [HN3.out]; exact HR.out, by rw [HN3.out, h1.2]; exact h2.1, by rw [HN3.out]; omega, by rw [HN3.out, h4]; exact h2.2.2⟩
              clear HR HC HB5 HN3
              go_wp2_with fail
              go_roundw
              case rel => exact ⟨k + 1, tv, dv, by go_num, by omega, HE⟩
              case measure => simp [intOf]; omega
    · have e1 : decide ((k : Int) < (X.length : Int)) = false := decide_eq_false (by omega)
      obtain rfl : k = X.length := by omega
      have HR := hida HB.out.ru
      have hGd := HB.out.ld
      clear HB
      obtain ⟨G, HGE⟩ : ∃ G, Hid (foTo X X.length = G) := ⟨_, rfl⟩
      rw [HGE.out] at HR hGd
      have hGd : G.dis.length ≤ 15420 := by omega
      go_wp2_with fail
      go_loopw [10] (fun x wr => ∃ (j : Nat), x = .int .i64 j ∧ j ≤ G.dis.length ∧ Hid (RuAt w wr tv dv G (redoL en (G.dis.take j)))) (fun x _ => G.dis.length - (intOf x).toNat)
      case atStart => exact ⟨0, rfl, Nat.zero_le _, HR⟩
      case round =>
        clear HR
        obtain ⟨j, rfl, hj, HR⟩ := hrel
        obtain ⟨da, dc, rfl, hDA⟩ := HR.out.own2.sl
        have f1 : wr.cell? ⟨w.heap.size + 1, 1, none⟩ = some (.slice da G.dis.length dc) := HR.out.box.cell 1
        by_cases hjl : j < G.dis.length
        · have e4 : decide ((j : Int) < (G.dis.length : Int)) = true := decide_eq_true (by omega)
          have e5 : (0 : Int) ≤ (j : Int) := by omega
          have e6 : (j : Int) < (G.dis.length : Int) := by omega
          obtain ⟨tb, t9, rfl, g1⟩ : ∃ b o, da = some ⟨b, o, none⟩ ∧ DiAt wr b (o + j * 2) G.dis[j] := by
            rcases hDA with h | ⟨b1, o1, e, hb, h⟩
            · rw [h] at hjl; simp at hjl
            · exact ⟨b1, o1, e, h j hjl⟩
          have HT := hida (redo_take (e := en) hjl)
          obtain ⟨t, ht⟩ : ∃ t, G.dis[j] = t := ⟨_, rfl⟩
          rw [ht] at g1 HT
          clear ht hDA
          generalize redoL en (G.dis.take j) = re at *
          obtain ⟨rn, hrn⟩ : ∃ rn, redoL en (G.dis.take (j + 1)) = rn := ⟨_, rfl⟩
          rw [hrn] at HT
          obtain ⟨t0, t1⟩ := t
          obtain ⟨g10, g11⟩ := g1
          dsimp only at g10 g11 HT
          have f2 : wr.cell? ⟨w.heap.size + 1, 2, none⟩ = some (.int .u64 (re : Nat)) := HR.out.box.cell 2
          have z2 := HR.out.box.frozen 2
          have hdn : ∀ n, Below wr.heap.size wr (wr.drewN n) := fun n => below_drewN (Below.refl _ _) n
          have HRW := hida (fun n => HR.out.below (hdn n))
          have HRS := hida (fun n => (HR.out.below (hdn n)).setRe t1)
          clear HR hdn
          go_upto_region 27 with fail
          by_cases h0 : j = 0
          · rw [if_pos (.inl h0)] at HT
            subst h0
            have d0 : (((0 : Nat) : Int) == 0) = true := rfl
            go_quiet (fail)
            go_wp2_with fail
            go_roundw
            case rel => exact ⟨0 + 1, by go_num, by omega, by rw [hrn, HT.out]; exact HRS.out nq⟩
            case measure => simp [intOf]; omega
          · have d0 : ((j : Int) == 0) = false := beq_eq_false_iff_ne.2 (by omega)
            by_cases h1 : t1 < re
            · rw [if_pos (.inr h1)] at HT
              have d1 : decide ((t1 : Int) < (re : Int)) = true := decide_eq_true (by omega)
              go_quiet (fail)
              go_wp2_with fail
              go_roundw
              case rel => exact ⟨j + 1, by go_num, by omega, by rw [hrn, HT.out]; exact HRS.out nq⟩
              case measure => simp [intOf]; omega
            · rw [if_neg (by omega)] at HT
              have d1 : decide ((t1 : Int) < (re : Int)) = false := decide_eq_false (by omega)
              go_quiet (fail)
              go_wp2_with fail
              go_roundw
              case rel => exact ⟨j + 1, by go_num, by omega, by rw [hrn, HT.out]; exact HRW.out nq⟩
              case measure => simp [intOf]; omega
        · have e4 : decide ((j : Int) < (G.dis.length : Int)) = false := decide_eq_false (by omega)
          obtain rfl : j = G.dis.length := by omega
          rw [List.take_length] at HR
          obtain ⟨re, HRE⟩ : ∃ re, Hid (redoL en G.dis = re) := ⟨_, rfl⟩
          rw [HRE.out] at HR
          obtain ⟨ta, tc, rfl, -⟩ := HR.out.own1.sl
          have q0 : wr.cell? ⟨w.heap.size, 0, none⟩ = some (.slice none 0 0) := HR.out.res.cell 0
          have q1 : wr.cell? ⟨w.heap.size, 1, none⟩ = some (.slice none 0 0) := HR.out.res.cell 1
          have q2 : wr.cell? ⟨w.heap.size, 2, none⟩ = some (.int .u64 0) := HR.out.res.cell 2
          have q3 : wr.cell? ⟨w.heap.size, 3, none⟩ = some (.int .i64 0) := HR.out.res.cell 3
          have q4 : wr.cell? ⟨w.heap.size, 4, none⟩ = some (.int .i64 0) := HR.out.res.cell 4
          have z0 := HR.out.res.frozen 0
          have z1 := HR.out.res.frozen 1
          have z2 := HR.out.res.frozen 2
          have z3 := HR.out.res.frozen 3
          have z4 := HR.out.res.frozen 4
          have f0 : wr.cell? ⟨w.heap.size + 1, 0, none⟩ = some (.slice ta G.txs.length tc) := HR.out.box.cell 0
          have f2 : wr.cell? ⟨w.heap.size + 1, 2, none⟩ = some (.int .u64 (re : Nat)) := HR.out.box.cell 2
          have f3 : wr.cell? ⟨w.heap.size + 1, 3, none⟩ = some (.int .i64 G.most) := HR.out.box.cell 3
          have f4 : wr.cell? ⟨w.heap.size + 1, 4, none⟩ = some (.int .i64 ((G.recs : Nat) : Int)) := HR.out.box.cell 4
          have hrb := fset5_blk (show Blk wr w.heap.size #[.slice none 0 0, .slice none 0 0, .int .u64 0, .int .i64 0, .int .i64 0] 40 from HR.out.res) (.slice ta G.txs.length tc) (.slice da G.dis.length dc) (.int .u64 (re : Nat)) (.int .i64 G.most) (.int .i64 ((G.recs : Nat) : Int))
          have hkp := fset5_kept wr w.heap.size (.slice ta G.txs.length tc) (.slice da G.dis.length dc) (.int .u64 (re : Nat)) (.int .i64 G.most) (.int .i64 ((G.recs : Nat) : Int))
          obtain ⟨WX, HWX⟩ : ∃ WX, Hid (fset5 wr w.heap.size (.slice ta G.txs.length tc) (.slice da G.dis.length dc) (.int .u64 (re : Nat)) (.int .i64 G.most) (.int .i64 ((G.recs : Nat) : Int)) = WX) := ⟨_, rfl⟩
          rw [HWX.out] at hrb hkp
          have HRB := hida hrb
          have HBE : Hid (Below w.heap.size w WX) := ⟨hkp.os.trans HR.out.bel.os, hkp.tape.trans HR.out.bel.tape, hkp.output.trans HR.out.bel.output, Nat.le_trans HR.out.bel.size hkp.size, fun i hi => (hkp.block i (Nat.lt_of_lt_of_le hi HR.out.bel.size) (by omega)).trans (HR.out.bel.block i hi)⟩
          have HOX := hida (show rsAt w.heap.size WX (.slice ta G.txs.length tc) G.txs ∧ rdAt w.heap.size WX (.slice da G.dis.length dc) G.dis from ⟨owns_base7 (owns_same7 HR.out.own1 fun i hi => hkp.block i (HR.out.own1.lt i hi).2 (by have := (HR.out.own1.lt i hi).1; omega)) (by omega), owns_base7 (owns_same7 HR.out.own2 fun i hi => hkp.block i (HR.out.own2.lt i hi).2 (by have := (HR.out.own2.lt i hi).1; omega)) (by omega)⟩)
          clear hrb hkp HR hDA
          go_wp2_with fail
          rw [show (((((wr.setCell ⟨w.heap.size, 0, none⟩ (.slice ta G.txs.length tc)).setCell ⟨w.heap.size, 1, none⟩ (.slice da G.dis.length dc)).setCell ⟨w.heap.size, 2, none⟩ (.int .u64 (re : Nat))).setCell ⟨w.heap.size, 3, none⟩ (.int .i64 G.most)).setCell ⟨w.heap.size, 4, none⟩ (.int .i64 ((G.recs : Nat) : Int))) = WX from HWX.out]
          have t0 : WX.cell? ⟨w.heap.size, 0, none⟩ = some (.slice ta G.txs.length tc) := HRB.out.cell 0
          have t1 : WX.cell? ⟨w.heap.size, 1, none⟩ = some (.slice da G.dis.length dc) := HRB.out.cell 1
          have t2 : WX.cell? ⟨w.heap.size, 2, none⟩ = some (.int .u64 (re : Nat)) := HRB.out.cell 2
          have t3 : WX.cell? ⟨w.heap.size, 3, none⟩ = some (.int .i64 G.most) := HRB.out.cell 3
          have t4 : WX.cell? ⟨w.heap.size, 4, none⟩ = some (.int .i64 ((G.recs : Nat) : Int)) := HRB.out.cell 4
          refine bodyPost_ret (v := .agg #[.slice ta G.txs.length tc, .slice da G.dis.length dc, .int .u64 (re : Nat), .int .i64 G.most, .int .i64 ((G.recs : Nat) : Int)]) (by simp [results, Tryz.results8, go_sem, t0, t1, t2, t3, t4]) rfl ?_
          rw [HGE.out, HRE.out]
          exact ⟨_, _, rfl, HOX.out.1, HOX.out.2, HBE.out⟩

end Go.Proofs.YtlphebebnjcidaaGreat
