/-
  The walk of girderref19.dirty.
-/
import Derived.Test.YtlphebebnjcidaaGreatAnRefAJ
set_option linter.unusedVariables false
set_option linter.unusedSimpArgs false
namespace Go.Proofs.YtlphebebnjcidaaGreat
open Go.RowKit Go.Sort Go.Shelf Go.Lib

structure RqAt (w wr : World) (t : DiV) (v : Value) (M : List DiV) : Prop where
  bel : Below w.heap.size w wr
  box : Blk wr w.heap.size (adcells t).toArray 52
  own : rdAt (w.heap.size + 1) wr v M

theorem RqAt.below {w wr wx : World} {t : DiV} {v : Value} {M : List DiV} (h : RqAt w wr t v M) (k : Below wr.heap.size wr wx) : RqAt w wx t v M :=
  ⟨below_chain h.bel k, h.box.same (k.block _ h.box.lt), owns_same7 h.own fun g hg => k.block g (h.own.lt g hg).2⟩

theorem RqAt.push {w V w2 : World} {t : DiV} {u : Value} {M : List DiV} (h : RqAt w V t u M) (x : DiV) {g2 cap2 : Nat} (own : w2.ownsRow (w.heap.size + 1) 52 2 (.slice (some ⟨g2, 0, none⟩) (M.length + 1 : Nat) cap2) (M.length + 1) (M.flatMap adcells ++ adcells x)) (gr : V.grownBy w2 u.ownBlock) :
    RqAt w w2 t (.slice (some ⟨g2, 0, none⟩) (M.length + 1 : Nat) cap2) (M ++ [x]) := by
  have hz : w.heap.size + 1 ≤ V.heap.size := by have := h.box.lt; omega
  refine ⟨h.bel.grown gr h.bel.size fun z hz => by have := (h.own.lt z hz).1; omega, h.box.same (gr.block _ h.box.lt fun e => by have := (h.own.lt _ e.symm).1; omega), ?_⟩
  unfold rdAt
  rw [List.length_append, List.flatMap_append]
  simp only [List.length_singleton, List.flatMap_cons, List.flatMap_nil, List.append_nil]
  exact own

theorem RqAt.kept {w wr wx : World} {t : DiV} {v : Value} {M : List DiV} {b : Nat} (h : RqAt w wr t v M) (k : Kept (fun i => i = b) wr wx) (hb : w.heap.size + 1 ≤ b) (hv : v.ownBlock ≠ some b) : RqAt w wx t v M :=
  ⟨⟨k.os.trans h.bel.os, k.tape.trans h.bel.tape, k.output.trans h.bel.output, Nat.le_trans h.bel.size k.size, fun i hi => (k.block i (Nat.lt_of_lt_of_le hi h.bel.size) (by omega)).trans (h.bel.block i hi)⟩,
    h.box.same (k.block _ h.box.lt (by omega)), owns_same7 h.own fun g hg => k.block g (h.own.lt g hg).2 (fun e => hv (by rw [hg, e]))⟩

set_option maxHeartbeats 6400000 in
set_option maxRecDepth 20000 in
theorem rdirty_any (L : List DiV) (a : Option Addr) (c : Nat) (d : DiV) (w : World) (h : DisAt w a L) (hl : L.length ≤ 1000000) :
    Calls Tryz.prog 25 #[.slice a L.length c, .agg #[.int .u32 d.1, .int .u64 d.2]] w fun e w' => ∃ v, e = .returned v ∧ rdAt w.heap.size w' v (putEnd d (dirTo d L L.length)) ∧ Below w.heap.size w w' := by
  obtain ⟨i1, hi1, hz1⟩ := Option.map_eq_some_iff.1 infoDrL
  simp only [Prod.mk.injEq] at hz1
  obtain ⟨hz10, hz11, hz12⟩ := hz1
  have HL := hida h
  have hll := hl
  clear h hl
  obtain ⟨d1, d2⟩ := d
  dsimp only
  obtain ⟨W0, HW0⟩ : ∃ W0, Hid (W0 = w.alloc (.cells #[.int .u32 d1, .int .u64 d2] 52)) := ⟨_, rfl⟩
  have s0 : W0.heap.size = w.heap.size + 1 := by rw [HW0.out]; simp
  obtain ⟨W1, HW1⟩ : ∃ W1, Hid (W1 = W0.alloc (.cells #[] 52)) := ⟨_, rfl⟩
  have H0 : Hid (RqAt w W1 (d1, d2) (.slice (some ⟨W0.heap.size, 0, none⟩) 0 0) (dirTo (d1, d2) L 0).1) := by
    have b0 : Below w.heap.size w W0 := by rw [HW0.out]; exact (Below.refl _ _).alloc (Nat.le_refl _) _
    have b1 : Below W0.heap.size W0 W1 := by rw [HW1.out]; exact (Below.refl _ _).alloc (Nat.le_refl _) _
    have k0 : Blk W0 w.heap.size (adcells (d1, d2)).toArray 52 := by rw [HW0.out]; exact Blk.made _ _ _
    refine ⟨below_chain b0 b1, k0.same (b1.block _ k0.lt), ?_⟩
    rw [HW1.out]
    exact ⟨rfl, .inr ⟨W0.heap.size, 0, #[], rfl, by omega, heap_alloc_new _ _, Nat.le_refl _, Nat.zero_le _, rfl, rfl⟩⟩
  rw [s0] at H0
  go_enter Tryz.func25, Tryz.ntmps25
  go_upto_region 1 with fail
  rw [← HW0.out]
  clear HW0
  go_upto_region 2 with fail
  rw [← HW1.out]
  clear HW1
  go_wp2_with fail
  go_loopw [5, 6, 7] (fun v d x wr => ∃ (k : Nat) (u : Value) (db : Bool), x = .int .i64 k ∧ v = u ∧ d = .bool db ∧ k ≤ L.length ∧ Hid ((dirTo (d1, d2) L k).2 = db) ∧ Hid (RqAt w wr (d1, d2) u (dirTo (d1, d2) L k).1)) (fun _ _ x _ => L.length - (intOf x).toNat)
  case atStart => exact ⟨0, _, false, rfl, rfl, rfl, Nat.zero_le _, rfl, H0⟩
  case round =>
    obtain ⟨k, u, db, rfl, rfl, rfl, hk, HD, HB⟩ := hrel
    clear H0
    have b0 : wr.cell? ⟨w.heap.size, 0, none⟩ = some (.int .u32 d1) := HB.out.box.cell 0
    have b1 : wr.cell? ⟨w.heap.size, 1, none⟩ = some (.int .u64 d2) := HB.out.box.cell 1
    have hMl := (dirTo_len (d1, d2) L k hk).1
    by_cases hlt : k < L.length
    · have e1 : decide ((k : Int) < (L.length : Int)) = true := decide_eq_true (by omega)
      have e2 : (0 : Int) ≤ (k : Int) := by omega
      have e3 : (k : Int) < (L.length : Int) := by omega
      obtain ⟨tb, t9, rfl, g1⟩ : ∃ b1 o1, a = some ⟨b1, o1, none⟩ ∧ DiAt wr b1 (o1 + k * 2) L[k] := by
        rcases HL.out.below HB.out.bel with h | ⟨b1, o1, e, hb, h⟩
        · rw [h] at hlt; simp at hlt
        · exact ⟨b1, o1, e, h k hlt⟩
      have HT1 := hida (dirTo_succ (d1, d2) hlt)
      obtain ⟨x, hx⟩ : ∃ x, L[k] = x := ⟨_, rfl⟩
      rw [hx] at g1 HT1
      have HXX := hida hx
      clear hx
      obtain ⟨x1, x2⟩ := x
      obtain ⟨g0, g1⟩ := g1
      simp only at g0 g1
      obtain ⟨M, HM⟩ : ∃ M, Hid ((dirTo (d1, d2) L k).1 = M) := ⟨_, rfl⟩
      rw [HM.out] at HB hMl
      have hMl2 : M.length ≤ 1000001 := by omega
      by_cases heq : x1 = d1
      · obtain rfl : d1 = x1 := heq.symm
        clear heq
        by_cases hls : d2 < x2
        · have HS : Hid ((dirTo (d1, d2) L (k + 1)).1 = M ++ [(d1, d2)]) := by
            show _ = _
            rw [HT1.out]
            unfold dirS
            rw [if_pos (show d1 = d1 from rfl), if_pos (show d2 < x2 from hls)]
            show (dirTo (d1, d2) L k).1 ++ _ = _
            rw [HM.out]
          have HD2 : Hid ((dirTo (d1, d2) L (k + 1)).2 = true) := by
            show _ = _
            rw [HT1.out]
            unfold dirS
            rw [if_pos (show d1 = d1 from rfl)]
          obtain ⟨X, HX⟩ : ∃ X, Hid (wr.drew = X) := ⟨_, rfl⟩
          have HB' : Hid (RqAt w X (d1, d2) u5 M) := by rw [← HX.out]; exact HB.out.below (Below.refl _ _).drew
          have HB := HB'
          clear HB'
          have HG := hida (show DiAt X tb (t9 + k * 2) (d1, x2) from by rw [← HX.out]; exact ⟨g0, g1⟩)
          have HOF : Hid (u5.ownBlock ≠ some X.heap.size) := fun q => by have := (HB.out.own.lt _ q).2; omega
          have HX0 : Hid (w.heap.size + 1 ≤ X.heap.size) := by show _ ≤ _; have := HB.out.box.lt; omega
          obtain ⟨Y, HY⟩ : ∃ Y, Hid (Y = X.alloc (.cells #[.int .u32 d1, .int .u64 x2] 52)) := ⟨_, rfl⟩
          have bY : Below X.heap.size X Y := by rw [HY.out]; exact (Below.refl _ _).alloc (Nat.le_refl _) _
          have kY : Blk Y X.heap.size #[.int .u32 d1, .int .u64 x2] 52 := by rw [HY.out]; exact Blk.made _ _ _
          have HKY := hida kY
          have HBY := hida (HB.out.below bY)
          clear HD HT1 HM hMl HB bY kY
          go_upto_region 6 with fail
          go_region
          all_goals
            go_upto_region 7 with fail
            rw [HX.out]
            clear g0 g1 b0 b1 HX
            have g0 : X.cell? ⟨tb, t9 + k * 2, none⟩ = some (.int .u32 d1) := HG.out.c0
            have g1 : X.cell? ⟨tb, t9 + k * 2 + 1, none⟩ = some (.int .u64 x2) := HG.out.c1
            clear HG
            go_upto_region 8 with fail
            rw [← HY.out]
            clear HY g0 g1
            have HB := HBY
            clear HBY
            have y0 : Y.cell? ⟨X.heap.size, 0, none⟩ = some (.int .u32 d1) := HKY.out.cell 0
            have y1 : Y.cell? ⟨X.heap.size, 1, none⟩ = some (.int .u64 x2) := HKY.out.cell 1
            have b0 : Y.cell? ⟨w.heap.size, 0, none⟩ = some (.int .u32 d1) := HB.out.box.cell 0
            have b1 : Y.cell? ⟨w.heap.size, 1, none⟩ = some (.int .u64 d2) := HB.out.box.cell 1
            have e5 : decide ((d2 : Int) < (x2 : Int)) = true := decide_eq_true (by omega)
            have f0 := HKY.out.frozen 0
            have f1 := HKY.out.frozen 1
            obtain ⟨Z, HZ⟩ : ∃ Z, Hid ((Y.setCell ⟨X.heap.size, 0, none⟩ (.int .u32 d1)).setCell ⟨X.heap.size, 1, none⟩ (.int .u64 d2) = Z) := ⟨_, rfl⟩
            have HKZ : Hid (Blk Z X.heap.size #[.int .u32 d1, .int .u64 d2] 52) := by
              show Blk _ _ _ _
              rw [← HZ.out]
              exact (HKY.out.set 0 (.int .u32 d1)).set 1 (.int .u64 d2)
            have HBZ : Hid (RqAt w Z (d1, d2) u5 M) := by
              show RqAt _ _ _ _ _
              rw [← HZ.out]
              exact HB.out.kept ((Kept.setCell (fun i => i = X.heap.size) Y X.heap.size 0 (.int .u32 d1) rfl).trans (Kept.setCell (fun i => i = X.heap.size) _ X.heap.size 1 (.int .u64 d2) rfl)) HX0.out HOF.out
            go_upto_region 10 with fail
            rw [HZ.out]
            clear HZ HB HKY y0 y1 f0 f1 b0 b1 HOF HX0
            have HB := HBZ
            clear HBZ
            have y0 : Z.cell? ⟨X.heap.size, 0, none⟩ = some (.int .u32 d1) := HKZ.out.cell 0
            have y1 : Z.cell? ⟨X.heap.size, 1, none⟩ = some (.int .u64 d2) := HKZ.out.cell 1
            obtain ⟨V, HV⟩ : ∃ V, Hid (V = Z.alloc (.cells #[.int .u32 d1, .int .u64 d2] 52)) := ⟨_, rfl⟩
            have bV : Below Z.heap.size Z V := by rw [HV.out]; exact (Below.refl _ _).alloc (Nat.le_refl _) _
            have hnews : Hid (∀ j u, [.int .u32 d1, .int .u64 d2][j]? = some u → V.cell? ((⟨Z.heap.size, 0, none⟩ : Addr).add j) = some u) := by
              show ∀ j u, _
              rw [HV.out]
              exact World.news_of_block (heap_alloc_new _ _)
            have HVB := hida (HB.out.below bV)
            have HOW : Hid (V.ownsRow (w.heap.size + 1) 52 2 u5 M.length (M.flatMap adcells)) := HVB.out.own
            have HPU : Hid (∀ (g2 cap2 : Nat) w2, w2.ownsRow (w.heap.size + 1) 52 2 (.slice (some ⟨g2, 0, none⟩) (M.length + 1 : Nat) cap2) (M.length + 1) (M.flatMap adcells ++ [.int .u32 d1, .int .u64 d2]) → V.grownBy w2 (u5 : Value).ownBlock → RqAt w w2 (d1, d2) (.slice (some ⟨g2, 0, none⟩) (M.length + 1 : Nat) cap2) (M ++ [(d1, d2)])) := fun g2 cap2 w2 own gr => HVB.out.push (d1, d2) own gr
            have HOK : Hid (w.heap.size + 1 ≤ V.heap.size) := by show _ ≤ _; have := HVB.out.box.lt; omega
            clear HB bV HVB
            rw [HV.out] at hnews HOW HPU HOK
            clear HV
            go_wp2_with (at_builtin; refine wpList_append_lies _ rfl _ _ 38 rfl (w.heap.size + 1) 52 i1 _ 2 16 Tryz.underlying38 hi1 hz10 hz11 hz12 rfl (by decide) u5 M.length (M.flatMap adcells) rfl HOW.out ⟨Z.heap.size, 0, none⟩ 1 1 [.int .u32 d1, .int .u64 d2] rfl rfl hnews.out (by intro u' hu'; simp at hu'; rcases hu' with rfl | rfl <;> rfl) (by decide) (by unfold maxLen; omega) (by omega) HOK.out _ rfl ?_; intro g2 cap2 w2 own2 grow2 loc2 lt2; have HB := hida (HPU.out g2 cap2 w2 own2 grow2); clear own2 grow2 loc2 lt2)
            clear HOW hnews HPU HOK
            go_roundw
            case rel => exact ⟨k + 1, _, true, by go_num, rfl, rfl, by omega, HD2, by rw [HS.out]; exact HB⟩
            case measure => simp [intOf]; omega
        · have HS : Hid ((dirTo (d1, d2) L (k + 1)).1 = M ++ [(d1, x2)]) := by
            show _ = _
            rw [HT1.out]
            unfold dirS
            rw [if_pos (show d1 = d1 from rfl), if_neg (show ¬ d2 < x2 from hls)]
            show (dirTo (d1, d2) L k).1 ++ _ = _
            rw [HM.out]
          have HD2 : Hid ((dirTo (d1, d2) L (k + 1)).2 = true) := by
            show _ = _
            rw [HT1.out]
            unfold dirS
            rw [if_pos (show d1 = d1 from rfl)]
          obtain ⟨X, HX⟩ : ∃ X, Hid (wr.drew = X) := ⟨_, rfl⟩
          have HB' : Hid (RqAt w X (d1, d2) u5 M) := by rw [← HX.out]; exact HB.out.below (Below.refl _ _).drew
          have HB := HB'
          clear HB'
          have HG := hida (show DiAt X tb (t9 + k * 2) (d1, x2) from by rw [← HX.out]; exact ⟨g0, g1⟩)
          have HOF : Hid (u5.ownBlock ≠ some X.heap.size) := fun q => by have := (HB.out.own.lt _ q).2; omega
          have HX0 : Hid (w.heap.size + 1 ≤ X.heap.size) := by show _ ≤ _; have := HB.out.box.lt; omega
          obtain ⟨Y, HY⟩ : ∃ Y, Hid (Y = X.alloc (.cells #[.int .u32 d1, .int .u64 x2] 52)) := ⟨_, rfl⟩
          have bY : Below X.heap.size X Y := by rw [HY.out]; exact (Below.refl _ _).alloc (Nat.le_refl _) _
          have kY : Blk Y X.heap.size #[.int .u32 d1, .int .u64 x2] 52 := by rw [HY.out]; exact Blk.made _ _ _
          have HKY := hida kY
          have HBY := hida (HB.out.below bY)
          clear HD HT1 HM hMl HB bY kY
          go_upto_region 6 with fail
          go_region
          all_goals
            go_upto_region 7 with fail
            rw [HX.out]
            clear g0 g1 b0 b1 HX
            have g0 : X.cell? ⟨tb, t9 + k * 2, none⟩ = some (.int .u32 d1) := HG.out.c0
            have g1 : X.cell? ⟨tb, t9 + k * 2 + 1, none⟩ = some (.int .u64 x2) := HG.out.c1
            clear HG
            go_upto_region 8 with fail
            rw [← HY.out]
            clear HY g0 g1
            have HB := HBY
            clear HBY
            have y0 : Y.cell? ⟨X.heap.size, 0, none⟩ = some (.int .u32 d1) := HKY.out.cell 0
            have y1 : Y.cell? ⟨X.heap.size, 1, none⟩ = some (.int .u64 x2) := HKY.out.cell 1
            have b0 : Y.cell? ⟨w.heap.size, 0, none⟩ = some (.int .u32 d1) := HB.out.box.cell 0
            have b1 : Y.cell? ⟨w.heap.size, 1, none⟩ = some (.int .u64 d2) := HB.out.box.cell 1
            have e5 : decide ((d2 : Int) < (x2 : Int)) = false := decide_eq_false (by omega)
            go_upto_region 10 with fail
            obtain ⟨V, HV⟩ : ∃ V, Hid (V = Y.alloc (.cells #[.int .u32 d1, .int .u64 x2] 52)) := ⟨_, rfl⟩
            have bV : Below Y.heap.size Y V := by rw [HV.out]; exact (Below.refl _ _).alloc (Nat.le_refl _) _
            have hnews : Hid (∀ j u, [.int .u32 d1, .int .u64 x2][j]? = some u → V.cell? ((⟨Y.heap.size, 0, none⟩ : Addr).add j) = some u) := by
              show ∀ j u, _
              rw [HV.out]
              exact World.news_of_block (heap_alloc_new _ _)
            have HVB := hida (HB.out.below bV)
            have HOW : Hid (V.ownsRow (w.heap.size + 1) 52 2 u5 M.length (M.flatMap adcells)) := HVB.out.own
            have HPU : Hid (∀ (g2 cap2 : Nat) w2, w2.ownsRow (w.heap.size + 1) 52 2 (.slice (some ⟨g2, 0, none⟩) (M.length + 1 : Nat) cap2) (M.length + 1) (M.flatMap adcells ++ [.int .u32 d1, .int .u64 x2]) → V.grownBy w2 (u5 : Value).ownBlock → RqAt w w2 (d1, d2) (.slice (some ⟨g2, 0, none⟩) (M.length + 1 : Nat) cap2) (M ++ [(d1, x2)])) := fun g2 cap2 w2 own gr => HVB.out.push (d1, x2) own gr
            have HOK : Hid (w.heap.size + 1 ≤ V.heap.size) := by show _ ≤ _; have := HVB.out.box.lt; omega
            clear HB bV HVB
            rw [HV.out] at hnews HOW HPU HOK
            clear HV
            go_wp2_with (at_builtin; refine wpList_append_lies _ rfl _ _ 38 rfl (w.heap.size + 1) 52 i1 _ 2 16 Tryz.underlying38 hi1 hz10 hz11 hz12 rfl (by decide) u5 M.length (M.flatMap adcells) rfl HOW.out ⟨Y.heap.size, 0, none⟩ 1 1 [.int .u32 d1, .int .u64 x2] rfl rfl hnews.out (by intro u' hu'; simp at hu'; rcases hu' with rfl | rfl <;> rfl) (by decide) (by unfold maxLen; omega) (by omega) HOK.out _ rfl ?_; intro g2 cap2 w2 own2 grow2 loc2 lt2; have HB := hida (HPU.out g2 cap2 w2 own2 grow2); clear own2 grow2 loc2 lt2)
            clear HOW hnews HPU HOK
            go_roundw
            case rel => exact ⟨k + 1, _, true, by go_num, rfl, rfl, by omega, HD2, by rw [HS.out]; exact HB⟩
            case measure => simp [intOf]; omega
      · have e4 : ((x1 : Int) == (d1 : Int)) = false := beq_eq_false_iff_ne.2 (by omega)
        cases db with
        | true =>
          have HS : Hid ((dirTo (d1, d2) L (k + 1)).1 = M ++ [(x1, x2)]) := by
            show _ = _
            rw [HT1.out]
            unfold dirS
            rw [if_neg (show ¬ x1 = d1 from heq), if_neg (fun q => by have := q.1; rw [HD.out] at this; cases this)]
            show (dirTo (d1, d2) L k).1 ++ _ = _
            rw [HM.out]
          have HD2 : Hid ((dirTo (d1, d2) L (k + 1)).2 = true) := by
            show _ = _
            rw [HT1.out]
            unfold dirS
            rw [if_neg (show ¬ x1 = d1 from heq), if_neg (fun q => by have := q.1; rw [HD.out] at this; cases this)]
            exact HD.out
          obtain ⟨X, HX⟩ : ∃ X, Hid (wr.drew.drew = X) := ⟨_, rfl⟩
          have HB' : Hid (RqAt w X (d1, d2) u5 M) := by rw [← HX.out]; exact (HB.out.below (Below.refl _ _).drew).below (Below.refl _ _).drew
          have HB := HB'
          clear HB'
          have HG := hida (show DiAt X tb (t9 + k * 2) (x1, x2) from by rw [← HX.out]; exact ⟨g0, g1⟩)
          clear HD HT1 HM hMl
          go_upto_region 6 with fail
          go_region
          all_goals
            go_upto_region 12 with fail
            go_region
            all_goals
              go_upto_region 15 with fail
              rw [HX.out]
              clear g0 g1 b0 b1 HX
              have g0 : X.cell? ⟨tb, t9 + k * 2, none⟩ = some (.int .u32 x1) := HG.out.c0
              have g1 : X.cell? ⟨tb, t9 + k * 2 + 1, none⟩ = some (.int .u64 x2) := HG.out.c1
              clear HG
              obtain ⟨V, HV⟩ : ∃ V, Hid (V = X.alloc (.cells #[.int .u32 x1, .int .u64 x2] 52)) := ⟨_, rfl⟩
              have bV : Below X.heap.size X V := by rw [HV.out]; exact (Below.refl _ _).alloc (Nat.le_refl _) _
              have hnews : Hid (∀ j u, [.int .u32 x1, .int .u64 x2][j]? = some u → V.cell? ((⟨X.heap.size, 0, none⟩ : Addr).add j) = some u) := by
                show ∀ j u, _
                rw [HV.out]
                exact World.news_of_block (heap_alloc_new _ _)
              have HVB := hida (HB.out.below bV)
              have HOW : Hid (V.ownsRow (w.heap.size + 1) 52 2 u5 M.length (M.flatMap adcells)) := HVB.out.own
              have HPU : Hid (∀ (g2 cap2 : Nat) w2, w2.ownsRow (w.heap.size + 1) 52 2 (.slice (some ⟨g2, 0, none⟩) (M.length + 1 : Nat) cap2) (M.length + 1) (M.flatMap adcells ++ [.int .u32 x1, .int .u64 x2]) → V.grownBy w2 (u5 : Value).ownBlock → RqAt w w2 (d1, d2) (.slice (some ⟨g2, 0, none⟩) (M.length + 1 : Nat) cap2) (M ++ [(x1, x2)])) := fun g2 cap2 w2 own gr => HVB.out.push (x1, x2) own gr
              have HOK : Hid (w.heap.size + 1 ≤ V.heap.size) := by show _ ≤ _; have := HVB.out.box.lt; omega
              clear HB bV HVB
              rw [HV.out] at hnews HOW HPU HOK
              clear HV
              go_wp2_with (at_builtin; refine wpList_append_lies _ rfl _ _ 38 rfl (w.heap.size + 1) 52 i1 _ 2 16 Tryz.underlying38 hi1 hz10 hz11 hz12 rfl (by decide) u5 M.length (M.flatMap adcells) rfl HOW.out ⟨X.heap.size, 0, none⟩ 1 1 [.int .u32 x1, .int .u64 x2] rfl rfl hnews.out (by intro u' hu'; simp at hu'; rcases hu' with rfl | rfl <;> rfl) (by decide) (by unfold maxLen; omega) (by omega) HOK.out _ rfl ?_; intro g2 cap2 w2 own2 grow2 loc2 lt2; have HB := hida (HPU.out g2 cap2 w2 own2 grow2); clear own2 grow2 loc2 lt2)
              clear HOW hnews HPU HOK
              go_roundw
              case rel => exact ⟨k + 1, _, true, by go_num, rfl, rfl, by omega, HD2, by rw [HS.out]; exact HB⟩
              case measure => simp [intOf]; omega
        | false =>
          by_cases hgt : d1 < x1
          · have e5 : decide ((d1 : Int) < (x1 : Int)) = true := decide_eq_true (by omega)
            have HS : Hid ((dirTo (d1, d2) L (k + 1)).1 = M ++ [(d1, d2)] ++ [(x1, x2)]) := by
              show _ = _
              rw [HT1.out]
              unfold dirS
              rw [if_neg (show ¬ x1 = d1 from heq), if_pos ⟨HD.out, hgt⟩]
              show (dirTo (d1, d2) L k).1 ++ _ ++ _ = _
              rw [HM.out]
            have HD2 : Hid ((dirTo (d1, d2) L (k + 1)).2 = true) := by
              show _ = _
              rw [HT1.out]
              unfold dirS
              rw [if_neg (show ¬ x1 = d1 from heq), if_pos ⟨HD.out, hgt⟩]
            obtain ⟨X, HX⟩ : ∃ X, Hid (wr.drew.drew = X) := ⟨_, rfl⟩
            have HB' : Hid (RqAt w X (d1, d2) u5 M) := by rw [← HX.out]; exact (HB.out.below (Below.refl _ _).drew).below (Below.refl _ _).drew
            have HB := HB'
            clear HB'
            have HG := hida (show DiAt X tb (t9 + k * 2) (x1, x2) from by rw [← HX.out]; exact ⟨g0, g1⟩)
            clear HG
            have HG0 := hida (show ∀ wx, Below w.heap.size w wx → DiAt wx tb (t9 + k * 2) (x1, x2) from fun wx kb => by
              rcases HL.out.below kb with h | ⟨b', o', e', hb', h⟩
              · rw [h] at hlt; simp at hlt
              · simp only [Option.some.injEq, Addr.mk.injEq, and_true] at e'
                obtain ⟨rfl, rfl⟩ := e'
                have := h k hlt
                rw [HXX.out] at this
                exact this)
            clear HD HT1 HM hMl
            go_upto_region 6 with fail
            go_region
            all_goals
              go_upto_region 12 with fail
              go_region
              all_goals
                go_upto_region 13 with fail
                rw [HX.out]
                clear g0 g1 b0 b1 HX
                have b0 : X.cell? ⟨w.heap.size, 0, none⟩ = some (.int .u32 d1) := HB.out.box.cell 0
                have b1 : X.cell? ⟨w.heap.size, 1, none⟩ = some (.int .u64 d2) := HB.out.box.cell 1
                obtain ⟨V, HV⟩ : ∃ V, Hid (V = X.alloc (.cells #[.int .u32 d1, .int .u64 d2] 52)) := ⟨_, rfl⟩
                have bV : Below X.heap.size X V := by rw [HV.out]; exact (Below.refl _ _).alloc (Nat.le_refl _) _
                have hnews : Hid (∀ j u, [.int .u32 d1, .int .u64 d2][j]? = some u → V.cell? ((⟨X.heap.size, 0, none⟩ : Addr).add j) = some u) := by
                  show ∀ j u, _
                  rw [HV.out]
                  exact World.news_of_block (heap_alloc_new _ _)
                have HVB := hida (HB.out.below bV)
                have HOW : Hid (V.ownsRow (w.heap.size + 1) 52 2 u5 M.length (M.flatMap adcells)) := HVB.out.own
                have HPU : Hid (∀ (g2 cap2 : Nat) w2, w2.ownsRow (w.heap.size + 1) 52 2 (.slice (some ⟨g2, 0, none⟩) (M.length + 1 : Nat) cap2) (M.length + 1) (M.flatMap adcells ++ [.int .u32 d1, .int .u64 d2]) → V.grownBy w2 (u5 : Value).ownBlock → RqAt w w2 (d1, d2) (.slice (some ⟨g2, 0, none⟩) (M.length + 1 : Nat) cap2) (M ++ [(d1, d2)])) := fun g2 cap2 w2 own gr => HVB.out.push (d1, d2) own gr
                have HOK : Hid (w.heap.size + 1 ≤ V.heap.size) := by show _ ≤ _; have := HVB.out.box.lt; omega
                clear HB bV HVB
                rw [HV.out] at hnews HOW HPU HOK
                clear HV
                go_upto_region 15 with (at_builtin; refine wpList_append_lies _ rfl _ _ 38 rfl (w.heap.size + 1) 52 i1 _ 2 16 Tryz.underlying38 hi1 hz10 hz11 hz12 rfl (by decide) u5 M.length (M.flatMap adcells) rfl HOW.out ⟨X.heap.size, 0, none⟩ 1 1 [.int .u32 d1, .int .u64 d2] rfl rfl hnews.out (by intro u' hu'; simp at hu'; rcases hu' with rfl | rfl <;> rfl) (by decide) (by unfold maxLen; omega) (by omega) HOK.out _ rfl ?_; intro g2 cap2 w2 own2 grow2 loc2 lt2; have HB := hida (HPU.out g2 cap2 w2 own2 grow2); clear own2 grow2 loc2 lt2)
                clear HOW hnews HPU HOK
                obtain ⟨M2, HM2⟩ : ∃ M2, Hid (M ++ [(d1, d2)] = M2) := ⟨_, rfl⟩
                have hN : M2.length = M.length + 1 := by rw [← HM2.out]; simp
                rw [HM2.out, ← hN] at HB
                rw [← hN]
                obtain ⟨u2, HU2⟩ : ∃ u2, Hid (Value.slice (some ⟨g2, 0, none⟩) M2.length cap2 = u2) := ⟨_, rfl⟩
                rw [HU2.out] at HB ⊢
                clear b0 b1
                have HG := hida (HG0.out _ HB.out.bel)
                have g0 : w2.cell? ⟨tb, t9 + k * 2, none⟩ = some (.int .u32 x1) := HG.out.c0
                have g1 : w2.cell? ⟨tb, t9 + k * 2 + 1, none⟩ = some (.int .u64 x2) := HG.out.c1
                obtain ⟨V, HV⟩ : ∃ V, Hid (V = w2.alloc (.cells #[.int .u32 x1, .int .u64 x2] 52)) := ⟨_, rfl⟩
                have bV : Below w2.heap.size w2 V := by rw [HV.out]; exact (Below.refl _ _).alloc (Nat.le_refl _) _
                have hnews : Hid (∀ j u, [.int .u32 x1, .int .u64 x2][j]? = some u → V.cell? ((⟨w2.heap.size, 0, none⟩ : Addr).add j) = some u) := by
                  show ∀ j u, _
                  rw [HV.out]
                  exact World.news_of_block (heap_alloc_new _ _)
                have HVB := hida (HB.out.below bV)
                have HOW : Hid (V.ownsRow (w.heap.size + 1) 52 2 u2 M2.length (M2.flatMap adcells)) := HVB.out.own
                have HPU : Hid (∀ (g2 cap2 : Nat) w2, w2.ownsRow (w.heap.size + 1) 52 2 (.slice (some ⟨g2, 0, none⟩) (M2.length + 1 : Nat) cap2) (M2.length + 1) (M2.flatMap adcells ++ [.int .u32 x1, .int .u64 x2]) → V.grownBy w2 (u2 : Value).ownBlock → RqAt w w2 (d1, d2) (.slice (some ⟨g2, 0, none⟩) (M2.length + 1 : Nat) cap2) (M2 ++ [(x1, x2)])) := fun g2 cap2 w2 own gr => HVB.out.push (x1, x2) own gr
                have HOK : Hid (w.heap.size + 1 ≤ V.heap.size) := by show _ ≤ _; have := HVB.out.box.lt; omega
                clear HB bV HVB
                rw [HV.out] at hnews HOW HPU HOK
                clear HV
                go_wp2_with (at_builtin; refine wpList_append_lies _ rfl _ _ 38 rfl (w.heap.size + 1) 52 i1 _ 2 16 Tryz.underlying38 hi1 hz10 hz11 hz12 rfl (by decide) u2 M2.length (M2.flatMap adcells) rfl HOW.out ⟨w2.heap.size, 0, none⟩ 1 1 [.int .u32 x1, .int .u64 x2] rfl rfl hnews.out (by intro u' hu'; simp at hu'; rcases hu' with rfl | rfl <;> rfl) (by decide) (by unfold maxLen; omega) (by omega) HOK.out _ rfl ?_; intro g2 cap2 w2 own2 grow2 loc2 lt2; have HB := hida (HPU.out g2 cap2 w2 own2 grow2); clear own2 grow2 loc2 lt2)
                clear HOW hnews HPU HOK
                go_roundw
                case rel => exact ⟨k + 1, _, true, by go_num, rfl, rfl, by omega, HD2, by rw [HS.out, HM2.out, ← hN]; exact HB⟩
                case measure => simp [intOf]; omega
          · have e5 : decide ((d1 : Int) < (x1 : Int)) = false := decide_eq_false (by omega)
            have HS : Hid ((dirTo (d1, d2) L (k + 1)).1 = M ++ [(x1, x2)]) := by
              show _ = _
              rw [HT1.out]
              unfold dirS
              rw [if_neg (show ¬ x1 = d1 from heq), if_neg (fun q => hgt q.2)]
              show (dirTo (d1, d2) L k).1 ++ _ = _
              rw [HM.out]
            have HD2 : Hid ((dirTo (d1, d2) L (k + 1)).2 = false) := by
              show _ = _
              rw [HT1.out]
              unfold dirS
              rw [if_neg (show ¬ x1 = d1 from heq), if_neg (fun q => hgt q.2)]
              exact HD.out
            obtain ⟨X, HX⟩ : ∃ X, Hid (wr.drew.drew = X) := ⟨_, rfl⟩
            have HB' : Hid (RqAt w X (d1, d2) u5 M) := by rw [← HX.out]; exact (HB.out.below (Below.refl _ _).drew).below (Below.refl _ _).drew
            have HB := HB'
            clear HB'
            have HG := hida (show DiAt X tb (t9 + k * 2) (x1, x2) from by rw [← HX.out]; exact ⟨g0, g1⟩)
            clear HD HT1 HM hMl
            go_upto_region 6 with fail
            go_region
            all_goals
              go_upto_region 12 with fail
              go_region
              all_goals
                go_upto_region 15 with fail
                rw [HX.out]
                clear g0 g1 b0 b1 HX
                have g0 : X.cell? ⟨tb, t9 + k * 2, none⟩ = some (.int .u32 x1) := HG.out.c0
                have g1 : X.cell? ⟨tb, t9 + k * 2 + 1, none⟩ = some (.int .u64 x2) := HG.out.c1
                clear HG
                obtain ⟨V, HV⟩ : ∃ V, Hid (V = X.alloc (.cells #[.int .u32 x1, .int .u64 x2] 52)) := ⟨_, rfl⟩
                have bV : Below X.heap.size X V := by rw [HV.out]; exact (Below.refl _ _).alloc (Nat.le_refl _) _
                have hnews : Hid (∀ j u, [.int .u32 x1, .int .u64 x2][j]? = some u → V.cell? ((⟨X.heap.size, 0, none⟩ : Addr).add j) = some u) := by
                  show ∀ j u, _
                  rw [HV.out]
                  exact World.news_of_block (heap_alloc_new _ _)
                have HVB := hida (HB.out.below bV)
                have HOW : Hid (V.ownsRow (w.heap.size + 1) 52 2 u5 M.length (M.flatMap adcells)) := HVB.out.own
                have HPU : Hid (∀ (g2 cap2 : Nat) w2, w2.ownsRow (w.heap.size + 1) 52 2 (.slice (some ⟨g2, 0, none⟩) (M.length + 1 : Nat) cap2) (M.length + 1) (M.flatMap adcells ++ [.int .u32 x1, .int .u64 x2]) → V.grownBy w2 (u5 : Value).ownBlock → RqAt w w2 (d1, d2) (.slice (some ⟨g2, 0, none⟩) (M.length + 1 : Nat) cap2) (M ++ [(x1, x2)])) := fun g2 cap2 w2 own gr => HVB.out.push (x1, x2) own gr
                have HOK : Hid (w.heap.size + 1 ≤ V.heap.size) := by show _ ≤ _; have := HVB.out.box.lt; omega
                clear HB bV HVB
                rw [HV.out] at hnews HOW HPU HOK
                clear HV
                go_wp2_with (at_builtin; refine wpList_append_lies _ rfl _ _ 38 rfl (w.heap.size + 1) 52 i1 _ 2 16 Tryz.underlying38 hi1 hz10 hz11 hz12 rfl (by decide) u5 M.length (M.flatMap adcells) rfl HOW.out ⟨X.heap.size, 0, none⟩ 1 1 [.int .u32 x1, .int .u64 x2] rfl rfl hnews.out (by intro u' hu'; simp at hu'; rcases hu' with rfl | rfl <;> rfl) (by decide) (by unfold maxLen; omega) (by omega) HOK.out _ rfl ?_; intro g2 cap2 w2 own2 grow2 loc2 lt2; have HB := hida (HPU.out g2 cap2 w2 own2 grow2); clear own2 grow2 loc2 lt2)
                clear HOW hnews HPU HOK
                go_roundw
                case rel => exact ⟨k + 1, _, false, by go_num, rfl, rfl, by omega, HD2, by rw [HS.out]; exact HB⟩
                case measure => simp [intOf]; omega
    · have e1 : decide ((k : Int) < (L.length : Int)) = false := decide_eq_false (by omega)
      obtain rfl : k = L.length := by omega
      cases db with
      | true =>
        go_wp2_with fail
        go_ret
        refine ⟨_, rfl, ?_, HB.out.bel⟩
        unfold putEnd
        rw [if_pos HD.out]
        exact owns_base7 HB.out.own (by omega)
      | false =>
        obtain ⟨M, HM⟩ : ∃ M, Hid ((dirTo (d1, d2) L L.length).1 = M) := ⟨_, rfl⟩
        rw [HM.out] at HB hMl
        have hMl2 : M.length ≤ 1000001 := by omega
        have HS : Hid (putEnd (d1, d2) (dirTo (d1, d2) L L.length) = M ++ [(d1, d2)]) := by
          show _ = _
          unfold putEnd
          rw [if_neg (by rw [HD.out]; simp), HM.out]
        clear HD HM hMl
        obtain ⟨V, HV⟩ : ∃ V, Hid (V = wr.alloc (.cells #[.int .u32 d1, .int .u64 d2] 52)) := ⟨_, rfl⟩
        have bV : Below wr.heap.size wr V := by rw [HV.out]; exact (Below.refl _ _).alloc (Nat.le_refl _) _
        have hnews : Hid (∀ j u, [.int .u32 d1, .int .u64 d2][j]? = some u → V.cell? ((⟨wr.heap.size, 0, none⟩ : Addr).add j) = some u) := by
          show ∀ j u, _
          rw [HV.out]
          exact World.news_of_block (heap_alloc_new _ _)
        have HVB := hida (HB.out.below bV)
        have HOW : Hid (V.ownsRow (w.heap.size + 1) 52 2 u5 M.length (M.flatMap adcells)) := HVB.out.own
        have HPU : Hid (∀ (g2 cap2 : Nat) w2, w2.ownsRow (w.heap.size + 1) 52 2 (.slice (some ⟨g2, 0, none⟩) (M.length + 1 : Nat) cap2) (M.length + 1) (M.flatMap adcells ++ [.int .u32 d1, .int .u64 d2]) → V.grownBy w2 (u5 : Value).ownBlock → RqAt w w2 (d1, d2) (.slice (some ⟨g2, 0, none⟩) (M.length + 1 : Nat) cap2) (M ++ [(d1, d2)])) := fun g2 cap2 w2 own gr => HVB.out.push (d1, d2) own gr
        have HOK : Hid (w.heap.size + 1 ≤ V.heap.size) := by show _ ≤ _; have := HVB.out.box.lt; omega
        clear HB bV HVB
        rw [HV.out] at hnews HOW HPU HOK
        clear HV
        go_wp2_with (at_builtin; refine wpList_append_lies _ rfl _ _ 38 rfl (w.heap.size + 1) 52 i1 _ 2 16 Tryz.underlying38 hi1 hz10 hz11 hz12 rfl (by decide) u5 M.length (M.flatMap adcells) rfl HOW.out ⟨wr.heap.size, 0, none⟩ 1 1 [.int .u32 d1, .int .u64 d2] rfl rfl hnews.out (by intro u' hu'; simp at hu'; rcases hu' with rfl | rfl <;> rfl) (by decide) (by unfold maxLen; omega) (by omega) HOK.out _ rfl ?_; intro g2 cap2 w2 own2 grow2 loc2 lt2; have HB := hida (HPU.out g2 cap2 w2 own2 grow2); clear own2 grow2 loc2 lt2)
        clear HOW hnews HPU HOK
        go_ret
        exact ⟨_, rfl, by rw [HS.out]; exact owns_base7 HB.out.own (by omega), HB.out.bel⟩

end Go.Proofs.YtlphebebnjcidaaGreat

namespace Go.Proofs.YtlphebebnjcidaaGreat
open Go.RowKit Go.Sort Go.Shelf Go.Lib

set_option maxHeartbeats 6400000 in
set_option maxRecDepth 20000 in
theorem rfresh_any (L : List DiV) (a : Option Addr) (c : Nat) (d : DiV) (w : World) (h : DisAt w a L) (hl : L.length ≤ 1000000) :
    Calls Tryz.prog 22 #[.slice a L.length c, .agg #[.int .u32 d.1, .int .u64 d.2]] w fun e w' => ∃ v, e = .returned v ∧ (((∃ x ∈ L, x.1 = d.1) ∧ v = .slice a L.length c) ∨ ((∀ x ∈ L, x.1 ≠ d.1) ∧ rdAt w.heap.size w' v (putEnd d (dirTo d L L.length)))) ∧ Below w.heap.size w w' := by
  have HL := hida h
  have hll := hl
  clear h hl
  have HRD : Hid (∀ wx, DisAt wx a L → Calls Tryz.prog 25 #[.slice a L.length c, .agg #[.int .u32 d.1, .int .u64 d.2]] wx fun e w' => ∃ v, e = .returned v ∧ rdAt wx.heap.size w' v (putEnd d (dirTo d L L.length)) ∧ Below wx.heap.size wx w') := fun wx h => rdirty_any L a c d wx h hll
  obtain ⟨d1, d2⟩ := d
  dsimp only at HRD ⊢
  obtain ⟨W0, HW0⟩ : ∃ W0, Hid (W0 = w.alloc (.cells #[.int .u32 d1, .int .u64 d2] 52)) := ⟨_, rfl⟩
  have H0 : Hid (Below w.heap.size w W0 ∧ Blk W0 w.heap.size #[.int .u32 d1, .int .u64 d2] 52) := by
    rw [HW0.out]; exact ⟨(Below.refl _ _).alloc (Nat.le_refl _) _, Blk.made _ _ _⟩
  go_enter Tryz.func22, Tryz.ntmps22
  go_upto_region 1 with fail
  rw [← HW0.out]
  clear HW0
  go_wp2_with fail
  go_loopw [5] (fun x wr => ∃ k : Nat, x = .int .i64 k ∧ k ≤ L.length ∧ Hid (∀ j (hj : j < L.length), j < k → L[j].1 ≠ d1) ∧ Hid (Below w.heap.size w wr ∧ Blk wr w.heap.size #[.int .u32 d1, .int .u64 d2] 52)) (fun x _ => L.length - (intOf x).toNat)
  case atStart => exact ⟨0, rfl, Nat.zero_le _, fun j hj hk => absurd hk (Nat.not_lt_zero _), H0⟩
  case round =>
    obtain ⟨k, rfl, hk, HN, HB⟩ := hrel
    clear H0
    have b0 : wr.cell? ⟨w.heap.size, 0, none⟩ = some (.int .u32 d1) := HB.out.2.cell 0
    have b1 : wr.cell? ⟨w.heap.size, 1, none⟩ = some (.int .u64 d2) := HB.out.2.cell 1
    by_cases hlt : k < L.length
    · have e1 : decide ((k : Int) < (L.length : Int)) = true := decide_eq_true (by omega)
      have e2 : (0 : Int) ≤ (k : Int) := by omega
      have e3 : (k : Int) < (L.length : Int) := by omega
      obtain ⟨tb, t9, rfl, g0⟩ : ∃ b1 o1, a = some ⟨b1, o1, none⟩ ∧ wr.cell? ⟨b1, o1 + k * 2, none⟩ = some (.int .u32 (L[k].1 : Nat)) := by
        rcases HL.out.below HB.out.1 with h | ⟨b1, o1, e, hb, h⟩
        · rw [h] at hlt; simp at hlt
        · exact ⟨b1, o1, e, (h k hlt).c0⟩
      have HBD : Hid (Below w.heap.size w wr.drew ∧ Blk wr.drew w.heap.size #[.int .u32 d1, .int .u64 d2] 52) := ⟨HB.out.1.drew, HB.out.2.same rfl⟩
      by_cases heq : L[k].1 = d1
      · have HE : Hid (∃ x ∈ L, x.1 = d1) := ⟨L[k], List.getElem_mem hlt, heq⟩
        rw [heq] at g0
        have e4 : ((d1 : Int) == (d1 : Int)) = true := by simp
        clear HB HN heq HRD
        go_upto_region 4 with fail
        go_region
        all_goals
          go_wp2_with fail
          go_ret
          exact ⟨_, rfl, .inl ⟨HE.out, rfl⟩, HBD.out.1⟩
      · have e4 : ((L[k].1 : Int) == (d1 : Int)) = false := beq_eq_false_iff_ne.2 (by omega)
        have HN2 : Hid (∀ j (hj : j < L.length), j < k + 1 → L[j].1 ≠ d1) := fun j hj hjk => by
          by_cases h : j < k
          · exact HN.out j hj h
          · obtain rfl : j = k := by omega
            exact heq
        obtain ⟨y, hy⟩ : ∃ y, L[k].1 = y := ⟨_, rfl⟩
        rw [hy] at e4 g0
        clear HB HN heq hy
        go_upto_region 4 with fail
        go_region
        all_goals
          go_wp2_with fail
          go_roundw
          case rel => exact ⟨k + 1, by go_num, by omega, HN2, HBD⟩
          case measure => simp [intOf]; omega
    · have e1 : decide ((k : Int) < (L.length : Int)) = false := decide_eq_false (by omega)
      have HRR := hida (HRD.out wr (HL.out.below HB.out.1))
      have HA : Hid (∀ x ∈ L, x.1 ≠ d1) := fun x hx => by
        obtain ⟨j, hj, rfl⟩ := List.getElem_of_mem hx
        exact HN.out j hj (by omega)
      clear HN HRD
      go_wp2_with fail
      refine HRR.out.mono ?_
      rintro e w' ⟨v, rfl, ho, hb⟩
      have HF := hida (show rdAt w.heap.size w' v (putEnd (d1, d2) (dirTo (d1, d2) L L.length)) ∧ Below w.heap.size w w' from ⟨owns_base7 ho HB.out.1.size, below_chain HB.out.1 hb⟩)
      clear ho hb HB HRR
      go_wp2_with fail
      go_ret
      exact ⟨_, rfl, .inr ⟨HA.out, HF.out.1⟩, HF.out.2⟩

end Go.Proofs.YtlphebebnjcidaaGreat
