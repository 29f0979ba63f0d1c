/-
  The walk of girderref19.put.
-/
import Derived.Test.YtlphebebnjcidaaGreatAnRefAJ
set_option linter.unusedVariables false
set_option linter.unusedSimpArgs false
namespace Go.Proofs.YtlphebebnjcidaaGreat
open Go.RowKit Go.Sort Go.Shelf Go.Lib

structure RpAt (w wr : World) (t : TxV) (v : Value) (M : List TxV) : Prop where
  bel : Below w.heap.size w wr
  box : Blk wr w.heap.size (atcells t).toArray 46
  own : rsAt (w.heap.size + 1) wr v M

theorem RpAt.below {w wr wx : World} {t : TxV} {v : Value} {M : List TxV} (h : RpAt w wr t v M) (k : Below wr.heap.size wr wx) : RpAt w wx t v M :=
  ⟨below_chain h.bel k, h.box.same (k.block _ h.box.lt), owns_same7 h.own fun g hg => k.block g (h.own.lt g hg).2⟩

theorem RpAt.push {w V w2 : World} {t : TxV} {u : Value} {M : List TxV} (h : RpAt w V t u M) (x : TxV) {g2 cap2 : Nat} (own : w2.ownsRow (w.heap.size + 1) 46 4 (.slice (some ⟨g2, 0, none⟩) (M.length + 1 : Nat) cap2) (M.length + 1) (M.flatMap atcells ++ atcells x)) (gr : V.grownBy w2 u.ownBlock) :
    RpAt w w2 t (.slice (some ⟨g2, 0, none⟩) (M.length + 1 : Nat) cap2) (M ++ [x]) := by
  have hz : w.heap.size + 1 ≤ V.heap.size := by have := h.box.lt; omega
  refine ⟨h.bel.grown gr h.bel.size fun z hz => by have := (h.own.lt z hz).1; omega, h.box.same (gr.block _ h.box.lt fun e => by have := (h.own.lt _ e.symm).1; omega), ?_⟩
  unfold rsAt
  rw [List.length_append, List.flatMap_append]
  simp only [List.length_singleton, List.flatMap_cons, List.flatMap_nil, List.append_nil]
  exact own

theorem RpAt.row {w V : World} {t : TxV} {u : Value} {M : List TxV} (h : RpAt w V t u M) : V.ownsRow (w.heap.size + 1) 46 4 u M.length (M.flatMap atcells) := h.own

set_option maxHeartbeats 6400000 in
set_option maxRecDepth 20000 in
theorem rput_any (L : List TxV) (a : Option Addr) (c : Nat) (t : TxV) (w : World) (h : TxsAt w a L) (hl : L.length ≤ 1000000) :
    Calls Tryz.prog 24 #[.slice a L.length c, .agg #[.int .i64 t.1, .int .i64 t.2.1, .int .u64 t.2.2.1, .int .u64 t.2.2.2]] w fun e w' => ∃ v, e = .returned v ∧ rsAt w.heap.size w' v (putEnd t (putTo keyT t L L.length)) ∧ Below w.heap.size w w' := by
  obtain ⟨i1, hi1, hz1⟩ := Option.map_eq_some_iff.1 infoStL
  simp only [Prod.mk.injEq] at hz1
  obtain ⟨hz10, hz11, hz12⟩ := hz1
  have HL := hida h
  have hll := hl
  clear h hl
  obtain ⟨t1, t2, t3, t4⟩ := t
  dsimp only
  obtain ⟨W0, HW0⟩ : ∃ W0, Hid (W0 = w.alloc (.cells #[.int .i64 t1, .int .i64 t2, .int .u64 t3, .int .u64 t4] 46)) := ⟨_, rfl⟩
  have s0 : W0.heap.size = w.heap.size + 1 := by rw [HW0.out]; simp
  obtain ⟨W1, HW1⟩ : ∃ W1, Hid (W1 = W0.alloc (.cells #[] 46)) := ⟨_, rfl⟩
  have H0 : Hid (RpAt w W1 (t1, t2, t3, t4) (.slice (some ⟨W0.heap.size, 0, none⟩) 0 0) (putTo keyT (t1, t2, t3, t4) L 0).1) := by
    have b0 : Below w.heap.size w W0 := by rw [HW0.out]; exact (Below.refl _ _).alloc (Nat.le_refl _) _
    have b1 : Below W0.heap.size W0 W1 := by rw [HW1.out]; exact (Below.refl _ _).alloc (Nat.le_refl _) _
    have k0 : Blk W0 w.heap.size (atcells (t1, t2, t3, t4)).toArray 46 := by rw [HW0.out]; exact Blk.made _ _ _
    refine ⟨below_chain b0 b1, k0.same (b1.block _ k0.lt), ?_⟩
    rw [HW1.out]
    exact ⟨rfl, .inr ⟨W0.heap.size, 0, #[], rfl, by omega, heap_alloc_new _ _, Nat.le_refl _, Nat.zero_le _, rfl, rfl⟩⟩
  rw [s0] at H0
  go_enter Tryz.func24, Tryz.ntmps24
  go_upto_region 1 with fail
  rw [← HW0.out]
  clear HW0
  go_upto_region 2 with fail
  rw [← HW1.out]
  clear HW1
  go_wp2_with fail
  go_loopw [5, 6, 7] (fun v d x wr => ∃ (k : Nat) (u : Value) (db : Bool), x = .int .i64 k ∧ v = u ∧ d = .bool db ∧ k ≤ L.length ∧ Hid ((putTo keyT (t1, t2, t3, t4) L k).2 = db) ∧ Hid (RpAt w wr (t1, t2, t3, t4) u (putTo keyT (t1, t2, t3, t4) L k).1)) (fun _ _ x _ => L.length - (intOf x).toNat)
  case atStart => exact ⟨0, _, false, rfl, rfl, rfl, Nat.zero_le _, rfl, H0⟩
  case round =>
    obtain ⟨k, u, db, rfl, rfl, rfl, hk, HD, HB⟩ := hrel
    clear H0
    have b0 : wr.cell? ⟨w.heap.size, 0, none⟩ = some (.int .i64 t1) := HB.out.box.cell 0
    have b1 : wr.cell? ⟨w.heap.size, 1, none⟩ = some (.int .i64 t2) := HB.out.box.cell 1
    have b2 : wr.cell? ⟨w.heap.size, 2, none⟩ = some (.int .u64 t3) := HB.out.box.cell 2
    have b3 : wr.cell? ⟨w.heap.size, 3, none⟩ = some (.int .u64 t4) := HB.out.box.cell 3
    have hMl := (putTo_len (key := keyT) (t1, t2, t3, t4) L k hk).1
    by_cases hlt : k < L.length
    · have e1 : decide ((k : Int) < (L.length : Int)) = true := decide_eq_true (by omega)
      have e2 : (0 : Int) ≤ (k : Int) := by omega
      have e3 : (k : Int) < (L.length : Int) := by omega
      obtain ⟨tb, t9, rfl, g1⟩ : ∃ b1 o1, a = some ⟨b1, o1, none⟩ ∧ TxAt wr b1 (o1 + k * 4) L[k] := by
        rcases HL.out.below HB.out.bel with h | ⟨b1, o1, e, hb, h⟩
        · rw [h] at hlt; simp at hlt
        · exact ⟨b1, o1, e, h k hlt⟩
      have HT1 := hida (putTo_succ (key := keyT) (t1, t2, t3, t4) hlt)
      obtain ⟨x, hx⟩ : ∃ x, L[k] = x := ⟨_, rfl⟩
      rw [hx] at g1 HT1
      have HXX := hida hx
      clear hx
      obtain ⟨x1, x2, x3, x4⟩ := x
      obtain ⟨g0, g1, g2, g3⟩ := g1
      simp only at g0 g1 g2 g3
      by_cases heq : x1 = t1
      · have e4 : (x1 == t1) = true := by simp [heq]
        have HS : Hid (putTo keyT (t1, t2, t3, t4) L (k + 1) = putTo keyT (t1, t2, t3, t4) L k) := by
          show _ = _
          rw [HT1.out]
          unfold putS
          rw [if_pos (show keyT (x1, x2, x3, x4) = keyT (t1, t2, t3, t4) from heq)]
        have HB2 : Hid (RpAt w wr.drew (t1, t2, t3, t4) u5 (putTo keyT (t1, t2, t3, t4) L (k + 1)).1) := by
          rw [HS.out]; exact HB.out.below (Below.refl _ _).drew
        have HD2 : Hid ((putTo keyT (t1, t2, t3, t4) L (k + 1)).2 = db) := by rw [HS.out]; exact HD.out
        clear HB HD HS HT1 hMl
        go_upto_region 6 with fail
        go_region
        all_goals
          go_wp2_with fail
          go_roundw
          case rel => exact ⟨k + 1, _, db, by go_num, rfl, rfl, by omega, HD2, HB2⟩
          case measure => simp [intOf]; omega
      · have e4 : (x1 == t1) = false := beq_eq_false_iff_ne.2 heq
        obtain ⟨M, HM⟩ : ∃ M, Hid ((putTo keyT (t1, t2, t3, t4) L k).1 = M) := ⟨_, rfl⟩
        rw [HM.out] at HB hMl
        have hMl2 : M.length ≤ 1000001 := by omega
        cases db with
        | true =>
          have HS : Hid ((putTo keyT (t1, t2, t3, t4) L (k + 1)).1 = M ++ [(x1, x2, x3, x4)]) := by
            show _ = _
            rw [HT1.out]
            unfold putS
            rw [if_neg (show ¬ keyT (x1, x2, x3, x4) = keyT (t1, t2, t3, t4) from heq), if_neg (fun q => by have := q.1; rw [HD.out] at this; cases this)]
            show (putTo keyT (t1, t2, t3, t4) L k).1 ++ _ = _
            rw [HM.out]
          have HD2 : Hid ((putTo keyT (t1, t2, t3, t4) L (k + 1)).2 = true) := by
            show _ = _
            rw [HT1.out]
            unfold putS
            rw [if_neg (show ¬ keyT (x1, x2, x3, x4) = keyT (t1, t2, t3, t4) from heq), if_neg (fun q => by have := q.1; rw [HD.out] at this; cases this)]
            exact HD.out
          obtain ⟨X, HX⟩ : ∃ X, Hid (wr.drew.drew = X) := ⟨_, rfl⟩
          have HB' : Hid (RpAt w X (t1, t2, t3, t4) u5 M) := by rw [← HX.out]; exact (HB.out.below (Below.refl _ _).drew).below (Below.refl _ _).drew
          have HB := HB'
          clear HB'
          have HG := hida (show TxAt X tb (t9 + k * 4) (x1, x2, x3, x4) from by
            rw [← HX.out]; exact ⟨g0, g1, g2, g3⟩)
          clear HD HT1 HM hMl
          go_upto_region 6 with fail
          go_region
          all_goals
            go_upto_region 7 with fail
            go_region
            all_goals
              go_upto_region 10 with fail
              rw [HX.out]
              clear g0 g1 g2 g3 b0 b1 b2 b3 HX
              have g0 : X.cell? ⟨tb, t9 + k * 4, none⟩ = some (.int .i64 x1) := HG.out.c0
              have g1 : X.cell? ⟨tb, t9 + k * 4 + 1, none⟩ = some (.int .i64 x2) := HG.out.c1
              have g2 : X.cell? ⟨tb, t9 + k * 4 + 2, none⟩ = some (.int .u64 x3) := HG.out.c2
              have g3 : X.cell? ⟨tb, t9 + k * 4 + 3, none⟩ = some (.int .u64 x4) := HG.out.c3
              clear HG
              obtain ⟨V, HV⟩ : ∃ V, Hid (V = X.alloc (.cells #[.int .i64 x1, .int .i64 x2, .int .u64 x3, .int .u64 x4] 46)) := ⟨_, rfl⟩
              have bV : Below X.heap.size X V := by rw [HV.out]; exact (Below.refl _ _).alloc (Nat.le_refl _) _
              have hnews : Hid (∀ j u, [.int .i64 x1, .int .i64 x2, .int .u64 x3, .int .u64 x4][j]? = some u → V.cell? ((⟨X.heap.size, 0, none⟩ : Addr).add j) = some u) := by
                show ∀ j u, _
                rw [HV.out]
                exact World.news_of_block (heap_alloc_new _ _)
              have HVB := hida (HB.out.below bV)
              have HOW : Hid (V.ownsRow (w.heap.size + 1) 46 4 u5 M.length (M.flatMap atcells)) := HVB.out.row
              have HPU : Hid (∀ (g2 cap2 : Nat) w2, w2.ownsRow (w.heap.size + 1) 46 4 (.slice (some ⟨g2, 0, none⟩) (M.length + 1 : Nat) cap2) (M.length + 1) (M.flatMap atcells ++ [.int .i64 x1, .int .i64 x2, .int .u64 x3, .int .u64 x4]) → V.grownBy w2 (u5 : Value).ownBlock → RpAt w w2 (t1, t2, t3, t4) (.slice (some ⟨g2, 0, none⟩) (M.length + 1 : Nat) cap2) (M ++ [(x1, x2, x3, x4)])) := fun g2 cap2 w2 own gr => HVB.out.push (x1, x2, x3, x4) own gr
              have HOK : Hid (w.heap.size + 1 ≤ V.heap.size) := by show _ ≤ _; have := HVB.out.box.lt; omega
              clear HB bV HVB
              rw [HV.out] at hnews HOW HPU HOK
              clear HV
              go_wp2_with (at_builtin; refine wpList_append_lies _ rfl _ _ 37 rfl (w.heap.size + 1) 46 i1 _ 4 32 Tryz.underlying37 hi1 hz10 hz11 hz12 rfl (by decide) u5 M.length (M.flatMap atcells) rfl HOW.out ⟨X.heap.size, 0, none⟩ 1 1 [.int .i64 x1, .int .i64 x2, .int .u64 x3, .int .u64 x4] rfl rfl hnews.out (by intro u' hu'; simp at hu'; rcases hu' with rfl | rfl | rfl | rfl <;> rfl) (by decide) (by unfold maxLen; omega) (by omega) HOK.out _ rfl ?_; intro g2 cap2 w2 own2 grow2 loc2 lt2; have HB := hida (HPU.out g2 cap2 w2 own2 grow2); clear own2 grow2 loc2 lt2)
              clear HOW hnews HPU HOK
              go_roundw
              case rel => exact ⟨k + 1, _, true, by go_num, rfl, rfl, by omega, HD2, by rw [HS.out]; exact HB⟩
              case measure => simp [intOf]; omega
        | false =>
          by_cases hgt : t1 < x1
          · have e5 : decide (t1 < x1) = true := decide_eq_true hgt
            have HS : Hid ((putTo keyT (t1, t2, t3, t4) L (k + 1)).1 = M ++ [(t1, t2, t3, t4)] ++ [(x1, x2, x3, x4)]) := by
              show _ = _
              rw [HT1.out]
              unfold putS
              rw [if_neg (show ¬ keyT (x1, x2, x3, x4) = keyT (t1, t2, t3, t4) from heq), if_pos ⟨HD.out, show keyT (t1, t2, t3, t4) < keyT (x1, x2, x3, x4) from hgt⟩]
              show (putTo keyT (t1, t2, t3, t4) L k).1 ++ _ ++ _ = _
              rw [HM.out]
            have HD2 : Hid ((putTo keyT (t1, t2, t3, t4) L (k + 1)).2 = true) := by
              show _ = _
              rw [HT1.out]
              unfold putS
              rw [if_neg (show ¬ keyT (x1, x2, x3, x4) = keyT (t1, t2, t3, t4) from heq), if_pos ⟨HD.out, show keyT (t1, t2, t3, t4) < keyT (x1, x2, x3, x4) from hgt⟩]
            obtain ⟨X, HX⟩ : ∃ X, Hid (wr.drew.drew = X) := ⟨_, rfl⟩
            have HB' : Hid (RpAt w X (t1, t2, t3, t4) u5 M) := by rw [← HX.out]; exact (HB.out.below (Below.refl _ _).drew).below (Below.refl _ _).drew
            have HB := HB'
            clear HB'
            have HG0 := hida (show ∀ wx, Below w.heap.size w wx → TxAt wx tb (t9 + k * 4) (x1, x2, x3, x4) from fun wx kb => by
              rcases HL.out.below kb with h | ⟨b', o', e', hb', h⟩
              · rw [h] at hlt; simp at hlt
              · simp only [Option.some.injEq, Addr.mk.injEq, and_true] at e'
                obtain ⟨rfl, rfl⟩ := e'
                have := h k hlt
                rw [HXX.out] at this
                exact this)
            clear HD HT1 HM hMl
            go_upto_region 6 with fail
            go_region
            all_goals
              go_upto_region 7 with fail
              go_region
              all_goals
                go_upto_region 8 with fail
                rw [HX.out]
                clear g0 g1 g2 g3 b0 b1 b2 b3 HX
                have b0 : X.cell? ⟨w.heap.size, 0, none⟩ = some (.int .i64 t1) := HB.out.box.cell 0
                have b1 : X.cell? ⟨w.heap.size, 1, none⟩ = some (.int .i64 t2) := HB.out.box.cell 1
                have b2 : X.cell? ⟨w.heap.size, 2, none⟩ = some (.int .u64 t3) := HB.out.box.cell 2
                have b3 : X.cell? ⟨w.heap.size, 3, none⟩ = some (.int .u64 t4) := HB.out.box.cell 3
                obtain ⟨V, HV⟩ : ∃ V, Hid (V = X.alloc (.cells #[.int .i64 t1, .int .i64 t2, .int .u64 t3, .int .u64 t4] 46)) := ⟨_, rfl⟩
                have bV : Below X.heap.size X V := by rw [HV.out]; exact (Below.refl _ _).alloc (Nat.le_refl _) _
                have hnews : Hid (∀ j u, [.int .i64 t1, .int .i64 t2, .int .u64 t3, .int .u64 t4][j]? = some u → V.cell? ((⟨X.heap.size, 0, none⟩ : Addr).add j) = some u) := by
                  show ∀ j u, _
                  rw [HV.out]
                  exact World.news_of_block (heap_alloc_new _ _)
                have HVB := hida (HB.out.below bV)
                have HOW : Hid (V.ownsRow (w.heap.size + 1) 46 4 u5 M.length (M.flatMap atcells)) := HVB.out.row
                have HPU : Hid (∀ (g2 cap2 : Nat) w2, w2.ownsRow (w.heap.size + 1) 46 4 (.slice (some ⟨g2, 0, none⟩) (M.length + 1 : Nat) cap2) (M.length + 1) (M.flatMap atcells ++ [.int .i64 t1, .int .i64 t2, .int .u64 t3, .int .u64 t4]) → V.grownBy w2 (u5 : Value).ownBlock → RpAt w w2 (t1, t2, t3, t4) (.slice (some ⟨g2, 0, none⟩) (M.length + 1 : Nat) cap2) (M ++ [(t1, t2, t3, t4)])) := fun g2 cap2 w2 own gr => HVB.out.push (t1, t2, t3, t4) own gr
                have HOK : Hid (w.heap.size + 1 ≤ V.heap.size) := by show _ ≤ _; have := HVB.out.box.lt; omega
                clear HB bV HVB
                rw [HV.out] at hnews HOW HPU HOK
                clear HV
                go_upto_region 10 with (at_builtin; refine wpList_append_lies _ rfl _ _ 37 rfl (w.heap.size + 1) 46 i1 _ 4 32 Tryz.underlying37 hi1 hz10 hz11 hz12 rfl (by decide) u5 M.length (M.flatMap atcells) rfl HOW.out ⟨X.heap.size, 0, none⟩ 1 1 [.int .i64 t1, .int .i64 t2, .int .u64 t3, .int .u64 t4] rfl rfl hnews.out (by intro u' hu'; simp at hu'; rcases hu' with rfl | rfl | rfl | rfl <;> rfl) (by decide) (by unfold maxLen; omega) (by omega) HOK.out _ rfl ?_; intro g2 cap2 w2 own2 grow2 loc2 lt2; have HB := hida (HPU.out g2 cap2 w2 own2 grow2); clear own2 grow2 loc2 lt2)
                clear HOW hnews HPU HOK
                obtain ⟨M2, HM2⟩ : ∃ M2, Hid (M ++ [(t1, t2, t3, t4)] = M2) := ⟨_, rfl⟩
                have hN : M2.length = M.length + 1 := by rw [← HM2.out]; simp
                rw [HM2.out, ← hN] at HB
                rw [← hN]
                obtain ⟨u2, HU2⟩ : ∃ u2, Hid (Value.slice (some ⟨g2, 0, none⟩) M2.length cap2 = u2) := ⟨_, rfl⟩
                rw [HU2.out] at HB ⊢
                clear b0 b1 b2 b3

                have HG := hida (HG0.out _ HB.out.bel)
                have g0 : w2.cell? ⟨tb, t9 + k * 4, none⟩ = some (.int .i64 x1) := HG.out.c0
                have g1 : w2.cell? ⟨tb, t9 + k * 4 + 1, none⟩ = some (.int .i64 x2) := HG.out.c1
                have g2' : w2.cell? ⟨tb, t9 + k * 4 + 2, none⟩ = some (.int .u64 x3) := HG.out.c2
                have g3 : w2.cell? ⟨tb, t9 + k * 4 + 3, none⟩ = some (.int .u64 x4) := HG.out.c3
                obtain ⟨V, HV⟩ : ∃ V, Hid (V = w2.alloc (.cells #[.int .i64 x1, .int .i64 x2, .int .u64 x3, .int .u64 x4] 46)) := ⟨_, rfl⟩
                have bV : Below w2.heap.size w2 V := by rw [HV.out]; exact (Below.refl _ _).alloc (Nat.le_refl _) _
                have hnews : Hid (∀ j u, [.int .i64 x1, .int .i64 x2, .int .u64 x3, .int .u64 x4][j]? = some u → V.cell? ((⟨w2.heap.size, 0, none⟩ : Addr).add j) = some u) := by
                  show ∀ j u, _
                  rw [HV.out]
                  exact World.news_of_block (heap_alloc_new _ _)
                have HVB := hida (HB.out.below bV)
                have HOW : Hid (V.ownsRow (w.heap.size + 1) 46 4 u2 M2.length (M2.flatMap atcells)) := HVB.out.row
                have HPU : Hid (∀ (g2 cap2 : Nat) w2, w2.ownsRow (w.heap.size + 1) 46 4 (.slice (some ⟨g2, 0, none⟩) (M2.length + 1 : Nat) cap2) (M2.length + 1) (M2.flatMap atcells ++ [.int .i64 x1, .int .i64 x2, .int .u64 x3, .int .u64 x4]) → V.grownBy w2 (u2 : Value).ownBlock → RpAt w w2 (t1, t2, t3, t4) (.slice (some ⟨g2, 0, none⟩) (M2.length + 1 : Nat) cap2) (M2 ++ [(x1, x2, x3, x4)])) := fun g2 cap2 w2 own gr => HVB.out.push (x1, x2, x3, x4) own gr
                have HOK : Hid (w.heap.size + 1 ≤ V.heap.size) := by show _ ≤ _; have := HVB.out.box.lt; omega
                clear HB bV HVB
                rw [HV.out] at hnews HOW HPU HOK
                clear HV
                go_wp2_with (at_builtin; refine wpList_append_lies _ rfl _ _ 37 rfl (w.heap.size + 1) 46 i1 _ 4 32 Tryz.underlying37 hi1 hz10 hz11 hz12 rfl (by decide) u2 M2.length (M2.flatMap atcells) rfl HOW.out ⟨w2.heap.size, 0, none⟩ 1 1 [.int .i64 x1, .int .i64 x2, .int .u64 x3, .int .u64 x4] rfl rfl hnews.out (by intro u' hu'; simp at hu'; rcases hu' with rfl | rfl | rfl | rfl <;> rfl) (by decide) (by unfold maxLen; omega) (by omega) HOK.out _ rfl ?_; intro g2 cap2 w2 own2 grow2 loc2 lt2; have HB := hida (HPU.out g2 cap2 w2 own2 grow2); clear own2 grow2 loc2 lt2)
                clear HOW hnews HPU HOK
                go_roundw
                case rel => exact ⟨k + 1, _, true, by go_num, rfl, rfl, by omega, HD2, by rw [HS.out, HM2.out, ← hN]; exact HB⟩
                case measure => simp [intOf]; omega
          · have e5 : decide (t1 < x1) = false := decide_eq_false hgt
            have HS : Hid ((putTo keyT (t1, t2, t3, t4) L (k + 1)).1 = M ++ [(x1, x2, x3, x4)]) := by
              show _ = _
              rw [HT1.out]
              unfold putS
              rw [if_neg (show ¬ keyT (x1, x2, x3, x4) = keyT (t1, t2, t3, t4) from heq), if_neg (fun q => hgt q.2)]
              show (putTo keyT (t1, t2, t3, t4) L k).1 ++ _ = _
              rw [HM.out]
            have HD2 : Hid ((putTo keyT (t1, t2, t3, t4) L (k + 1)).2 = false) := by
              show _ = _
              rw [HT1.out]
              unfold putS
              rw [if_neg (show ¬ keyT (x1, x2, x3, x4) = keyT (t1, t2, t3, t4) from heq), if_neg (fun q => hgt q.2)]
              exact HD.out
            obtain ⟨X, HX⟩ : ∃ X, Hid (wr.drew.drew = X) := ⟨_, rfl⟩
            have HB' : Hid (RpAt w X (t1, t2, t3, t4) u5 M) := by rw [← HX.out]; exact (HB.out.below (Below.refl _ _).drew).below (Below.refl _ _).drew
            have HB := HB'
            clear HB'
            have HG := hida (show TxAt X tb (t9 + k * 4) (x1, x2, x3, x4) from by
              rw [← HX.out]; exact ⟨g0, g1, g2, g3⟩)
            clear HD HT1 HM hMl
            go_upto_region 6 with fail
            go_region
            all_goals
              go_upto_region 7 with fail
              go_region
              all_goals
                go_upto_region 10 with fail
                rw [HX.out]
                clear g0 g1 g2 g3 b0 b1 b2 b3 HX
                have g0 : X.cell? ⟨tb, t9 + k * 4, none⟩ = some (.int .i64 x1) := HG.out.c0
                have g1 : X.cell? ⟨tb, t9 + k * 4 + 1, none⟩ = some (.int .i64 x2) := HG.out.c1
                have g2 : X.cell? ⟨tb, t9 + k * 4 + 2, none⟩ = some (.int .u64 x3) := HG.out.c2
                have g3 : X.cell? ⟨tb, t9 + k * 4 + 3, none⟩ = some (.int .u64 x4) := HG.out.c3
                clear HG
                obtain ⟨V, HV⟩ : ∃ V, Hid (V = X.alloc (.cells #[.int .i64 x1, .int .i64 x2, .int .u64 x3, .int .u64 x4] 46)) := ⟨_, rfl⟩
                have bV : Below X.heap.size X V := by rw [HV.out]; exact (Below.refl _ _).alloc (Nat.le_refl _) _
                have hnews : Hid (∀ j u, [.int .i64 x1, .int .i64 x2, .int .u64 x3, .int .u64 x4][j]? = some u → V.cell? ((⟨X.heap.size, 0, none⟩ : Addr).add j) = some u) := by
                  show ∀ j u, _
                  rw [HV.out]
                  exact World.news_of_block (heap_alloc_new _ _)
                have HVB := hida (HB.out.below bV)
                have HOW : Hid (V.ownsRow (w.heap.size + 1) 46 4 u5 M.length (M.flatMap atcells)) := HVB.out.row
                have HPU : Hid (∀ (g2 cap2 : Nat) w2, w2.ownsRow (w.heap.size + 1) 46 4 (.slice (some ⟨g2, 0, none⟩) (M.length + 1 : Nat) cap2) (M.length + 1) (M.flatMap atcells ++ [.int .i64 x1, .int .i64 x2, .int .u64 x3, .int .u64 x4]) → V.grownBy w2 (u5 : Value).ownBlock → RpAt w w2 (t1, t2, t3, t4) (.slice (some ⟨g2, 0, none⟩) (M.length + 1 : Nat) cap2) (M ++ [(x1, x2, x3, x4)])) := fun g2 cap2 w2 own gr => HVB.out.push (x1, x2, x3, x4) own gr
                have HOK : Hid (w.heap.size + 1 ≤ V.heap.size) := by show _ ≤ _; have := HVB.out.box.lt; omega
                clear HB bV HVB
                rw [HV.out] at hnews HOW HPU HOK
                clear HV
                go_wp2_with (at_builtin; refine wpList_append_lies _ rfl _ _ 37 rfl (w.heap.size + 1) 46 i1 _ 4 32 Tryz.underlying37 hi1 hz10 hz11 hz12 rfl (by decide) u5 M.length (M.flatMap atcells) rfl HOW.out ⟨X.heap.size, 0, none⟩ 1 1 [.int .i64 x1, .int .i64 x2, .int .u64 x3, .int .u64 x4] rfl rfl hnews.out (by intro u' hu'; simp at hu'; rcases hu' with rfl | rfl | rfl | rfl <;> rfl) (by decide) (by unfold maxLen; omega) (by omega) HOK.out _ rfl ?_; intro g2 cap2 w2 own2 grow2 loc2 lt2; have HB := hida (HPU.out g2 cap2 w2 own2 grow2); clear own2 grow2 loc2 lt2)
                clear HOW hnews HPU HOK
                go_roundw
                case rel => exact ⟨k + 1, _, false, by go_num, rfl, rfl, by omega, HD2, by rw [HS.out]; exact HB⟩
                case measure => simp [intOf]; omega
    · have e1 : decide ((k : Int) < (L.length : Int)) = false := decide_eq_false (by omega)
      obtain rfl : k = L.length := by omega
      cases db with
      | true =>
        go_wp2_with fail
        go_ret
        refine ⟨_, rfl, ?_, HB.out.bel⟩
        unfold putEnd
        rw [if_pos HD.out]
        exact owns_base7 HB.out.own (by omega)
      | false =>
        obtain ⟨M, HM⟩ : ∃ M, Hid ((putTo keyT (t1, t2, t3, t4) L L.length).1 = M) := ⟨_, rfl⟩
        rw [HM.out] at HB hMl
        have hMl2 : M.length ≤ 1000001 := by omega
        have HS : Hid (putEnd (t1, t2, t3, t4) (putTo keyT (t1, t2, t3, t4) L L.length) = M ++ [(t1, t2, t3, t4)]) := by
          show _ = _
          unfold putEnd
          rw [if_neg (by rw [HD.out]; simp), HM.out]
        clear HD HM hMl
        obtain ⟨V, HV⟩ : ∃ V, Hid (V = wr.alloc (.cells #[.int .i64 t1, .int .i64 t2, .int .u64 t3, .int .u64 t4] 46)) := ⟨_, rfl⟩
        have bV : Below wr.heap.size wr V := by rw [HV.out]; exact (Below.refl _ _).alloc (Nat.le_refl _) _
        have hnews : Hid (∀ j u, [.int .i64 t1, .int .i64 t2, .int .u64 t3, .int .u64 t4][j]? = some u → V.cell? ((⟨wr.heap.size, 0, none⟩ : Addr).add j) = some u) := by
          show ∀ j u, _
          rw [HV.out]
          exact World.news_of_block (heap_alloc_new _ _)
        have HVB := hida (HB.out.below bV)
        have HOW : Hid (V.ownsRow (w.heap.size + 1) 46 4 u5 M.length (M.flatMap atcells)) := HVB.out.row
        have HPU : Hid (∀ (g2 cap2 : Nat) w2, w2.ownsRow (w.heap.size + 1) 46 4 (.slice (some ⟨g2, 0, none⟩) (M.length + 1 : Nat) cap2) (M.length + 1) (M.flatMap atcells ++ [.int .i64 t1, .int .i64 t2, .int .u64 t3, .int .u64 t4]) → V.grownBy w2 (u5 : Value).ownBlock → RpAt w w2 (t1, t2, t3, t4) (.slice (some ⟨g2, 0, none⟩) (M.length + 1 : Nat) cap2) (M ++ [(t1, t2, t3, t4)])) := fun g2 cap2 w2 own gr => HVB.out.push (t1, t2, t3, t4) own gr
        have HOK : Hid (w.heap.size + 1 ≤ V.heap.size) := by show _ ≤ _; have := HVB.out.box.lt; omega
        clear HB bV HVB
        rw [HV.out] at hnews HOW HPU HOK
        clear HV
        go_wp2_with (at_builtin; refine wpList_append_lies _ rfl _ _ 37 rfl (w.heap.size + 1) 46 i1 _ 4 32 Tryz.underlying37 hi1 hz10 hz11 hz12 rfl (by decide) u5 M.length (M.flatMap atcells) rfl HOW.out ⟨wr.heap.size, 0, none⟩ 1 1 [.int .i64 t1, .int .i64 t2, .int .u64 t3, .int .u64 t4] rfl rfl hnews.out (by intro u' hu'; simp at hu'; rcases hu' with rfl | rfl | rfl | rfl <;> rfl) (by decide) (by unfold maxLen; omega) (by omega) HOK.out _ rfl ?_; intro g2 cap2 w2 own2 grow2 loc2 lt2; have HB := hida (HPU.out g2 cap2 w2 own2 grow2); clear own2 grow2 loc2 lt2)
        clear HOW hnews HPU HOK
        go_ret
        exact ⟨_, rfl, by rw [HS.out]; exact owns_base7 HB.out.own (by omega), HB.out.bel⟩

end Go.Proofs.YtlphebebnjcidaaGreat
