/-
  The walk of girderlaw19.laid.
-/
import Derived.Test.YtlphebebnjcidaaGreatAnLaidMJ
import Derived.BigRegion
import Derived.Deep.RegionWith
import Derived.Deep.CutRange
set_option linter.unusedVariables false
set_option linter.unusedSimpArgs false
namespace Go.Proofs.YtlphebebnjcidaaGreat
open Go.RowKit Go.Sort Go.Shelf Go.Lib

theorem infoStL : (Tryz.prog.info? 46).map (fun i => (i.zero, i.size, i.bytes)) = some (some (.agg #[.int .i64 0, .int .i64 0, .int .u64 0, .int .u64 0]), 4, 32) := by kernel_rfl
theorem infoDrL : (Tryz.prog.info? 52).map (fun i => (i.zero, i.size, i.bytes)) = some (some (.agg #[.int .u32 0, .int .u64 0]), 2, 16) := by kernel_rfl
theorem infoRcL : (Tryz.prog.info? 74).map (fun i => (i.zero, i.size, i.bytes)) = some (some (.agg #[.int .u64 0, .int .i64 0, .int .i64 0, .int .u64 0, .int .u32 0, .slice none 0 0, .slice none 0 0]), 7, 88) := by kernel_rfl

structure LdOut19 (w : World) (RL : List RIn) (m : Int) (e : Ending) (w' : World) : Prop where
  ex : ∃ (q : Nat) (A : Nat → Prop) (mark i0 j : Nat) (v v' : Value) (X : List (RefV × Value × Value)), e = .returned (.tuple #[.pointer (some ⟨q, 0, none⟩), v', .bool true]) ∧
    LaAt w w' q A (laidTo RL (min RL.length 60)).1 (laidTo RL (min RL.length 60)).1.length mark j v X ∧ j ≤ 64 ∧ X.map (·.1) = (laidTo RL (min RL.length 60)).2 ∧ X.length = (laidTo RL (min RL.length 60)).1.length ∧ X.length ≤ 60 ∧
    placeOf (laidTo RL (min RL.length 60)).1 (laidTo RL (min RL.length 60)).1.length ≤ 500000 ∧
    ((0 ≤ m ∧ m < X.length ∧ i0 = m.toNat ∧ mark = placeOf (laidTo RL (min RL.length 60)).1 i0 ∧ ∃ g cap, v = .slice (some ⟨g, 0, none⟩) X.length cap ∧ v' = .slice (some ⟨g, i0 * 7, none⟩) (X.length - i0 : Nat) (cap - i0 : Nat)) ∨
      ((m < 0 ∨ (X.length : Int) ≤ m) ∧ i0 = 0 ∧ mark = 0 ∧ v' = v))

theorem laenc_any (x : RIn) (w : World) (h : x.Ok w) : Calls Tryz.prog 10 #[.agg x.cells] w fun e w' => e = .returned (if mayR x.r then .tuple #[.string (textR x.r), .int .i64 0] else .tuple #[.string ⟨#[]⟩, .int .i64 40]) ∧ Below w.heap.size w w' := by
  cases hm : mayR x.r with
  | false => exact renc_no x.r x.ta x.da x.tc x.dc w h.ok hm
  | true => exact renc_ok x.r x.ta x.da x.tc x.dc w h.ok hm h.wide

set_option maxHeartbeats 6400000 in
set_option maxRecDepth 20000 in
theorem laid19_any (RL : List RIn) (m : Int) (hm : -9223372036854775808 ≤ m ∧ m ≤ 9223372036854775807) (la : Option Addr) (lc : Nat) (w : World) (hA : InsAt w la RL) (hlen : RL.length ≤ 9000000000000000) :
    Calls Tryz.prog 5 #[.slice la RL.length lc, .int .i64 m] w (LdOut19 w RL m) := by
  obtain ⟨i1, hi1, hz1⟩ := Option.map_eq_some_iff.1 infoStL
  simp only [Prod.mk.injEq] at hz1
  obtain ⟨hz10, hz11, hz12⟩ := hz1
  obtain ⟨i2, hi2, hz2⟩ := Option.map_eq_some_iff.1 infoDrL
  simp only [Prod.mk.injEq] at hz2
  obtain ⟨hz20, hz21, hz22⟩ := hz2
  obtain ⟨i3, hi3, hz3⟩ := Option.map_eq_some_iff.1 infoRcL
  simp only [Prod.mk.injEq] at hz3
  obtain ⟨hz30, hz31, hz32⟩ := hz3
  have HAI := hida hA
  have HNW := hida (lg_new w)
  clear hA
  go_enter Tryz.func5, Tryz.ntmps5
  go_wp2_with fail
  refine HNW.out.mono ?_
  rintro e w1 ⟨dp, rfl, b1, ho⟩
  have HB1 := hida b1
  have HOP := hida ho
  clear HNW b1 ho
  go_wp2_with fail
  refine HOP.out.mono ?_
  rintro e W ⟨q, A, rfl, hL, hAn, b2⟩
  have HBW := hida (below_chain HB1.out b2)
  have HL := hida hL
  have HAN := hida hAn
  clear HB1 HOP hL hAn b2
  obtain ⟨W0, HW0⟩ : ∃ W0, Hid (W0 = W.alloc (.cells #[] 74)) := ⟨_, rfl⟩
  have H0 : Hid (LoAt w W0 q RL 0 (.slice (some ⟨W.heap.size, 0, none⟩) 0 0) A 0 []) := by
    have bW : Below W.heap.size W W0 := by rw [HW0.out]; exact (Below.refl _ _).alloc (Nat.le_refl _) _
    have e : laidTo RL 0 = ([], []) := rfl
    refine ⟨⟨below_chain HBW.out bW, HL.out.below bW, HAN.out, ?_, ?_, fun x hx => (by cases hx), fun x hx => (by cases hx)⟩, rfl, rfl, Nat.le_refl _, Nat.le_refl _, Nat.le_refl _⟩
    · rw [HW0.out]
      exact ⟨rfl, .inr ⟨W.heap.size, 0, #[], rfl, HBW.out.size, heap_alloc_new _ _, Nat.le_refl _, Nat.zero_le _, rfl, rfl⟩⟩
    · intro g hg hk
      simp only [Value.ownBlock, Option.some.injEq] at hg
      have := HL.out.lt hk
      omega
  clear HL HAN HBW
  go_upto_region 6 with fail
  rw [← HW0.out]
  clear HW0
  have HNL : Hid (RL.length ≤ 9000000000000000) := hlen
  go_wp2_with fail
  go_loopw [12, 13] (fun v12 v13 wr => ∃ (i j : Nat) (A : Nat → Prop) (v : Value) (X : List (RefV × Value × Value)), v13 = .int .i64 i ∧ v12 = v ∧ i ≤ 60 ∧ i ≤ RL.length ∧ Hid (LoAt w wr q RL i v A j X)) (fun _ x _ => 60 - (intOf x).toNat)
  case atStart => exact ⟨0, 0, A, _, [], rfl, rfl, by omega, Nat.zero_le _, H0⟩
  case round =>
    obtain ⟨i, j, A1, v, X, rfl, rfl, hi60, hil, HLO⟩ := hrel
    clear H0
    have HLA := hida HLO.out.la
    by_cases hlt : i < RL.length
    · have d1 : decide ((i : Int) < (RL.length : Int)) = true := decide_eq_true (by omega)
      by_cases h60 : i < 60
      · have d2 : decide ((i : Int) < 60) = true := decide_eq_true (by omega)
        have p1 : (0 : Int) ≤ (i : Int) := by omega
        have p2 : (i : Int) < (RL.length : Int) := by omega
        obtain ⟨x, hx⟩ : ∃ x, RL[i] = x := ⟨_, rfl⟩
        obtain ⟨b, o, rfl, HX⟩ : ∃ b o, la = some ⟨b, o, none⟩ ∧ Hid (∀ wx, Below w.heap.size w wx → wx.rangeAt b (o + i * 17) x.cells.toList ∧ x.Ok wx ∧ b < wx.heap.size) := by
          rcases HAI.out with e | ⟨b, o, e, hb, hr⟩
          · rw [e] at hlt; simp at hlt
          · refine ⟨b, o, e, fun wx k => ?_⟩
            rcases HAI.out.below k with e' | ⟨b', o', e', hb', hr'⟩
            · rw [e'] at hlt; simp at hlt
            · rw [e] at e'
              simp only [Option.some.injEq, Addr.mk.injEq, and_true] at e'
              obtain ⟨rfl, rfl⟩ := e'
              have := hr' i hlt
              rw [hx] at this
              exact ⟨this.1, this.2, hb'⟩
        have HXX := hida hx
        have HEN := hida (laenc_any x wr (HX.out wr HLA.out.bel).2.1)
        have hrow := (HX.out wr HLA.out.bel).1
        clear hx
        go_upto_region 9 with fail
        go_wp2_with (refine wpList_load_midA rfl 63 (.tmp 52) rfl b (o + i * 17) rfl x.cells _ hrow Tryz.underlying63 rfl (by kernel_rfl) ?_)
        refine HEN.out.mono ?_
        rintro e w1 ⟨rfl, b1⟩
        cases hmx : mayR x.r with
        | false =>
          have HL2 : Hid (LoAt w w1 q RL (i + 1) u12 A1 j X) := (HLO.out.below b1).skip hlt (by rw [HXX.out]; exact hmx)
          clear HLO HLA HEN b1 hrow HX HXX hmx
          go_wp2_with fail
          go_roundw
          case rel => exact ⟨i + 1, j, A1, u12, X, by go_num, rfl, by omega, by omega, HL2⟩
          case measure => simp [intOf]; omega
        | true =>
          have HL1 := hida (HLO.out.below b1)
          have HAP := hida (lg_append HL1.out.la.lg (by have := HL1.out.jj; omega) (textR x.r) (by rw [textR_size]; have := encR_len x.r; omega) (by rw [textR_size]; exact encR_8192 (may_parts hmx)) (by have := HL1.out.pl; have := encR_8192 (may_parts hmx); rw [textR_size]; omega))
          have HMX : Hid (mayR x.r = true) := hmx
          clear HLO HLA HEN b1 hrow hmx
          go_wp2_with fail
          refine HAP.out.mono ?_
          rintro e wA ⟨rfl, A2, hl2, mv2⟩
          have HLA := hida (HL1.out.la.log hl2 mv2)
          obtain ⟨P, HP⟩ : ∃ P, Hid (placeOf (laidTo RL i).1 (laidTo RL i).1.length = P) := ⟨_, rfl⟩
          rw [HP.out]
          clear HAP hl2 mv2
          obtain ⟨⟨rk, rtx, rpv, rnx, rpg, rop, run, rix, rky, rrp, rrs, rlv, T, D⟩, ta, da, tc, dc⟩ := x
          have HC : Hid (∀ wx, Below w.heap.size w wx → (wx.cell? ⟨b, o + i * 17, none⟩ = some (.int .i64 rk) ∧ wx.cell? ⟨b, o + i * 17 + 1, none⟩ = some (.int .i64 rtx) ∧ wx.cell? ⟨b, o + i * 17 + 3, none⟩ = some (.int .u64 rnx) ∧ wx.cell? ⟨b, o + i * 17 + 4, none⟩ = some (.int .u32 rpg) ∧ wx.cell? ⟨b, o + i * 17 + 15, none⟩ = some (.slice ta T.length tc) ∧ wx.cell? ⟨b, o + i * 17 + 16, none⟩ = some (.slice da D.length dc)) ∧ b < wx.heap.size ∧ TxsAt wx ta T ∧ DisAt wx da D) := by
            intro wx k
            obtain ⟨h1, h2, h3⟩ := HX.out wx k
            exact ⟨⟨h1 0 _ rfl, h1 1 _ rfl, h1 3 _ rfl, h1 4 _ rfl, h1 15 _ rfl, h1 16 _ rfl⟩, h3, h2.ok.txs, h2.ok.dirty⟩
          have HTD : Hid (T.length * 32 ≤ 140737488351232 ∧ D.length * 16 ≤ 140737488351232) := by
            obtain ⟨h1, h2, h3⟩ := HX.out wA HLA.out.bel
            exact ⟨h2.ok.tlen, h2.ok.dlen⟩
          clear HX
          go_upto_region 14 with fail
          go_cut [18] from 67 to 88 (fun v18 wx => v18 = .pointer (some ⟨wA.heap.size, 0, none⟩) ∧ Hid (Below wA.heap.size wA wx ∧ Blk wx wA.heap.size #[.int .u64 (P : Nat), .int .i64 rk, .int .i64 rtx, .int .u64 (rnx : Nat), .int .u32 (rpg : Nat), .slice none 0 0, .slice none 0 0] 74))
          case first =>
            obtain ⟨⟨c0, c1, c2, c3, _, _⟩, hbl, _⟩ := HC.out wA HLA.out.bel
            have hne : b ≠ wA.heap.size := by omega
            go_region
            all_goals
              go_wp2_with fail
              go_meet
              case rel =>
                exact ⟨rfl, hida ⟨((Below.refl _ _).alloc (Nat.le_refl _) _).drew, (Blk.made wA _ _).same rfl⟩⟩
          obtain ⟨rfl, HC1⟩ := hcut
          have HX0 : Hid (XbAt wA wc wA.heap.size ⟨P, rk, rtx, rnx, rpg, T.take 0, []⟩ (.slice none 0 0) (.slice none 0 0)) := ⟨HC1.out.1, Nat.le_refl _, HC1.out.2, ⟨rfl, .inl ⟨rfl, rfl⟩⟩, ⟨rfl, .inl ⟨rfl, rfl⟩⟩, fun g hg => by cases hg⟩
          clear HC1
          go_wp2_with fail
          go_loopw [19] (fun v19 wy => ∃ (k : Nat) (tv : Value), v19 = .int .i64 k ∧ k ≤ T.length ∧ Hid (XbAt wA wy wA.heap.size ⟨P, rk, rtx, rnx, rpg, T.take k, []⟩ tv (.slice none 0 0))) (fun x _ => T.length - (intOf x).toNat)
          case atStart => exact ⟨0, _, rfl, Nat.zero_le _, HX0⟩
          case round =>
            obtain ⟨k, tv, rfl, hk, HXB⟩ := hrel
            clear HX0
            obtain ⟨⟨_, _, _, _, c4, c5⟩, hbl, htx, hdi⟩ := HC.out _ (below_chain HLA.out.bel HXB.out.bel)
            by_cases hkt : k < T.length
            · have e1 : decide ((k : Int) < (T.length : Int)) = true := decide_eq_true (by omega)
              have e2 : (0 : Int) ≤ (k : Int) := by omega
              have e3 : (k : Int) < (T.length : Int) := by omega
              obtain ⟨tb, t9, rfl, g1⟩ : ∃ b1 o1, ta = some ⟨b1, o1, none⟩ ∧ TxAt wr b1 (o1 + k * 4) T[k] := by
                rcases htx with h | ⟨b1, o1, e, hb, h⟩
                · rw [h] at hkt; simp at hkt
                · exact ⟨b1, o1, e, h k hkt⟩
              have HT1 : Hid (T.take (k + 1) = T.take k ++ [T[k]]) := List.take_succ_eq_append_getElem hkt
              obtain ⟨t, ht⟩ : ∃ t, T[k] = t := ⟨_, rfl⟩
              rw [ht] at g1 HT1
              clear ht
              obtain ⟨x1, x2, x3, x4⟩ := t
              obtain ⟨g0, g1, g2, g3⟩ := g1
              simp only at g0 g1 g2 g3
              obtain ⟨V, HV⟩ : ∃ V, Hid (V = wr.alloc (.cells #[.int .i64 x1, .int .i64 x2, .int .u64 x3, .int .u64 x4] 44)) := ⟨_, rfl⟩
              have bV : Below wr.heap.size wr V := by rw [HV.out]; exact (Below.refl _ _).alloc (Nat.le_refl _) _
              have rV : RowV V wr.heap.size 4 (four (.int .i64 x1) (.int .i64 x2) (.int .u64 x3) (.int .u64 x4)) := by rw [HV.out]; exact RowV.four_new _ _ _ _ _ _
              obtain ⟨U, HU⟩ : ∃ U, Hid (U = V.alloc (.cells #[.int .i64 x1, .int .i64 x2, .int .u64 x3, .int .u64 x4] 46)) := ⟨_, rfl⟩
              have bU : Below V.heap.size V U := by rw [HU.out]; exact (Below.refl _ _).alloc (Nat.le_refl _) _
              have HFU := hida ((HXB.out.below bV).below bU)
              have hnews : Hid (∀ j u, [Value.int .i64 x1, Value.int .i64 x2, Value.int .u64 x3, Value.int .u64 x4][j]? = some u → U.cell? ((⟨V.heap.size, 0, none⟩ : Addr).add j) = some u) := by
                show ∀ j u, _
                rw [HU.out]
                exact World.news_of_block (heap_alloc_new _ _)
              have hlenL : (T.take k).length = k := by rw [List.length_take]; omega
              have htl := HTD.out.1
              have HPU : Hid (∀ (g2 cap2 : Nat) w2, w2.ownsRow (wA.heap.size + 1) 46 4 (.slice (some ⟨g2, 0, none⟩) (k + 1 : Nat) cap2) (k + 1) ((T.take k).flatMap atcells ++ [.int .i64 x1, .int .i64 x2, .int .u64 x3, .int .u64 x4]) → U.grownBy w2 tv.ownBlock → (tv.ownBlock = some g2 ∨ g2 = U.heap.size) →
                  XbAt wA (w2.setCell ⟨wA.heap.size, 5, none⟩ (.slice (some ⟨g2, 0, none⟩) (k + 1 : Nat) cap2)) wA.heap.size ⟨P, rk, rtx, rnx, rpg, T.take (k + 1), []⟩ (.slice (some ⟨g2, 0, none⟩) (k + 1 : Nat) cap2) (.slice none 0 0) ∧ w2.frozen? ⟨wA.heap.size, 5, none⟩ = false ∧ w2.cell? ⟨wA.heap.size, 5, none⟩ = some tv) := by
                intro g2 cap2 w2 own2 grow2 loc2
                have hp := HFU.out.push1 (x1, x2, x3, x4) (g2 := g2) (cap2 := cap2) (w2 := w2) (by rw [hlenL]; exact own2) grow2 loc2
                rw [hlenL] at hp
                rw [HT1.out]
                exact hp
              have HOK : Hid (wA.heap.size + 1 ≤ U.heap.size) := by show _ ≤ _; have := HFU.out.box.lt; omega
              have HVF := hida (show V.cell? ⟨wA.heap.size, 5, none⟩ = some tv from (HXB.out.below bV).box.cell 5)
              obtain ⟨a0, a1, a2, a3⟩ := rV.cells4
              have HOW : Hid (U.ownsRow (wA.heap.size + 1) 46 4 tv k ((T.take k).flatMap atcells)) := by
                have := HFU.out.own1
                unfold rsAt at this
                rw [hlenL] at this
                exact this
              clear HXB bV bU rV hlenL htx hdi HT1 HFU
              go_upto_region 19 with fail
              rw [← HV.out]
              clear HV g0 g1 g2 g3 c4 c5
              have b0 := HVF.out
              rw [HU.out] at hnews HPU HOK HOW
              clear HU HVF
              go_wp2_with (at_builtin; refine wpList_append_lies _ rfl _ _ 37 rfl (wA.heap.size + 1) 46 i1 _ 4 32 Tryz.underlying37 hi1 hz10 hz11 hz12 rfl (by decide) tv k ((T.take k).flatMap atcells) rfl HOW.out ⟨V.heap.size, 0, none⟩ 1 1 [.int .i64 x1, .int .i64 x2, .int .u64 x3, .int .u64 x4] rfl rfl hnews.out (by intro u' hu'; simp at hu'; rcases hu' with rfl | rfl | rfl | rfl <;> rfl) (by decide) (by unfold maxLen; omega) (by omega) HOK.out _ rfl ?_; intro g2 cap2 w2 own2 grow2 loc2 lt2; have HN := hida (HPU.out g2 cap2 w2 own2 grow2 loc2); have z0 := HN.out.2.1; have z1 := HN.out.2.2; clear own2 grow2 loc2 lt2)
              go_roundw
              case rel => exact ⟨k + 1, _, by go_num, by omega, HN.out.1⟩
              case measure => simp [intOf]; omega
            · have e1 : decide ((k : Int) < (T.length : Int)) = false := decide_eq_false (by omega)
              obtain rfl : k = T.length := by omega
              have HX1 : Hid (XbAt wA wr wA.heap.size ⟨P, rk, rtx, rnx, rpg, T, D.take 0⟩ tv (.slice none 0 0)) := by
                have := HXB.out
                rw [List.take_length] at this
                exact this
              clear HXB htx hdi
              go_wp2_with fail
              go_loopw [21] (fun v21 wy => ∃ (k : Nat) (dv : Value), v21 = .int .i64 k ∧ k ≤ D.length ∧ Hid (XbAt wA wy wA.heap.size ⟨P, rk, rtx, rnx, rpg, T, D.take k⟩ tv dv)) (fun x _ => D.length - (intOf x).toNat)
              case atStart => exact ⟨0, _, rfl, Nat.zero_le _, HX1⟩
              case round =>
                obtain ⟨k, dv, rfl, hk, HXB⟩ := hrel
                clear HX1 c4 c5
                obtain ⟨⟨_, _, _, _, c4, c5⟩, hbl, htx, hdi⟩ := HC.out _ (below_chain HLA.out.bel HXB.out.bel)
                by_cases hkt : k < D.length
                · have e1 : decide ((k : Int) < (D.length : Int)) = true := decide_eq_true (by omega)
                  have e2 : (0 : Int) ≤ (k : Int) := by omega
                  have e3 : (k : Int) < (D.length : Int) := by omega
                  obtain ⟨tb, t9, rfl, htb, g1⟩ : ∃ b1 o1, da = some ⟨b1, o1, none⟩ ∧ b1 < wr.heap.size ∧ DiAt wr b1 (o1 + k * 2) D[k] := by
                    rcases hdi with h | ⟨b1, o1, e, hb, h⟩
                    · rw [h] at hkt; simp at hkt
                    · exact ⟨b1, o1, e, hb, h k hkt⟩
                  have HT1 : Hid (D.take (k + 1) = D.take k ++ [D[k]]) := List.take_succ_eq_append_getElem hkt
                  obtain ⟨t, ht⟩ : ∃ t, D[k] = t := ⟨_, rfl⟩
                  rw [ht] at g1 HT1
                  clear ht
                  obtain ⟨x1, x2⟩ := t
                  obtain ⟨g0, g1⟩ := g1
                  simp only at g0 g1
                  have hlenL : (D.take k).length = k := by rw [List.length_take]; omega
                  have htl := HTD.out.2
                  have hbx := HXB.out.box.lt
                  have hn1 : b ≠ wr.heap.size := by omega
                  have hn2 : tb ≠ wr.heap.size := by omega
                  have hn3 : wA.heap.size ≠ wr.heap.size := by omega
                  have b0 : wr.cell? ⟨wA.heap.size, 6, none⟩ = some dv := HXB.out.box.cell 6
                  have HOW : Hid (∀ V, RowKit.Below wr.heap.size wr V → V.ownsRow (wA.heap.size + 1) 52 2 dv k ((D.take k).flatMap adcells)) := by
                    intro V kb
                    have := (HXB.out.below kb).own2
                    unfold rdAt at this
                    rw [hlenL] at this
                    exact this
                  have HPU : Hid (∀ (U : World) (g2 cap2 : Nat) w2, RowKit.Below wr.heap.size wr U → w2.ownsRow (wA.heap.size + 1) 52 2 (.slice (some ⟨g2, 0, none⟩) (k + 1 : Nat) cap2) (k + 1) ((D.take k).flatMap adcells ++ [.int .u32 x1, .int .u64 x2]) → U.grownBy w2 dv.ownBlock → (dv.ownBlock = some g2 ∨ g2 = U.heap.size) →
                      XbAt wA (w2.setCell ⟨wA.heap.size, 6, none⟩ (.slice (some ⟨g2, 0, none⟩) (k + 1 : Nat) cap2)) wA.heap.size ⟨P, rk, rtx, rnx, rpg, T, D.take (k + 1)⟩ tv (.slice (some ⟨g2, 0, none⟩) (k + 1 : Nat) cap2) ∧ w2.frozen? ⟨wA.heap.size, 6, none⟩ = false ∧ w2.cell? ⟨wA.heap.size, 6, none⟩ = some dv) := by
                    intro U g2 cap2 w2 kb own2 grow2 loc2
                    have hp := (HXB.out.below kb).push2 (x1, x2) (g2 := g2) (cap2 := cap2) (w2 := w2) (by rw [hlenL]; exact own2) grow2 loc2
                    rw [hlenL] at hp
                    rw [HT1.out]
                    exact hp
                  have H1S : Hid (∀ u ∈ ([.int .u32 x1, .int .u64 x2] : List Value), u.oneCell' = true) := by
                    intro u hu
                    simp at hu
                    rcases hu with rfl | rfl <;> rfl
                  have HOK : Hid (∀ V : World, RowKit.Below wr.heap.size wr V → wA.heap.size + 1 ≤ V.heap.size) := fun V kb => by have := kb.size; omega
                  have HBA : Hid (RowKit.Below wr.heap.size wr (wr.alloc (.cells #[.int .u32 x1, .int .u64 x2] 52))) := (Below.refl _ _).alloc (Nat.le_refl _) _
                  have HS2 : Hid (∀ (U : World) w2, RowKit.Below wr.heap.size wr U → U.grownBy w2 dv.ownBlock → (fun wy : World => wy.cell? ⟨b, o + i * 17 + 16, none⟩ = some (.slice (some ⟨tb, t9, none⟩) D.length dc) ∧ wy.cell? ⟨tb, t9 + k * 2, none⟩ = some (.int .u32 x1) ∧ wy.cell? ⟨tb, t9 + k * 2 + 1, none⟩ = some (.int .u64 x2)) w2 ∧ ∀ v, (fun wy : World => wy.cell? ⟨b, o + i * 17 + 16, none⟩ = some (.slice (some ⟨tb, t9, none⟩) D.length dc) ∧ wy.cell? ⟨tb, t9 + k * 2, none⟩ = some (.int .u32 x1) ∧ wy.cell? ⟨tb, t9 + k * 2 + 1, none⟩ = some (.int .u64 x2)) (w2.setCell ⟨wA.heap.size, 6, none⟩ v)) := by
                    intro U w2 kb gr
                    obtain ⟨_, hbA, _, hdA⟩ := HC.out _ HLA.out.bel
                    have htA : tb < wA.heap.size := by
                      rcases hdA with h | ⟨b1, o1, e, hb, h⟩
                      · rw [h] at hkt; simp at hkt
                      · simp only [Option.some.injEq, Addr.mk.injEq, and_true] at e
                        obtain ⟨rfl, rfl⟩ := e
                        exact hb
                    have hkp : ∀ z, z ≤ wA.heap.size → w2.heap[z]? = wr.heap[z]? := fun z hz => (gr.block z (by have := kb.size; omega) (fun e => by have := (HXB.out.own2.lt z e.symm).1; omega)).trans (kb.block z (by omega))
                    refine ⟨⟨(World.cell?_of_block (w := wr) (a := ⟨b, o + i * 17 + 16, none⟩) (hkp b (by omega))).trans c5, (World.cell?_of_block (w := wr) (a := ⟨tb, t9 + k * 2, none⟩) (hkp tb (by omega))).trans g0, (World.cell?_of_block (w := wr) (a := ⟨tb, t9 + k * 2 + 1, none⟩) (hkp tb (by omega))).trans g1⟩, fun v => ?_⟩
                    have hks : ∀ z, z < wA.heap.size → (w2.setCell ⟨wA.heap.size, 6, none⟩ v).heap[z]? = wr.heap[z]? := fun z hz => (Below.heap_setCell _ _ _ _ (by show z ≠ wA.heap.size; omega)).trans (hkp z (by omega))
                    exact ⟨(World.cell?_of_block (w := wr) (a := ⟨b, o + i * 17 + 16, none⟩) (hks b (by omega))).trans c5, (World.cell?_of_block (w := wr) (a := ⟨tb, t9 + k * 2, none⟩) (hks tb (by omega))).trans g0, (World.cell?_of_block (w := wr) (a := ⟨tb, t9 + k * 2 + 1, none⟩) (hks tb (by omega))).trans g1⟩
                  clear HXB htx hdi hlenL HT1
                  go_upto_region 23 with fail
                  --R23
                  refine wp_region_held_drew (S := (fun wy => wy.cell? ⟨b, o + i * 17 + 16, none⟩ = some (.slice (some ⟨tb, t9, none⟩) D.length dc) ∧ wy.cell? ⟨tb, t9 + k * 2, none⟩ = some (.int .u32 x1) ∧ wy.cell? ⟨tb, t9 + k * 2 + 1, none⟩ = some (.int .u64 x2))) (by kernel_rfl) ?_ (fun hHeld => ?_)
                  · (try dsimp only); go_keep
                  refine wpAnyH_take (i := 0) (v := ?_) rfl (by kernel_rfl) (by kernel_rfl) (by kernel_rfl) (fun _ _ _ h => h) (Or.inl ⟨by rfl, ?_⟩) (by assumption) ?_
                  rotate_left
                  · (intro w hSw; (try dsimp only at hSw); go_simp; try with_reducible rfl)
                  try simp only [Act.put, List.setIfInBounds_toArray, List.set_cons_zero, List.set_cons_succ]
                  refine wpAnyH_take (i := 2) (v := ?_) rfl (by kernel_rfl) (by kernel_rfl) (by kernel_rfl) (fun _ _ _ h => h) (Or.inl ⟨by rfl, ?_⟩) (by assumption) ?_
                  rotate_left
                  · (intro w hSw; (try dsimp only at hSw); go_simp; try with_reducible rfl)
                  try simp only [Act.put, List.setIfInBounds_toArray, List.set_cons_zero, List.set_cons_succ]
                  refine wpAnyH_take (i := 3) (v := ?_) rfl (by kernel_rfl) (by kernel_rfl) (by kernel_rfl) (fun _ _ _ h => h) (Or.inl ⟨by rfl, ?_⟩) (by assumption) ?_
                  rotate_left
                  · (intro w hSw; (try dsimp only at hSw); go_simp; try with_reducible rfl)
                  try simp only [Act.put, List.setIfInBounds_toArray, List.set_cons_zero, List.set_cons_succ]
                  refine wpAnyH_take (i := 4) (v := ?_) rfl (by kernel_rfl) (by kernel_rfl) (by kernel_rfl) (fun _ _ _ h => h) (Or.inl ⟨by rfl, ?_⟩) (by assumption) ?_
                  rotate_left
                  · (intro w hSw; (try dsimp only at hSw); go_simp; try with_reducible rfl)
                  try simp only [Act.put, List.setIfInBounds_toArray, List.set_cons_zero, List.set_cons_succ]
                  refine wpAnyH_take (i := 5) (v := ?_) rfl (by kernel_rfl) (by kernel_rfl) (by kernel_rfl) (fun _ _ _ h => h) (Or.inl ⟨by rfl, ?_⟩) (by assumption) ?_
                  rotate_left
                  · (intro w hSw; (try dsimp only at hSw); go_simp; try with_reducible rfl)
                  try simp only [Act.put, List.setIfInBounds_toArray, List.set_cons_zero, List.set_cons_succ]
                  refine wpAnyH_take (i := 6) (v := ?_) rfl (by kernel_rfl) (by kernel_rfl) (by kernel_rfl) (fun _ _ _ h => h) (Or.inl ⟨by rfl, ?_⟩) (by assumption) ?_
                  rotate_left
                  · (intro w hSw; (try dsimp only at hSw); go_simp; try with_reducible rfl)
                  try simp only [Act.put, List.setIfInBounds_toArray, List.set_cons_zero, List.set_cons_succ]
                  refine wpAnyH_take (i := 7) (v := ?_) rfl (by kernel_rfl) (by kernel_rfl) (by kernel_rfl) (fun _ _ _ h => h) (Or.inl ⟨by rfl, ?_⟩) (by assumption) ?_
                  rotate_left
                  · (intro w hSw; (try dsimp only at hSw); go_simp; try with_reducible rfl)
                  try simp only [Act.put, List.setIfInBounds_toArray, List.set_cons_zero, List.set_cons_succ]
                  refine wpAnyH_take (i := 8) (v := ?_) rfl (by kernel_rfl) (by kernel_rfl) (by kernel_rfl) (fun _ _ _ h => h) (Or.inl ⟨by rfl, ?_⟩) (by assumption) ?_
                  rotate_left
                  · (intro w hSw; (try dsimp only at hSw); go_simp; try with_reducible rfl)
                  try simp only [Act.put, List.setIfInBounds_toArray, List.set_cons_zero, List.set_cons_succ]
                  refine wpAnyH_take (i := 9) (v := ?_) rfl (by kernel_rfl) (by kernel_rfl) (by kernel_rfl) (fun _ _ _ h => h) (Or.inl ⟨by rfl, ?_⟩) (by assumption) ?_
                  rotate_left
                  · (intro w hSw; (try dsimp only at hSw); go_simp; try with_reducible rfl)
                  try simp only [Act.put, List.setIfInBounds_toArray, List.set_cons_zero, List.set_cons_succ]
                  refine wpAnyH_take (i := 10) (v := ?_) rfl (by kernel_rfl) (by kernel_rfl) (by kernel_rfl) (fun _ _ _ h => h) (Or.inl ⟨by rfl, ?_⟩) (by assumption) ?_
                  rotate_left
                  · (intro w hSw; (try dsimp only at hSw); go_simp; try with_reducible rfl)
                  try simp only [Act.put, List.setIfInBounds_toArray, List.set_cons_zero, List.set_cons_succ]
                  refine wpAnyH_take (i := 11) (v := ?_) rfl (by kernel_rfl) (by kernel_rfl) (by kernel_rfl) (fun _ _ _ h => h) (Or.inl ⟨by rfl, ?_⟩) (by assumption) ?_
                  rotate_left
                  · (intro w hSw; (try dsimp only at hSw); go_simp; try with_reducible rfl)
                  try simp only [Act.put, List.setIfInBounds_toArray, List.set_cons_zero, List.set_cons_succ]
                  refine wpAnyH_take (i := 12) (v := ?_) rfl (by kernel_rfl) (by kernel_rfl) (by kernel_rfl) (fun _ _ _ h => h) (Or.inl ⟨by rfl, ?_⟩) (by assumption) ?_
                  rotate_left
                  · (intro w hSw; (try dsimp only at hSw); go_simp; try with_reducible rfl)
                  try simp only [Act.put, List.setIfInBounds_toArray, List.set_cons_zero, List.set_cons_succ]
                  refine wpAnyH_take (i := 13) (v := ?_) rfl (by kernel_rfl) (by kernel_rfl) (by kernel_rfl) (fun _ _ _ h => h) (Or.inl ⟨by rfl, ?_⟩) (by assumption) ?_
                  rotate_left
                  · (intro w hSw; (try dsimp only at hSw); go_simp; try with_reducible rfl)
                  try simp only [Act.put, List.setIfInBounds_toArray, List.set_cons_zero, List.set_cons_succ]
                  refine wpAnyH_take (i := 14) (v := ?_) rfl (by kernel_rfl) (by kernel_rfl) (by kernel_rfl) (fun _ _ _ h => h) (Or.inl ⟨by rfl, ?_⟩) (by assumption) ?_
                  rotate_left
                  · (intro w hSw; (try dsimp only at hSw); go_simp; try with_reducible rfl)
                  try simp only [Act.put, List.setIfInBounds_toArray, List.set_cons_zero, List.set_cons_succ]
                  refine wpAnyH_take (i := 15) (v := ?_) rfl (by kernel_rfl) (by kernel_rfl) (by kernel_rfl) (fun _ _ _ h => h) (Or.inl ⟨by rfl, ?_⟩) (by assumption) ?_
                  rotate_left
                  · (intro w hSw; (try dsimp only at hSw); go_simp; try with_reducible rfl)
                  try simp only [Act.put, List.setIfInBounds_toArray, List.set_cons_zero, List.set_cons_succ]
                  refine wpAnyH_take (i := 16) (v := ?_) rfl (by kernel_rfl) (by kernel_rfl) (by kernel_rfl) (fun _ _ _ h => h) (Or.inl ⟨by rfl, ?_⟩) (by assumption) ?_
                  rotate_left
                  · (intro w hSw; (try dsimp only at hSw); go_simp; try with_reducible rfl)
                  try simp only [Act.put, List.setIfInBounds_toArray, List.set_cons_zero, List.set_cons_succ]
                  refine wpAnyH_take (i := 17) (v := ?_) rfl (by kernel_rfl) (by kernel_rfl) (by kernel_rfl) (fun _ _ _ h => h) (Or.inl ⟨by rfl, ?_⟩) (by assumption) ?_
                  rotate_left
                  · (intro w hSw; (try dsimp only at hSw); go_simp; try with_reducible rfl)
                  try simp only [Act.put, List.setIfInBounds_toArray, List.set_cons_zero, List.set_cons_succ]
                  refine wpAnyH_take (i := 18) (v := ?_) rfl (by kernel_rfl) (by kernel_rfl) (by kernel_rfl) (fun _ _ _ h => h) (Or.inl ⟨by rfl, ?_⟩) (by assumption) ?_
                  rotate_left
                  · (intro w hSw; (try dsimp only at hSw); go_simp; try with_reducible rfl)
                  try simp only [Act.put, List.setIfInBounds_toArray, List.set_cons_zero, List.set_cons_succ]
                  refine wpAnyH_take (i := 19) (v := ?_) rfl (by kernel_rfl) (by kernel_rfl) (by kernel_rfl) (fun _ _ _ h => h) (Or.inl ⟨by rfl, ?_⟩) (by assumption) ?_
                  rotate_left
                  · (intro w hSw; (try dsimp only at hSw); go_simp; try with_reducible rfl)
                  try simp only [Act.put, List.setIfInBounds_toArray, List.set_cons_zero, List.set_cons_succ]
                  refine wpAnyH_take (i := 20) (v := ?_) rfl (by kernel_rfl) (by kernel_rfl) (by kernel_rfl) (fun _ _ _ h => h) (Or.inl ⟨by rfl, ?_⟩) (by assumption) ?_
                  rotate_left
                  · (intro w hSw; (try dsimp only at hSw); go_simp; try with_reducible rfl)
                  try simp only [Act.put, List.setIfInBounds_toArray, List.set_cons_zero, List.set_cons_succ]
                  refine wpAnyH_ready (rs := [1, 21]) (by kernel_rfl) (by simp) ?_
                  refine AllReadyH.cons rfl (fun K hK => ?_) ?_
                  · go_simp
                    refine hK.out _ _ ?_ (fun hHeld => ?_)
                    · (try dsimp only); (first | go_keep | exact S2.1 | exact S2.2 _)
                    clear hK K
                    try simp only [Act.put, List.setIfInBounds_toArray, List.set_cons_zero, List.set_cons_succ]
                    refine wpAnyH_ready (rs := [21]) (by kernel_rfl) (by simp) ?_
                    refine AllReadyH.cons rfl (fun K hK => ?_) AllReadyH.nil
                    go_simp
                    refine hK.out _ _ ?_ (fun hHeld => ?_)
                    · (try dsimp only); (first | go_keep | exact S2.1 | exact S2.2 _)
                    clear hK K
                    try simp only [Act.put, List.setIfInBounds_toArray, List.set_cons_zero, List.set_cons_succ]
                    refine wpAnyH_ready (rs := [22]) (by kernel_rfl) (by simp) ?_
                    refine AllReadyH.cons rfl (fun K hK => ?_) AllReadyH.nil
                    (refine step_append_lies _ (by rfl) _ _ 38 (by rfl) (wA.heap.size + 1) 52 i2 _ 2 16 Tryz.underlying38 hi2 hz20 hz21 hz22 (by rfl) (by decide) dv k ((D.take k).flatMap adcells) (by rfl) (HOW.out _ (by first | exact HBA.out | exact HBA.out.drew)) ⟨wr.heap.size, 0, none⟩ 1 1 [.int .u32 x1, .int .u64 x2] (by rfl) (by rfl) (World.news_of_block (heap_alloc_new wr _)) H1S.out (by decide) (by unfold maxLen; omega) (by omega) (HOK.out _ (by first | exact HBA.out | exact HBA.out.drew)) _ (by rfl) ?_; intro g2 cap2 w2 own2 grow2 loc2 lt2; have HN := hida (HPU.out _ g2 cap2 w2 (by first | exact HBA.out | exact HBA.out.drew) own2 grow2 loc2); have S2 := HS2.out _ w2 (by first | exact HBA.out | exact HBA.out.drew) grow2; have z0 := HN.out.2.1; have z1 := HN.out.2.2)
                    refine hK.out _ _ ?_ (fun hHeld => ?_)
                    · (try dsimp only); (first | go_keep | exact S2.1 | exact S2.2 _)
                    clear hK K
                    try simp only [Act.put, List.setIfInBounds_toArray, List.set_cons_zero, List.set_cons_succ]
                    refine wpAnyH_take (i := 23) (v := ?_) rfl (by kernel_rfl) (by kernel_rfl) (by kernel_rfl) (fun _ _ _ h => h) (Or.inl ⟨by rfl, ?_⟩) (by assumption) ?_
                    rotate_left
                    · (intro w hSw; (try dsimp only at hSw); go_simp; try with_reducible rfl)
                    try simp only [Act.put, List.setIfInBounds_toArray, List.set_cons_zero, List.set_cons_succ]
                    refine wpAnyH_ready (rs := [24]) (by kernel_rfl) (by simp) ?_
                    refine AllReadyH.cons rfl (fun K hK => ?_) AllReadyH.nil
                    go_simp
                    refine hK.out _ _ ?_ (fun hHeld => ?_)
                    · (try dsimp only); (first | go_keep | exact S2.1 | exact S2.2 _)
                    clear hK K
                    try simp only [Act.put, List.setIfInBounds_toArray, List.set_cons_zero, List.set_cons_succ]
                    refine wpAnyH_done (by kernel_rfl) ?_ _
                    clear own2 grow2 loc2 lt2 S2
                    go_wp2_with fail
                    go_roundw
                    case rel => exact ⟨k + 1, _, by go_num, by omega, by first | exact HN.out.1 | exact hida HN.out.1⟩
                    case measure => simp [intOf]; omega
                  refine AllReadyH.cons rfl (fun K hK => ?_) AllReadyH.nil
                  go_simp
                  refine hK.out _ _ ?_ (fun hHeld => ?_)
                  · (try dsimp only); (first | go_keep | exact S2.1 | exact S2.2 _)
                  clear hK K
                  try simp only [Act.put, List.setIfInBounds_toArray, List.set_cons_zero, List.set_cons_succ]
                  refine wpAnyH_ready (rs := [1]) (by kernel_rfl) (by simp) ?_
                  refine AllReadyH.cons rfl (fun K hK => ?_) AllReadyH.nil
                  go_simp
                  refine hK.out _ _ ?_ (fun hHeld => ?_)
                  · (try dsimp only); (first | go_keep | exact S2.1 | exact S2.2 _)
                  clear hK K
                  try simp only [Act.put, List.setIfInBounds_toArray, List.set_cons_zero, List.set_cons_succ]
                  refine wpAnyH_ready (rs := [22]) (by kernel_rfl) (by simp) ?_
                  refine AllReadyH.cons rfl (fun K hK => ?_) AllReadyH.nil
                  (refine step_append_lies _ (by rfl) _ _ 38 (by rfl) (wA.heap.size + 1) 52 i2 _ 2 16 Tryz.underlying38 hi2 hz20 hz21 hz22 (by rfl) (by decide) dv k ((D.take k).flatMap adcells) (by rfl) (HOW.out _ (by first | exact HBA.out | exact HBA.out.drew)) ⟨wr.heap.size, 0, none⟩ 1 1 [.int .u32 x1, .int .u64 x2] (by rfl) (by rfl) (World.news_of_block (heap_alloc_new wr _)) H1S.out (by decide) (by unfold maxLen; omega) (by omega) (HOK.out _ (by first | exact HBA.out | exact HBA.out.drew)) _ (by rfl) ?_; intro g2 cap2 w2 own2 grow2 loc2 lt2; have HN := hida (HPU.out _ g2 cap2 w2 (by first | exact HBA.out | exact HBA.out.drew) own2 grow2 loc2); have S2 := HS2.out _ w2 (by first | exact HBA.out | exact HBA.out.drew) grow2; have z0 := HN.out.2.1; have z1 := HN.out.2.2)
                  refine hK.out _ _ ?_ (fun hHeld => ?_)
                  · (try dsimp only); (first | go_keep | exact S2.1 | exact S2.2 _)
                  clear hK K
                  try simp only [Act.put, List.setIfInBounds_toArray, List.set_cons_zero, List.set_cons_succ]
                  refine wpAnyH_take (i := 23) (v := ?_) rfl (by kernel_rfl) (by kernel_rfl) (by kernel_rfl) (fun _ _ _ h => h) (Or.inl ⟨by rfl, ?_⟩) (by assumption) ?_
                  rotate_left
                  · (intro w hSw; (try dsimp only at hSw); go_simp; try with_reducible rfl)
                  try simp only [Act.put, List.setIfInBounds_toArray, List.set_cons_zero, List.set_cons_succ]
                  refine wpAnyH_ready (rs := [24]) (by kernel_rfl) (by simp) ?_
                  refine AllReadyH.cons rfl (fun K hK => ?_) AllReadyH.nil
                  go_simp
                  refine hK.out _ _ ?_ (fun hHeld => ?_)
                  · (try dsimp only); (first | go_keep | exact S2.1 | exact S2.2 _)
                  clear hK K
                  try simp only [Act.put, List.setIfInBounds_toArray, List.set_cons_zero, List.set_cons_succ]
                  refine wpAnyH_done (by kernel_rfl) ?_ _
                  clear own2 grow2 loc2 lt2 S2
                  go_wp2_with fail
                  go_roundw
                  case rel => exact ⟨k + 1, _, by go_num, by omega, by first | exact HN.out.1 | exact hida HN.out.1⟩
                  case measure => simp [intOf]; omega
                · have e1 : decide ((k : Int) < (D.length : Int)) = false := decide_eq_false (by omega)
                  obtain rfl : k = D.length := by omega
                  have HX2 : Hid (XbAt wA wr wA.heap.size ⟨P, rk, rtx, rnx, rpg, T, D⟩ tv dv) := by
                    have := HXB.out
                    rw [List.take_length] at this
                    exact this
                  clear HXB htx hdi
                  have c0 : wr.cell? ⟨wA.heap.size, 0, none⟩ = some (.int .u64 (P : Nat)) := HX2.out.box.cell 0
                  have c1 : wr.cell? ⟨wA.heap.size, 1, none⟩ = some (.int .i64 rk) := HX2.out.box.cell 1
                  have c2 : wr.cell? ⟨wA.heap.size, 2, none⟩ = some (.int .i64 rtx) := HX2.out.box.cell 2
                  have c3 : wr.cell? ⟨wA.heap.size, 3, none⟩ = some (.int .u64 (rnx : Nat)) := HX2.out.box.cell 3
                  have c4' : wr.cell? ⟨wA.heap.size, 4, none⟩ = some (.int .u32 (rpg : Nat)) := HX2.out.box.cell 4
                  have c5' : wr.cell? ⟨wA.heap.size, 5, none⟩ = some tv := HX2.out.box.cell 5
                  have c6' : wr.cell? ⟨wA.heap.size, 6, none⟩ = some dv := HX2.out.box.cell 6
                  obtain ⟨V, HV⟩ : ∃ V, Hid (V = wr.alloc (.cells #[.int .u64 (P : Nat), .int .i64 rk, .int .i64 rtx, .int .u64 (rnx : Nat), .int .u32 (rpg : Nat), tv, dv] 74)) := ⟨_, rfl⟩
                  have bV : Below wr.heap.size wr V := by rw [HV.out]; exact (Below.refl _ _).alloc (Nat.le_refl _) _
                  have HXV := hida (HX2.out.below bV)
                  have HOW : Hid (V.ownsRow w.heap.size 74 7 u12 X.length (X.flatMap c7)) := (HLA.out.below HXV.out.bel).own
                  have hnews : Hid (∀ j u, [Value.int .u64 (P : Nat), .int .i64 rk, .int .i64 rtx, .int .u64 (rnx : Nat), .int .u32 (rpg : Nat), tv, dv][j]? = some u → V.cell? ((⟨wr.heap.size, 0, none⟩ : Addr).add j) = some u) := by
                    show ∀ j u, _
                    rw [HV.out]
                    exact World.news_of_block (heap_alloc_new _ _)
                  have hXl : X.length ≤ 60 := by have := HL1.out.len; have := HL1.out.few; omega
                  have HOK : Hid (w.heap.size ≤ V.heap.size) := by show _ ≤ _; have := HLA.out.bel.size; have := HXV.out.bel.size; omega
                  have hv1 : ∃ a1 n1 cc1, tv = .slice a1 n1 cc1 := by obtain ⟨a, c, e⟩ := owns_val7 HX2.out.own1; exact ⟨_, _, _, e⟩
                  have hv2 : ∃ a1 n1 cc1, dv = .slice a1 n1 cc1 := by obtain ⟨a, c, e⟩ := owns_val7 HX2.out.own2; exact ⟨_, _, _, e⟩
                  have H1S : Hid (∀ u ∈ ([Value.int .u64 (P : Nat), .int .i64 rk, .int .i64 rtx, .int .u64 (rnx : Nat), .int .u32 (rpg : Nat), tv, dv] : List Value), u.oneCell' = true) := by
                    obtain ⟨_, _, _, rfl⟩ := hv1
                    obtain ⟨_, _, _, rfl⟩ := hv2
                    intro u hu
                    simp at hu
                    rcases hu with rfl | rfl | rfl | rfl | rfl | rfl | rfl <;> rfl
                  have HPU : Hid (∀ (g2 cap2 : Nat) w2, w2.ownsRow w.heap.size 74 7 (.slice (some ⟨g2, 0, none⟩) (X.length + 1 : Nat) cap2) (X.length + 1) (X.flatMap c7 ++ [Value.int .u64 (P : Nat), .int .i64 rk, .int .i64 rtx, .int .u64 (rnx : Nat), .int .u32 (rpg : Nat), tv, dv]) → V.grownBy w2 u12.ownBlock → (u12.ownBlock = some g2 ∨ g2 = V.heap.size) →
                      LoAt w w2 q RL (i + 1) (.slice (some ⟨g2, 0, none⟩) (X.length + 1 : Nat) cap2) A2 (j + 1) (X ++ [(⟨P, rk, rtx, rnx, rpg, T, D⟩, tv, dv)])) := by
                    intro g2 cap2 w2 own2 grow2 loc2
                    have hp := HLA.out.push HXV.out (g2 := g2) (cap2 := cap2) (w2 := w2) own2 grow2 loc2
                    exact HL1.out.more hlt (by rw [HXX.out]; exact HMX.out) (by rw [HXX.out]; exact hp) (by rw [HXX.out, HP.out]; rfl)
                  clear HX2 bV HXV HLA HL1 HMX HXX HP HC HTD hv1 hv2
                  go_upto_region 24 with fail
                  rw [HV.out] at HOW hnews HPU HOK
                  clear HV
                  go_wp2_with (at_builtin; refine wpList_append_lies _ rfl _ _ 24 rfl w.heap.size 74 i3 _ 7 88 Tryz.underlying24 hi3 hz30 hz31 hz32 rfl (by decide) u12 X.length (X.flatMap c7) rfl HOW.out ⟨wr.heap.size, 0, none⟩ 1 1 [Value.int .u64 (P : Nat), .int .i64 rk, .int .i64 rtx, .int .u64 (rnx : Nat), .int .u32 (rpg : Nat), tv, dv] rfl rfl hnews.out H1S.out (by decide) (by unfold maxLen; omega) (by omega) HOK.out _ rfl ?_; intro g2 cap2 w2 own2 grow2 loc2 lt2; have HN := hida (HPU.out g2 cap2 w2 own2 grow2 loc2); clear own2 grow2 loc2 lt2)
                  go_roundw
                  case rel => exact ⟨i + 1, j + 1, A2, _, _, by go_num, rfl, by omega, by omega, HN⟩
                  case measure => simp [intOf]; omega
      · have d2 : decide ((i : Int) < 60) = false := decide_eq_false (by omega)
        have HE : Hid (i = min RL.length 60) := by show _ = _; omega
        have HLE := hida (lg_end HLA.out.lg)
        have hnm : ∃ a c, u12 = .slice a X.length c := owns_val7 HLA.out.own
        have HXL := hida (show X.length ≤ 60 from by have := HLO.out.len; have := HLO.out.few; omega)
        go_wp2_with fail
        refine HLE.out.mono ?_
        rintro e wx ⟨rfl, hwx⟩
        subst hwx
        have HFL := hida (lg_flush HLA.out.lg (by have := HLO.out.jj; omega))
        clear HLE
        go_wp2_with fail
        refine HFL.out.mono ?_
        rintro e wB ⟨rfl, A3, hl3, mv3⟩
        have HLB := hida (HLA.out.log hl3 mv3)
        clear HFL hl3 mv3 HLA
        by_cases hm0 : 0 ≤ m
        · have d3 : decide ((0 : Int) ≤ m) = true := decide_eq_true hm0
          by_cases hmX : m < (X.length : Int)
          · have d4 : decide (m < (X.length : Int)) = true := decide_eq_true hmX
            obtain ⟨mm, rfl⟩ := Int.eq_ofNat_of_zero_le hm0
            have hmm : mm < X.length := by omega
            obtain ⟨g, cap, rfl, hcap⟩ : ∃ g cap, u12 = .slice (some ⟨g, 0, none⟩) X.length cap ∧ X.length ≤ cap := by
              rcases HLB.out.own.2 with ⟨_, h0⟩ | ⟨g, cap, cur, e, _, _, h3, _⟩
              · omega
              · exact ⟨g, cap, e, h3⟩
            have HAT := hida (laidTo_at RL i hil)
            have hat : X[mm].1.at' = placeOf (laidTo RL i).1 mm := HAT.out.2 mm _ (by rw [← HLO.out.eq, List.getElem?_map, List.getElem?_eq_getElem hmm]; rfl)
            have cz : wB.cell? ⟨g, mm * 7, none⟩ = some (.int .u64 (placeOf (laidTo RL i).1 mm : Nat)) := by
              have h1 := World.ownsRow.cellAt HLB.out.own (mm * 7 + 0) (by omega)
              rw [flat7 X mm 0 hmm (by omega)] at h1
              rw [← hat]
              exact h1
            have HLM := hida (lg_master HLB.out.lg (by have := HLO.out.jj; omega) mm (by have := HLO.out.len; omega))
            have q1 : (0 : Int) ≤ (mm : Int) := by omega
            have q2 : (mm : Int) ≤ (X.length : Int) := by omega
            have q3 : (X.length : Int) ≤ (cap : Int) := by omega
            clear hat HAT hnm
            go_wp2_with fail
            refine HLM.out.mono ?_
            rintro e wD ⟨rfl, A4, hl4, mv4⟩
            have HLD := hida (HLB.out.log hl4 mv4)
            clear HLM HLB hl4 mv4 cz
            go_wp2_with fail
            refine bodyPost_ret (v := .tuple #[.pointer (some ⟨q, 0, none⟩), .slice (some ⟨g, mm * 7, none⟩) (X.length - mm) (cap - mm), .bool true]) (by simp [results, Tryz.results5, go_sem]) rfl ?_
            rw [HE.out] at HLD
            refine ⟨q, A4, placeOf (laidTo RL (min RL.length 60)).1 mm, mm, j + 2, _, _, X, rfl, HLD.out, by have := HLO.out.jj; omega, by rw [← HE.out]; exact HLO.out.eq, by rw [← HE.out]; exact HLO.out.len, HXL.out, ?_, .inl ⟨by omega, by omega, rfl, rfl, g, cap, rfl, rfl⟩⟩
            rw [← HE.out]
            have := HLO.out.pl
            omega
          · have d4 : decide (m < (X.length : Int)) = false := decide_eq_false hmX
            obtain ⟨a, c, rfl⟩ := hnm
            go_wp2_with fail
            refine bodyPost_ret (v := .tuple #[.pointer (some ⟨q, 0, none⟩), .slice a X.length c, .bool true]) (by simp [results, Tryz.results5, go_sem]) rfl ?_
            rw [HE.out] at HLB
            refine ⟨q, A3, 0, 0, j + 1, _, _, X, rfl, HLB.out, by have := HLO.out.jj; omega, by rw [← HE.out]; exact HLO.out.eq, by rw [← HE.out]; exact HLO.out.len, HXL.out, ?_, .inr ⟨.inr (by omega), rfl, rfl, rfl⟩⟩
            rw [← HE.out]
            have := HLO.out.pl
            omega
        · have d3 : decide ((0 : Int) ≤ m) = false := decide_eq_false hm0
          obtain ⟨a, c, rfl⟩ := hnm
          go_wp2_with fail
          refine bodyPost_ret (v := .tuple #[.pointer (some ⟨q, 0, none⟩), .slice a X.length c, .bool true]) (by simp [results, Tryz.results5, go_sem]) rfl ?_
          rw [HE.out] at HLB
          refine ⟨q, A3, 0, 0, j + 1, _, _, X, rfl, HLB.out, by have := HLO.out.jj; omega, by rw [← HE.out]; exact HLO.out.eq, by rw [← HE.out]; exact HLO.out.len, HXL.out, ?_, .inr ⟨.inl (by omega), rfl, rfl, rfl⟩⟩
          rw [← HE.out]
          have := HLO.out.pl
          omega
    · have d1 : decide ((i : Int) < (RL.length : Int)) = false := decide_eq_false (by omega)
      have HE : Hid (i = min RL.length 60) := by show _ = _; omega
      have HLE := hida (lg_end HLA.out.lg)
      have hnm : ∃ a c, u12 = .slice a X.length c := owns_val7 HLA.out.own
      have HXL := hida (show X.length ≤ 60 from by have := HLO.out.len; have := HLO.out.few; omega)
      go_wp2_with fail
      refine HLE.out.mono ?_
      rintro e wx ⟨rfl, hwx⟩
      subst hwx
      have HFL := hida (lg_flush HLA.out.lg (by have := HLO.out.jj; omega))
      clear HLE
      go_wp2_with fail
      refine HFL.out.mono ?_
      rintro e wB ⟨rfl, A3, hl3, mv3⟩
      have HLB := hida (HLA.out.log hl3 mv3)
      clear HFL hl3 mv3 HLA
      by_cases hm0 : 0 ≤ m
      · have d3 : decide ((0 : Int) ≤ m) = true := decide_eq_true hm0
        by_cases hmX : m < (X.length : Int)
        · have d4 : decide (m < (X.length : Int)) = true := decide_eq_true hmX
          obtain ⟨mm, rfl⟩ := Int.eq_ofNat_of_zero_le hm0
          have hmm : mm < X.length := by omega
          obtain ⟨g, cap, rfl, hcap⟩ : ∃ g cap, u12 = .slice (some ⟨g, 0, none⟩) X.length cap ∧ X.length ≤ cap := by
            rcases HLB.out.own.2 with ⟨_, h0⟩ | ⟨g, cap, cur, e, _, _, h3, _⟩
            · omega
            · exact ⟨g, cap, e, h3⟩
          have HAT := hida (laidTo_at RL i hil)
          have hat : X[mm].1.at' = placeOf (laidTo RL i).1 mm := HAT.out.2 mm _ (by rw [← HLO.out.eq, List.getElem?_map, List.getElem?_eq_getElem hmm]; rfl)
          have cz : wB.cell? ⟨g, mm * 7, none⟩ = some (.int .u64 (placeOf (laidTo RL i).1 mm : Nat)) := by
            have h1 := World.ownsRow.cellAt HLB.out.own (mm * 7 + 0) (by omega)
            rw [flat7 X mm 0 hmm (by omega)] at h1
            rw [← hat]
            exact h1
          have HLM := hida (lg_master HLB.out.lg (by have := HLO.out.jj; omega) mm (by have := HLO.out.len; omega))
          have q1 : (0 : Int) ≤ (mm : Int) := by omega
          have q2 : (mm : Int) ≤ (X.length : Int) := by omega
          have q3 : (X.length : Int) ≤ (cap : Int) := by omega
          clear hat HAT hnm
          go_wp2_with fail
          refine HLM.out.mono ?_
          rintro e wD ⟨rfl, A4, hl4, mv4⟩
          have HLD := hida (HLB.out.log hl4 mv4)
          clear HLM HLB hl4 mv4 cz
          go_wp2_with fail
          refine bodyPost_ret (v := .tuple #[.pointer (some ⟨q, 0, none⟩), .slice (some ⟨g, mm * 7, none⟩) (X.length - mm) (cap - mm), .bool true]) (by simp [results, Tryz.results5, go_sem]) rfl ?_
          rw [HE.out] at HLD
          refine ⟨q, A4, placeOf (laidTo RL (min RL.length 60)).1 mm, mm, j + 2, _, _, X, rfl, HLD.out, by have := HLO.out.jj; omega, by rw [← HE.out]; exact HLO.out.eq, by rw [← HE.out]; exact HLO.out.len, HXL.out, ?_, .inl ⟨by omega, by omega, rfl, rfl, g, cap, rfl, rfl⟩⟩
          rw [← HE.out]
          have := HLO.out.pl
          omega
        · have d4 : decide (m < (X.length : Int)) = false := decide_eq_false hmX
          obtain ⟨a, c, rfl⟩ := hnm
          go_wp2_with fail
          refine bodyPost_ret (v := .tuple #[.pointer (some ⟨q, 0, none⟩), .slice a X.length c, .bool true]) (by simp [results, Tryz.results5, go_sem]) rfl ?_
          rw [HE.out] at HLB
          refine ⟨q, A3, 0, 0, j + 1, _, _, X, rfl, HLB.out, by have := HLO.out.jj; omega, by rw [← HE.out]; exact HLO.out.eq, by rw [← HE.out]; exact HLO.out.len, HXL.out, ?_, .inr ⟨.inr (by omega), rfl, rfl, rfl⟩⟩
          rw [← HE.out]
          have := HLO.out.pl
          omega
      · have d3 : decide ((0 : Int) ≤ m) = false := decide_eq_false hm0
        obtain ⟨a, c, rfl⟩ := hnm
        go_wp2_with fail
        refine bodyPost_ret (v := .tuple #[.pointer (some ⟨q, 0, none⟩), .slice a X.length c, .bool true]) (by simp [results, Tryz.results5, go_sem]) rfl ?_
        rw [HE.out] at HLB
        refine ⟨q, A3, 0, 0, j + 1, _, _, X, rfl, HLB.out, by have := HLO.out.jj; omega, by rw [← HE.out]; exact HLO.out.eq, by rw [← HE.out]; exact HLO.out.len, HXL.out, ?_, .inr ⟨.inl (by omega), rfl, rfl, rfl⟩⟩
        rw [← HE.out]
        have := HLO.out.pl
        omega

end Go.Proofs.YtlphebebnjcidaaGreat
