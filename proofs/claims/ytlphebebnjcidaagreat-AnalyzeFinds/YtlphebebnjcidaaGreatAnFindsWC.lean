/-
  The walk of AnalyzeFinds.
-/
import Derived.Test.YtlphebebnjcidaaGreatAnFindsMC
import Derived.Test.YtlphebebnjcidaaGreatAnDecJ
import Derived.BigQuiet
import Derived.Deep.CutRange
set_option linter.unusedVariables false
set_option linter.unusedSimpArgs false
namespace Go.Proofs.YtlphebebnjcidaaGreat
open Go.RowKit Go.Sort Go.Shelf Go.Lib

structure FnAt (w wr : World) (fb gb : Nat) (x1 x2 x3 x4 : Option Addr) (y1 y2 y3 y4 : Nat) (L : List TxV) (M : List DiV) (re : Nat) (mo rc : Int) : Prop where
  bel : Below w.heap.size w wr
  f : Blk wr fb #[.slice x1 L.length y1, .slice x2 M.length y2, .int .u64 (re : Nat), .int .i64 mo, .int .i64 rc] 33
  g : Blk wr gb #[.slice x3 L.length y3, .slice x4 M.length y4, .int .u64 (re : Nat), .int .i64 mo, .int .i64 rc] 40
  t1 : TxsAt wr x1 L
  d1 : DisAt wr x2 M
  t2 : TxsAt wr x3 L
  d2 : DisAt wr x4 M

theorem FnAt.below {w wr wx : World} {fb gb : Nat} {x1 x2 x3 x4 : Option Addr} {y1 y2 y3 y4 : Nat} {L : List TxV} {M : List DiV} {re : Nat} {mo rc : Int} (h : FnAt w wr fb gb x1 x2 x3 x4 y1 y2 y3 y4 L M re mo rc) (k : Below wr.heap.size wr wx) : FnAt w wx fb gb x1 x2 x3 x4 y1 y2 y3 y4 L M re mo rc :=
  ⟨below_chain h.bel k, h.f.same (k.block _ h.f.lt), h.g.same (k.block _ h.g.lt), h.t1.below k, h.d1.below k, h.t2.below k, h.d2.below k⟩

theorem rs_most {B : Nat} {w : World} {v : Value} {L : List TxV} (h : rsAt B w v L) : L.length ≤ 9223372036854775807 := by
  rcases h.2 with ⟨_, hn⟩ | ⟨g, cap, cur, _, _, _, h1, h2, _⟩
  · omega
  · unfold maxLen at h2; omega
theorem rd_most {B : Nat} {w : World} {v : Value} {L : List DiV} (h : rdAt B w v L) : L.length ≤ 9223372036854775807 := by
  rcases h.2 with ⟨_, hn⟩ | ⟨g, cap, cur, _, _, _, h1, h2, _⟩
  · omega
  · unfold maxLen at h2; omega

set_option maxHeartbeats 12800000 in
set_option maxRecDepth 20000 in
theorem finds19_any (RL : List RIn) (m : Int) (hm : -9223372036854775808 ≤ m ∧ m ≤ 9223372036854775807) (la : Option Addr) (lc : Nat) (w : World) (hA : InsAt w la RL) (hlen : RL.length ≤ 9000000000000000) :
    Calls Tryz.prog 3 #[.slice la RL.length lc, .int .i64 m] w fun e w' => e = .returned (.bool true) ∧ Below w.heap.size w w' := by
  have HLD := hida (laid19_any RL m hm la lc w hA hlen)
  have HOK := hida hA.all
  clear hA hlen
  go_enter Tryz.func3, Tryz.ntmps3
  go_wp2_with fail
  refine HLD.out.mono ?_
  rintro e w1 ⟨q, A, mark, i0, j, v, v', X, rfl, hla, hj, hX, hXl, hX60, hpl, hmm⟩
  have hn : min RL.length 60 ≤ RL.length := by omega
  obtain ⟨a0, c0, hv', hrx⟩ := ld_slice hla (i0 := i0) (v' := v') (by
    rcases hmm with ⟨h1, h2, h3, h4, h5⟩ | ⟨h1, h2, h3, h4⟩
    · exact .inl ⟨by omega, h5⟩
    · exact .inr ⟨h2, h4⟩)
  subst hv'
  have his := ref_is hn hX i0 (X.drop i0).length (Nat.le_refl _)
  have hfew := ref_few hn hX i0
  have hdec := laid_dec hn HOK.out
  obtain ⟨rs, hrs⟩ : ∃ rs, (laidTo RL (min RL.length 60)).1 = rs := ⟨_, rfl⟩
  have hmk : i0 ≤ rs.length ∧ ((mark = 0 ∧ i0 = 0) ∨ (mark ≠ 0 ∧ i0 < rs.length ∧ placeOf rs i0 = mark)) := by
    rw [hrs] at hXl hmm
    rcases hmm with ⟨h1, h2, h3, h4, h5⟩ | ⟨h1, h2, h3, h4⟩
    · have := placeOf_pos rs i0
      exact ⟨by omega, .inr ⟨by omega, by omega, h4.symm⟩⟩
    · exact ⟨by omega, .inl ⟨h3, h2⟩⟩
  rw [hrs] at hla his hdec hXl hpl
  have hYl : (X.drop i0).length = rs.length - i0 := by rw [List.length_drop, hXl]
  have hY60 : (X.drop i0).length ≤ 60 := by rw [List.length_drop]; omega
  obtain ⟨R, hR⟩ : ∃ R, recN RL (min RL.length 60) = R := ⟨_, rfl⟩
  rw [hR] at his hdec
  obtain ⟨Y, hY⟩ : ∃ Y, X.drop i0 = Y := ⟨_, rfl⟩
  rw [hY] at his hfew hrx hYl hY60 ⊢
  have HLG := hida (show Below w.heap.size w w1 ∧ LgAt w1 q A rs rs.length mark j ∧ RxAt w1 a0 Y from ⟨hla.bel, hla.lg, hrx⟩)
  have HIS := hida (show (foTo Y Y.length).Is (heardTo rs R i0 (rs.length - i0)) by rw [← hYl]; exact his)
  have HFEW := hida hfew
  have HDEC := hida hdec
  have HMK := hida hmk
  clear HLD HOK hla hX hX60 hmm hn his hfew hdec hrs hmk hR hY hpl hrx hXl hYl hm
  go_wp2_with fail
  refine (awake19_any w1).mono ?_
  rintro e w2 ⟨rfl, b2⟩
  have HL2 := hida (show Below w.heap.size w w2 ∧ LgAt w2 q A rs rs.length mark j ∧ RxAt w2 a0 Y from ⟨below_chain HLG.out.1 b2, HLG.out.2.1.below b2, HLG.out.2.2.below b2⟩)
  clear HLG b2
  have HRN := hida (lg_run HL2.out.2.1 (by omega) R (fun _ => true) i0 HMK.out.1 HMK.out.2 (fun i hi _ => HDEC.out i hi) (fun i hi h => by cases h))
  clear HDEC HMK
  go_wp2_with fail
  refine HRN.out.mono ?_
  rintro e w3 hro
  obtain ⟨v1, v2, L1, L2, nb, rfl, h1, h2, hn, o1, o2⟩ := hro.yes fun _ _ _ => rfl
  have eL : L1 = (foTo Y Y.length).txs := h1.same HIS.out.t
  have eM : L2 = (foTo Y Y.length).dis := h2.same HIS.out.d
  have eo : (heardTo rs R i0 (rs.length - i0)).most = (foTo Y Y.length).most := HIS.out.most.symm
  have er : (heardTo rs R i0 (rs.length - i0)).recs = (foTo Y Y.length).recs := HIS.out.recs.symm
  subst eL
  subst eM
  obtain ⟨x1, y1, rfl, hT1⟩ := atAt.sl o1
  obtain ⟨x2, y2, rfl, hD1⟩ := adAt.sl o2
  unfold fdCells
  rw [eo, er]
  have b3 := hro.bel
  obtain ⟨W3, HW3⟩ : ∃ W3, Hid (W3 = w3.alloc (.cells #[.slice x1 (foTo Y Y.length).txs.length y1, .slice x2 (foTo Y Y.length).dis.length y2, .int .u64 (redoL (placeOf rs rs.length) (foTo Y Y.length).dis : Nat), .int .i64 (foTo Y Y.length).most, .int .i64 (foTo Y Y.length).recs] 33)) := ⟨_, rfl⟩
  have bW3 : Below w3.heap.size w3 W3 := by rw [HW3.out]; exact (Below.refl _ _).alloc (Nat.le_refl _) _
  have b23 := below_chain b3 bW3
  have HL3 := hida (show Below w.heap.size w W3 ∧ LgAt W3 q A rs rs.length mark j ∧ RxAt W3 a0 Y ∧ TxsAt W3 x1 (foTo Y Y.length).txs ∧ DisAt W3 x2 (foTo Y Y.length).dis ∧ Blk W3 w3.heap.size #[.slice x1 (foTo Y Y.length).txs.length y1, .slice x2 (foTo Y Y.length).dis.length y2, .int .u64 (redoL (placeOf rs rs.length) (foTo Y Y.length).dis : Nat), .int .i64 (foTo Y Y.length).most, .int .i64 (foTo Y Y.length).recs] 33 from ⟨below_chain HL2.out.1 b23, HL2.out.2.1.below b23, HL2.out.2.2.below b23, hT1.below bW3, hD1.below bW3, by rw [HW3.out]; exact Blk.made _ _ _⟩)
  clear hro h1 h2 hn o1 o2 HIS eo er b3 bW3 b23 hT1 hD1 HRN HL2
  go_upto_region 5 with fail
  rw [← HW3.out]
  clear HW3
  generalize w3.heap.size = fb at *
  have HEN := hida (lg_end HL3.out.2.1)
  have HRR := hida (rrun_any Y a0 c0 (placeOf rs rs.length) W3 HL3.out.2.2.1 hY60 HFEW.out)
  clear HFEW
  generalize (placeOf rs rs.length : Nat) = en at *
  go_wp2_with fail
  refine HEN.out.mono ?_
  rintro e w4 ⟨rfl, hw4⟩
  rw [hw4]
  clear hw4 HEN
  go_wp2_with fail
  refine HRR.out.mono ?_
  rintro e w5 ⟨tv, dv, rfl, o3, o4, b5⟩
  obtain ⟨x3, y3, rfl, hT3⟩ := o3.sl
  obtain ⟨x4, y4, rfl, hD4⟩ := o4.sl
  unfold fo5
  have HL5 := hida (show Below w.heap.size w w5 ∧ TxsAt w5 x1 (foTo Y Y.length).txs ∧ DisAt w5 x2 (foTo Y Y.length).dis ∧ Blk w5 fb #[.slice x1 (foTo Y Y.length).txs.length y1, .slice x2 (foTo Y Y.length).dis.length y2, .int .u64 (redoL en (foTo Y Y.length).dis : Nat), .int .i64 (foTo Y Y.length).most, .int .i64 (foTo Y Y.length).recs] 33 ∧ TxsAt w5 x3 (foTo Y Y.length).txs ∧ DisAt w5 x4 (foTo Y Y.length).dis from ⟨below_chain HL3.out.1 b5, HL3.out.2.2.2.1.below b5, HL3.out.2.2.2.2.1.below b5, HL3.out.2.2.2.2.2.same (b5.block _ HL3.out.2.2.2.2.2.lt), hT3, hD4⟩)
  have hLm := rs_most o3
  have hMm := rd_most o4
  clear HRR HL3 o3 o4 b5 hT3 hD4
  generalize foTo Y Y.length = G at *
  obtain ⟨L, M, mo, rc⟩ := G
  dsimp only at HL5 hLm hMm ⊢
  generalize redoL en M = re at *
  obtain ⟨W5, HW5⟩ : ∃ W5, Hid (W5 = w5.alloc (.cells #[.slice x3 L.length y3, .slice x4 M.length y4, .int .u64 (re : Nat), .int .i64 mo, .int .i64 (rc : Nat)] 40)) := ⟨_, rfl⟩
  have bW5 : Below w5.heap.size w5 W5 := by rw [HW5.out]; exact (Below.refl _ _).alloc (Nat.le_refl _) _
  have HF : Hid (FnAt w W5 fb w5.heap.size x1 x2 x3 x4 y1 y2 y3 y4 L M re mo rc) := ⟨below_chain HL5.out.1 bW5, HL5.out.2.2.2.1.same (bW5.block _ HL5.out.2.2.2.1.lt), by rw [HW5.out]; exact Blk.made _ _ _, HL5.out.2.1.below bW5, HL5.out.2.2.1.below bW5, HL5.out.2.2.2.2.1.below bW5, HL5.out.2.2.2.2.2.below bW5⟩
  clear HL5 bW5
  go_upto_region 6 with fail
  rw [← HW5.out]
  clear HW5
  generalize w5.heap.size = gb at *
  have a0 : W5.cell? ⟨fb, 0, none⟩ = some (.slice x1 L.length y1) := HF.out.f.cell 0
  have a1 : W5.cell? ⟨fb, 1, none⟩ = some (.slice x2 M.length y2) := HF.out.f.cell 1
  have a2 : W5.cell? ⟨fb, 2, none⟩ = some (.int .u64 (re : Nat)) := HF.out.f.cell 2
  have a3 : W5.cell? ⟨fb, 3, none⟩ = some (.int .i64 mo) := HF.out.f.cell 3
  have a4 : W5.cell? ⟨fb, 4, none⟩ = some (.int .i64 (rc : Nat)) := HF.out.f.cell 4
  have b0 : W5.cell? ⟨gb, 0, none⟩ = some (.slice x3 L.length y3) := HF.out.g.cell 0
  have b1 : W5.cell? ⟨gb, 1, none⟩ = some (.slice x4 M.length y4) := HF.out.g.cell 1
  have b2 : W5.cell? ⟨gb, 2, none⟩ = some (.int .u64 (re : Nat)) := HF.out.g.cell 2
  have b3 : W5.cell? ⟨gb, 3, none⟩ = some (.int .i64 mo) := HF.out.g.cell 3
  have b4 : W5.cell? ⟨gb, 4, none⟩ = some (.int .i64 (rc : Nat)) := HF.out.g.cell 4
  go_wp2_with fail
  clear a0 a1 a2 a3 a4 b0 b1 b2 b3 b4
  go_loopw [11] (fun x wr => ∃ k : Nat, x = .int .i64 k ∧ k ≤ L.length ∧ Hid (FnAt w wr fb gb x1 x2 x3 x4 y1 y2 y3 y4 L M re mo rc)) (fun x _ => L.length - (intOf x).toNat)
  case atStart => exact ⟨0, rfl, Nat.zero_le _, HF⟩
  case round =>
    obtain ⟨k, rfl, hk, HB⟩ := hrel
    clear HF
    have a0 : wr.cell? ⟨fb, 0, none⟩ = some (.slice x1 L.length y1) := HB.out.f.cell 0
    have b0 : wr.cell? ⟨gb, 0, none⟩ = some (.slice x3 L.length y3) := HB.out.g.cell 0
    by_cases hlt : k < L.length
    · have e1 : decide ((k : Int) < (L.length : Int)) = true := decide_eq_true (by omega)
      have e2 : (0 : Int) ≤ (k : Int) := by omega
      have e3 : (k : Int) < (L.length : Int) := by omega
      obtain ⟨p1, q1, rfl, g1, hp1⟩ : ∃ p q, x1 = some ⟨p, q, none⟩ ∧ TxAt wr p (q + k * 4) L[k] ∧ p < wr.heap.size := by
        rcases HB.out.t1 with h | ⟨b1, o1, e, hb, h⟩
        · rw [h] at hlt; simp at hlt
        · exact ⟨b1, o1, e, h k hlt, hb⟩
      obtain ⟨p3, q3, rfl, g3, hp3⟩ : ∃ p q, x3 = some ⟨p, q, none⟩ ∧ TxAt wr p (q + k * 4) L[k] ∧ p < wr.heap.size := by
        rcases HB.out.t2 with h | ⟨b1, o1, e, hb, h⟩
        · rw [h] at hlt; simp at hlt
        · exact ⟨b1, o1, e, h k hlt, hb⟩
      have hf := HB.out.f.lt
      have hg := HB.out.g.lt
      have n1 : fb ≠ wr.heap.size := by omega
      have n2 : gb ≠ wr.heap.size := by omega
      have n3 : p1 ≠ wr.heap.size := by omega
      have n4 : p3 ≠ wr.heap.size := by omega
      have n5 : fb ≠ wr.heap.size + 1 := by omega
      have n6 : gb ≠ wr.heap.size + 1 := by omega
      have n7 : p1 ≠ wr.heap.size + 1 := by omega
      have n8 : p3 ≠ wr.heap.size + 1 := by omega
      clear hf hg
      obtain ⟨t, ht⟩ : ∃ t, L[k] = t := ⟨_, rfl⟩
      rw [ht] at g1 g3
      clear ht
      obtain ⟨t0, t1, t2, t3⟩ := t
      have hg1 := g1
      have hg3 := g3
      obtain ⟨g10, g11, g12, g13⟩ := g1
      obtain ⟨g30, g31, g32, g33⟩ := g3
      simp only at g10 g11 g12 g13 g30 g31 g32 g33
      have hbw : ∀ Wx, Below wr.heap.size wr Wx → Wx.cell? ⟨fb, 0, none⟩ = some (.slice (some ⟨p1, q1, none⟩) L.length y1) ∧ Wx.cell? ⟨gb, 0, none⟩ = some (.slice (some ⟨p3, q3, none⟩) L.length y3) ∧ TxAt Wx p1 (q1 + k * 4) (t0, t1, t2, t3) ∧ TxAt Wx p3 (q3 + k * 4) (t0, t1, t2, t3) := fun Wx hb =>
        ⟨(HB.out.below hb).f.cell 0, (HB.out.below hb).g.cell 0, hg1.same (hb.block p1 hp1), hg3.same (hb.block p3 hp3)⟩
      obtain ⟨a0W, b0W, ⟨g100W, g110W, g120W, g130W⟩, ⟨g300W, g310W, g320W, g330W⟩⟩ := hbw (wr.alloc (.cells #[.int .i64 0, .int .i64 0, .int .u64 0, .int .u64 0] 44)) ((Below.refl _ _).alloc (Nat.le_refl _) _)
      dsimp only at g100W g110W g120W g130W g300W g310W g320W g330W
      obtain ⟨a1W, b1W, ⟨g101W, g111W, g121W, g131W⟩, ⟨g301W, g311W, g321W, g331W⟩⟩ := hbw (wr.alloc (.cells #[.int .i64 0, .int .i64 0, .int .u64 0, .int .u64 0] 46)) ((Below.refl _ _).alloc (Nat.le_refl _) _)
      dsimp only at g101W g111W g121W g131W g301W g311W g321W g331W
      obtain ⟨a2W, b2W, ⟨g102W, g112W, g122W, g132W⟩, ⟨g302W, g312W, g322W, g332W⟩⟩ := hbw ((wr.alloc (.cells #[.int .i64 0, .int .i64 0, .int .u64 0, .int .u64 0] 44)).alloc (.cells #[.int .i64 0, .int .i64 0, .int .u64 0, .int .u64 0] 46)) (((Below.refl _ _).alloc (Nat.le_refl _) _).alloc (by simp) _)
      dsimp only at g102W g112W g122W g132W g302W g312W g322W g332W
      obtain ⟨a3W, b3W, ⟨g103W, g113W, g123W, g133W⟩, ⟨g303W, g313W, g323W, g333W⟩⟩ := hbw ((wr.alloc (.cells #[.int .i64 0, .int .i64 0, .int .u64 0, .int .u64 0] 46)).alloc (.cells #[.int .i64 0, .int .i64 0, .int .u64 0, .int .u64 0] 44)) (((Below.refl _ _).alloc (Nat.le_refl _) _).alloc (by simp) _)
      dsimp only at g103W g113W g123W g133W g303W g313W g323W g333W
      obtain ⟨a4W, b4W, ⟨g104W, g114W, g124W, g134W⟩, ⟨g304W, g314W, g324W, g334W⟩⟩ := hbw ((wr.alloc (.cells #[.int .i64 0, .int .i64 0, .int .u64 0, .int .u64 0] 44)).alloc (.cells #[.int .i64 t0, .int .i64 t1, .int .u64 (t2 : Nat), .int .u64 (t3 : Nat)] 46)) (((Below.refl _ _).alloc (Nat.le_refl _) _).alloc (by simp) _)
      dsimp only at g104W g114W g124W g134W g304W g314W g324W g334W
      obtain ⟨a5W, b5W, ⟨g105W, g115W, g125W, g135W⟩, ⟨g305W, g315W, g325W, g335W⟩⟩ := hbw ((wr.alloc (.cells #[.int .i64 0, .int .i64 0, .int .u64 0, .int .u64 0] 46)).alloc (.cells #[.int .i64 t0, .int .i64 t1, .int .u64 (t2 : Nat), .int .u64 (t3 : Nat)] 44)) (((Below.refl _ _).alloc (Nat.le_refl _) _).alloc (by simp) _)
      dsimp only at g105W g115W g125W g135W g305W g315W g325W g335W
      obtain ⟨a6W, b6W, ⟨g106W, g116W, g126W, g136W⟩, ⟨g306W, g316W, g326W, g336W⟩⟩ := hbw (wr.alloc (.cells #[.int .i64 t0, .int .i64 t1, .int .u64 (t2 : Nat), .int .u64 (t3 : Nat)] 44)) ((Below.refl _ _).alloc (Nat.le_refl _) _)
      dsimp only at g106W g116W g126W g136W g306W g316W g326W g336W
      obtain ⟨a7W, b7W, ⟨g107W, g117W, g127W, g137W⟩, ⟨g307W, g317W, g327W, g337W⟩⟩ := hbw (wr.alloc (.cells #[.int .i64 t0, .int .i64 t1, .int .u64 (t2 : Nat), .int .u64 (t3 : Nat)] 46)) ((Below.refl _ _).alloc (Nat.le_refl _) _)
      dsimp only at g107W g117W g127W g137W g307W g317W g327W g337W
      obtain ⟨a8W, b8W, ⟨g108W, g118W, g128W, g138W⟩, ⟨g308W, g318W, g328W, g338W⟩⟩ := hbw ((wr.alloc (.cells #[.int .i64 t0, .int .i64 t1, .int .u64 (t2 : Nat), .int .u64 (t3 : Nat)] 44)).alloc (.cells #[.int .i64 0, .int .i64 0, .int .u64 0, .int .u64 0] 46)) (((Below.refl _ _).alloc (Nat.le_refl _) _).alloc (by simp) _)
      dsimp only at g108W g118W g128W g138W g308W g318W g328W g338W
      obtain ⟨a9W, b9W, ⟨g109W, g119W, g129W, g139W⟩, ⟨g309W, g319W, g329W, g339W⟩⟩ := hbw ((wr.alloc (.cells #[.int .i64 t0, .int .i64 t1, .int .u64 (t2 : Nat), .int .u64 (t3 : Nat)] 46)).alloc (.cells #[.int .i64 0, .int .i64 0, .int .u64 0, .int .u64 0] 44)) (((Below.refl _ _).alloc (Nat.le_refl _) _).alloc (by simp) _)
      dsimp only at g109W g119W g129W g139W g309W g319W g329W g339W
      obtain ⟨a10W, b10W, ⟨g1010W, g1110W, g1210W, g1310W⟩, ⟨g3010W, g3110W, g3210W, g3310W⟩⟩ := hbw ((wr.alloc (.cells #[.int .i64 t0, .int .i64 t1, .int .u64 (t2 : Nat), .int .u64 (t3 : Nat)] 44)).alloc (.cells #[.int .i64 t0, .int .i64 t1, .int .u64 (t2 : Nat), .int .u64 (t3 : Nat)] 46)) (((Below.refl _ _).alloc (Nat.le_refl _) _).alloc (by simp) _)
      dsimp only at g1010W g1110W g1210W g1310W g3010W g3110W g3210W g3310W
      obtain ⟨a11W, b11W, ⟨g1011W, g1111W, g1211W, g1311W⟩, ⟨g3011W, g3111W, g3211W, g3311W⟩⟩ := hbw ((wr.alloc (.cells #[.int .i64 t0, .int .i64 t1, .int .u64 (t2 : Nat), .int .u64 (t3 : Nat)] 46)).alloc (.cells #[.int .i64 t0, .int .i64 t1, .int .u64 (t2 : Nat), .int .u64 (t3 : Nat)] 44)) (((Below.refl _ _).alloc (Nat.le_refl _) _).alloc (by simp) _)
      dsimp only at g1011W g1111W g1211W g1311W g3011W g3111W g3211W g3311W
      clear hbw hg1 hg3 hp1 hp3
      go_upto_region 11 with fail
      go_region
      all_goals
        go_wp2_with fail
        go_roundw
        case rel =>
          refine ⟨k + 1, by go_num, by omega, hida (HB.out.below ?_)⟩
          repeat (first | with_reducible exact Below.refl _ _ | with_reducible refine Below.drew ?_ | with_reducible refine Below.alloc ?_ (by simp) _ | with_reducible refine Below.setCell ?_ (by simp) _)
        case measure => simp [intOf]; omega
    · have e1 : decide ((k : Int) < (L.length : Int)) = false := decide_eq_false (by omega)
      go_wp2_with fail
      clear a0 b0 e1 hk hlt
      go_loopw [14] (fun x wr => ∃ k : Nat, x = .int .i64 k ∧ k ≤ M.length ∧ Hid (FnAt w wr fb gb x1 x2 x3 x4 y1 y2 y3 y4 L M re mo rc)) (fun x _ => M.length - (intOf x).toNat)
      case atStart => exact ⟨0, rfl, Nat.zero_le _, HB⟩
      case round =>
        clear HB
        obtain ⟨k, rfl, hk, HB⟩ := hrel
        have a0 : wr.cell? ⟨fb, 1, none⟩ = some (.slice x2 M.length y2) := HB.out.f.cell 1
        have b0 : wr.cell? ⟨gb, 1, none⟩ = some (.slice x4 M.length y4) := HB.out.g.cell 1
        by_cases hlt : k < M.length
        · have e1 : decide ((k : Int) < (M.length : Int)) = true := decide_eq_true (by omega)
          have e2 : (0 : Int) ≤ (k : Int) := by omega
          have e3 : (k : Int) < (M.length : Int) := by omega
          obtain ⟨p1, q1, rfl, g1⟩ : ∃ p q, x2 = some ⟨p, q, none⟩ ∧ DiAt wr p (q + k * 2) M[k] := by
            rcases HB.out.d1 with h | ⟨b1, o1, e, hb, h⟩
            · rw [h] at hlt; simp at hlt
            · exact ⟨b1, o1, e, h k hlt⟩
          obtain ⟨p3, q3, rfl, g3⟩ : ∃ p q, x4 = some ⟨p, q, none⟩ ∧ DiAt wr p (q + k * 2) M[k] := by
            rcases HB.out.d2 with h | ⟨b1, o1, e, hb, h⟩
            · rw [h] at hlt; simp at hlt
            · exact ⟨b1, o1, e, h k hlt⟩
          obtain ⟨t, ht⟩ : ∃ t, M[k] = t := ⟨_, rfl⟩
          rw [ht] at g1 g3
          clear ht
          obtain ⟨t0, t1⟩ := t
          obtain ⟨g10, g11⟩ := g1
          obtain ⟨g30, g31⟩ := g3
          simp only at g10 g11 g30 g31
          have HBD := hida (fun n => HB.out.below (below_drewN (Below.refl _ _) n))
          have n0 : ((t0 : Int) != (t0 : Int)) = false := by simp
          clear HB
          go_upto_region 17 with fail
          go_quiet (fail)
          go_wp2_with fail
          go_roundw
          case rel => exact ⟨k + 1, by go_num, by omega, hida (HBD.out nq)⟩
          case measure => simp [intOf]; omega
        · have e1 : decide ((k : Int) < (M.length : Int)) = false := decide_eq_false (by omega)
          go_wp2_with fail
          go_ret
          exact ⟨rfl, HB.out.bel⟩

end Go.Proofs.YtlphebebnjcidaaGreat
