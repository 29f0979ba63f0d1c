/-
  The walk of AnalyzeTwice.
-/
import Derived.Test.YtlphebebnjcidaaGreatAnTwiceMC
import Derived.Test.YtlphebebnjcidaaGreatAnDecJ
import Derived.BigQuiet
import Derived.Deep.CutRange
set_option linter.unusedVariables false
set_option linter.unusedSimpArgs false
namespace Go.Proofs.YtlphebebnjcidaaGreat
open Go.RowKit Go.Sort Go.Shelf Go.Lib

structure TwAt (w wr : World) (fb gb : Nat) (x1 x2 x3 x4 : Option Addr) (y1 y2 y3 y4 : Nat) (L : List TxV) (M : List DiV) (re re' : Nat) (mo rc rc' : Int) : Prop where
  bel : Below w.heap.size w wr
  f : Blk wr fb #[.slice x1 L.length y1, .slice x2 M.length y2, .int .u64 (re : Nat), .int .i64 mo, .int .i64 rc] 33
  g : Blk wr gb #[.slice x3 L.length y3, .slice x4 M.length y4, .int .u64 (re' : Nat), .int .i64 mo, .int .i64 rc'] 33
  t1 : TxsAt wr x1 L
  d1 : DisAt wr x2 M
  t2 : TxsAt wr x3 L
  d2 : DisAt wr x4 M

theorem TwAt.below {w wr wx : World} {fb gb : Nat} {x1 x2 x3 x4 : Option Addr} {y1 y2 y3 y4 : Nat} {L : List TxV} {M : List DiV} {re re' : Nat} {mo rc rc' : Int} (h : TwAt w wr fb gb x1 x2 x3 x4 y1 y2 y3 y4 L M re re' mo rc rc') (k : Below wr.heap.size wr wx) : TwAt w wx fb gb x1 x2 x3 x4 y1 y2 y3 y4 L M re re' mo rc rc' :=
  ⟨below_chain h.bel k, h.f.same (k.block _ h.f.lt), h.g.same (k.block _ h.g.lt), h.t1.below k, h.d1.below k, h.t2.below k, h.d2.below k⟩

structure TvAt (w wr : World) (q : Nat) (A : Nat → Prop) (rs : List ByteArray) (sure mark j : Nat) (fb : Nat) (x1 x2 : Option Addr) (y1 y2 : Nat) (L : List TxV) (M : List DiV) (re : Nat) (mo rc : Int) : Prop where
  bel : Below w.heap.size w wr
  lg : LgAt wr q A rs sure mark j
  lo : ∀ k, A k → w.heap.size ≤ k
  f : Blk wr fb #[.slice x1 L.length y1, .slice x2 M.length y2, .int .u64 (re : Nat), .int .i64 mo, .int .i64 rc] 33
  t1 : TxsAt wr x1 L
  d1 : DisAt wr x2 M
  of : ¬ A fb
  ot : ∀ b o, x1 = some ⟨b, o, none⟩ → b < wr.heap.size ∧ ¬ A b
  od : ∀ b o, x2 = some ⟨b, o, none⟩ → b < wr.heap.size ∧ ¬ A b

section
variable {w wr wx : World} {q : Nat} {A A' : Nat → Prop} {rs rs' : List ByteArray} {sure sure' mark mark' j j' : Nat} {fb : Nat} {x1 x2 : Option Addr} {y1 y2 : Nat} {L : List TxV} {M : List DiV} {re : Nat} {mo rc : Int}

theorem TvAt.below (h : TvAt w wr q A rs sure mark j fb x1 x2 y1 y2 L M re mo rc) (k : Below wr.heap.size wr wx) : TvAt w wx q A rs sure mark j fb x1 x2 y1 y2 L M re mo rc :=
  ⟨below_chain h.bel k, h.lg.below k, h.lo, h.f.same (k.block _ h.f.lt), h.t1.below k, h.d1.below k, h.of, fun b o e => ⟨Nat.lt_of_lt_of_le (h.ot b o e).1 k.size, (h.ot b o e).2⟩, fun b o e => ⟨Nat.lt_of_lt_of_le (h.od b o e).1 k.size, (h.od b o e).2⟩⟩

theorem TvAt.log (h : TvAt w wr q A rs sure mark j fb x1 x2 y1 y2 L M re mo rc) (hl : LgAt wx q A' rs' sure' mark' j') (m : Moves A A' wr wx) : TvAt w wx q A' rs' sure' mark' j' fb x1 x2 y1 y2 L M re mo rc := by
  have hoff : ∀ g, g < wr.heap.size → ¬ A g → wx.heap[g]? = wr.heap[g]? ∧ ¬ A' g := fun g hg hn => m.off hg hn
  have hs := h.bel.size
  refine ⟨⟨m.1.os.trans h.bel.os, m.1.tape.trans h.bel.tape, m.1.output.trans h.bel.output, Nat.le_trans hs m.1.size, fun k hk => (m.1.block k (Nat.lt_of_lt_of_le hk hs) (fun e => by have := h.lo k e; omega)).trans (h.bel.block k hk)⟩, hl, fun k hk => ?_, h.f.same (hoff _ h.f.lt h.of).1, ?_, ?_, (hoff _ h.f.lt h.of).2, ?_, ?_⟩
  · rcases m.2 k hk with e | e
    · exact h.lo k e
    · omega
  · rcases h.t1 with e | ⟨b, o, e, hb, hc⟩
    · exact .inl e
    · exact .inr ⟨b, o, e, Nat.lt_of_lt_of_le hb m.1.size, fun i hi => (hc i hi).same (hoff b hb (h.ot b o e).2).1⟩
  · rcases h.d1 with e | ⟨b, o, e, hb, hc⟩
    · exact .inl e
    · exact .inr ⟨b, o, e, Nat.lt_of_lt_of_le hb m.1.size, fun i hi => (hc i hi).same (hoff b hb (h.od b o e).2).1⟩
  · exact fun b o e => ⟨Nat.lt_of_lt_of_le (h.ot b o e).1 m.1.size, (hoff b (h.ot b o e).1 (h.ot b o e).2).2⟩
  · exact fun b o e => ⟨Nat.lt_of_lt_of_le (h.od b o e).1 m.1.size, (hoff b (h.od b o e).1 (h.od b o e).2).2⟩

end

theorem bg_may : mayR bgV = true := by kernel_rfl
theorem bg_ok (w : World) : bgV.Ok w none none :=
  ⟨by decide, by decide, by decide, by decide, by decide, ⟨by decide, by decide, by decide, by decide⟩, by decide, by decide, by decide, by decide, by decide, by decide, by decide, .inl rfl, .inl rfl⟩
theorem bg_wide : bgV.Wide := ⟨fun i hi => absurd hi (Nat.not_lt_zero _), fun i hi => absurd hi (Nat.not_lt_zero _)⟩
theorem ck_ok {m : Int} {L : List TxV} {M : List DiV} {w : World} {ta da : Option Addr} (hm : -9223372036854775808 ≤ m ∧ m ≤ 9223372036854775807) (hL : L.length ≤ 64) (hM : M.length ≤ 256) (ht : TxsAt w ta L) (hd : DisAt w da M) : (ckV m L M).Ok w ta da :=
  ⟨by show -9223372036854775808 ≤ (8 : Int) ∧ (8 : Int) ≤ 9223372036854775807; omega, hm, by show (0 : Nat) < _; omega, by show (0 : Nat) < _; omega, by show (0 : Nat) < _; omega, (bg_ok w).op, by show -9223372036854775808 ≤ (0 : Int) ∧ (0 : Int) ≤ 9223372036854775807; omega, by show -9223372036854775808 ≤ (0 : Int) ∧ (0 : Int) ≤ 9223372036854775807; omega, by show (0 : Nat) ≤ _; omega, by show (0 : Nat) < _; omega, by show -9223372036854775808 ≤ (0 : Int) ∧ (0 : Int) ≤ 9223372036854775807; omega, by show L.length * 32 ≤ _; omega, by show M.length * 16 ≤ _; omega, ht, hd⟩
theorem ck_wide {h : HearG} (k : h.Num) {L : List TxV} {M : List DiV} (hT : Can keyT L h.T) (hD : Can keyD M h.D) : (ckV h.most L M).Wide :=
  ⟨fun i hi => k.tw _ _ (hT.at (List.getElem_mem hi)), fun i hi => k.dw _ _ (hD.at (List.getElem_mem hi))⟩

set_option maxHeartbeats 12800000 in
set_option maxRecDepth 20000 in
theorem twice19_any (RL : List RIn) (la : Option Addr) (lc : Nat) (w : World) (hA : InsAt w la RL) (hlen : RL.length ≤ 9000000000000000) :
    Calls Tryz.prog 4 #[.slice la RL.length lc] w fun e w' => e = .returned (.bool true) ∧ Below w.heap.size w w' := by
  have HLD := hida (laid19_any RL (-1) (by omega) la lc w hA hlen)
  have HOK := hida hA.all
  clear hA hlen
  go_enter Tryz.func4, Tryz.ntmps4
  go_wp2_with fail
  refine HLD.out.mono ?_
  rintro e w1 ⟨q, A, mark, i0, j, v, v', X, rfl, hla, hj, hX, hXl, hX60, hpl, hmm⟩
  have hnn : i0 = 0 ∧ mark = 0 ∧ v' = v := by
    rcases hmm with h | h
    · omega
    · exact h.2
  obtain ⟨rfl, rfl, rfl⟩ := hnn
  have hn : min RL.length 60 ≤ RL.length := by omega
  have hdec := laid_dec hn HOK.out
  have hwid : ∀ i, (recN RL (min RL.length 60) i).Wide ∧ (recN RL (min RL.length 60) i).next < 18446744073709551616 ∧ (recN RL (min RL.length 60) i).page < 4294967296 := by
    intro i
    unfold recN
    cases e : (goodL RL (min RL.length 60))[i]? with
    | none => exact ⟨⟨fun i hi => absurd hi (Nat.not_lt_zero _), fun i hi => absurd hi (Nat.not_lt_zero _)⟩, by show (0 : Nat) < _; omega, by show (0 : Nat) < _; omega⟩
    | some x =>
      have hm := List.mem_of_getElem? e
      unfold goodL at hm
      have hx := HOK.out x (List.mem_of_mem_take (List.mem_filter.1 hm).1)
      exact ⟨hx.wide, hx.ok.next, hx.ok.page⟩
  obtain ⟨rs, hrs⟩ : ∃ rs, (laidTo RL (min RL.length 60)).1 = rs := ⟨_, rfl⟩
  obtain ⟨R, hR⟩ : ∃ R, recN RL (min RL.length 60) = R := ⟨_, rfl⟩
  rw [hrs, hR] at hdec
  rw [hrs] at hla hXl hpl
  rw [hR] at hwid
  have HLG := hida (show Below w.heap.size w w1 ∧ LgAt w1 q A rs rs.length 0 j ∧ ∀ k, A k → w.heap.size ≤ k from ⟨hla.bel, hla.lg, hla.lo⟩)
  have HDEC := hida hdec
  have HPL := hida (show placeOf rs rs.length ≤ 500000 ∧ rs.length ≤ 60 from ⟨hpl, by omega⟩)
  have HNUM := hida (heardTo_num rs R 0 rs.length (fun i hi => ⟨by have := placeOf_mono rs (show i ≤ rs.length by omega); omega, hwid i⟩))
  clear HLD HOK hla hX hX60 hmm hn hdec hrs hR hpl hXl hwid
  go_wp2_with fail
  refine (awake19_any w1).mono ?_
  rintro e w2 ⟨rfl, b2⟩
  have HL2 := hida (show Below w.heap.size w w2 ∧ LgAt w2 q A rs rs.length 0 j ∧ ∀ k, A k → w.heap.size ≤ k from ⟨below_chain HLG.out.1 b2, HLG.out.2.1.below b2, HLG.out.2.2⟩)
  clear HLG b2
  have HRN := hida (lg_run HL2.out.2.1 (by omega) R (fun _ => true) 0 (Nat.zero_le _) (.inl ⟨rfl, rfl⟩) (fun i hi _ => HDEC.out i hi) (fun i hi h => by cases h))
  go_wp2_with fail
  refine HRN.out.mono ?_
  rintro e w3 hro
  obtain ⟨v1, v2, L, M, nb, rfl, h1, h2, hn, o1, o2⟩ := hro.yes fun _ _ _ => rfl
  rw [Nat.sub_zero] at h1 h2 ⊢
  obtain ⟨x1, y1, rfl, hT1⟩ := atAt.sl o1
  obtain ⟨x2, y2, rfl, hD1⟩ := adAt.sl o2
  unfold fdCells
  have HCAN := hida (show Can keyT L (heardTo rs R 0 rs.length).T ∧ Can keyD M (heardTo rs R 0 rs.length).D from ⟨h1, h2⟩)
  have HMB : Hid (-9223372036854775808 ≤ (heardTo rs R 0 rs.length).most ∧ (heardTo rs R 0 rs.length).most ≤ 9223372036854775807) := by
    have h5 := heardTo_most rs R 0 rs.length fun i hi => (HDEC.out i (by omega)).2
    have h6 := HNUM.out.pos
    exact ⟨by omega, by omega⟩
  generalize heardTo rs R 0 rs.length = H at *
  obtain ⟨re, HRE⟩ : ∃ re, Hid (redoL (placeOf rs rs.length) M = re) := ⟨_, rfl⟩
  rw [HRE.out]
  obtain ⟨W3, HW3⟩ : ∃ W3, Hid (W3 = w3.alloc (.cells #[.slice x1 L.length y1, .slice x2 M.length y2, .int .u64 (re : Nat), .int .i64 H.most, .int .i64 H.recs] 33)) := ⟨_, rfl⟩
  have bW3 : Below w3.heap.size w3 W3 := by rw [HW3.out]; exact (Below.refl _ _).alloc (Nat.le_refl _) _
  have b23 := below_chain hro.bel bW3
  have HV3 : Hid (TvAt w W3 q A rs rs.length 0 j w3.heap.size x1 x2 y1 y2 L M re H.most H.recs) :=
    ⟨below_chain HL2.out.1 b23, HL2.out.2.1.below b23, HL2.out.2.2, by rw [HW3.out]; exact Blk.made _ _ _, hT1.below bW3, hD1.below bW3, fun e => by have := HL2.out.2.1.lt e; have := hro.bel.size; omega,
      fun b o e => by
        have hz := (atAt.lt o1) b (by rw [e]; rfl)
        exact ⟨Nat.lt_of_lt_of_le hz.2 bW3.size, fun ha => by have := HL2.out.2.1.lt ha; omega⟩,
      fun b o e => by
        have hz := (World.ownsRow.lt o2) b (by rw [e]; rfl)
        exact ⟨Nat.lt_of_lt_of_le hz.2 bW3.size, fun ha => by have := HL2.out.2.1.lt ha; omega⟩⟩
  clear hro h1 h2 hn o1 o2 bW3 b23 hT1 hD1 HRN HL2
  go_upto_region 5 with fail
  rw [← HW3.out]
  clear HW3
  generalize w3.heap.size = fb at *
  have a0 : W3.cell? ⟨fb, 0, none⟩ = some (.slice x1 L.length y1) := HV3.out.f.cell 0
  have a1 : W3.cell? ⟨fb, 1, none⟩ = some (.slice x2 M.length y2) := HV3.out.f.cell 1
  by_cases hL : 64 < L.length
  · have d1 : decide ((64 : Int) < (L.length : Int)) = true := decide_eq_true (by omega)
    go_wp2_with fail
    go_ret
    exact ⟨rfl, HV3.out.bel⟩
  have d1 : decide ((64 : Int) < (L.length : Int)) = false := decide_eq_false (by omega)
  by_cases hM : 256 < M.length
  · have d2 : decide ((256 : Int) < (M.length : Int)) = true := decide_eq_true (by omega)
    go_wp2_with fail
    go_ret
    exact ⟨rfl, HV3.out.bel⟩
  have d2 : decide ((256 : Int) < (M.length : Int)) = false := decide_eq_false (by omega)
  go_upto_region 7 with fail
  clear a0 a1 d1 d2
  -- the records of the checkpoint
  have HEB : Hid (∀ wx, Calls Tryz.prog 10 #[.agg #[.int .i64 7, .int .i64 0, .int .u64 0, .int .u64 0, .int .u32 0, .int .i64 0, .int .i64 0, .string ⟨#[]⟩, .string ⟨#[]⟩, .int .i64 0, .int .i64 0, .string ⟨#[]⟩, .int .u32 0, .int .i64 0, .bool false, .slice none 0 0, .slice none 0 0]] wx fun e w' => e = .returned (.tuple #[.string (textR bgV), .int .i64 0]) ∧ Below wx.heap.size wx w') := fun wx => renc_ok bgV none none 0 0 wx (bg_ok wx) bg_may bg_wide
  go_wp2_with fail
  refine (HEB.out W3).mono ?_
  rintro e w4 ⟨rfl, b4⟩
  have HV4 := hida (HV3.out.below b4)
  clear HEB HV3 b4
  have a0 : w4.cell? ⟨fb, 0, none⟩ = some (.slice x1 L.length y1) := HV4.out.f.cell 0
  have a1 : w4.cell? ⟨fb, 1, none⟩ = some (.slice x2 M.length y2) := HV4.out.f.cell 1
  have a3 : w4.cell? ⟨fb, 3, none⟩ = some (.int .i64 H.most) := HV4.out.f.cell 3
  obtain ⟨W4, HW4⟩ : ∃ W4, Hid (W4 = w4.alloc (.cells ((ckV H.most L M).cells x1 x2 y1 y2) 63)) := ⟨_, rfl⟩
  have bW4 : Below w4.heap.size w4 W4 := by rw [HW4.out]; exact (Below.refl _ _).alloc (Nat.le_refl _) _
  have HV5 := hida (HV4.out.below bW4)
  have HBX : Hid (BlkR W4 w4.heap.size ((ckV H.most L M).cells x1 x2 y1 y2) 63) := by rw [HW4.out]; exact heap_alloc_new _ _
  have HWE : Hid (W4 = w4.alloc (.cells #[.int .i64 8, .int .i64 H.most, .int .u64 0, .int .u64 0, .int .u32 0, .int .i64 0, .int .i64 0, .string ⟨#[]⟩, .string ⟨#[]⟩, .int .i64 0, .int .i64 0, .string ⟨#[]⟩, .int .u32 0, .int .i64 0, .bool false, .slice x1 L.length y1, .slice x2 M.length y2] 63)) := HW4.out
  clear HV4 HW4 bW4
  go_upto_region 9 with fail
  rw [← HWE.out]
  clear HWE a0 a1 a3
  generalize w4.heap.size = cb at *
  refine wp_region_lit ?_
  refine wpList_loadRow rfl _ _ rfl cb rfl ((ckV H.most L M).cells x1 x2 y1 y2) _ (0, 0) HBX.out _ Tryz.underlying63 rfl (by kernel_rfl) ?_
  have HCO := hida (ck_ok (m := H.most) HMB.out (by omega) (by omega) HV5.out.t1 HV5.out.d1)
  cases hmr : mayR (ckV H.most L M) with
  | false =>
    have HEC := hida (renc_no (ckV H.most L M) x1 x2 y1 y2 W4 HCO.out hmr)
    clear HBX
    go_wp2_with fail
    refine HEC.out.mono ?_
    rintro e w5 ⟨rfl, b5⟩
    have HB := hida (below_chain HV5.out.bel b5)
    clear HEC HV5 HCO b5
    go_wp2_with fail
    go_ret
    exact ⟨rfl, HB.out⟩
  | true =>
    have HWD := hida (ck_wide HNUM.out HCAN.out.1 HCAN.out.2)
    have HEC := hida (renc_ok (ckV H.most L M) x1 x2 y1 y2 W4 HCO.out hmr HWD.out)
    have HGD := hida (an_good hmr HWD.out HCO.out)
    clear HBX HCO
    go_wp2_with fail
    refine HEC.out.mono ?_
    rintro e w5 ⟨rfl, b5⟩
    rw [show (⟨(encR (ckV H.most L M)).toArray⟩ : ByteArray) = textR (ckV H.most L M) from rfl]
    have HV6 := hida (HV5.out.below b5)
    clear HEC HV5 b5
    have HSB := hida (show 1 ≤ (textR bgV).size ∧ (textR bgV).size ≤ 8192 from by rw [textR_size]; exact ⟨encR_pos _, encR_8192 (may_parts bg_may)⟩)
    have HSC := hida (show 1 ≤ (textR (ckV H.most L M)).size ∧ (textR (ckV H.most L M)).size ≤ 8192 from by rw [textR_size]; exact ⟨encR_pos _, encR_8192 (may_parts hmr)⟩)
    have HGB := hida (an_good bg_may bg_wide (bg_ok W4))
    obtain ⟨sb, hsb⟩ : ∃ sb, textR bgV = sb := ⟨_, rfl⟩
    obtain ⟨sc, hsc⟩ : ∃ sc, textR (ckV H.most L M) = sc := ⟨_, rfl⟩
    rw [hsb] at HSB HGB ⊢
    rw [hsc] at HSC HGD ⊢
    clear hsb hsc hmr HWD
    have HPB := hida (place_more rs sb)
    have HPC := hida (place_more (rs ++ [sb]) sc)
    have HA1 := hida (lg_append HV6.out.lg (by omega) sb HSB.out.1 HSB.out.2 (by have := HPL.out.1; have := HSB.out.2; omega))
    go_wp2_with fail
    refine HA1.out.mono ?_
    rintro e w6 ⟨rfl, A6, hl6, mv6⟩
    have HV7 := hida (HV6.out.log hl6 mv6)
    clear HA1 HV6 hl6 mv6
    have HA2 := hida (lg_append HV7.out.lg (by omega) sc HSC.out.1 HSC.out.2 (by have := HPL.out.1; have := HSB.out.2; have := HSC.out.2; have := HPB.out; omega))
    go_wp2_with fail
    refine HA2.out.mono ?_
    rintro e w7 ⟨rfl, A7, hl7, mv7⟩
    have HV8 := hida (HV7.out.log hl7 mv7)
    clear HA2 HV7 hl7 mv7
    obtain ⟨RS, HRS⟩ : ∃ RS, Hid (rs ++ [sb] ++ [sc] = RS) := ⟨_, rfl⟩
    rw [HRS.out] at HV8
    have HEN := hida (lg_end HV8.out.lg)
    have HFL := hida (lg_flush HV8.out.lg (by omega))
    go_wp2_with fail
    refine HEN.out.mono ?_
    rintro e w8 ⟨rfl, hw8⟩
    rw [hw8]
    clear hw8 HEN
    go_wp2_with fail
    refine HFL.out.mono ?_
    rintro e w9 ⟨rfl, A9, hl9, mv9⟩
    have HV9 := hida (HV8.out.log hl9 mv9)
    clear HFL HV8 hl9 mv9
    have HRL : Hid (RS.length = rs.length + 2) := by
      show _ = _
      rw [← HRS.out]
      simp only [List.length_append, List.length_singleton]
    have HPE : Hid (placeOf RS rs.length = placeOf rs rs.length) := by
      show _ = _
      rw [← HRS.out, placeOf_snoc _ _ _ (by rw [List.length_append]; omega), placeOf_snoc _ _ _ (Nat.le_refl _)]
    have HMA := hida (lg_master HV9.out.lg (by omega) rs.length (by have := HRL.out; omega))
    rw [HPE.out] at HMA
    go_wp2_with fail
    refine HMA.out.mono ?_
    rintro e wa ⟨rfl, AA, hla, mva⟩
    have HVA := hida (HV9.out.log hla mva)
    clear HMA HV9 hla mva
    -- from the checkpoint on
    have HDC := hida HDEC.out
    have hgood : ∀ i, i < RS.length → DecGood (RS.getD i ⟨#[]⟩) (if i < rs.length then R i else if i = rs.length then bgV else ckV H.most L M) ∧ HrOk (if i < rs.length then R i else if i = rs.length then bgV else ckV H.most L M) := by
      intro i hi
      rw [← HRS.out] at hi ⊢
      by_cases c1 : i < rs.length
      · rw [if_pos c1]
        have e : (rs ++ [sb] ++ [sc]).getD i ⟨#[]⟩ = rs.getD i ⟨#[]⟩ := by
          rw [List.getD_eq_getElem?_getD, List.getD_eq_getElem?_getD, List.append_assoc, List.getElem?_append_left c1]
        rw [e]
        exact HDC.out i c1
      · rw [if_neg c1]
        by_cases c2 : i = rs.length
        · subst c2
          rw [if_pos rfl]
          have e : (rs ++ [sb] ++ [sc]).getD rs.length ⟨#[]⟩ = sb := by
            rw [List.getD_eq_getElem?_getD, List.append_assoc, List.getElem?_append_right (Nat.le_refl _), Nat.sub_self]
            rfl
          rw [e]
          exact HGB.out
        · rw [if_neg c2]
          have hi2 : i = (rs ++ [sb]).length := by
            simp only [List.length_append, List.length_singleton] at hi ⊢
            omega
          subst hi2
          rw [getD_last]
          exact HGD.out
    have HRN := hida (lg_run HVA.out.lg (by omega) (fun i => if i < rs.length then R i else if i = rs.length then bgV else ckV H.most L M) (fun _ => true) rs.length (by have := HRL.out; omega) (.inr ⟨by have := placeOf_pos rs rs.length; omega, by have := HRL.out; omega, HPE.out⟩) (fun i hi _ => hgood i hi) (fun i hi h => by cases h))
    have HHE : Hid (heardTo RS (fun i => if i < rs.length then R i else if i = rs.length then bgV else ckV H.most L M) rs.length (RS.length - rs.length) = hearRec (hearRec hear0 (placeOf RS rs.length) bgV) (placeOf RS (rs.length + 1)) (ckV H.most L M)) := by
      show _ = _
      have e : RS.length - rs.length = 2 := by have := HRL.out; omega
      rw [e]
      show hearRec (hearRec hear0 (placeOf RS (rs.length + 0)) (if rs.length + 0 < rs.length then R (rs.length + 0) else if rs.length + 0 = rs.length then bgV else ckV H.most L M)) (placeOf RS (rs.length + 1)) (if rs.length + 1 < rs.length then R (rs.length + 1) else if rs.length + 1 = rs.length then bgV else ckV H.most L M) = _
      rw [if_neg (show ¬ rs.length + 0 < rs.length by omega), if_pos (show rs.length + 0 = rs.length from rfl), if_neg (show ¬ rs.length + 1 < rs.length by omega), if_neg (show ¬ rs.length + 1 = rs.length by omega)]
      rfl
    have HCK := hida (ck_heard HNUM.out HCAN.out.1 HCAN.out.2 (placeOf RS rs.length) (placeOf RS (rs.length + 1)))
    clear hgood HDC HDEC HGB HGD HSB HSC HPB HPC HPE HMB HNUM HPL
    go_wp2_with fail
    refine HRN.out.mono ?_
    rintro e wb hro
    obtain ⟨v3, v4, L3, L4, nb, rfl, h3, h4, hn, o3, o4⟩ := hro.yes fun _ _ _ => rfl
    rw [HHE.out] at h3 h4 ⊢
    obtain rfl : L3 = L := h3.same (HCAN.out.1.ext HCK.out.1)
    obtain rfl : L4 = M := h4.same (HCAN.out.2.ext HCK.out.2.1)
    obtain ⟨x3, y3, rfl, hT3⟩ := atAt.sl o3
    obtain ⟨x4, y4, rfl, hD4⟩ := adAt.sl o4
    unfold fdCells
    rw [HCK.out.2.2.1, HCK.out.2.2.2]
    have HRR : Hid (L4.length = 0 ∨ redoL (placeOf RS RS.length) L4 = re) := by
      cases L4 with
      | nil => exact .inl rfl
      | cons x l => exact .inr (by rw [← HRE.out]; exact redo_ne (by simp))
    generalize redoL (placeOf RS RS.length) L4 = re' at *
    have HVB := hida (HVA.out.below hro.bel)
    obtain ⟨WB, HWB⟩ : ∃ WB, Hid (WB = wb.alloc (.cells #[.slice x3 L3.length y3, .slice x4 L4.length y4, .int .u64 (re' : Nat), .int .i64 H.most, .int .i64 2] 33)) := ⟨_, rfl⟩
    have bWB : Below wb.heap.size wb WB := by rw [HWB.out]; exact (Below.refl _ _).alloc (Nat.le_refl _) _
    have HF : Hid (TwAt w WB fb wb.heap.size x1 x2 x3 x4 y1 y2 y3 y4 L3 L4 re re' H.most H.recs 2) :=
      ⟨below_chain HVB.out.bel bWB, HVB.out.f.same (bWB.block _ HVB.out.f.lt), by rw [HWB.out]; exact Blk.made _ _ _, HVB.out.t1.below bWB, HVB.out.d1.below bWB, hT3.below bWB, hD4.below bWB⟩
    clear hro h3 h4 hn o3 o4 hT3 hD4 HRN HVA HVB HHE HCK HCAN bWB HRE
    go_upto_region 17 with fail
    rw [← HWB.out]
    clear HWB
    generalize wb.heap.size = gb at *
    have a0 : WB.cell? ⟨fb, 0, none⟩ = some (.slice x1 L3.length y1) := HF.out.f.cell 0
    have a1 : WB.cell? ⟨fb, 1, none⟩ = some (.slice x2 L4.length y2) := HF.out.f.cell 1
    have a3 : WB.cell? ⟨fb, 3, none⟩ = some (.int .i64 H.most) := HF.out.f.cell 3
    have b0 : WB.cell? ⟨gb, 0, none⟩ = some (.slice x3 L3.length y3) := HF.out.g.cell 0
    have b1 : WB.cell? ⟨gb, 1, none⟩ = some (.slice x4 L4.length y4) := HF.out.g.cell 1
    have b3 : WB.cell? ⟨gb, 3, none⟩ = some (.int .i64 H.most) := HF.out.g.cell 3
    have b4 : WB.cell? ⟨gb, 4, none⟩ = some (.int .i64 2) := HF.out.g.cell 4
    go_wp2_with fail
    clear a0 a1 a3 b0 b1 b3 b4
    go_loopw [19] (fun x wr => ∃ k : Nat, x = .int .i64 k ∧ k ≤ L3.length ∧ Hid (TwAt w wr fb gb x1 x2 x3 x4 y1 y2 y3 y4 L3 L4 re re' H.most H.recs 2)) (fun x _ => L3.length - (intOf x).toNat)
    case atStart => exact ⟨0, rfl, Nat.zero_le _, HF⟩
    case round =>
      obtain ⟨k, rfl, hk, HB⟩ := hrel
      clear HF
      have a0 : wr.cell? ⟨fb, 0, none⟩ = some (.slice x1 L3.length y1) := HB.out.f.cell 0
      have b0 : wr.cell? ⟨gb, 0, none⟩ = some (.slice x3 L3.length y3) := HB.out.g.cell 0
      by_cases hlt : k < L3.length
      · have e1 : decide ((k : Int) < (L3.length : Int)) = true := decide_eq_true (by omega)
        have e2 : (0 : Int) ≤ (k : Int) := by omega
        have e3 : (k : Int) < (L3.length : Int) := by omega
        obtain ⟨p1, q1, rfl, g1⟩ : ∃ p q, x1 = some ⟨p, q, none⟩ ∧ TxAt wr p (q + k * 4) L3[k] := by
          rcases HB.out.t1 with h | ⟨b1, o1, e, hb, h⟩
          · rw [h] at hlt; simp at hlt
          · exact ⟨b1, o1, e, h k hlt⟩
        obtain ⟨p3, q3, rfl, g3⟩ : ∃ p q, x3 = some ⟨p, q, none⟩ ∧ TxAt wr p (q + k * 4) L3[k] := by
          rcases HB.out.t2 with h | ⟨b1, o1, e, hb, h⟩
          · rw [h] at hlt; simp at hlt
          · exact ⟨b1, o1, e, h k hlt⟩
        obtain ⟨t, ht⟩ : ∃ t, L3[k] = t := ⟨_, rfl⟩
        rw [ht] at g1 g3
        clear ht
        obtain ⟨t0, t1, t2, t3⟩ := t
        obtain ⟨g10, g11, g12, g13⟩ := g1
        obtain ⟨g30, g31, g32, g33⟩ := g3
        simp only at g10 g11 g12 g13 g30 g31 g32 g33
        have HBD := hida (fun n => HB.out.below (below_drewN (Below.refl _ _) n))
        clear HB
        go_upto_region 22 with fail
        go_quiet (fail)
        go_wp2_with fail
        go_roundw
        case rel => exact ⟨k + 1, by go_num, by omega, hida (HBD.out nq)⟩
        case measure => simp [intOf]; omega
      · have e1 : decide ((k : Int) < (L3.length : Int)) = false := decide_eq_false (by omega)
        go_wp2_with fail
        clear a0 b0 e1 hk hlt
        go_loopw [20] (fun x wr => ∃ k : Nat, x = .int .i64 k ∧ k ≤ L4.length ∧ Hid (TwAt w wr fb gb x1 x2 x3 x4 y1 y2 y3 y4 L3 L4 re re' H.most H.recs 2)) (fun x _ => L4.length - (intOf x).toNat)
        case atStart => exact ⟨0, rfl, Nat.zero_le _, HB⟩
        case round =>
          clear HB
          obtain ⟨k, rfl, hk, HB⟩ := hrel
          have a0 : wr.cell? ⟨fb, 1, none⟩ = some (.slice x2 L4.length y2) := HB.out.f.cell 1
          have b0 : wr.cell? ⟨gb, 1, none⟩ = some (.slice x4 L4.length y4) := HB.out.g.cell 1
          by_cases hlt : k < L4.length
          · have e1 : decide ((k : Int) < (L4.length : Int)) = true := decide_eq_true (by omega)
            have e2 : (0 : Int) ≤ (k : Int) := by omega
            have e3 : (k : Int) < (L4.length : Int) := by omega
            obtain ⟨p1, q1, rfl, g1⟩ : ∃ p q, x2 = some ⟨p, q, none⟩ ∧ DiAt wr p (q + k * 2) L4[k] := by
              rcases HB.out.d1 with h | ⟨b1, o1, e, hb, h⟩
              · rw [h] at hlt; simp at hlt
              · exact ⟨b1, o1, e, h k hlt⟩
            obtain ⟨p3, q3, rfl, g3⟩ : ∃ p q, x4 = some ⟨p, q, none⟩ ∧ DiAt wr p (q + k * 2) L4[k] := by
              rcases HB.out.d2 with h | ⟨b1, o1, e, hb, h⟩
              · rw [h] at hlt; simp at hlt
              · exact ⟨b1, o1, e, h k hlt⟩
            obtain ⟨t, ht⟩ : ∃ t, L4[k] = t := ⟨_, rfl⟩
            rw [ht] at g1 g3
            clear ht
            obtain ⟨t0, t1⟩ := t
            obtain ⟨g10, g11⟩ := g1
            obtain ⟨g30, g31⟩ := g3
            simp only at g10 g11 g30 g31
            have HBD := hida (fun n => HB.out.below (below_drewN (Below.refl _ _) n))
            clear HB
            go_upto_region 27 with fail
            go_quiet (fail)
            go_wp2_with fail
            go_roundw
            case rel => exact ⟨k + 1, by go_num, by omega, hida (HBD.out nq)⟩
            case measure => simp [intOf]; omega
          · have e1 : decide ((k : Int) < (L4.length : Int)) = false := decide_eq_false (by omega)
            have f2 : wr.cell? ⟨fb, 2, none⟩ = some (.int .u64 (re : Nat)) := HB.out.f.cell 2
            have c2 : wr.cell? ⟨gb, 2, none⟩ = some (.int .u64 (re' : Nat)) := HB.out.g.cell 2
            have HBL := hida HB.out.bel
            clear HB
            by_cases hz : L4.length = 0
            · have d1 : ((L4.length : Int) == 0) = true := beq_iff_eq.2 (by omega)
              go_wp2_with fail
              go_ret
              exact ⟨rfl, HBL.out⟩
            · have d1 : ((L4.length : Int) == 0) = false := beq_eq_false_iff_ne.2 (by omega)
              obtain rfl : re' = re := HRR.out.resolve_left hz
              go_wp2_with fail
              go_ret
              exact ⟨rfl, HBL.out⟩

end Go.Proofs.YtlphebebnjcidaaGreat
