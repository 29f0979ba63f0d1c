/-
  girderref03.Decode whole; the walk of PageCodes.
-/
import Derived.Test.YtbkdedkifbffhaaRefDecode2
namespace Go.Proofs.Ytbkdedkifbffhaa
open Go.RowKit Go.Sort
set_option linter.unusedVariables false

theorem refDecode_any (s : ByteArray) (w : World) (hm : s.size ≤ maxLen) :
    Calls Try.prog 13 #[.string s] w fun x w' => ∃ a c, x = .returned (.tuple #[(decP s).val a c, .int .i64 (decE s)]) ∧ StrsAt w' a (decP s).slots ∧ Below w.heap.size w w' := by
  by_cases h1 : s.size < 512
  · have hE : decE s = 4 := by unfold decE; rw [if_pos h1]
    have hP : decP s = sheet0 := by unfold decP; rw [hE, if_neg (by simp)]
    rw [hE, hP]
    exact (rdec_short s w h1).mono fun x w' h => ⟨none, 0, h.1, .inl rfl, h.2⟩
  by_cases h2 : 512 < s.size
  · have hE : decE s = 5 := by unfold decE; rw [if_neg h1, if_pos h2]
    have hP : decP s = sheet0 := by unfold decP; rw [hE, if_neg (by simp)]
    rw [hE, hP]
    exact (rdec_long s w h2 hm).mono fun x w' h => ⟨none, 0, h.1, .inl rfl, h.2⟩
  have h3 : s.size = 512 := by omega
  by_cases hz : zerosB s.data.toList = true
  · have hE : decE s = 0 := by unfold decE; rw [if_neg h1, if_neg h2, if_pos hz]
    have hP : decP s = sheet0 := by unfold decP; rw [if_neg (by rw [hz]; simp)]
    rw [hE, hP]
    exact (rdec_zero s w h3 hz).mono fun x w' h => ⟨none, 0, h.1, .inl rfl, h.2⟩
  have hz' : zerosB s.data.toList = false := by simpa using hz
  by_cases ht : s.extract 4 12 = s.extract 504 512
  · by_cases hs : le (s.extract 0 4).data.toList = crcSum 0 (s.extract 4 512).data.toList
    · exact rdec_read s w h3 hz' ht hs
    · have hs' : s.extract 0 4 ≠ ⟨(putL (crcSum 0 (s.extract 4 512).data.toList) 4).toArray⟩ := fun e => by
        apply hs
        rw [e]
        show le (putL _ 4) = _
        rw [le_putL]
        exact Nat.mod_eq_of_lt (by have := crcSum_lt 0 (s.extract 4 512).data.toList; omega)
      have hE : decE s = 32 := by unfold decE; rw [if_neg h1, if_neg h2, if_neg hz, if_neg (by rw [ht]; simp), if_pos hs']
      have hP : decP s = sheet0 := by unfold decP; rw [hE, if_neg (by simp)]
      rw [hE, hP]
      exact (rdec_sum s w h3 hz' ht hs).mono fun x w' h => ⟨none, 0, h.1, .inl rfl, h.2⟩
  · have hE : decE s = 34 := by unfold decE; rw [if_neg h1, if_neg h2, if_neg hz, if_pos (fun e => ht e.symm)]
    have hP : decP s = sheet0 := by unfold decP; rw [hE, if_neg (by simp)]
    rw [hE, hP]
    exact (rdec_torn s w h3 hz' ht).mono fun x w' h => ⟨none, 0, h.1, .inl rfl, h.2⟩

theorem fits_ok {q : SheetV} {w : World} {a : Option Addr} (f : q.Fits) (h : StrsAt w a q.slots) : q.Ok w a := by
  have hf := f.fits
  refine ⟨f.num, f.lsn, ⟨by have := f.kind0; omega, by have := f.kind1; omega⟩, by have := f.head; omega, by have := f.len; omega, fun s hs => ?_, h⟩
  obtain ⟨j, hj, rfl⟩ := List.mem_iff_getElem.1 hs
  have := slotSum_at q.slots j hj
  omega

theorem sheet0_fits : sheet0.Fits := ⟨by decide, by decide, by decide, by decide, by decide, by decide, by decide⟩

theorem decP_fits (s : ByteArray) : (decP s).Fits := by
  by_cases h : decE s = 0 ∧ zerosB s.data.toList = false
  · exact (enc_of_dec h.1 h.2).1
  · have : decP s = sheet0 := by unfold decP; rw [if_neg h]
    rw [this]; exact sheet0_fits

set_option maxHeartbeats 3200000 in
set_option maxRecDepth 20000 in
theorem codes_walk (p : SheetV) (a : Option Addr) (c : Nat) (s : ByteArray) (w : World) (hp : p.Ok w a) (hs : s.size ≤ 140737488351232) :
    Calls Try.prog 3 #[p.val a c, .string s] w fun e w' => e = .returned (.bool true) ∧ Below w.heap.size w w' := by
  have hsm : s.size ≤ maxLen := by unfold maxLen; omega
  have HE1 : Hid (∀ wx, Below w.heap.size w wx → Calls Try.prog 9 #[p.val a c] wx fun e w' => e = .returned (.tuple #[.string (encS p), .int .i64 (encE p)]) ∧ Below wx.heap.size wx w') := fun wx hb => encode_any p a c wx (hp.below hb)
  have HE2 : Hid (∀ wx, Below w.heap.size w wx → Calls Try.prog 10 #[p.val a c] wx fun e w' => e = .returned (.tuple #[.string (encS p), .int .i64 (encE p)]) ∧ Below wx.heap.size wx w') := fun wx hb => refEncode_any p a c wx (hp.below hb)
  have HRF : Hid (∀ wx, Calls Try.prog 11 #[p.val a c] wx fun e w' => e = .returned (p.val a c) ∧ Below wx.heap.size wx w') := fun wx => ref_any p a c wx
  have HD1 : Hid (∀ wx, Calls Try.prog 12 #[.string s] wx fun x w' => ∃ a c, x = .returned (.tuple #[(decP s).val a c, .int .i64 (decE s)]) ∧ StrsFrom wx.heap.size w' a (decP s).slots ∧ Below wx.heap.size wx w') := fun wx => decode_any s wx hsm
  have HD2 : Hid (∀ wx, Calls Try.prog 13 #[.string s] wx fun x w' => ∃ a c, x = .returned (.tuple #[(decP s).val a c, .int .i64 (decE s)]) ∧ StrsAt w' a (decP s).slots ∧ Below wx.heap.size wx w') := fun wx => refDecode_any s wx hsm
  have HRM : Hid (∀ wx, Below w.heap.size w wx → Calls Try.prog 15 #[p.val a c] wx fun e w' => e = .returned (.int .i64 (roomF p)) ∧ Below wx.heap.size wx w') := fun wx hb => (hp.below hb).room c
  have HRR : Hid (∀ wx, Below w.heap.size w wx → Calls Try.prog 16 #[p.val a c] wx fun e w' => e = .returned (.int .i64 (roomF p)) ∧ Below wx.heap.size wx w') := fun wx hb => (hp.below hb).refRoom c
  have HSM : Hid (∀ wx a1 c1 a2 c2, StrsAt wx a1 (decP s).slots → StrsAt wx a2 (decP s).slots → Calls Try.prog 17 #[(decP s).val a1 c1, (decP s).val a2 c2] wx fun e w' => e = .returned (.bool true) ∧ Below wx.heap.size wx w') := fun wx a1 c1 a2 c2 h1 h2 => by
    have := lsame_any (decP s) (decP s) a1 a2 c1 c2 wx (fits_ok (decP_fits s) h1) (fits_ok (decP_fits s) h2)
    rw [show (decide ((decP s).lsn = (decP s).lsn) && sameB (decP s) (decP s)) = true from by simp [sameB]] at this
    exact this
  have HFT : Hid (encE p = 0 → p.Fits) := (encE_fits hp).1
  have HES : Hid (encE p = 0 → encS p = ⟨(encL p).toArray⟩) := fun e => by unfold encS; rw [if_pos e]
  have HPS : Hid (∀ wx a1 c1, Below w.heap.size w wx → StrsAt wx a1 p.slots → p.Fits → Calls Try.prog 18 #[p.val a1 c1, p.val a c] wx fun e w' => e = .returned (.bool true) ∧ Below wx.heap.size wx w') := fun wx a1 c1 hb h1 f => by
    have := same_any p p a1 a c1 c wx (fits_ok f h1) (hp.below hb)
    rw [show sameB p p = true from by simp [sameB]] at this
    exact this
  clear hp
  generalize encE p = E at *
  generalize encS p = T at *
  generalize decE s = G at *
  generalize roomF p = RM at *
  generalize decP s = q at *
  simp only [SheetV.val] at *
  obtain ⟨W0, HW0⟩ : ∃ W0, Hid (W0 = w.alloc (.cells #[.int .u32 p.num, .int .u64 p.lsn, .int .i64 p.kind, .string p.head, .slice a p.slots.length c] 28)) := ⟨_, rfl⟩
  have bel0 : Below w.heap.size w W0 := by rw [HW0.out]; exact (Below.refl _ _).alloc (Nat.le_refl _) _
  have z0 : w.heap.size < W0.heap.size := by rw [HW0.out]; simp
  have p0 : RowV W0 w.heap.size 5 (five (.int .u32 p.num) (.int .u64 p.lsn) (.int .i64 p.kind) (.string p.head) (.slice a p.slots.length c)) := by rw [HW0.out]; exact RowV.five_new w _ _ _ _ _ _
  go_enter Try.func3, Try.ntmps3
  go_wp2_with fail
  rw [← HW0.out]
  refine (HE1.out _ bel0).mono ?_
  rintro e w1 ⟨rfl, b1⟩
  have p1 := p0.below b1 z0
  have bel1 := below_chain bel0 b1
  have z1 := Nat.lt_of_lt_of_le z0 b1.size
  clear HW0 p0 bel0 z0 b1
  obtain ⟨x0, x1, x2, x3, x4⟩ := p1.cells5
  go_wp2_with fail
  refine (HRF.out _).mono ?_
  rintro e w2 ⟨rfl, b2⟩
  have p2 := p1.below b2 z1
  have bel2 := below_chain bel1 b2
  have z2 := Nat.lt_of_lt_of_le z1 b2.size
  clear p1 bel1 z1 b2 x0 x1 x2 x3 x4
  go_wp2_with fail
  refine (HE2.out _ bel2).mono ?_
  rintro e w3 ⟨rfl, b3⟩
  have p3 := p2.below b3 z2
  have bel3 := below_chain bel2 b3
  have z3 := Nat.lt_of_lt_of_le z2 b3.size
  clear p2 bel2 z2 b3
  go_wp2_with fail
  refine (HD1.out _).mono ?_
  rintro e w4 ⟨aq, cq, rfl, hq4, b4⟩
  have p4 := p3.below b4 z3
  have bel4 := below_chain bel3 b4
  have z4 := Nat.lt_of_lt_of_le z3 b4.size
  clear p3 bel3 z3 b4
  go_wp2_with fail
  obtain ⟨W4, HW4⟩ : ∃ W, Hid (W = w4.alloc (.cells #[.int .u32 q.num, .int .u64 q.lsn, .int .i64 q.kind, .string q.head, .slice aq q.slots.length cq] 28)) := ⟨_, rfl⟩
  have bA : Below w4.heap.size w4 W4 := by rw [HW4.out]; exact (Below.refl _ _).alloc (Nat.le_refl _) _
  have q5 : RowV W4 w4.heap.size 5 (five (.int .u32 q.num) (.int .u64 q.lsn) (.int .i64 q.kind) (.string q.head) (.slice aq q.slots.length cq)) := by rw [HW4.out]; exact RowV.five_new w4 _ _ _ _ _ _
  have zq5 : w4.heap.size < W4.heap.size := by rw [HW4.out]; simp
  have hq5 := hq4.at.below bA
  have p5 := p4.below bA z4
  have bel5 := below_chain bel4 bA
  rw [← HW4.out]
  clear HW4 bA p4 bel4 hq4
  refine (HD2.out _).mono ?_
  rintro e w6 ⟨ak, ck, rfl, hk6, b6⟩
  have q6 := q5.below b6 zq5
  have hq6 := hq5.below b6
  have p6 := p5.below b6 (by omega)
  have bel6 := below_chain bel5 b6
  have z6 := Nat.lt_of_lt_of_le zq5 b6.size
  clear q5 hq5 p5 bel5 zq5 b6
  have z6' : w.heap.size < w6.heap.size := by omega
  go_wp2_with fail
  obtain ⟨W, HW⟩ : ∃ W, Hid (W = w6.alloc (.cells #[.int .u32 q.num, .int .u64 q.lsn, .int .i64 q.kind, .string q.head, .slice ak q.slots.length ck] 35)) := ⟨_, rfl⟩
  have bB : Below w6.heap.size w6 W := by rw [HW.out]; exact (Below.refl _ _).alloc (Nat.le_refl _) _
  have k7 : RowV W w6.heap.size 5 (five (.int .u32 q.num) (.int .u64 q.lsn) (.int .i64 q.kind) (.string q.head) (.slice ak q.slots.length ck)) := by rw [HW.out]; exact RowV.five_new w6 _ _ _ _ _ _
  have q7 := q6.below bB z6
  have hq7 := hq6.below bB
  have hk7 := hk6.below bB
  have p7 := p6.below bB z6'
  have bel7 := below_chain bel6 bB
  have zW : w.heap.size < W.heap.size := Nat.lt_of_lt_of_le z6' bB.size
  rw [← HW.out]
  clear HW bB q6 hq6 hk6 p6 bel6 z6
  obtain ⟨x0, x1, x2, x3, x4⟩ := p7.cells5
  obtain ⟨y0, y1, y2, y3, y4⟩ := q7.cells5
  obtain ⟨u0, u1, u2, u3, u4⟩ := k7.cells5
  have hMid : ∀ dd os, Below w.heap.size w (grow (redrawn W dd) os) := fun dd os => below_chain bel7 (below_regrown W dd os)
  have gx0 := cell_regrown x0
  have gx1 := cell_regrown x1
  have gx2 := cell_regrown x2
  have gx3 := cell_regrown x3
  have gx4 := cell_regrown x4
  have gy0 := cell_regrown y0
  have gy1 := cell_regrown y1
  have gy2 := cell_regrown y2
  have gy3 := cell_regrown y3
  have gy4 := cell_regrown y4
  have gu0 := cell_regrown u0
  have gu1 := cell_regrown u1
  have gu2 := cell_regrown u2
  have gu3 := cell_regrown u3
  have gu4 := cell_regrown u4
  clear x0 x1 x2 x3 x4 y0 y1 y2 y3 y4 u0 u1 u2 u3 u4
  have cA : ∀ dd os, Calls Try.prog 14 #[] (grow (redrawn W dd) os) fun e w'' => e = .returned (.bool true) ∧ ∃ p : Regrown, w'' = grow (redrawn W p.d) p.os := fun dd os => Calls.regrown_of (awake_any _)
  have cR : ∀ dd os, Calls Try.prog 15 #[.agg #[.int .u32 p.num, .int .u64 p.lsn, .int .i64 p.kind, .string p.head, .slice a p.slots.length c]] (grow (redrawn W dd) os) fun e w'' => e = .returned (.int .i64 RM) ∧ ∃ p : Regrown, w'' = grow (redrawn W p.d) p.os := fun dd os => Calls.regrown_of (HRM.out _ (hMid dd os))
  have cF : ∀ dd os, Calls Try.prog 11 #[.agg #[.int .u32 p.num, .int .u64 p.lsn, .int .i64 p.kind, .string p.head, .slice a p.slots.length c]] (grow (redrawn W dd) os) fun e w'' => e = .returned (.agg #[.int .u32 p.num, .int .u64 p.lsn, .int .i64 p.kind, .string p.head, .slice a p.slots.length c]) ∧ ∃ p : Regrown, w'' = grow (redrawn W p.d) p.os := fun dd os => Calls.regrown_of (HRF.out _)
  have cQ : ∀ dd os, Calls Try.prog 16 #[.agg #[.int .u32 p.num, .int .u64 p.lsn, .int .i64 p.kind, .string p.head, .slice a p.slots.length c]] (grow (redrawn W dd) os) fun e w'' => e = .returned (.int .i64 RM) ∧ ∃ p : Regrown, w'' = grow (redrawn W p.d) p.os := fun dd os => Calls.regrown_of (HRR.out _ (hMid dd os))
  have cS : ∀ dd os, Calls Try.prog 17 #[.agg #[.int .u32 q.num, .int .u64 q.lsn, .int .i64 q.kind, .string q.head, .slice aq q.slots.length cq], .agg #[.int .u32 q.num, .int .u64 q.lsn, .int .i64 q.kind, .string q.head, .slice ak q.slots.length ck]] (grow (redrawn W dd) os) fun e w'' => e = .returned (.bool true) ∧ ∃ p : Regrown, w'' = grow (redrawn W p.d) p.os := fun dd os => Calls.regrown_of (HSM.out _ aq cq ak ck (hq7.below (below_regrown W dd os)) (hk7.below (below_regrown W dd os)))
  have hTT := str_eq (rfl : T = T)
  refine wp_region_quiet_below mixed (by kernel_rfl) ?_
  iterate 31 (quiet_step (first | (go_at_call 14; exact cA _ _) | (go_at_call 15; exact cR _ _) | (go_at_call 11; exact cF _ _) | (go_at_call 16; exact cQ _ _) | (go_at_call 17; exact cS _ _)))
  refine wpQuiet_nil ?_
  intro _ hw'
  obtain ⟨⟨dq, osq⟩, hw''⟩ := hw'
  subst hw''
  have bG := below_regrown W dq osq
  have p8 := p7.below bG zW
  have bel8 := below_chain bel7 bG
  have z8 := Nat.lt_of_lt_of_le zW bG.size
  obtain ⟨W8, HW8⟩ : ∃ W8, Hid (W8 = grow (redrawn W dq) osq) := ⟨_, rfl⟩
  simp only
  rw [← HW8.out] at p8 bel8 z8 ⊢
  clear HW8 bG p7 q7 k7 hq7 hk7 bel7 zW cA cR cF cQ cS hMid gx0 gx1 gx2 gx3 gx4 gy0 gy1 gy2 gy3 gy4 gu0 gu1 gu2 gu3 gu4
  by_cases hE : E = 0
  · have F := HFT.out hE
    have hT := HES.out hE
    have HDT : Hid (∀ wx, Calls Try.prog 12 #[.string T] wx fun x w' => ∃ a c, x = .returned (.tuple #[.agg #[.int .u32 p.num, .int .u64 p.lsn, .int .i64 p.kind, .string p.head, .slice a p.slots.length c], .int .i64 0]) ∧ StrsFrom wx.heap.size w' a p.slots ∧ Below wx.heap.size wx w') := fun wx => by
      have := decode_any T wx (by rw [hT, enc_size p F]; unfold maxLen; omega)
      rw [hT, (dec_enc p F).1, (dec_enc p F).2, ← hT] at this
      exact this
    clear hT HES HFT
    subst hE
    go_wp2_with fail
    refine (HDT.out _).mono ?_
    rintro e w9 ⟨ab, cb, rfl, hb9, b9⟩
    have p9 := p8.below b9 z8
    have bel9 := below_chain bel8 b9
    have z9 := Nat.lt_of_lt_of_le z8 b9.size
    clear p8 bel8 z8 b9
    obtain ⟨x0, x1, x2, x3, x4⟩ := p9.cells5
    have hll : ((p.lsn : Int) == (p.lsn : Int)) = true := by simp
    go_wp2_with fail
    refine (HPS.out _ ab cb (bel9.alloc (by omega) _) (hb9.at.below ((Below.refl _ _).alloc (Nat.le_refl _) _)) F).mono ?_
    rintro e w10 ⟨rfl, b10⟩
    have q10 := (RowV.five_new w9 (.int .u32 p.num) (.int .u64 p.lsn) (.int .i64 p.kind) (.string p.head) (.slice ab p.slots.length cb) 28).below b10 (by simp)
    have p10 := (p9.below ((Below.refl _ _).alloc (Nat.le_refl _) (.cells #[.int .u32 p.num, .int .u64 p.lsn, .int .i64 p.kind, .string p.head, .slice ab p.slots.length cb] 28)) z9).below b10 (by simp; omega)
    have bel10 := below_chain (bel9.alloc (by omega) _) b10
    clear x0 x1 x2 x3 x4 p9 bel9 b10
    obtain ⟨x0, x1, x2, x3, x4⟩ := p10.cells5
    obtain ⟨y0, y1, y2, y3, y4⟩ := q10.cells5
    go_wp2
    go_ret
    exact ⟨rfl, bel10⟩
  · have hE' : (E != 0) = true := by rw [bne_iff_ne]; exact hE
    go_wp2
    go_ret
    exact ⟨rfl, bel8⟩

end Go.Proofs.Ytbkdedkifbffhaa
