/-
  The walk of RecReads.
-/
import Derived.Test.YtndfjjcflbpdnaaRefDec2C
import Derived.Test.YtndfjjcflbpdnaaRefDec3C
import Derived.Test.YtndfjjcflbpdnaaRecDecBad2C
import Derived.Test.YtndfjjcflbpdnaaRecAwakeC
import Derived.Test.YtndfjjcflbpdnaaBase9C
namespace Go.Proofs.Ytndfjjcflbpdnaa
open Go.RowKit Go.Sort
set_option linter.unusedVariables false
set_option linter.unusedSimpArgs false

theorem decode_not' (s : ByteArray) (w : World) (hs : s.size ≤ 281474976710656) (he : endE s (readR s).1 (readR s).2.1 = 0) (hc : checkE (readR s).2.2 ≠ 0) (hok : ∀ wx ta da, TxsAt wx ta (readR s).2.2.txs → DisAt wx da (readR s).2.2.dirty → (readR s).2.2.Ok wx ta da) :
    Calls Try.prog 4 #[.string s] w fun e w' => e = .returned (.tuple #[.agg zeroCellsR, .int .i64 40]) ∧ Below w.heap.size w w' :=
  decode_not s w hs rfl rfl rfl rfl rfl rfl rfl he hc hok

/-- Where the document does not accept, the program does not. -/
theorem decode_no (s : ByteArray) (w : World) (hs : s.size ≤ 140737488351232) (h : ¬ accX s) :
    Calls Try.prog 4 #[.string s] w fun e w' => e = .returned (.tuple #[.agg ((plainV 0 0 0).cells none none 0 0), .int .i64 40]) ∧ Below w.heap.size w w' := by
  by_cases he : endE s (readR s).1 (readR s).2.1 = 0
  · have h2 : (readR s).2.1 = 0 := by
      unfold endE at he
      split at he
      · cases he
      · exact he
    have h1 : ¬ (readR s).1 < s.size := by
      intro x
      unfold endE at he
      rw [if_pos ⟨h2, x⟩] at he
      cases he
    have hr : readR s = ((readR s).1, 0, (readR s).2.2) := by rw [← h2]
    have hf := reads_fit hr
    have hle : (readR s).1 ≤ s.size := by
      have := hr
      rw [recK_eq] at this
      rw [recK_eq]
      exact (post_rec s 0 _ _ (Nat.zero_le _) this).2.1
    have hsz : (readR s).1 = s.size := by omega
    refine decode_not' s w (by omega) he ?_ (fun wx ta da a b => hf.ok wx ta da a b)
    intro hc
    refine h (reads_acc (r := (readR s).2.2) (by rw [← hsz]; exact hr) ?_)
    unfold checkE at hc
    split at hc
    · assumption
    · cases hc
  · exact decode_bad' s w (by omega) he

theorem plain_ok (wx : World) (ta da : Option Addr) : (plainV 0 0 0).Ok wx ta da := by
  have := plainV_ok 0 0 0 (by omega) (by omega) (by omega) wx
  exact ⟨this.kind, this.tx, this.prev, this.next, this.page, this.op, this.undo, this.index, this.key, this.rpage, this.rslot, this.tlen, this.dlen, .inl rfl, .inl rfl⟩

set_option maxHeartbeats 3200000 in
set_option maxRecDepth 20000 in
theorem reads_no (s : ByteArray) (w : World) (hs : s.size ≤ 140737488351232) (h : ¬ accX s) :
    Calls Try.prog 3 #[.string s] w fun e w' => e = .returned (.bool true) ∧ Below w.heap.size w w' := by
  have HD : Hid (∀ wx, Calls Try.prog 4 #[.string s] wx fun e w' => e = .returned (.tuple #[.agg ((plainV 0 0 0).cells none none 0 0), .int .i64 40]) ∧ Below wx.heap.size wx w') := fun wx => decode_no s wx hs h
  have HX : Hid (∀ wx, Calls Try.prog 5 #[.string s] wx fun e w' => e = .returned (.tuple #[.agg ((plainV 0 0 0).cells none none 0 0), .bool false]) ∧ Below wx.heap.size wx w') := fun wx => xdecode_no s wx hs h
  have HAW : Hid (∀ wx, Calls Try.prog 6 #[] wx fun e w' => e = .returned (.bool true) ∧ Below wx.heap.size wx w') := fun wx => rawake_any wx
  have HSM : Hid (∀ wx, Calls Try.prog 7 #[.agg ((plainV 0 0 0).cells none none 0 0), .agg ((plainV 0 0 0).cells none none 0 0)] wx fun e w' => e = .returned (.bool true) ∧ Below wx.heap.size wx w') := fun wx => by
    have := recSame_any (plainV 0 0 0) (plainV 0 0 0) none none none none 0 0 0 0 wx (plain_ok _ _ _) (plain_ok _ _ _)
    rw [sameR_self] at this
    exact this
  clear h
  unfold RecV.cells plainV at HD HX HSM
  simp only [List.length_nil, Int.natCast_zero] at HD HX HSM
  go_enter Try.func3, Try.ntmps3
  go_wp2_with fail
  refine (HD.out _).mono ?_
  rintro e w1 ⟨rfl, b1⟩
  obtain ⟨V1, HV1⟩ : ∃ V, Hid (V = w1.alloc (.cells #[.int .i64 0, .int .i64 0, .int .u64 0, .int .u64 0, .int .u32 0, .int .i64 0, .int .i64 0, .string ⟨#[]⟩, .string ⟨#[]⟩, .int .i64 0, .int .i64 0, .string ⟨#[]⟩, .int .u32 0, .int .i64 0, .bool false, .slice none 0 0, .slice none 0 0] 35)) := ⟨_, rfl⟩
  have c1 : BlkR V1 w1.heap.size #[.int .i64 0, .int .i64 0, .int .u64 0, .int .u64 0, .int .u32 0, .int .i64 0, .int .i64 0, .string ⟨#[]⟩, .string ⟨#[]⟩, .int .i64 0, .int .i64 0, .string ⟨#[]⟩, .int .u32 0, .int .i64 0, .bool false, .slice none 0 0, .slice none 0 0] 35 := by rw [HV1.out]; exact heap_alloc_new w1 _
  have hb1 : Below w.heap.size w V1 := by rw [HV1.out]; exact b1.alloc b1.size _
  have HC1 := hidr c1
  have HB1 := hidr hb1
  clear c1 hb1 b1
  go_upto_region 2 with fail
  rw [← HV1.out]
  clear HV1 HD
  go_wp2_with fail
  refine (HX.out _).mono ?_
  rintro e w2 ⟨rfl, b2⟩
  obtain ⟨V2, HV2⟩ : ∃ V, Hid (V = w2.alloc (.cells #[.int .i64 0, .int .i64 0, .int .u64 0, .int .u64 0, .int .u32 0, .int .i64 0, .int .i64 0, .string ⟨#[]⟩, .string ⟨#[]⟩, .int .i64 0, .int .i64 0, .string ⟨#[]⟩, .int .u32 0, .int .i64 0, .bool false, .slice none 0 0, .slice none 0 0] 43)) := ⟨_, rfl⟩
  have HC2 : Hid (BlkR V2 w1.heap.size #[.int .i64 0, .int .i64 0, .int .u64 0, .int .u64 0, .int .u32 0, .int .i64 0, .int .i64 0, .string ⟨#[]⟩, .string ⟨#[]⟩, .int .i64 0, .int .i64 0, .string ⟨#[]⟩, .int .u32 0, .int .i64 0, .bool false, .slice none 0 0, .slice none 0 0] 35) := by
    show BlkR _ _ _ _
    rw [HV2.out]
    have c2 := HC1.out.same (b2.block _ HC1.out.lt)
    exact c2.same (Below.heap_alloc _ _ _ c2.lt)
  have HB2 : Hid (Below w.heap.size w V2) := by
    show Below _ _ _
    rw [HV2.out]
    have := below_chain HB1.out b2
    exact this.alloc this.size _
  clear HC1 HB1 b2 HX
  go_upto_region 3 with fail
  rw [← HV2.out]
  clear HV2
  go_wp2_with fail
  refine (HAW.out _).mono ?_
  rintro e w3 ⟨rfl, b3⟩
  have HC3 := hidr (HC2.out.same (b3.block _ HC2.out.lt))
  have HB3 := hidr (below_chain HB2.out b3)
  clear HC2 HB2 b3 HAW
  go_wp2_with (first | (refine wpList_loadRowW (by rfl) (.tmp 3) 35 rfl w1.heap.size rfl #[.int .i64 0, .int .i64 0, .int .u64 0, .int .u64 0, .int .u32 0, .int .i64 0, .int .i64 0, .string ⟨#[]⟩, .string ⟨#[]⟩, .int .i64 0, .int .i64 0, .string ⟨#[]⟩, .int .u32 0, .int .i64 0, .bool false, .slice none 0 0, .slice none 0 0] 35 (0, 0) HC3.out _ Try.underlying35 rfl (by kernel_rfl) ?_))
  refine (HSM.out _).mono ?_
  rintro e w4 ⟨rfl, b4⟩
  go_wp2
  go_ret
  exact ⟨rfl, below_chain HB3.out b4⟩

set_option maxHeartbeats 3200000 in
set_option maxRecDepth 20000 in
theorem reads_yes (s : ByteArray) (w : World) (hs : s.size ≤ 140737488351232) (h : accX s) :
    Calls Try.prog 3 #[.string s] w fun e w' => e = .returned (.bool true) ∧ Below w.heap.size w w' := by
  obtain ⟨hf, hr⟩ := acc_reads h
  have HX : Hid (∀ wx, Calls Try.prog 5 #[.string s] wx fun e w' => DecYes s wx e w') := fun wx => xdecode_yes s wx hs h
  obtain ⟨R, HR⟩ : ∃ R, Hid ((xrecK s 0 0).2.2 = R) := ⟨_, rfl⟩
  rw [HR.out] at hf hr
  have hm : mayR R = true := by have := h.2.2.1; rw [HR.out] at this; exact this
  have HD : Hid (∀ wx, Calls Try.prog 4 #[.string s] wx fun e w' => ∃ ta da tc dc, e = .returned (.tuple #[.agg (R.cells ta da tc dc), .int .i64 0]) ∧ Below wx.heap.size wx w' ∧ TxsAt w' ta R.txs ∧ DisAt w' da R.dirty) := fun wx => decode_good' s wx (by omega) hr (by unfold endE; rw [if_neg (by omega)]) (by unfold checkE; rw [if_pos hm]) (fun wx ta da a b => hf.ok wx ta da a b)
  have HAW : Hid (∀ wx, Calls Try.prog 6 #[] wx fun e w' => e = .returned (.bool true) ∧ Below wx.heap.size wx w') := fun wx => rawake_any wx
  obtain ⟨S, HS⟩ : ∃ S, Hid (ByteArray.mk (encR R).toArray = S) := ⟨_, rfl⟩
  have HBY : Hid (∀ (ta da : Option Addr) (tc dc : Nat) wx, R.Ok wx ta da → Calls Try.prog 8 #[.agg (R.cells ta da tc dc)] wx fun e w' => e = .returned (.string S) ∧ Below wx.heap.size wx w') := fun ta da tc dc wx ho => by rw [← HS.out]; exact rbytes_any R ta da tc dc wx ho hm hf.wide
  have HMY : Hid (∀ (ta da : Option Addr) (tc dc : Nat) wx, R.Ok wx ta da → Calls Try.prog 10 #[.agg (R.cells ta da tc dc)] wx fun e w' => e = .returned (.bool true) ∧ Below wx.heap.size wx w') := fun ta da tc dc wx ho => by have := rmay_any R ta da tc dc wx ho; rw [hm] at this; exact this
  have HREF : Hid (∀ (ta da : Option Addr) (tc dc : Nat) wx, R.Ok wx ta da → Calls Try.prog 9 #[.agg (R.cells ta da tc dc)] wx fun e w' => ∃ ta' da' tc' dc', e = .returned (.agg (R.cells ta' da' tc' dc')) ∧ Below wx.heap.size wx w' ∧ R.Ok w' ta' da') := fun ta da tc dc wx ho => by
    refine (lref_any R ta da tc dc wx ho).mono ?_
    rintro e w' ⟨ta', da', tc', dc', rfl, b, t1, t2, _, _⟩
    exact ⟨ta', da', tc', dc', rfl, b, hf.ok w' ta' da' t1 t2⟩
  have HFIT := hidr hf
  clear hf hr hm h
  go_enter Try.func3, Try.ntmps3
  go_wp2_with fail
  refine (HD.out _).mono ?_
  rintro e w1 ⟨ta, da, tc, dc, rfl, b1, t1, d1⟩
  have HB1 := hidr b1
  have HT1 : Hid (TxsAt w1 ta R.txs ∧ DisAt w1 da R.dirty) := ⟨t1, d1⟩
  clear b1 t1 d1 HD
  have HP1 : Hid (R.cells ta da tc dc = #[.int .i64 R.kind, .int .i64 R.tx, .int .u64 R.prev, .int .u64 R.next, .int .u32 R.page, .int .i64 R.op.kind, .int .i64 R.op.at', .string R.op.S, .string R.op.old, .int .i64 R.undo, .int .i64 R.index, .string R.key, .int .u32 R.rpage, .int .i64 R.rslot, .bool R.live, .slice ta R.txs.length tc, .slice da R.dirty.length dc]) := rfl
  obtain ⟨CA, HCA⟩ : ∃ C, Hid (C = R.cells ta da tc dc) := ⟨_, rfl⟩
  obtain ⟨V1, HV1⟩ : ∃ V, Hid (V = w1.alloc (.cells CA 35)) := ⟨_, rfl⟩
  have HC1 : Hid (BlkR V1 w1.heap.size CA 35) := by show BlkR _ _ _ _; rw [HV1.out]; exact heap_alloc_new w1 _
  have HBV1 : Hid (Below w.heap.size w V1) := by show Below _ _ _; rw [HV1.out]; exact HB1.out.alloc HB1.out.size _
  have HTV1 : Hid (TxsAt V1 ta R.txs ∧ DisAt V1 da R.dirty) := by rw [HV1.out]; exact ⟨HT1.out.1.below ((Below.refl _ _).alloc (Nat.le_refl _) _), HT1.out.2.below ((Below.refl _ _).alloc (Nat.le_refl _) _)⟩
  rw [HCA.out] at HV1
  rw [HP1.out]
  go_upto_region 2 with fail
  rw [← HP1.out, ← HV1.out, ← HCA.out]
  clear HV1 HP1 HB1 HT1
  go_wp2_with fail
  refine (HX.out _).mono ?_
  rintro e w2 hy
  obtain ⟨b2, ta2, da2, tc2, dc2, rfl, t2, d2⟩ := hy
  rw [HR.out] at t2 d2 ⊢
  have HP2 : Hid (R.cells ta2 da2 tc2 dc2 = #[.int .i64 R.kind, .int .i64 R.tx, .int .u64 R.prev, .int .u64 R.next, .int .u32 R.page, .int .i64 R.op.kind, .int .i64 R.op.at', .string R.op.S, .string R.op.old, .int .i64 R.undo, .int .i64 R.index, .string R.key, .int .u32 R.rpage, .int .i64 R.rslot, .bool R.live, .slice ta2 R.txs.length tc2, .slice da2 R.dirty.length dc2]) := rfl
  obtain ⟨CB, HCB⟩ : ∃ C, Hid (C = R.cells ta2 da2 tc2 dc2) := ⟨_, rfl⟩
  obtain ⟨V2, HV2⟩ : ∃ V, Hid (V = w2.alloc (.cells CB 43)) := ⟨_, rfl⟩
  have k2 : Below w2.heap.size w2 V2 := by rw [HV2.out]; exact (Below.refl _ _).alloc (Nat.le_refl _) _
  have HS2 : Hid (V2.heap[w1.heap.size]? = some (.cells CA 35 (0, 0)) ∧ V2.heap[w2.heap.size]? = some (.cells CB 43 (0, 0))) := by
    have c2 := HC1.out.same (b2.block _ HC1.out.lt)
    refine ⟨c2.same (k2.block _ c2.lt), ?_⟩
    rw [HV2.out]
    exact heap_alloc_new w2 _
  have HW0 := hidr (below_chain (below_chain HBV1.out b2) k2)
  have HOK := hidr (HFIT.out.ok V2 ta da ((HTV1.out.1.below b2).below k2) ((HTV1.out.2.below b2).below k2))
  have HOX := hidr (HFIT.out.ok V2 ta2 da2 (t2.below k2) (d2.below k2))
  have HSI : Hid (CA.size = 17 ∧ CB.size = 17) := by rw [HCA.out, HCB.out]; exact ⟨rfl, rfl⟩
  have HRF : Hid (∀ wx, R.Ok wx ta da → Calls Try.prog 9 #[.agg CA] wx fun e w' => ∃ ta' da' tc' dc', e = .returned (.agg (R.cells ta' da' tc' dc')) ∧ Below wx.heap.size wx w' ∧ R.Ok w' ta' da') := fun wx ho => by rw [HCA.out]; exact HREF.out ta da tc dc wx ho
  have HBX : Hid (∀ wx, Below V2.heap.size V2 wx → Calls Try.prog 8 #[.agg CB] wx fun e w' => e = .returned (.string S) ∧ Below wx.heap.size wx w') := fun wx k => by rw [HCB.out]; exact HBY.out ta2 da2 tc2 dc2 wx (HOX.out.below k)
  rw [HCB.out] at HV2
  rw [HP2.out]
  go_upto_region 3 with fail
  rw [← HP2.out, ← HV2.out, ← HCB.out]
  clear HV2 HP2 k2 b2 t2 d2 HBV1 HTV1 HC1 HX HREF HFIT HOX HR HCA HCB
  have hSS := str_eq (rfl : S = S)
  obtain ⟨b3, HB3⟩ : ∃ b, Hid (w1.heap.size = b) := ⟨_, rfl⟩
  obtain ⟨b5, HB5⟩ : ∃ b, Hid (w2.heap.size = b) := ⟨_, rfl⟩
  rw [HB3.out, HB5.out] at HS2
  rw [HB3.out, HB5.out]
  clear HB3 HB5
  go_upto_region 5 with fail
  refine wp_region_noPanic ?_
  refine wp_region_held_drew (S := fun wy : World => wy.heap[b3]? = some (.cells CA 35 (0, 0)) ∧ wy.heap[b5]? = some (.cells CB 43 (0, 0))) cmixed HS2.out (fun hS0 => ?_)
  obtain ⟨x0, HX0⟩ : ∃ y, Hid (y = V2.drew) := ⟨_, rfl⟩
  have B0 : Hid (Below V2.heap.size V2 x0) := by show Below _ _ _; rw [HX0.out]; exact (Below.refl _ _).drew
  rw [← HX0.out] at hS0 ⊢
  clear HX0 HS2
  refine wpAnyH_ready (rs := [0]) (by kernel_rfl) (by simp) ?_
  refine (AllReadyH.cons (i := 0) (by simp only [List.getElem?_toArray, List.getElem?_cons_zero]; rfl) (fun K hK => ?_) AllReadyH.nil)
  go_simp
  refine (HAW.out _).mono ?_
  rintro e x1 ⟨rfl, bb⟩
  have B1 := hidr (below_chain B0.out bb)
  refine hK.out _ _ ⟨(bb.block _ (Array.getElem?_eq_some_iff.1 hS0.1).1).trans hS0.1, (bb.block _ (Array.getElem?_eq_some_iff.1 hS0.2).1).trans hS0.2⟩ (fun hS1 => ?_)
  clear hK K bb
  try simp only [Act.put, List.setIfInBounds_toArray, List.set_cons_zero, List.set_cons_succ]
  refine wpAnyH_take (i := 1) (v := (.bool true)) (by simp only [List.getElem?_toArray, List.getElem?_cons_succ, List.getElem?_cons_zero]; rfl) (by kernel_rfl) (by kernel_rfl) (by kernel_rfl) (fun _ _ _ h => h) (Or.inl ⟨by rfl, ?_⟩) hS1 ?_
  · intro wz hSw
    clear hSw
    go_simp
  try simp only [Act.put, List.setIfInBounds_toArray, List.set_cons_zero, List.set_cons_succ]
  refine wpAnyH_take (i := 2) (v := (.int .i64 0)) (by simp only [List.getElem?_toArray, List.getElem?_cons_succ, List.getElem?_cons_zero]; rfl) (by kernel_rfl) (by kernel_rfl) (by kernel_rfl) (fun _ _ _ h => h) (Or.inl ⟨by rfl, ?_⟩) hS1 ?_
  · intro wz hSw
    clear hSw
    go_simp
  try simp only [Act.put, List.setIfInBounds_toArray, List.set_cons_zero, List.set_cons_succ]
  refine wpAnyH_take (i := 3) (v := (.bool true)) (by simp only [List.getElem?_toArray, List.getElem?_cons_succ, List.getElem?_cons_zero]; rfl) (by kernel_rfl) (by kernel_rfl) (by kernel_rfl) (fun _ _ _ h => h) (Or.inl ⟨by rfl, ?_⟩) hS1 ?_
  · intro wz hSw
    clear hSw
    go_simp
  try simp only [Act.put, List.setIfInBounds_toArray, List.set_cons_zero, List.set_cons_succ]
  refine wpAnyH_take (i := 4) (v := (.bool true)) (by simp only [List.getElem?_toArray, List.getElem?_cons_succ, List.getElem?_cons_zero]; rfl) (by kernel_rfl) (by kernel_rfl) (by kernel_rfl) (fun _ _ _ h => h) (Or.inl ⟨by rfl, ?_⟩) hS1 ?_
  · intro wz hSw
    clear hSw
    go_simp
  try simp only [Act.put, List.setIfInBounds_toArray, List.set_cons_zero, List.set_cons_succ]
  refine wpAnyH_take (i := 5) (v := (.bool true)) (by simp only [List.getElem?_toArray, List.getElem?_cons_succ, List.getElem?_cons_zero]; rfl) (by kernel_rfl) (by kernel_rfl) (by kernel_rfl) (fun _ _ _ h => h) (Or.inl ⟨by rfl, ?_⟩) hS1 ?_
  · intro wz hSw
    clear hSw
    go_simp
  try simp only [Act.put, List.setIfInBounds_toArray, List.set_cons_zero, List.set_cons_succ]
  refine wpAnyH_take (i := 6) (v := .agg CA) (by simp only [List.getElem?_toArray, List.getElem?_cons_succ, List.getElem?_cons_zero]; rfl) (by kernel_rfl) (by kernel_rfl) (by kernel_rfl) (fun _ _ _ h => h) (yields_loadRow (by rfl) _ _ (by rfl) b3 (by rfl) _ _ (0, 0) (fun _ h => h.1) _ Try.underlying35 rfl (by rw [HSI.out.1]; kernel_rfl)) hS1 ?_
  try simp only [Act.put, List.setIfInBounds_toArray, List.set_cons_zero, List.set_cons_succ]
  refine wpAnyH_take (i := 9) (v := .agg CB) (by simp only [List.getElem?_toArray, List.getElem?_cons_succ, List.getElem?_cons_zero]; rfl) (by kernel_rfl) (by kernel_rfl) (by kernel_rfl) (fun _ _ _ h => h) (yields_loadRow (by rfl) _ _ (by rfl) b5 (by rfl) _ _ (0, 0) (fun _ h => h.2) _ Try.underlying43 rfl (by rw [HSI.out.2]; kernel_rfl)) hS1 ?_
  try simp only [Act.put, List.setIfInBounds_toArray, List.set_cons_zero, List.set_cons_succ]
  refine wpAnyH_ready (rs := [7]) (by kernel_rfl) (by simp) ?_
  refine (AllReadyH.cons (i := 7) (by simp only [List.getElem?_toArray, List.getElem?_cons_succ, List.getElem?_cons_zero]; rfl) (fun K hK => ?_) AllReadyH.nil)
  go_simp
  refine (HRF.out _ (HOK.out.below B1.out)).mono ?_
  rintro e x2 ⟨ta2, da2, tc2, dc2, rfl, bb, hok⟩
  have K2_2 := hidr hok
  clear hok
  have B2 := hidr (below_chain B1.out bb)
  refine hK.out _ _ ⟨(bb.block _ (Array.getElem?_eq_some_iff.1 hS1.1).1).trans hS1.1, (bb.block _ (Array.getElem?_eq_some_iff.1 hS1.2).1).trans hS1.2⟩ (fun hS2 => ?_)
  clear hK K bb
  try simp only [Act.put, List.setIfInBounds_toArray, List.set_cons_zero, List.set_cons_succ]
  refine wpAnyH_ready (rs := [8]) (by kernel_rfl) (by simp) ?_
  refine (AllReadyH.cons (i := 8) (by simp only [List.getElem?_toArray, List.getElem?_cons_succ, List.getElem?_cons_zero]; rfl) (fun K hK => ?_) AllReadyH.nil)
  go_simp
  refine (HBY.out _ _ _ _ _ K2_2.out).mono ?_
  rintro e x3 ⟨rfl, bb⟩
  have B3 := hidr (below_chain B2.out bb)
  have K2_3 := hidr (K2_2.out.below bb)
  refine hK.out _ _ ⟨(bb.block _ (Array.getElem?_eq_some_iff.1 hS2.1).1).trans hS2.1, (bb.block _ (Array.getElem?_eq_some_iff.1 hS2.2).1).trans hS2.2⟩ (fun hS3 => ?_)
  clear hK K bb
  try simp only [Act.put, List.setIfInBounds_toArray, List.set_cons_zero, List.set_cons_succ]
  refine wpAnyH_ready (rs := [10]) (by kernel_rfl) (by simp) ?_
  refine (AllReadyH.cons (i := 10) (by simp only [List.getElem?_toArray, List.getElem?_cons_succ, List.getElem?_cons_zero]; rfl) (fun K hK => ?_) AllReadyH.nil)
  go_simp
  refine (HBX.out _ B3.out).mono ?_
  rintro e x4 ⟨rfl, bb⟩
  have B4 := hidr (below_chain B3.out bb)
  have K2_4 := hidr (K2_3.out.below bb)
  refine hK.out _ _ ⟨(bb.block _ (Array.getElem?_eq_some_iff.1 hS3.1).1).trans hS3.1, (bb.block _ (Array.getElem?_eq_some_iff.1 hS3.2).1).trans hS3.2⟩ (fun hS4 => ?_)
  clear hK K bb
  try simp only [Act.put, List.setIfInBounds_toArray, List.set_cons_zero, List.set_cons_succ]
  refine wpAnyH_take (i := 11) (v := (.bool true)) (by simp only [List.getElem?_toArray, List.getElem?_cons_succ, List.getElem?_cons_zero]; rfl) (by kernel_rfl) (by kernel_rfl) (by kernel_rfl) (fun _ _ _ h => h) (Or.inl ⟨by rfl, ?_⟩) hS4 ?_
  · intro wz hSw
    clear hSw
    go_simp
  try simp only [Act.put, List.setIfInBounds_toArray, List.set_cons_zero, List.set_cons_succ]
  refine wpAnyH_take (i := 12) (v := (.bool true)) (by simp only [List.getElem?_toArray, List.getElem?_cons_succ, List.getElem?_cons_zero]; rfl) (by kernel_rfl) (by kernel_rfl) (by kernel_rfl) (fun _ _ _ h => h) (Or.inl ⟨by rfl, ?_⟩) hS4 ?_
  · intro wz hSw
    clear hSw
    go_simp
  try simp only [Act.put, List.setIfInBounds_toArray, List.set_cons_zero, List.set_cons_succ]
  refine wpAnyH_take (i := 13) (v := (.bool true)) (by simp only [List.getElem?_toArray, List.getElem?_cons_succ, List.getElem?_cons_zero]; rfl) (by kernel_rfl) (by kernel_rfl) (by kernel_rfl) (fun _ _ _ h => h) (Or.inl ⟨by rfl, ?_⟩) hS4 ?_
  · intro wz hSw
    clear hSw
    go_simp
  try simp only [Act.put, List.setIfInBounds_toArray, List.set_cons_zero, List.set_cons_succ]
  refine wpAnyH_take (i := 14) (v := .agg CA) (by simp only [List.getElem?_toArray, List.getElem?_cons_succ, List.getElem?_cons_zero]; rfl) (by kernel_rfl) (by kernel_rfl) (by kernel_rfl) (fun _ _ _ h => h) (yields_loadRow (by rfl) _ _ (by rfl) b3 (by rfl) _ _ (0, 0) (fun _ h => h.1) _ Try.underlying35 rfl (by rw [HSI.out.1]; kernel_rfl)) hS4 ?_
  try simp only [Act.put, List.setIfInBounds_toArray, List.set_cons_zero, List.set_cons_succ]
  refine wpAnyH_ready (rs := [15]) (by kernel_rfl) (by simp) ?_
  refine (AllReadyH.cons (i := 15) (by simp only [List.getElem?_toArray, List.getElem?_cons_succ, List.getElem?_cons_zero]; rfl) (fun K hK => ?_) AllReadyH.nil)
  go_simp
  refine (HRF.out _ (HOK.out.below B4.out)).mono ?_
  rintro e x5 ⟨ta5, da5, tc5, dc5, rfl, bb, hok⟩
  have K5_5 := hidr hok
  clear hok
  have B5 := hidr (below_chain B4.out bb)
  have K2_5 := hidr (K2_4.out.below bb)
  refine hK.out _ _ ⟨(bb.block _ (Array.getElem?_eq_some_iff.1 hS4.1).1).trans hS4.1, (bb.block _ (Array.getElem?_eq_some_iff.1 hS4.2).1).trans hS4.2⟩ (fun hS5 => ?_)
  clear hK K bb
  try simp only [Act.put, List.setIfInBounds_toArray, List.set_cons_zero, List.set_cons_succ]
  refine wpAnyH_ready (rs := [16]) (by kernel_rfl) (by simp) ?_
  refine (AllReadyH.cons (i := 16) (by simp only [List.getElem?_toArray, List.getElem?_cons_succ, List.getElem?_cons_zero]; rfl) (fun K hK => ?_) AllReadyH.nil)
  go_simp
  refine (HMY.out _ _ _ _ _ K5_5.out).mono ?_
  rintro e x6 ⟨rfl, bb⟩
  have B6 := hidr (below_chain B5.out bb)
  have K2_6 := hidr (K2_5.out.below bb)
  have K5_6 := hidr (K5_5.out.below bb)
  refine hK.out _ _ ⟨(bb.block _ (Array.getElem?_eq_some_iff.1 hS5.1).1).trans hS5.1, (bb.block _ (Array.getElem?_eq_some_iff.1 hS5.2).1).trans hS5.2⟩ (fun hS6 => ?_)
  clear hK K bb
  try simp only [Act.put, List.setIfInBounds_toArray, List.set_cons_zero, List.set_cons_succ]
  refine wpAnyH_take (i := 17) (v := (.bool true)) (by simp only [List.getElem?_toArray, List.getElem?_cons_succ, List.getElem?_cons_zero]; rfl) (by kernel_rfl) (by kernel_rfl) (by kernel_rfl) (fun _ _ _ h => h) (Or.inl ⟨by rfl, ?_⟩) hS6 ?_
  · intro wz hSw
    clear hSw
    go_simp
  try simp only [Act.put, List.setIfInBounds_toArray, List.set_cons_zero, List.set_cons_succ]
  refine wpAnyH_take (i := 18) (v := (.bool true)) (by simp only [List.getElem?_toArray, List.getElem?_cons_succ, List.getElem?_cons_zero]; rfl) (by kernel_rfl) (by kernel_rfl) (by kernel_rfl) (fun _ _ _ h => h) (Or.inl ⟨by rfl, ?_⟩) hS6 ?_
  · intro wz hSw
    clear hSw
    go_simp
  try simp only [Act.put, List.setIfInBounds_toArray, List.set_cons_zero, List.set_cons_succ]
  refine wpAnyH_done (by kernel_rfl) ?_ _
  refine NoPanic.normal ?_
  go_wp2
  go_ret
  exact ⟨rfl, below_chain HW0.out B6.out⟩

end Go.Proofs.Ytndfjjcflbpdnaa
