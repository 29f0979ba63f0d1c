/-
  The walk of RecCodes.
-/
import Derived.Test.YthhldkpocgiglaaRefMayBC
import Derived.Test.YthhldkpocgiglaaRefBytesC
import Derived.Test.YthhldkpocgiglaaRefLongC
import Derived.Test.YthhldkpocgiglaaRowBigC
namespace Go.Proofs.Ythhldkpocgiglaa
open Go.RowKit Go.Sort
set_option linter.unusedVariables false
set_option linter.unusedSimpArgs false

theorem RecV.Ok.lists {r : RecV} {w : World} {ta da : Option Addr} (h : r.Ok w ta da) (wx : World) (ta' da' : Option Addr) (h1 : TxsAt wx ta' r.txs) (h2 : DisAt wx da' r.dirty) : r.Ok wx ta' da' :=
  ⟨h.kind, h.tx, h.prev, h.next, h.page, h.op, h.undo, h.index, h.key, h.rpage, h.rslot, h.tlen, h.dlen, h1, h2⟩

set_option maxHeartbeats 3200000 in
set_option maxRecDepth 8000 in
theorem codes_no (r : RecV) (ta da : Option Addr) (tc dc : Nat) (w : World) (hok : r.Ok w ta da) (hm : mayR r = false) :
    Calls Try.prog 3 #[.agg (r.cells ta da tc dc)] w fun e w' => e = .returned (.bool true) ∧ Below w.heap.size w w' := by
  have HEN : Hid (∀ wx, Below w.heap.size w wx → Calls Try.prog 6 #[.agg (r.cells ta da tc dc)] wx fun e w' => e = .returned (.tuple #[.string ⟨#[]⟩, .int .i64 40]) ∧ Below wx.heap.size wx w') := fun wx b => encode_no r ta da tc dc wx (hok.below b) hm
  have HLO : Hid (∀ wx, Below w.heap.size w wx → Calls Try.prog 7 #[.agg (r.cells ta da tc dc)] wx fun e w' => e = .returned (.tuple #[.int .i64 0, .int .i64 40]) ∧ Below wx.heap.size wx w') := fun wx b => long_no r ta da tc dc wx (hok.below b) hm
  have HRF : Hid (∀ wx, Below w.heap.size w wx → Calls Try.prog 9 #[.agg (r.cells ta da tc dc)] wx fun e w' => ∃ ta' da' tc' dc', e = .returned (.agg (r.cells ta' da' tc' dc')) ∧ Below wx.heap.size wx w' ∧ r.Ok w' ta' da') := fun wx b => by
    refine (lref_any r ta da tc dc wx (hok.below b)).mono ?_
    rintro e w' ⟨ta', da', tc', dc', rfl, b', h1, h2, _, _⟩
    exact ⟨ta', da', tc', dc', rfl, b', hok.lists _ _ _ h1 h2⟩
  have HMY : Hid (∀ wx ta' da' tc' dc', r.Ok wx ta' da' → Calls Try.prog 8 #[.agg (r.cells ta' da' tc' dc')] wx fun e w' => e = .returned (.bool false) ∧ Below wx.heap.size wx w') := fun wx ta' da' tc' dc' h' => by
    have := rmay_any r ta' da' tc' dc' wx h'
    rw [hm] at this
    exact this
  have HCK : Hid (∀ wx, Below w.heap.size w wx → Calls Try.prog 11 #[.agg (r.cells ta da tc dc)] wx fun e w' => e = .returned (.int .i64 40) ∧ Below wx.heap.size wx w') := fun wx b => by
    have := rcheck_any r ta da tc dc wx (hok.below b)
    unfold checkE at this
    rw [hm] at this
    exact this
  have HAW : Hid (∀ wx, Calls Try.prog 10 #[] wx fun e w' => e = .returned (.bool true) ∧ Below wx.heap.size wx w') := fun wx => rawake_any wx
  obtain ⟨W, HW⟩ : ∃ W, Hid (W = w.alloc (.cells (r.cells ta da tc dc) 35)) := ⟨_, rfl⟩
  have HB : Hid (Below w.heap.size w W ∧ w.heap.size < W.heap.size ∧ BlkR W w.heap.size (r.cells ta da tc dc) 35) := by rw [HW.out]; exact ⟨(Below.refl _ _).alloc (Nat.le_refl _) _, by simp, heap_alloc_new w _⟩
  have HPAR : Hid (r.cells ta da tc dc = #[.int .i64 r.kind, .int .i64 r.tx, .int .u64 r.prev, .int .u64 r.next, .int .u32 r.page, .int .i64 r.op.kind, .int .i64 r.op.at', .string r.op.S, .string r.op.old, .int .i64 r.undo, .int .i64 r.index, .string r.key, .int .u32 r.rpage, .int .i64 r.rslot, .bool r.live, .slice ta r.txs.length tc, .slice da r.dirty.length dc]) := rfl
  clear hok hm
  rw [HPAR.out]
  go_enter Try.func3, Try.ntmps3
  go_upto_region 1 with fail
  rw [← HPAR.out, show w.alloc (.cells (r.cells ta da tc dc) 35) = W from HW.out.symm]
  clear HW HPAR
  go_wp2_with (first | (refine wpList_loadRowW (by rfl) (.tmp 1) 35 rfl w.heap.size rfl (r.cells ta da tc dc) 35 (0, 0) HB.out.2.2 _ Try.underlying35 rfl (by kernel_rfl) ?_))
  refine (HEN.out _ HB.out.1).mono ?_
  rintro e w1 ⟨rfl, b1⟩
  have HB1 : Hid (Below w.heap.size w w1 ∧ w.heap.size < w1.heap.size ∧ BlkR w1 w.heap.size (r.cells ta da tc dc) 35) := ⟨below_chain HB.out.1 b1, Nat.lt_of_lt_of_le HB.out.2.1 b1.size, HB.out.2.2.same (b1.block _ HB.out.2.1)⟩
  clear HB b1 HEN
  go_wp2_with (first | (refine wpList_loadRowW (by rfl) (.tmp 1) 35 rfl w.heap.size rfl (r.cells ta da tc dc) 35 (0, 0) HB1.out.2.2 _ Try.underlying35 rfl (by kernel_rfl) ?_))
  refine (HLO.out _ HB1.out.1).mono ?_
  rintro e w2 ⟨rfl, b2⟩
  have HB2 : Hid (Below w.heap.size w w2 ∧ w.heap.size < w2.heap.size ∧ BlkR w2 w.heap.size (r.cells ta da tc dc) 35) := ⟨below_chain HB1.out.1 b2, Nat.lt_of_lt_of_le HB1.out.2.1 b2.size, HB1.out.2.2.same (b2.block _ HB1.out.2.1)⟩
  clear HB1 b2 HLO
  go_wp2_with (first | (refine wpList_loadRowW (by rfl) (.tmp 1) 35 rfl w.heap.size rfl (r.cells ta da tc dc) 35 (0, 0) HB2.out.2.2 _ Try.underlying35 rfl (by kernel_rfl) ?_))
  refine (HRF.out _ HB2.out.1).mono ?_
  rintro e w3 ⟨ta1, da1, tc1, dc1, rfl, b3, hok3⟩
  have HOK3 := hidr hok3
  have HB3 : Hid (Below w.heap.size w w3 ∧ w.heap.size < w3.heap.size ∧ BlkR w3 w.heap.size (r.cells ta da tc dc) 35) := ⟨below_chain HB2.out.1 b3, Nat.lt_of_lt_of_le HB2.out.2.1 b3.size, HB2.out.2.2.same (b3.block _ HB2.out.2.1)⟩
  clear HB2 b3 hok3
  go_wp2_with fail
  refine (HMY.out _ _ _ _ _ HOK3.out).mono ?_
  rintro e w4 ⟨rfl, b4⟩
  have HB4 : Hid (Below w.heap.size w w4 ∧ w.heap.size < w4.heap.size ∧ BlkR w4 w.heap.size (r.cells ta da tc dc) 35) := ⟨below_chain HB3.out.1 b4, Nat.lt_of_lt_of_le HB3.out.2.1 b4.size, HB3.out.2.2.same (b4.block _ HB3.out.2.1)⟩
  clear HB3 b4 HOK3 HMY
  go_wp2_with fail
  refine (HAW.out _).mono ?_
  rintro e w5 ⟨rfl, b5⟩
  have HB5 : Hid (Below w.heap.size w w5 ∧ w.heap.size < w5.heap.size ∧ BlkR w5 w.heap.size (r.cells ta da tc dc) 35) := ⟨below_chain HB4.out.1 b5, Nat.lt_of_lt_of_le HB4.out.2.1 b5.size, HB4.out.2.2.same (b5.block _ HB4.out.2.1)⟩
  clear HB4 b5 HAW
  go_wp2_with (first | (refine wpList_loadRowW (by rfl) (.tmp 1) 35 rfl w.heap.size rfl (r.cells ta da tc dc) 35 (0, 0) HB5.out.2.2 _ Try.underlying35 rfl (by kernel_rfl) ?_))
  refine (HCK.out _ HB5.out.1).mono ?_
  rintro e w6 ⟨rfl, b6⟩
  have HB6 : Hid (Below w.heap.size w w6 ∧ w.heap.size < w6.heap.size ∧ BlkR w6 w.heap.size (r.cells ta da tc dc) 35) := ⟨below_chain HB5.out.1 b6, Nat.lt_of_lt_of_le HB5.out.2.1 b6.size, HB5.out.2.2.same (b6.block _ HB5.out.2.1)⟩
  clear HB5 b6
  go_wp2_with (first | (refine wpList_loadRowW (by rfl) (.tmp 1) 35 rfl w.heap.size rfl (r.cells ta da tc dc) 35 (0, 0) HB6.out.2.2 _ Try.underlying35 rfl (by kernel_rfl) ?_))
  refine (HCK.out _ HB6.out.1).mono ?_
  rintro e w7 ⟨rfl, b7⟩
  go_wp2
  go_ret
  exact ⟨rfl, below_chain HB6.out.1 b7⟩

set_option maxHeartbeats 6400000 in
set_option maxRecDepth 8000 in
theorem codes_yes (r : RecV) (ta da : Option Addr) (tc dc : Nat) (w : World) (hok : r.Ok w ta da) (hwd : r.Wide) (hm : mayR r = true) :
    Calls Try.prog 3 #[.agg (r.cells ta da tc dc)] w fun e w' => e = .returned (.bool true) ∧ Below w.heap.size w w' := by
  have HEN : Hid (∀ wx, Below w.heap.size w wx → Calls Try.prog 6 #[.agg (r.cells ta da tc dc)] wx fun e w' => e = .returned (.tuple #[.string ⟨(encR r).toArray⟩, .int .i64 0]) ∧ Below wx.heap.size wx w') := fun wx b => encode_ok r ta da tc dc wx (hok.below b) hm hwd
  have HLO : Hid (∀ wx, Below w.heap.size w wx → Calls Try.prog 7 #[.agg (r.cells ta da tc dc)] wx fun e w' => e = .returned (.tuple #[.int .i64 ((12 : Int) + (encR r).length), .int .i64 0]) ∧ Below wx.heap.size wx w') := fun wx b => long_ok r ta da tc dc wx (hok.below b) hm hwd
  have HRF : Hid (∀ wx, Below w.heap.size w wx → Calls Try.prog 9 #[.agg (r.cells ta da tc dc)] wx fun e w' => ∃ ta' da' tc' dc', e = .returned (.agg (r.cells ta' da' tc' dc')) ∧ Below wx.heap.size wx w' ∧ r.Ok w' ta' da') := fun wx b => by
    refine (lref_any r ta da tc dc wx (hok.below b)).mono ?_
    rintro e w' ⟨ta', da', tc', dc', rfl, b', h1, h2, _, _⟩
    exact ⟨ta', da', tc', dc', rfl, b', hok.lists _ _ _ h1 h2⟩
  have HMY : Hid (∀ wx ta' da' tc' dc', r.Ok wx ta' da' → Calls Try.prog 8 #[.agg (r.cells ta' da' tc' dc')] wx fun e w' => e = .returned (.bool true) ∧ Below wx.heap.size wx w') := fun wx ta' da' tc' dc' h' => by
    have := rmay_any r ta' da' tc' dc' wx h'
    rw [hm] at this
    exact this
  have HCK : Hid (∀ wx, Below w.heap.size w wx → Calls Try.prog 11 #[.agg (r.cells ta da tc dc)] wx fun e w' => e = .returned (.int .i64 0) ∧ Below wx.heap.size wx w') := fun wx b => by
    have := rcheck_any r ta da tc dc wx (hok.below b)
    unfold checkE at this
    rw [hm] at this
    exact this
  have HAW : Hid (∀ wx, Calls Try.prog 10 #[] wx fun e w' => e = .returned (.bool true) ∧ Below wx.heap.size wx w') := fun wx => rawake_any wx
  have hM := may_parts hm
  have hle := encR_most hM
  obtain ⟨hcut, hall⟩ := enc_reads hM hwd hok.prev hok.next hok.page hok.rpage
  have hSz0 : (ByteArray.mk (encR r).toArray).size = (encR r).length := by show (encR r).toArray.size = _; simp
  have HDG : Hid (∀ wx, Calls Try.prog 12 #[.string (ByteArray.mk (encR r).toArray)] wx fun e w' => ∃ ta' da' tc' dc', e = .returned (.tuple #[.agg (r.cells ta' da' tc' dc'), .int .i64 0]) ∧ Below wx.heap.size wx w' ∧ r.Ok w' ta' da') := fun wx => by
    have hall0 := hall ByteArray.empty
    rw [ByteArray.append_empty] at hall0
    refine (decode_good' _ wx (by omega) hall0 (by unfold endE; rw [if_neg]; rw [hSz0]; omega) (by unfold checkE; rw [hm]; rfl) (fun wx ta' da' h1 h2 => hok.lists wx ta' da' h1 h2)).mono ?_
    rintro e w' ⟨ta', da', tc', dc', rfl, b, h1, h2⟩
    exact ⟨ta', da', tc', dc', rfl, b, hok.lists _ _ _ h1 h2⟩
  have HBY : Hid (∀ wx ta' da' tc' dc', r.Ok wx ta' da' → Calls Try.prog 13 #[.agg (r.cells ta' da' tc' dc')] wx fun e w' => e = .returned (.string ⟨(encR r).toArray⟩) ∧ Below wx.heap.size wx w') := fun wx ta' da' tc' dc' h' => rbytes_any r ta' da' tc' dc' wx h' hm hwd
  have HSM : Hid (∀ wx ta' da' tc' dc', Below w.heap.size w wx → r.Ok wx ta' da' → Calls Try.prog 14 #[.agg (r.cells ta' da' tc' dc'), .agg (r.cells ta da tc dc)] wx fun e w' => e = .returned (.bool true) ∧ Below wx.heap.size wx w') := fun wx ta' da' tc' dc' b h' => by
    have := recSame_any r r ta' da' ta da tc' dc' tc dc wx h' (hok.below b)
    rw [sameR_self] at this
    exact this
  have HRX : Hid (∀ wx ta' da' tc' dc', r.Ok wx ta' da' → Calls Try.prog 9 #[.agg (r.cells ta' da' tc' dc')] wx fun e w' => ∃ ta2 da2 tc2 dc2, e = .returned (.agg (r.cells ta2 da2 tc2 dc2)) ∧ Below wx.heap.size wx w' ∧ r.Ok w' ta2 da2) := fun wx ta' da' tc' dc' h' => by
    refine (lref_any r ta' da' tc' dc' wx h').mono ?_
    rintro e w' ⟨ta2, da2, tc2, dc2, rfl, b', h1, h2, _, _⟩
    exact ⟨ta2, da2, tc2, dc2, rfl, b', h'.lists _ _ _ h1 h2⟩
  obtain ⟨S, HS⟩ : ∃ S, Hid (ByteArray.mk (encR r).toArray = S) := ⟨_, rfl⟩
  have hSz : S.size = (encR r).length := by rw [← HS.out, hSz0]
  rw [HS.out] at HEN HDG HBY
  rw [← hSz] at hle HLO
  have hln : ((12 : Int) + (S.size : Int) == (S.size : Int) + 12) = true := by rw [beq_iff_eq]; omega
  clear HS hSz hSz0 hcut hall hM hwd hm
  obtain ⟨W, HW⟩ : ∃ W, Hid (W = w.alloc (.cells (r.cells ta da tc dc) 35)) := ⟨_, rfl⟩
  have HB : Hid (Below w.heap.size w W ∧ w.heap.size < W.heap.size ∧ BlkR W w.heap.size (r.cells ta da tc dc) 35) := by rw [HW.out]; exact ⟨(Below.refl _ _).alloc (Nat.le_refl _) _, by simp, heap_alloc_new w _⟩
  have HPAR : Hid (r.cells ta da tc dc = #[.int .i64 r.kind, .int .i64 r.tx, .int .u64 r.prev, .int .u64 r.next, .int .u32 r.page, .int .i64 r.op.kind, .int .i64 r.op.at', .string r.op.S, .string r.op.old, .int .i64 r.undo, .int .i64 r.index, .string r.key, .int .u32 r.rpage, .int .i64 r.rslot, .bool r.live, .slice ta r.txs.length tc, .slice da r.dirty.length dc]) := rfl
  clear hok
  rw [HPAR.out]
  go_enter Try.func3, Try.ntmps3
  go_upto_region 1 with fail
  rw [← HPAR.out, show w.alloc (.cells (r.cells ta da tc dc) 35) = W from HW.out.symm]
  clear HW HPAR
  go_wp2_with (first | (refine wpList_loadRowW (by rfl) (.tmp 1) 35 rfl w.heap.size rfl (r.cells ta da tc dc) 35 (0, 0) HB.out.2.2 _ Try.underlying35 rfl (by kernel_rfl) ?_))
  refine (HEN.out _ HB.out.1).mono ?_
  rintro e w1 ⟨rfl, b1⟩
  have HB1 : Hid (Below w.heap.size w w1 ∧ w.heap.size < w1.heap.size ∧ BlkR w1 w.heap.size (r.cells ta da tc dc) 35) := ⟨below_chain HB.out.1 b1, Nat.lt_of_lt_of_le HB.out.2.1 b1.size, HB.out.2.2.same (b1.block _ HB.out.2.1)⟩
  clear HB b1 HEN
  go_wp2_with (first | (refine wpList_loadRowW (by rfl) (.tmp 1) 35 rfl w.heap.size rfl (r.cells ta da tc dc) 35 (0, 0) HB1.out.2.2 _ Try.underlying35 rfl (by kernel_rfl) ?_))
  refine (HLO.out _ HB1.out.1).mono ?_
  rintro e w2 ⟨rfl, b2⟩
  have HB2 : Hid (Below w.heap.size w w2 ∧ w.heap.size < w2.heap.size ∧ BlkR w2 w.heap.size (r.cells ta da tc dc) 35) := ⟨below_chain HB1.out.1 b2, Nat.lt_of_lt_of_le HB1.out.2.1 b2.size, HB1.out.2.2.same (b2.block _ HB1.out.2.1)⟩
  clear HB1 b2 HLO
  go_wp2_with (first | (refine wpList_loadRowW (by rfl) (.tmp 1) 35 rfl w.heap.size rfl (r.cells ta da tc dc) 35 (0, 0) HB2.out.2.2 _ Try.underlying35 rfl (by kernel_rfl) ?_))
  refine (HRF.out _ HB2.out.1).mono ?_
  rintro e w3 ⟨ta1, da1, tc1, dc1, rfl, b3, hok3⟩
  have HOK3 := hidr hok3
  have HB3 : Hid (Below w.heap.size w w3 ∧ w.heap.size < w3.heap.size ∧ BlkR w3 w.heap.size (r.cells ta da tc dc) 35) := ⟨below_chain HB2.out.1 b3, Nat.lt_of_lt_of_le HB2.out.2.1 b3.size, HB2.out.2.2.same (b3.block _ HB2.out.2.1)⟩
  clear HB2 b3 hok3
  go_wp2_with fail
  refine (HMY.out _ _ _ _ _ HOK3.out).mono ?_
  rintro e w4 ⟨rfl, b4⟩
  have HB4 : Hid (Below w.heap.size w w4 ∧ w.heap.size < w4.heap.size ∧ BlkR w4 w.heap.size (r.cells ta da tc dc) 35) := ⟨below_chain HB3.out.1 b4, Nat.lt_of_lt_of_le HB3.out.2.1 b4.size, HB3.out.2.2.same (b4.block _ HB3.out.2.1)⟩
  clear HB3 b4 HOK3 HMY
  go_wp2_with fail
  refine (HAW.out _).mono ?_
  rintro e w5 ⟨rfl, b5⟩
  have HB5 : Hid (Below w.heap.size w w5 ∧ w.heap.size < w5.heap.size ∧ BlkR w5 w.heap.size (r.cells ta da tc dc) 35) := ⟨below_chain HB4.out.1 b5, Nat.lt_of_lt_of_le HB4.out.2.1 b5.size, HB4.out.2.2.same (b5.block _ HB4.out.2.1)⟩
  clear HB4 b5 HAW
  go_wp2_with (first | (refine wpList_loadRowW (by rfl) (.tmp 1) 35 rfl w.heap.size rfl (r.cells ta da tc dc) 35 (0, 0) HB5.out.2.2 _ Try.underlying35 rfl (by kernel_rfl) ?_))
  refine (HCK.out _ HB5.out.1).mono ?_
  rintro e w6 ⟨rfl, b6⟩
  have HB6 : Hid (Below w.heap.size w w6 ∧ w.heap.size < w6.heap.size ∧ BlkR w6 w.heap.size (r.cells ta da tc dc) 35) := ⟨below_chain HB5.out.1 b6, Nat.lt_of_lt_of_le HB5.out.2.1 b6.size, HB5.out.2.2.same (b6.block _ HB5.out.2.1)⟩
  clear HB5 b6
  go_wp2_with fail
  refine (HDG.out _).mono ?_
  rintro e w7 ⟨ta2, da2, tc2, dc2, rfl, b7, hok7⟩
  have HOK7 := hidr hok7
  have HB7 : Hid (Below w.heap.size w w7 ∧ w.heap.size < w7.heap.size ∧ BlkR w7 w.heap.size (r.cells ta da tc dc) 35) := ⟨below_chain HB6.out.1 b7, Nat.lt_of_lt_of_le HB6.out.2.1 b7.size, HB6.out.2.2.same (b7.block _ HB6.out.2.1)⟩
  clear HB6 b7 hok7 HDG HCK
  have HPX : Hid (r.cells ta2 da2 tc2 dc2 = #[.int .i64 r.kind, .int .i64 r.tx, .int .u64 r.prev, .int .u64 r.next, .int .u32 r.page, .int .i64 r.op.kind, .int .i64 r.op.at', .string r.op.S, .string r.op.old, .int .i64 r.undo, .int .i64 r.index, .string r.key, .int .u32 r.rpage, .int .i64 r.rslot, .bool r.live, .slice ta2 r.txs.length tc2, .slice da2 r.dirty.length dc2]) := rfl
  obtain ⟨w8, HW8⟩ : ∃ x, Hid (x = w7.alloc (.cells (r.cells ta2 da2 tc2 dc2) 35)) := ⟨_, rfl⟩
  have HX8 : Hid (Below w7.heap.size w7 w8 ∧ w7.heap.size < w8.heap.size ∧ BlkR w8 w7.heap.size (r.cells ta2 da2 tc2 dc2) 35) := by rw [HW8.out]; exact ⟨(Below.refl _ _).alloc (Nat.le_refl _) _, by simp, heap_alloc_new w7 _⟩
  rw [HPX.out]
  go_upto_region 9 with fail
  rw [← HPX.out, show w7.alloc (.cells (r.cells ta2 da2 tc2 dc2) 35) = w8 from HW8.out.symm]
  clear HW8 HPX
  have HOK8 := hidr (HOK7.out.below HX8.out.1)
  have HB8 : Hid (Below w.heap.size w w8 ∧ w.heap.size < w8.heap.size ∧ BlkR w8 w.heap.size (r.cells ta da tc dc) 35) := ⟨below_chain HB7.out.1 HX8.out.1, Nat.lt_of_lt_of_le HB7.out.2.1 HX8.out.1.size, HB7.out.2.2.same (HX8.out.1.block _ HB7.out.2.1)⟩
  clear HB7 HOK7
  go_wp2_with (first | (refine wpList_loadRowW (by rfl) (.tmp 1) 35 rfl w.heap.size rfl (r.cells ta da tc dc) 35 (0, 0) HB8.out.2.2 _ Try.underlying35 rfl (by kernel_rfl) ?_))
  refine (HRF.out _ HB8.out.1).mono ?_
  rintro e w9 ⟨ta3, da3, tc3, dc3, rfl, b9, hok9⟩
  have HOK9 := hidr hok9
  have HX9 : Hid (w7.heap.size < w9.heap.size ∧ BlkR w9 w7.heap.size (r.cells ta2 da2 tc2 dc2) 35 ∧ r.Ok w9 ta2 da2) := ⟨Nat.lt_of_lt_of_le HX8.out.2.1 b9.size, HX8.out.2.2.same (b9.block _ HX8.out.2.1), HOK8.out.below b9⟩
  have HB9 : Hid (Below w.heap.size w w9 ∧ w.heap.size < w9.heap.size ∧ BlkR w9 w.heap.size (r.cells ta da tc dc) 35) := ⟨below_chain HB8.out.1 b9, Nat.lt_of_lt_of_le HB8.out.2.1 b9.size, HB8.out.2.2.same (b9.block _ HB8.out.2.1)⟩
  clear HB8 b9 hok9 HX8 HOK8 HRF
  go_wp2_with fail
  refine (HBY.out _ _ _ _ _ HOK9.out).mono ?_
  rintro e w10 ⟨rfl, b10⟩
  have HX10 : Hid (w7.heap.size < w10.heap.size ∧ BlkR w10 w7.heap.size (r.cells ta2 da2 tc2 dc2) 35 ∧ r.Ok w10 ta2 da2) := ⟨Nat.lt_of_lt_of_le HX9.out.1 b10.size, HX9.out.2.1.same (b10.block _ HX9.out.1), HX9.out.2.2.below b10⟩
  have HB10 : Hid (Below w.heap.size w w10 ∧ w.heap.size < w10.heap.size ∧ BlkR w10 w.heap.size (r.cells ta da tc dc) 35) := ⟨below_chain HB9.out.1 b10, Nat.lt_of_lt_of_le HB9.out.2.1 b10.size, HB9.out.2.2.same (b10.block _ HB9.out.2.1)⟩
  clear HB9 b10 HX9 HOK9
  go_wp2_with (first | (refine wpList_loadRowW (by rfl) (.tmp 1) 35 rfl w.heap.size rfl (r.cells ta da tc dc) 35 (0, 0) HB10.out.2.2 _ Try.underlying35 rfl (by kernel_rfl) ?_) | (refine wpList_loadRowW (by rfl) (.tmp 8) 35 rfl w7.heap.size rfl (r.cells ta2 da2 tc2 dc2) 35 (0, 0) HX10.out.2.1 _ Try.underlying35 rfl (by kernel_rfl) ?_))
  refine (HSM.out _ _ _ _ _ HB10.out.1 HX10.out.2.2).mono ?_
  rintro e w11 ⟨rfl, b11⟩
  have HX11 : Hid (w7.heap.size < w11.heap.size ∧ BlkR w11 w7.heap.size (r.cells ta2 da2 tc2 dc2) 35 ∧ r.Ok w11 ta2 da2) := ⟨Nat.lt_of_lt_of_le HX10.out.1 b11.size, HX10.out.2.1.same (b11.block _ HX10.out.1), HX10.out.2.2.below b11⟩
  have HB11 : Hid (Below w.heap.size w w11 ∧ w.heap.size < w11.heap.size ∧ BlkR w11 w.heap.size (r.cells ta da tc dc) 35) := ⟨below_chain HB10.out.1 b11, Nat.lt_of_lt_of_le HB10.out.2.1 b11.size, HB10.out.2.2.same (b11.block _ HB10.out.2.1)⟩
  clear HB10 b11 HX10 HSM
  go_wp2_with (first | (refine wpList_loadRowW (by rfl) (.tmp 8) 35 rfl w7.heap.size rfl (r.cells ta2 da2 tc2 dc2) 35 (0, 0) HX11.out.2.1 _ Try.underlying35 rfl (by kernel_rfl) ?_))
  refine (HRX.out _ _ _ _ _ HX11.out.2.2).mono ?_
  rintro e w12 ⟨ta4, da4, tc4, dc4, rfl, b12, hok12⟩
  have HOK12 := hidr hok12
  have HB12 : Hid (Below w.heap.size w w12 ∧ w.heap.size < w12.heap.size ∧ BlkR w12 w.heap.size (r.cells ta da tc dc) 35) := ⟨below_chain HB11.out.1 b12, Nat.lt_of_lt_of_le HB11.out.2.1 b12.size, HB11.out.2.2.same (b12.block _ HB11.out.2.1)⟩
  clear HB11 b12 hok12 HX11 HRX
  go_wp2_with fail
  refine (HBY.out _ _ _ _ _ HOK12.out).mono ?_
  rintro e w13 ⟨rfl, b13⟩
  go_wp2
  go_ret
  exact ⟨rfl, below_chain HB12.out.1 b13⟩

end Go.Proofs.Ythhldkpocgiglaa
