/-
  The walk of girderlaw04.RecCuts: its end.
-/
import Derived.Test.YtpnnadfmhkplhaaCutsWalkC
namespace Go.Proofs.Ytpnnadfmhkplhaa
open Go.RowKit Go.Sort
set_option linter.unusedVariables false
set_option linter.unusedSimpArgs false

theorem encR_le {r : RecV} (h : MayR r) : (encR r).length ≤ 1000000 := by
  unfold encR
  simp only [List.length_append, putL_length]
  have hn : (if nextB r then putL r.next 8 else []).length ≤ 8 := by split <;> simp [putL_length]
  have hc : (if changeB r then changeL r else []).length ≤ 200000 := by
    split
    · unfold changeL
      have h1 := textB_le r.op.S
      have h2 := textB_le r.op.old
      simp only [List.length_append, putL_length]
      omega
    · simp
  have hk : (if keyB r then keyL r else []).length ≤ 100000 := by
    split
    · unfold keyL
      have h1 := textB_le r.key
      simp only [List.length_append, putL_length]
      omega
    · simp
  have hl : (if listsB r then txsL r.txs ++ disL r.dirty else []).length ≤ 100000 := by
    split
    · rename_i hb
      obtain ⟨h1, h2, _⟩ := h.lists hb
      have a1 := txL_len r.txs r.txs.length
      have a2 := diL_len r.dirty r.dirty.length
      rw [List.take_length] at a1 a2
      unfold txsL disL
      simp only [List.length_append, putL_length]
      omega
    · simp
  omega

set_option maxHeartbeats 1600000 in
set_option maxRecDepth 8000 in
theorem cuts_no (r : RecV) (ta da : Option Addr) (tc dc : Nat) (cut : Int) (more : ByteArray) (w : World) (hok : r.Ok w ta da) (hm : mayR r = false) :
    Calls Try.prog 3 #[.agg (r.cells ta da tc dc), .int .i64 cut, .string more] w fun e w' => e = .returned (.bool true) ∧ Below w.heap.size w w' := by
  obtain ⟨W, HW⟩ : ∃ W, Hid (W = w.alloc (.cells (r.cells ta da tc dc) 35)) := ⟨_, rfl⟩
  have HB : Hid (Below w.heap.size w W) := by show Below _ _ _; rw [HW.out]; exact (Below.refl _ _).alloc (Nat.le_refl _) _
  have HP : Hid (BlkR W w.heap.size (r.cells ta da tc dc) 35) := by show BlkR _ _ _ _; rw [HW.out]; exact heap_alloc_new w _
  have HPAR : Hid (r.cells ta da tc dc = #[.int .i64 r.kind, .int .i64 r.tx, .int .u64 r.prev, .int .u64 r.next, .int .u32 r.page, .int .i64 r.op.kind, .int .i64 r.op.at', .string r.op.S, .string r.op.old, .int .i64 r.undo, .int .i64 r.index, .string r.key, .int .u32 r.rpage, .int .i64 r.rslot, .bool r.live, .slice ta r.txs.length tc, .slice da r.dirty.length dc]) := rfl
  have HEN : Hid (Calls Try.prog 4 #[.agg (r.cells ta da tc dc)] W fun e w' => e = .returned (.tuple #[.string ⟨#[]⟩, .int .i64 40]) ∧ Below W.heap.size W w') := encode_no r ta da tc dc W (hok.below HB.out) hm
  have HAW : Hid (∀ wx, Calls Try.prog 5 #[] wx fun e w' => e = .returned (.bool true) ∧ Below wx.heap.size wx w') := fun wx => rawake_any wx
  clear hok hm
  rw [HPAR.out]
  go_enter Try.func3, Try.ntmps3
  go_upto_region 1 with fail
  rw [← HPAR.out, show w.alloc (.cells (r.cells ta da tc dc) 35) = W from HW.out.symm]
  clear HW
  refine wp_region_lit ?_
  refine wpList_loadRow rfl _ _ rfl w.heap.size rfl (r.cells ta da tc dc) _ (0, 0) HP.out _ Try.underlying35 rfl (by kernel_rfl) ?_
  go_wp2_with fail
  refine HEN.out.mono ?_
  rintro e w1 ⟨rfl, b1⟩
  have HB1 := hidr (below_chain HB.out b1)
  clear HP HB b1 HEN
  go_wp2_with fail
  refine (HAW.out _).mono ?_
  rintro e w2 ⟨rfl, b2⟩
  have HB2 := hidr (below_chain HB1.out b2)
  clear HB1 b2
  go_wp2_with fail
  refine (HAW.out _).mono ?_
  rintro e w3 ⟨rfl, b3⟩
  go_wp2
  go_ret
  exact ⟨rfl, below_chain HB2.out b3⟩

set_option maxHeartbeats 3200000 in
set_option maxRecDepth 8000 in
theorem cuts_yes (r : RecV) (ta da : Option Addr) (tc dc : Nat) (cut : Int) (hc1 : -9223372036854775808 ≤ cut) (hc2 : cut ≤ 9223372036854775807) (more : ByteArray) (hmo : more.size ≤ 140737488351232) (w : World) (hok : r.Ok w ta da) (hwd : r.Wide) (hm : mayR r = true) :
    Calls Try.prog 3 #[.agg (r.cells ta da tc dc), .int .i64 cut, .string more] w fun e w' => e = .returned (.bool true) ∧ Below w.heap.size w w' := by
  obtain ⟨W, HW⟩ : ∃ W, Hid (W = w.alloc (.cells (r.cells ta da tc dc) 35)) := ⟨_, rfl⟩
  have HB : Hid (Below w.heap.size w W) := by show Below _ _ _; rw [HW.out]; exact (Below.refl _ _).alloc (Nat.le_refl _) _
  have HP : Hid (BlkR W w.heap.size (r.cells ta da tc dc) 35) := by show BlkR _ _ _ _; rw [HW.out]; exact heap_alloc_new w _
  have HPAR : Hid (r.cells ta da tc dc = #[.int .i64 r.kind, .int .i64 r.tx, .int .u64 r.prev, .int .u64 r.next, .int .u32 r.page, .int .i64 r.op.kind, .int .i64 r.op.at', .string r.op.S, .string r.op.old, .int .i64 r.undo, .int .i64 r.index, .string r.key, .int .u32 r.rpage, .int .i64 r.rslot, .bool r.live, .slice ta r.txs.length tc, .slice da r.dirty.length dc]) := rfl
  have hM := may_parts hm
  have hlen := encR_len r
  have hle := encR_le hM
  have hbig : (encR r).length + more.size ≤ 281474976710656 := by omega
  obtain ⟨hcut, hall⟩ := enc_reads hM hwd hok.prev hok.next hok.page hok.rpage
  have HEN : Hid (Calls Try.prog 4 #[.agg (r.cells ta da tc dc)] W fun e w' => e = .returned (.tuple #[.string ⟨(encR r).toArray⟩, .int .i64 0]) ∧ Below W.heap.size W w') := encode_ok r ta da tc dc W (hok.below HB.out) hm hwd
  have HAW : Hid (∀ wx, Calls Try.prog 5 #[] wx fun e w' => e = .returned (.bool true) ∧ Below wx.heap.size wx w') := fun wx => rawake_any wx
  have hSz : (ByteArray.mk (encR r).toArray).size = (encR r).length := by show (encR r).toArray.size = _; simp
  obtain ⟨k, hk1, hk2, hk3, hk4⟩ := cut_place cut (encR r).length (by omega)
  have HDB : Hid (∀ wx, Calls Try.prog 6 #[.string ((ByteArray.mk (encR r).toArray).extract 0 k)] wx fun e w' => e = .returned (.tuple #[.agg zeroCellsR, .int .i64 40]) ∧ Below wx.heap.size wx w') := fun wx => decode_bad' _ wx (by rw [ByteArray.size_extract]; omega) (hcut k hk1)
  have hcs : (ByteArray.mk (encR r).toArray ++ more).size = (encR r).length + more.size := by rw [ByteArray.size_append, hSz]
  have HDM : Hid (more.size ≠ 0 → ∀ wx, Calls Try.prog 6 #[.string (ByteArray.mk (encR r).toArray ++ more)] wx fun e w' => e = .returned (.tuple #[.agg zeroCellsR, .int .i64 40]) ∧ Below wx.heap.size wx w') := fun hz wx => decode_bad' _ wx (by rw [hcs]; exact hbig) (by
    rw [hall more]
    unfold endE
    rw [if_pos ⟨rfl, by rw [hcs]; show (encR r).length < _; omega⟩]
    decide)
  have HDG : Hid (more.size = 0 → ∀ wx, Calls Try.prog 6 #[.string (ByteArray.mk (encR r).toArray ++ more)] wx fun e w' => ∃ ta da tc dc, e = .returned (.tuple #[.agg (r.cells ta da tc dc), .int .i64 0]) ∧ Below wx.heap.size wx w') := fun hz wx => by
    refine (decode_good' _ wx (by rw [hcs]; exact hbig) (hall more) (by unfold endE; rw [if_neg]; rw [hcs]; omega) (by unfold checkE; rw [hm]; rfl) (fun wx ta da h1 h2 => ⟨hok.kind, hok.tx, hok.prev, hok.next, hok.page, hok.op, hok.undo, hok.index, hok.key, hok.rpage, hok.rslot, hok.tlen, hok.dlen, h1, h2⟩)).mono ?_
    rintro e w' ⟨ta, da, tc, dc, rfl, b, _, _⟩
    exact ⟨ta, da, tc, dc, rfl, b⟩
  obtain ⟨n, hn⟩ : ∃ n, (encR r).length = n := ⟨_, rfl⟩
  rw [hn] at hlen hle hbig hSz hk1 hk2 hk3 hk4 hcs
  clear hcut hall hok hwd hm hM hn
  obtain ⟨S, HS⟩ : ∃ S, Hid (ByteArray.mk (encR r).toArray = S) := ⟨_, rfl⟩
  rw [HS.out] at HEN HDB HDM HDG hSz hcs
  clear HS
  have hsl1 : (0 : Int) ≤ (k : Int) := by omega
  have hsl2 : (k : Int) ≤ (S.size : Int) := by omega
  have hcat : ∀ (P : Program) (wx : World), (Op.stringOp .add S more).run P wx = .ok (.string (S ++ more)) wx := fun P wx => run_string_add_sum wx S more (by omega)
  unfold zeroCellsR at HDB HDM
  rw [HPAR.out]
  go_enter Try.func3, Try.ntmps3
  go_upto_region 1 with fail
  rw [← HPAR.out, show w.alloc (.cells (r.cells ta da tc dc) 35) = W from HW.out.symm]
  clear HW
  refine wp_region_lit ?_
  refine wpList_loadRow rfl _ _ rfl w.heap.size rfl (r.cells ta da tc dc) _ (0, 0) HP.out _ Try.underlying35 rfl (by kernel_rfl) ?_
  go_wp2_with fail
  refine HEN.out.mono ?_
  rintro e w1 ⟨rfl, b1⟩
  have HB1 := hidr (below_chain HB.out b1)
  clear HP HB b1 HEN
  go_wp2_with fail
  refine (HAW.out _).mono ?_
  rintro e w2 ⟨rfl, b2⟩
  have HB2 := hidr (below_chain HB1.out b2)
  clear HB1 b2
  have hwr : wrap64 (cut.tmod (n : Int) + (n : Int)) = cut.tmod (n : Int) + (n : Int) := by unfold wrap64; omega
  have hsl3 : (k : Int) ≤ (n : Int) := by omega
  have hn0 : ((n : Int) == 0) = false := by rw [beq_eq_false_iff_ne]; omega
  go_wp2_with fail
  refine (HDB.out _).mono ?_
  rintro e w3 ⟨rfl, b3⟩
  have HB3 := hidr ((below_chain HB2.out b3).alloc (below_chain HB2.out b3).size (.cells #[.int .i64 0, .int .i64 0, .int .u64 0, .int .u64 0, .int .u32 0, .int .i64 0, .int .i64 0, .string ⟨#[]⟩, .string ⟨#[]⟩, .int .i64 0, .int .i64 0, .string ⟨#[]⟩, .int .u32 0, .int .i64 0, .bool false, .slice none 0 0, .slice none 0 0] 35))
  clear HB2 b3 HDB
  by_cases hz : more.size = 0
  · have hme : more = ⟨#[]⟩ := by
      apply ByteArray.ext
      apply Array.eq_empty_of_size_eq_zero
      exact hz
    have hemp : more.toList.isEmpty = true := by rw [Lib.toList_data, hme]; rfl
    have HDG' := hidr (HDG.out hz)
    clear HDG HDM hz hme
    go_wp2_with fail
    refine (HDG'.out _).mono ?_
    rintro e w4 ⟨ta', da', tc', dc', rfl, b4⟩
    have HB4 := hidr (below_chain HB3.out b4)
    clear HB3 b4 HDG'
    unfold RecV.cells
    go_wp2
    go_ret
    exact ⟨rfl, HB4.out.alloc HB4.out.size _⟩
  · have hme : more ≠ ⟨#[]⟩ := fun e => hz (by rw [e]; rfl)
    have hemp : more.toList.isEmpty = false := by
      rw [Lib.toList_data]
      cases hl : more.data.toList with
      | nil => exact absurd (ByteArray.ext (Array.ext' (by simpa using hl))) hme
      | cons _ _ => rfl
    have HDM' := hidr (HDM.out hz)
    clear HDG HDM hz hme
    go_wp2_with fail
    refine (HDM'.out _).mono ?_
    rintro e w4 ⟨rfl, b4⟩
    have HB4 := hidr (below_chain HB3.out b4)
    clear HB3 b4 HDM'
    go_wp2
    go_ret
    exact ⟨rfl, HB4.out.alloc HB4.out.size _⟩

end Go.Proofs.Ytpnnadfmhkplhaa
