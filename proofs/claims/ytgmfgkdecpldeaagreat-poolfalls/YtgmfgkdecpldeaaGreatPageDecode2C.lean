/-
  The walk of page.Decode behind the LSN's test.
-/
import Derived.Test.YtgmfgkdecpldeaaGreatPageDecodeC
namespace Go.Proofs.YtgmfgkdecpldeaaGreat
open Go.RowKit
set_option linter.unusedVariables false

set_option maxHeartbeats 1600000 in
set_option maxRecDepth 8000 in
theorem dec_sum (s : ByteArray) (w : World) (h : s.size = 512) (hz : zerosB s.data.toList = false) (ht : s.extract 504 512 = s.extract 4 12) (hs : s.extract 0 4 ≠ ⟨(putL (crcSum 0 (s.extract 4 512).data.toList) 4).toArray⟩) :
    Calls Tryz.prog 23 #[.string s] w fun x w' => x = .returned (.tuple #[sheet0.val none 0, .int .i64 32]) ∧ Below w.heap.size w w' := by
  have hT := str_eq ht
  have hS := str_ne hs
  have hcs := crcSum_lt 0 (s.extract 4 512).data.toList
  have HSUM : Hid (∀ wx, Calls Tryz.prog 64 #[.string (s.extract 4 512)] wx fun e w' => e = .returned (.int .u32 (crcSum 0 (s.extract 4 512).data.toList)) ∧ w' = wx) := fun wx => sum_any _ wx (by simp [ByteArray.size_extract]; unfold maxLen; omega)
  have HPUT : Hid (∀ wx, Calls Tryz.prog 63 #[.int .u64 (IntKind.u64.wrap ((crcSum 0 (s.extract 4 512).data.toList : Nat) : Int)), .int .i64 4] wx fun e w' => e = .returned (.string ⟨(putL (crcSum 0 (s.extract 4 512).data.toList) 4).toArray⟩) ∧ Below wx.heap.size wx w') := fun wx => by
    rw [show IntKind.u64.wrap ((crcSum 0 (s.extract 4 512).data.toList : Nat) : Int) = ((crcSum 0 (s.extract 4 512).data.toList : Nat) : Int) from by rw [IntKind.wrap_u64]; omega]
    exact put_any _ 4 wx (by omega)
  clear ht hs
  generalize crcSum 0 (s.extract 4 512).data.toList = C at *
  generalize (⟨(putL C 4).toArray⟩ : ByteArray) = P4 at *
  have HZ : Hid (∀ wx, Calls Tryz.prog 61 #[.string s] wx fun e w' => e = .returned (.bool false) ∧ w' = wx) := fun wx => by
    have := zeros_any s wx (by rw [h]; unfold maxLen; omega)
    rw [hz] at this
    exact this
  go_enter Tryz.func23, Tryz.ntmps23
  go_wp2_with fail
  obtain ⟨W, HW⟩ : ∃ W, Hid (W = w.alloc (.cells #[.int .u32 0, .int .u64 0, .int .i64 0, .string ⟨#[]⟩, .slice none 0 0] 56)) := ⟨_, rfl⟩
  have hres : RowV W w.heap.size 5 (five (.int .u32 0) (.int .u64 0) (.int .i64 0) (.string ⟨#[]⟩) (.slice none 0 0)) := by rw [HW.out]; exact RowV.five_new w _ _ _ _ _ _
  have bel : Below w.heap.size w W := by rw [HW.out]; exact (Below.refl _ _).alloc (Nat.le_refl _) _
  have hzW : w.heap.size < W.heap.size := by rw [HW.out]; simp
  rw [← HW.out]
  clear HW
  refine (HZ.out _).mono ?_
  rintro x w1 ⟨rfl, rfl⟩
  go_wp2_with fail
  go_quiet (fail)
  have hresq : RowV (w1.drewN nq) w.heap.size 5 (five (.int .u32 0) (.int .u64 0) (.int .i64 0) (.string ⟨#[]⟩) (.slice none 0 0)) := hres.below (below_drewN (Below.refl w1.heap.size w1) nq) hzW
  have belq := below_drewN bel nq
  obtain ⟨w2, HW2⟩ : ∃ w2, Hid (w2 = w1.drewN nq) := ⟨_, rfl⟩
  rw [← HW2.out] at hresq belq ⊢
  have hz2 : w.heap.size < w2.heap.size := by rw [HW2.out]; exact hzW
  clear HW2 hres bel hzW
  obtain ⟨f0, f1, f2, f3, f4⟩ := hresq.open5
  obtain ⟨d0, d1, d2, d3, d4⟩ := hresq.cells5
  go_wp2_with fail
  go_region_held3 (fun w' => True) (first | trivial | go_keep)
    (first | (go_at_call 64; refine (HSUM.out _).mono ?_; rintro x w3 ⟨rfl, rfl⟩) | (go_at_call 63; refine (HPUT.out _).mono ?_; rintro x w4 ⟨rfl, b4⟩))
  have bel4 := below_chain belq.drew b4
  have hres4 := (hresq.below ((Below.refl w2.heap.size w2).drew) hz2).below b4 hz2
  have hz4 : w.heap.size < w4.heap.size := Nat.lt_of_lt_of_le hz2 b4.size
  clear hresq belq b4 f0 f1 f2 f3 f4 d0 d1 d2 d3 d4
  obtain ⟨f0, f1, f2, f3, f4⟩ := hres4.open5
  obtain ⟨d0, d1, d2, d3, d4⟩ := hres4.cells5
  go_wp2
  have hq := hres4.set5 (.int .u32 0) (.int .u64 0) (.int .i64 0) (.string ⟨#[]⟩) (.slice none 0 0)
  have bq := below_set5 bel4 (b := w.heap.size) (Nat.le_refl _) (.int .u32 0) (.int .u64 0) (.int .i64 0) (.string ⟨#[]⟩) (.slice none 0 0)
  obtain ⟨WX, HWX⟩ : ∃ WX, Hid (WX = store5 w4 w.heap.size (.int .u32 0) (.int .u64 0) (.int .i64 0) (.string ⟨#[]⟩) (.slice none 0 0)) := ⟨_, rfl⟩
  rw [← HWX.out] at hq bq
  obtain ⟨r0, r1, r2, r3, r4⟩ := hq.cells5
  rw [show (((((w4.setCell ⟨w.heap.size, 0, none⟩ (.int .u32 0)).setCell ⟨w.heap.size, 1, none⟩ (.int .u64 0)).setCell ⟨w.heap.size, 2, none⟩ (.int .i64 0)).setCell ⟨w.heap.size, 3, none⟩ (.string ⟨#[]⟩)).setCell ⟨w.heap.size, 4, none⟩ (.slice none 0 0)) = WX from HWX.out.symm]
  refine bodyPost_ret (v := .tuple #[.agg #[.int .u32 0, .int .u64 0, .int .i64 0, .string ⟨#[]⟩, .slice none 0 0], .int .i64 32]) (by simp [results, Tryz.results23, go_sem, r0, r1, r2, r3, r4]) rfl ?_
  exact ⟨rfl, bq⟩

set_option maxHeartbeats 1600000 in
set_option maxRecDepth 8000 in
theorem dec_parse (s : ByteArray) (w : World) (h : s.size = 512) (hz : zerosB s.data.toList = false) (ht : s.extract 504 512 = s.extract 4 12) (hs : s.extract 0 4 = ⟨(putL (crcSum 0 (s.extract 4 512).data.toList) 4).toArray⟩) :
    Calls Tryz.prog 23 #[.string s] w fun x w' => Below w.heap.size w w' ∧
      (parseOk (cutB s) → ∃ a c, x = .returned (.tuple #[(parsed (cutB s)).val a c, .int .i64 0]) ∧ StrsFrom (w.heap.size + 1) w' a (parsed (cutB s)).slots) ∧
      (¬ parseOk (cutB s) → ∃ a c, x = .returned (.tuple #[sheet0.val a c, .int .i64 6])) := by
  have hT := str_eq ht
  have hS := str_eq hs
  have hcs := crcSum_lt 0 (s.extract 4 512).data.toList
  have HSUM : Hid (∀ wx, Calls Tryz.prog 64 #[.string (s.extract 4 512)] wx fun e w' => e = .returned (.int .u32 (crcSum 0 (s.extract 4 512).data.toList)) ∧ w' = wx) := fun wx => sum_any _ wx (by simp [ByteArray.size_extract]; unfold maxLen; omega)
  have HPUT : Hid (∀ wx, Calls Tryz.prog 63 #[.int .u64 (IntKind.u64.wrap ((crcSum 0 (s.extract 4 512).data.toList : Nat) : Int)), .int .i64 4] wx fun e w' => e = .returned (.string ⟨(putL (crcSum 0 (s.extract 4 512).data.toList) 4).toArray⟩) ∧ Below wx.heap.size wx w') := fun wx => by
    rw [show IntKind.u64.wrap ((crcSum 0 (s.extract 4 512).data.toList : Nat) : Int) = ((crcSum 0 (s.extract 4 512).data.toList : Nat) : Int) from by rw [IntKind.wrap_u64]; omega]
    exact put_any _ 4 wx (by omega)
  have HP : Hid (∀ wx, Calls Tryz.prog 65 #[.string (s.extract 4 504)] wx fun x w' => Below wx.heap.size wx w' ∧
      (parseOk (cutB s) → ∃ a c, x = .returned (.tuple #[(parsed (cutB s)).val a c, .int .i64 0]) ∧ StrsFrom (wx.heap.size + 1) w' a (parsed (cutB s)).slots) ∧
      (¬ parseOk (cutB s) → ∃ a c, x = .returned (.tuple #[sheet0.val a c, .int .i64 6]))) := fun wx => parse_any (cutB s) wx (by unfold cutB; simp [ByteArray.size_extract, h])
  clear ht hs
  generalize crcSum 0 (s.extract 4 512).data.toList = C at *
  generalize (⟨(putL C 4).toArray⟩ : ByteArray) = P4 at *
  have HZ : Hid (∀ wx, Calls Tryz.prog 61 #[.string s] wx fun e w' => e = .returned (.bool false) ∧ w' = wx) := fun wx => by
    have := zeros_any s wx (by rw [h]; unfold maxLen; omega)
    rw [hz] at this
    exact this
  go_enter Tryz.func23, Tryz.ntmps23
  go_wp2_with fail
  obtain ⟨W, HW⟩ : ∃ W, Hid (W = w.alloc (.cells #[.int .u32 0, .int .u64 0, .int .i64 0, .string ⟨#[]⟩, .slice none 0 0] 56)) := ⟨_, rfl⟩
  have hres : RowV W w.heap.size 5 (five (.int .u32 0) (.int .u64 0) (.int .i64 0) (.string ⟨#[]⟩) (.slice none 0 0)) := by rw [HW.out]; exact RowV.five_new w _ _ _ _ _ _
  have bel : Below w.heap.size w W := by rw [HW.out]; exact (Below.refl _ _).alloc (Nat.le_refl _) _
  have hzW : w.heap.size < W.heap.size := by rw [HW.out]; simp
  rw [← HW.out]
  clear HW
  refine (HZ.out _).mono ?_
  rintro x w1 ⟨rfl, rfl⟩
  go_wp2_with fail
  go_quiet (fail)
  have hresq : RowV (w1.drewN nq) w.heap.size 5 (five (.int .u32 0) (.int .u64 0) (.int .i64 0) (.string ⟨#[]⟩) (.slice none 0 0)) := hres.below (below_drewN (Below.refl w1.heap.size w1) nq) hzW
  have belq := below_drewN bel nq
  obtain ⟨w2, HW2⟩ : ∃ w2, Hid (w2 = w1.drewN nq) := ⟨_, rfl⟩
  rw [← HW2.out] at hresq belq ⊢
  have hz2 : w.heap.size < w2.heap.size := by rw [HW2.out]; exact hzW
  clear HW2 hres bel hzW
  obtain ⟨f0, f1, f2, f3, f4⟩ := hresq.open5
  obtain ⟨d0, d1, d2, d3, d4⟩ := hresq.cells5
  go_wp2_with fail
  go_region_held3 (fun w' => True) (first | trivial | go_keep)
    (first | (go_at_call 64; refine (HSUM.out _).mono ?_; rintro x w3 ⟨rfl, rfl⟩) | (go_at_call 63; refine (HPUT.out _).mono ?_; rintro x w4 ⟨rfl, b4⟩))
  have bel4 := below_chain belq.drew b4
  have hres4 := (hresq.below ((Below.refl w2.heap.size w2).drew) hz2).below b4 hz2
  have hz4 : w.heap.size < w4.heap.size := Nat.lt_of_lt_of_le hz2 b4.size
  clear hresq belq b4 f0 f1 f2 f3 f4 d0 d1 d2 d3 d4
  by_cases hok : parseOk (cutB s)
  · have HP' : Hid (∀ wx, Calls Tryz.prog 65 #[.string (s.extract 4 504)] wx fun x w' => Below wx.heap.size wx w' ∧ ∃ a c, x = .returned (.tuple #[(parsed (cutB s)).val a c, .int .i64 0]) ∧ StrsFrom (wx.heap.size + 1) w' a (parsed (cutB s)).slots) :=
      fun wx => (HP.out wx).mono fun x w' h => ⟨h.1, h.2.1 hok⟩
    clear HP
    unfold SheetV.val at HP'
    go_wp2_with fail
    refine (HP'.out _).mono ?_
    rintro x w5 ⟨b5, a5, c5, rfl, hm5⟩
    have bel5 := below_chain bel4 b5
    have hres5 := hres4.below b5 hz4
    clear hres4 bel4
    obtain ⟨f0, f1, f2, f3, f4⟩ := hres5.open5
    obtain ⟨d0, d1, d2, d3, d4⟩ := hres5.cells5
    go_wp2
    have hq := hres5.set5 (.int .u32 (parsed (cutB s)).num) (.int .u64 (parsed (cutB s)).lsn) (.int .i64 (parsed (cutB s)).kind) (.string (parsed (cutB s)).head) (.slice a5 (parsed (cutB s)).slots.length c5)
    have bq := below_set5 bel5 (b := w.heap.size) (Nat.le_refl _) (.int .u32 (parsed (cutB s)).num) (.int .u64 (parsed (cutB s)).lsn) (.int .i64 (parsed (cutB s)).kind) (.string (parsed (cutB s)).head) (.slice a5 (parsed (cutB s)).slots.length c5)
    obtain ⟨WX, HWX⟩ : ∃ WX, Hid (WX = store5 w5 w.heap.size (.int .u32 (parsed (cutB s)).num) (.int .u64 (parsed (cutB s)).lsn) (.int .i64 (parsed (cutB s)).kind) (.string (parsed (cutB s)).head) (.slice a5 (parsed (cutB s)).slots.length c5)) := ⟨_, rfl⟩
    rw [← HWX.out] at hq bq
    obtain ⟨r0, r1, r2, r3, r4⟩ := hq.cells5
    rw [show (((((w5.setCell ⟨w.heap.size, 0, none⟩ (.int .u32 (parsed (cutB s)).num)).setCell ⟨w.heap.size, 1, none⟩ (.int .u64 (parsed (cutB s)).lsn)).setCell ⟨w.heap.size, 2, none⟩ (.int .i64 (parsed (cutB s)).kind)).setCell ⟨w.heap.size, 3, none⟩ (.string (parsed (cutB s)).head)).setCell ⟨w.heap.size, 4, none⟩ (.slice a5 (parsed (cutB s)).slots.length c5)) = WX from HWX.out.symm]
    refine bodyPost_ret (v := .tuple #[.agg #[.int .u32 (parsed (cutB s)).num, .int .u64 (parsed (cutB s)).lsn, .int .i64 (parsed (cutB s)).kind, .string (parsed (cutB s)).head, .slice a5 (parsed (cutB s)).slots.length c5], .int .i64 0]) (by simp [results, Tryz.results23, go_sem, r0, r1, r2, r3, r4]) rfl ?_
    refine ⟨bq, fun _ => ⟨a5, c5, rfl, ?_⟩, fun h => absurd hok h⟩
    rw [HWX.out]
    exact (hm5.mono (by omega)).store5 (by omega) _ _ _ _ _
  · have HP' : Hid (∀ wx, Calls Tryz.prog 65 #[.string (s.extract 4 504)] wx fun x w' => Below wx.heap.size wx w' ∧ ∃ a c, x = .returned (.tuple #[sheet0.val a c, .int .i64 6])) :=
      fun wx => (HP.out wx).mono fun x w' h => ⟨h.1, h.2.2 hok⟩
    clear HP
    simp only [SheetV.val, sheet0, List.length_nil] at HP'
    go_wp2_with fail
    refine (HP'.out _).mono ?_
    rintro x w5 ⟨b5, a5, c5, rfl⟩
    have bel5 := below_chain bel4 b5
    have hres5 := hres4.below b5 hz4
    clear hres4 bel4
    obtain ⟨f0, f1, f2, f3, f4⟩ := hres5.open5
    obtain ⟨d0, d1, d2, d3, d4⟩ := hres5.cells5
    go_wp2
    have hq := hres5.set5 (.int .u32 0) (.int .u64 0) (.int .i64 0) (.string ⟨#[]⟩) (.slice a5 0 c5)
    have bq := below_set5 bel5 (b := w.heap.size) (Nat.le_refl _) (.int .u32 0) (.int .u64 0) (.int .i64 0) (.string ⟨#[]⟩) (.slice a5 0 c5)
    obtain ⟨WX, HWX⟩ : ∃ WX, Hid (WX = store5 w5 w.heap.size (.int .u32 0) (.int .u64 0) (.int .i64 0) (.string ⟨#[]⟩) (.slice a5 0 c5)) := ⟨_, rfl⟩
    rw [← HWX.out] at hq bq
    obtain ⟨r0, r1, r2, r3, r4⟩ := hq.cells5
    rw [show (((((w5.setCell ⟨w.heap.size, 0, none⟩ (.int .u32 0)).setCell ⟨w.heap.size, 1, none⟩ (.int .u64 0)).setCell ⟨w.heap.size, 2, none⟩ (.int .i64 0)).setCell ⟨w.heap.size, 3, none⟩ (.string ⟨#[]⟩)).setCell ⟨w.heap.size, 4, none⟩ (.slice a5 0 c5)) = WX from HWX.out.symm]
    refine bodyPost_ret (v := .tuple #[.agg #[.int .u32 0, .int .u64 0, .int .i64 0, .string ⟨#[]⟩, .slice a5 0 c5], .int .i64 6]) (by simp [results, Tryz.results23, go_sem, r0, r1, r2, r3, r4]) rfl ?_
    exact ⟨bq, fun h => absurd h hok, fun _ => ⟨a5, c5, rfl⟩⟩

end Go.Proofs.YtgmfgkdecpldeaaGreat
