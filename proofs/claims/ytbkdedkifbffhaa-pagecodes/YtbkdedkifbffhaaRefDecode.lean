/-
  The walk of girderref03.Decode where it refuses ahead of reading.
-/
import Derived.Test.YtbkdedkifbffhaaRefEncOk
import Derived.Test.YtbkdedkifbffhaaRefReader
namespace Go.Proofs.Ytbkdedkifbffhaa
open Go.RowKit Go.Sort
set_option linter.unusedVariables false

set_option maxHeartbeats 1600000 in
set_option maxRecDepth 8000 in
theorem rdec_short (s : ByteArray) (w : World) (h : s.size < 512) :
    Calls Try.prog 13 #[.string s] w fun x w' => x = .returned (.tuple #[sheet0.val none 0, .int .i64 4]) ∧ Below w.heap.size w w' := by
  go_enter Try.func13, Try.ntmps13
  go_wp2
  refine bodyPost_ret (v := .tuple #[.agg #[.int .u32 0, .int .u64 0, .int .i64 0, .string ⟨#[]⟩, .slice none 0 0], .int .i64 4]) (by simp [results, Try.results13, go_sem]) rfl ?_
  exact ⟨rfl, (Below.refl _ _).alloc (Nat.le_refl _) _⟩

set_option maxHeartbeats 1600000 in
set_option maxRecDepth 8000 in
theorem rdec_long (s : ByteArray) (w : World) (h : 512 < s.size) (hm : s.size ≤ maxLen) :
    Calls Try.prog 13 #[.string s] w fun x w' => x = .returned (.tuple #[sheet0.val none 0, .int .i64 5]) ∧ Below w.heap.size w w' := by
  unfold maxLen at hm
  go_enter Try.func13, Try.ntmps13
  go_wp2
  refine bodyPost_ret (v := .tuple #[.agg #[.int .u32 0, .int .u64 0, .int .i64 0, .string ⟨#[]⟩, .slice none 0 0], .int .i64 5]) (by simp [results, Try.results13, go_sem]) rfl ?_
  exact ⟨rfl, (Below.refl _ _).alloc (Nat.le_refl _) _⟩

set_option maxHeartbeats 1600000 in
set_option maxRecDepth 8000 in
theorem rdec_zero (s : ByteArray) (w : World) (h : s.size = 512) (hz : zerosB s.data.toList = true) :
    Calls Try.prog 13 #[.string s] w fun x w' => x = .returned (.tuple #[sheet0.val none 0, .int .i64 0]) ∧ Below w.heap.size w w' := by
  obtain ⟨Z, HZ⟩ : ∃ Z : ByteArray, Hid (Z = ⟨(List.replicate 512 0).toArray⟩) := ⟨_, rfl⟩
  have HZZ : Hid (s = Z ↔ zerosB s.data.toList = true) := by
    show _ ↔ _
    have hl : s.data.toList.length = 512 := by simpa using h
    rw [zerosB_iff, hl, HZ.out]
    constructor
    · intro e
      rw [e]
    · intro e
      exact Go.WideShapes.bytes_inj e
  obtain ⟨M, HM⟩ : ∃ M, Hid (M = madeCells #[Value.int .u8 0] 512) := ⟨_, rfl⟩
  have hmk : ∀ wx : World, (Instr.makeSlice 67 (.int .i64 512) (.int .i64 512)).run Try.prog wx = .ok (.slice (some ⟨wx.heap.size, 0, none⟩) 512 512) (wx.alloc (.cells M 5)) := fun wx => by
    rw [HM.out]
    exact run_make_row' (P := Try.prog) 67 5 (.int .u8 0) 1 Try.underlying67 info5 rfl .i64 .i64 512 (by omega) (by omega) wx
  have hcv : (convert 67 9 (.slice (some ⟨w.heap.size + 1, 0, none⟩) 512 512)).run Try.prog ((w.alloc (.cells #[.int .u32 0, .int .u64 0, .int .i64 0, .string ⟨#[]⟩, .slice none 0 0] 35)).alloc (.cells M 5)) = .ok (.string Z) ((w.alloc (.cells #[.int .u32 0, .int .u64 0, .int .i64 0, .string ⟨#[]⟩, .slice none 0 0] 35)).alloc (.cells M 5)) := by
    rw [HZ.out, HM.out]
    have hro := RowU.made (w.alloc (.cells #[.int .u32 0, .int .u64 0, .int .i64 0, .string ⟨#[]⟩, .slice none 0 0] 35)) 512 5
    rw [show (w.alloc (.cells #[.int .u32 0, .int .u64 0, .int .i64 0, .string ⟨#[]⟩, .slice none 0 0] 35)).heap.size = w.heap.size + 1 from by simp] at hro
    exact hro.toString (List.replicate 512 0) List.length_replicate (fun j hj => by rw [List.getElem_replicate]; rfl) 67 9 5 Try.underlying67 Try.underlying5 Try.underlying9
  clear HZ HM
  have hzz := str_eq (HZZ.out.2 hz)
  go_enter Try.func13, Try.ntmps13
  go_wp2_with fail
  refine bodyPost_ret (v := .tuple #[.agg #[.int .u32 0, .int .u64 0, .int .i64 0, .string ⟨#[]⟩, .slice none 0 0], .int .i64 0]) (by simp [results, Try.results13, go_sem]) rfl ?_
  exact ⟨rfl, ((Below.refl _ _).alloc (Nat.le_refl _) _).alloc (by simp) _⟩

set_option maxHeartbeats 1600000 in
set_option maxRecDepth 8000 in
theorem rdec_torn (s : ByteArray) (w : World) (h : s.size = 512) (hz : zerosB s.data.toList = false) (ht : s.extract 4 12 ≠ s.extract 504 512) :
    Calls Try.prog 13 #[.string s] w fun x w' => x = .returned (.tuple #[sheet0.val none 0, .int .i64 34]) ∧ Below w.heap.size w w' := by
  have hT := str_ne ht
  obtain ⟨Z, HZ⟩ : ∃ Z : ByteArray, Hid (Z = ⟨(List.replicate 512 0).toArray⟩) := ⟨_, rfl⟩
  have HZZ : Hid (s = Z ↔ zerosB s.data.toList = true) := by
    show _ ↔ _
    have hl : s.data.toList.length = 512 := by simpa using h
    rw [zerosB_iff, hl, HZ.out]
    constructor
    · intro e
      rw [e]
    · intro e
      exact Go.WideShapes.bytes_inj e
  obtain ⟨M, HM⟩ : ∃ M, Hid (M = madeCells #[Value.int .u8 0] 512) := ⟨_, rfl⟩
  have hmk : ∀ wx : World, (Instr.makeSlice 67 (.int .i64 512) (.int .i64 512)).run Try.prog wx = .ok (.slice (some ⟨wx.heap.size, 0, none⟩) 512 512) (wx.alloc (.cells M 5)) := fun wx => by
    rw [HM.out]
    exact run_make_row' (P := Try.prog) 67 5 (.int .u8 0) 1 Try.underlying67 info5 rfl .i64 .i64 512 (by omega) (by omega) wx
  have hcv : (convert 67 9 (.slice (some ⟨w.heap.size + 1, 0, none⟩) 512 512)).run Try.prog ((w.alloc (.cells #[.int .u32 0, .int .u64 0, .int .i64 0, .string ⟨#[]⟩, .slice none 0 0] 35)).alloc (.cells M 5)) = .ok (.string Z) ((w.alloc (.cells #[.int .u32 0, .int .u64 0, .int .i64 0, .string ⟨#[]⟩, .slice none 0 0] 35)).alloc (.cells M 5)) := by
    rw [HZ.out, HM.out]
    have hro := RowU.made (w.alloc (.cells #[.int .u32 0, .int .u64 0, .int .i64 0, .string ⟨#[]⟩, .slice none 0 0] 35)) 512 5
    rw [show (w.alloc (.cells #[.int .u32 0, .int .u64 0, .int .i64 0, .string ⟨#[]⟩, .slice none 0 0] 35)).heap.size = w.heap.size + 1 from by simp] at hro
    exact hro.toString (List.replicate 512 0) List.length_replicate (fun j hj => by rw [List.getElem_replicate]; rfl) 67 9 5 Try.underlying67 Try.underlying5 Try.underlying9
  clear HZ HM
  have hzz := str_ne (fun e => absurd (HZZ.out.1 e) (by rw [hz]; simp))
  go_enter Try.func13, Try.ntmps13
  go_wp2_with fail
  obtain ⟨W, HW⟩ : ∃ W, Hid (W = (w.alloc (.cells #[.int .u32 0, .int .u64 0, .int .i64 0, .string ⟨#[]⟩, .slice none 0 0] 35)).alloc (.cells M 5)) := ⟨_, rfl⟩
  have hres : RowV W w.heap.size 5 (five (.int .u32 0) (.int .u64 0) (.int .i64 0) (.string ⟨#[]⟩) (.slice none 0 0)) := by rw [HW.out]; exact (RowV.five_new w _ _ _ _ _ _).below ((Below.refl _ _).alloc (Nat.le_refl _) _) (by simp)
  have bel : Below w.heap.size w W := by rw [HW.out]; exact ((Below.refl _ _).alloc (Nat.le_refl _) _).alloc (by simp) _
  have hzW : w.heap.size < W.heap.size := by rw [HW.out]; simp; omega
  rw [← HW.out]
  clear HW hcv hmk hzz HZZ
  go_quiet (fail)
  have hresq : RowV (W.drewN nq) w.heap.size 5 (five (.int .u32 0) (.int .u64 0) (.int .i64 0) (.string ⟨#[]⟩) (.slice none 0 0)) := hres.below (below_drewN (Below.refl W.heap.size W) nq) hzW
  have belq := below_drewN bel nq
  obtain ⟨w2, HW2⟩ : ∃ w2, Hid (w2 = W.drewN nq) := ⟨_, rfl⟩
  rw [← HW2.out] at hresq belq ⊢
  have hz2 : w.heap.size < w2.heap.size := by rw [HW2.out]; exact hzW
  clear HW2 hres bel hzW
  obtain ⟨f0, f1, f2, f3, f4⟩ := hresq.open5
  obtain ⟨d0, d1, d2, d3, d4⟩ := hresq.cells5
  go_wp2
  have hq := hresq.set5 (.int .u32 0) (.int .u64 0) (.int .i64 0) (.string ⟨#[]⟩) (.slice none 0 0)
  have bq := below_set5 belq (b := w.heap.size) (Nat.le_refl _) (.int .u32 0) (.int .u64 0) (.int .i64 0) (.string ⟨#[]⟩) (.slice none 0 0)
  obtain ⟨WX, HWX⟩ : ∃ WX, Hid (WX = store5 w2 w.heap.size (.int .u32 0) (.int .u64 0) (.int .i64 0) (.string ⟨#[]⟩) (.slice none 0 0)) := ⟨_, rfl⟩
  rw [← HWX.out] at hq bq
  obtain ⟨r0, r1, r2, r3, r4⟩ := hq.cells5
  rw [show (((((w2.setCell ⟨w.heap.size, 0, none⟩ (.int .u32 0)).setCell ⟨w.heap.size, 1, none⟩ (.int .u64 0)).setCell ⟨w.heap.size, 2, none⟩ (.int .i64 0)).setCell ⟨w.heap.size, 3, none⟩ (.string ⟨#[]⟩)).setCell ⟨w.heap.size, 4, none⟩ (.slice none 0 0)) = WX from HWX.out.symm]
  refine bodyPost_ret (v := .tuple #[.agg #[.int .u32 0, .int .u64 0, .int .i64 0, .string ⟨#[]⟩, .slice none 0 0], .int .i64 34]) (by simp [results, Try.results13, go_sem, r0, r1, r2, r3, r4]) rfl ?_
  exact ⟨rfl, bq⟩

set_option maxHeartbeats 1600000 in
set_option maxRecDepth 8000 in
theorem rdec_sum (s : ByteArray) (w : World) (h : s.size = 512) (hz : zerosB s.data.toList = false) (ht : s.extract 4 12 = s.extract 504 512) (hs : le (s.extract 0 4).data.toList ≠ crcSum 0 (s.extract 4 512).data.toList) :
    Calls Try.prog 13 #[.string s] w fun x w' => x = .returned (.tuple #[sheet0.val none 0, .int .i64 32]) ∧ Below w.heap.size w w' := by
  have hT := str_eq ht
  have hcs := crcSum_lt 0 (s.extract 4 512).data.toList
  have HMO : Hid (∀ wx, Calls Try.prog 40 #[.int .u32 0, .string (s.extract 4 512)] wx fun e w' => e = .returned (.int .u32 (crcSum 0 (s.extract 4 512).data.toList)) ∧ w' = wx) := fun wx => rmore_any 0 _ wx (by omega) (by simp [ByteArray.size_extract]; unfold maxLen; omega)
  have HNU : Hid (∀ wx, Calls Try.prog 43 #[.string (s.extract 0 4)] wx fun e w' => e = .returned (.int .u64 (le (s.extract 0 4).data.toList)) ∧ w' = wx) := fun wx => rnumber_any _ wx (by simp [ByteArray.size_extract]; omega)
  generalize crcSum 0 (s.extract 4 512).data.toList = C at *
  generalize le (s.extract 0 4).data.toList = D at *
  have hwc : IntKind.u64.wrap (C : Int) = (C : Int) := by rw [IntKind.wrap_u64]; omega
  have hcmp : ((D : Int) == (C : Int)) = false := by rw [beq_eq_false_iff_ne]; omega
  obtain ⟨Z, HZ⟩ : ∃ Z : ByteArray, Hid (Z = ⟨(List.replicate 512 0).toArray⟩) := ⟨_, rfl⟩
  have HZZ : Hid (s = Z ↔ zerosB s.data.toList = true) := by
    show _ ↔ _
    have hl : s.data.toList.length = 512 := by simpa using h
    rw [zerosB_iff, hl, HZ.out]
    constructor
    · intro e
      rw [e]
    · intro e
      exact Go.WideShapes.bytes_inj e
  obtain ⟨M, HM⟩ : ∃ M, Hid (M = madeCells #[Value.int .u8 0] 512) := ⟨_, rfl⟩
  have hmk : ∀ wx : World, (Instr.makeSlice 67 (.int .i64 512) (.int .i64 512)).run Try.prog wx = .ok (.slice (some ⟨wx.heap.size, 0, none⟩) 512 512) (wx.alloc (.cells M 5)) := fun wx => by
    rw [HM.out]
    exact run_make_row' (P := Try.prog) 67 5 (.int .u8 0) 1 Try.underlying67 info5 rfl .i64 .i64 512 (by omega) (by omega) wx
  have hcv : (convert 67 9 (.slice (some ⟨w.heap.size + 1, 0, none⟩) 512 512)).run Try.prog ((w.alloc (.cells #[.int .u32 0, .int .u64 0, .int .i64 0, .string ⟨#[]⟩, .slice none 0 0] 35)).alloc (.cells M 5)) = .ok (.string Z) ((w.alloc (.cells #[.int .u32 0, .int .u64 0, .int .i64 0, .string ⟨#[]⟩, .slice none 0 0] 35)).alloc (.cells M 5)) := by
    rw [HZ.out, HM.out]
    have hro := RowU.made (w.alloc (.cells #[.int .u32 0, .int .u64 0, .int .i64 0, .string ⟨#[]⟩, .slice none 0 0] 35)) 512 5
    rw [show (w.alloc (.cells #[.int .u32 0, .int .u64 0, .int .i64 0, .string ⟨#[]⟩, .slice none 0 0] 35)).heap.size = w.heap.size + 1 from by simp] at hro
    exact hro.toString (List.replicate 512 0) List.length_replicate (fun j hj => by rw [List.getElem_replicate]; rfl) 67 9 5 Try.underlying67 Try.underlying5 Try.underlying9
  clear HZ HM
  have hzz := str_ne (fun e => absurd (HZZ.out.1 e) (by rw [hz]; simp))
  go_enter Try.func13, Try.ntmps13
  go_wp2_with fail
  obtain ⟨W, HW⟩ : ∃ W, Hid (W = (w.alloc (.cells #[.int .u32 0, .int .u64 0, .int .i64 0, .string ⟨#[]⟩, .slice none 0 0] 35)).alloc (.cells M 5)) := ⟨_, rfl⟩
  have hres : RowV W w.heap.size 5 (five (.int .u32 0) (.int .u64 0) (.int .i64 0) (.string ⟨#[]⟩) (.slice none 0 0)) := by rw [HW.out]; exact (RowV.five_new w _ _ _ _ _ _).below ((Below.refl _ _).alloc (Nat.le_refl _) _) (by simp)
  have bel : Below w.heap.size w W := by rw [HW.out]; exact ((Below.refl _ _).alloc (Nat.le_refl _) _).alloc (by simp) _
  have hzW : w.heap.size < W.heap.size := by rw [HW.out]; simp; omega
  rw [← HW.out]
  clear HW hcv hmk hzz HZZ
  go_quiet (fail)
  have hresq : RowV (W.drewN nq) w.heap.size 5 (five (.int .u32 0) (.int .u64 0) (.int .i64 0) (.string ⟨#[]⟩) (.slice none 0 0)) := hres.below (below_drewN (Below.refl W.heap.size W) nq) hzW
  have belq := below_drewN bel nq
  obtain ⟨w2, HW2⟩ : ∃ w2, Hid (w2 = W.drewN nq) := ⟨_, rfl⟩
  rw [← HW2.out] at hresq belq ⊢
  have hz2 : w.heap.size < w2.heap.size := by rw [HW2.out]; exact hzW
  clear HW2 hres bel hzW
  go_wp2_with fail
  go_quiet (first | (go_at_call 40; exact Calls.quiet_of_same (HMO.out _)) | (go_at_call 43; exact Calls.quiet_of_same (HNU.out _)))
  have hres3 : RowV (w2.drewN nq) w.heap.size 5 (five (.int .u32 0) (.int .u64 0) (.int .i64 0) (.string ⟨#[]⟩) (.slice none 0 0)) := hresq.below (below_drewN (Below.refl w2.heap.size w2) nq) hz2
  have bel3 := below_drewN belq nq
  obtain ⟨w3, HW3⟩ : ∃ w3, Hid (w3 = w2.drewN nq) := ⟨_, rfl⟩
  rw [← HW3.out] at hres3 bel3 ⊢
  have hz3 : w.heap.size < w3.heap.size := by rw [HW3.out]; exact hz2
  clear HW3 hresq belq hz2
  obtain ⟨f0, f1, f2, f3, f4⟩ := hres3.open5
  obtain ⟨d0, d1, d2, d3, d4⟩ := hres3.cells5
  go_wp2
  have hq := hres3.set5 (.int .u32 0) (.int .u64 0) (.int .i64 0) (.string ⟨#[]⟩) (.slice none 0 0)
  have bq := below_set5 bel3 (b := w.heap.size) (Nat.le_refl _) (.int .u32 0) (.int .u64 0) (.int .i64 0) (.string ⟨#[]⟩) (.slice none 0 0)
  obtain ⟨WX, HWX⟩ : ∃ WX, Hid (WX = store5 w3 w.heap.size (.int .u32 0) (.int .u64 0) (.int .i64 0) (.string ⟨#[]⟩) (.slice none 0 0)) := ⟨_, rfl⟩
  rw [← HWX.out] at hq bq
  obtain ⟨r0, r1, r2, r3, r4⟩ := hq.cells5
  rw [show (((((w3.setCell ⟨w.heap.size, 0, none⟩ (.int .u32 0)).setCell ⟨w.heap.size, 1, none⟩ (.int .u64 0)).setCell ⟨w.heap.size, 2, none⟩ (.int .i64 0)).setCell ⟨w.heap.size, 3, none⟩ (.string ⟨#[]⟩)).setCell ⟨w.heap.size, 4, none⟩ (.slice none 0 0)) = WX from HWX.out.symm]
  refine bodyPost_ret (v := .tuple #[.agg #[.int .u32 0, .int .u64 0, .int .i64 0, .string ⟨#[]⟩, .slice none 0 0], .int .i64 32]) (by simp [results, Try.results13, go_sem, r0, r1, r2, r3, r4]) rfl ?_
  exact ⟨rfl, bq⟩

end Go.Proofs.Ytbkdedkifbffhaa
