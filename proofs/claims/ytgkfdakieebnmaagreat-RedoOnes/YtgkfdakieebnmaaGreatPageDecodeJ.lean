/-
  The walk of page.Decode.
-/
import Derived.Test.YtgkfdakieebnmaaGreatCrcWalksJ
import Derived.Deep.RegionHeld3
set_option linter.unusedVariables false
set_option linter.unusedSimpArgs false
namespace Go.Proofs.YtgkfdakieebnmaaGreat
open Go.RowKit

def pHn (s : ByteArray) : Nat := le (part s 13 1)
def pN (s : ByteArray) : Nat := le (part s (14 + pHn s) 1)
def pOff (s : ByteArray) : Nat := offAt s (15 + pHn s) (pN s) (pN s)
def pFit (s : ByteArray) : Prop := pHn s ≤ 32 ∧ pN s ≤ 64 ∧ pOff s ≤ 500
def parseOk (s : ByteArray) : Prop := pFit s ∧ zerosB (part s (pOff s) (500 - pOff s)) = true
def parsed (s : ByteArray) : SheetV := ⟨le (part s 8 4), le (part s 0 8), (le (part s 12 1) : Nat), ⟨(part s 14 (pHn s)).toArray⟩, slotsAt s (15 + pHn s) (pN s)⟩
def sheet0 : SheetV := ⟨0, 0, 0, ⟨#[]⟩, []⟩

theorem slotsAt_getD (s : ByteArray) (q n j : Nat) (hj : j < n) : (slotsAt s q n).getD j ByteArray.empty = slotAt s q n j := by
  rw [List.getD_eq_getElem?_getD, List.getElem?_eq_getElem (by rw [slotsAt_length]; exact hj)]; simp [slotsAt]

theorem parse_any (s : ByteArray) (w : World) (hs : s.size = 500) :
    Calls Tryz.prog 221 #[.string s] w fun x w' => Below w.heap.size w w' ∧
      (parseOk s → ∃ a c, x = .returned (.tuple #[(parsed s).val a c, .int .i64 0]) ∧ StrsFrom (w.heap.size + 1) w' a (parsed s).slots) ∧
      (¬ parseOk s → ∃ a c, x = .returned (.tuple #[sheet0.val a c, .int .i64 6])) := by
  have hH := le_lt_of (l := part s 13 1) (n := 1) (by rw [part_length (by omega)]; omega)
  by_cases h1 : pHn s ≤ 32
  · have hN := le_lt_of (l := part s (14 + pHn s) 1) (n := 1) (by rw [part_length (by omega)]; omega)
    by_cases h2 : pN s ≤ 64
    · have H : ParseParts s (w.heap.size + 1) (pHn s) 0 ⟨(part s 14 (pHn s)).toArray⟩ (14 + pHn s) 0 (slotsAt s (15 + pHn s) (pN s)) (pOff s) (pOff s ≤ 500) := by
        refine ⟨fun wx h => takeCount_ok h (by omega) 32 h1, fun wx h => bytes_ok h (pHn s) (by omega), fun wx h => ?_⟩
        have hc := takeCount_ok h (by omega) 64 h2
        rw [show 14 + pHn s + 1 = 15 + pHn s from by omega] at hc
        refine (takeSlots_gen h (15 + pHn s) (pN s) 0 h2 (.inr ⟨rfl, by omega⟩) hc).mono ?_
        rintro x w' ⟨a, c, p', e', rfl, hr, ho, hf, hn⟩
        refine ⟨a, c, p', e', by rw [slotsAt_length], hr, ho, fun hfit => ?_, fun hfit => hn (.inr (by rw [hs]; have : ¬ pOff s ≤ 500 := hfit; show 500 < pOff s; omega))⟩
        obtain ⟨q1, q2, bs, q3, q4, q5, q6⟩ := hf rfl (by rw [hs]; exact hfit)
        exact ⟨q1, q2, bs, q3, q4, q5, by rw [slotsAt_length]; exact q6.congr fun j hj => by rw [slotsAt_getD _ _ _ _ hj]⟩
      refine (parse_core s w hs H (fun h => h)).mono ?_
      rintro x w' ⟨hb, hy, hn⟩
      refine ⟨hb, fun h => hy ⟨h.1.2.2, h.2⟩, fun h => ⟨none, 0, hn fun h' => h ⟨⟨h1, h2, h'.1⟩, h'.2⟩⟩⟩
    · have H : ParseParts s (w.heap.size + 1) (pHn s) 0 ⟨(part s 14 (pHn s)).toArray⟩ (14 + pHn s) 0 [] 0 False := by
        refine ⟨fun wx h => takeCount_ok h (by omega) 32 h1, fun wx h => bytes_ok h (pHn s) (by omega), fun wx h => ?_⟩
        refine (takeSlots_gen h (14 + pHn s + 1) 0 6 (by omega) (.inl rfl) (takeCount_many h (by omega) 64 (by unfold pN at h2; omega))).mono ?_
        rintro x w' ⟨a, c, p', e', rfl, hr, ho, hf, hn⟩
        exact ⟨a, c, p', e', rfl, hr, ho, fun h => h.elim, fun _ => hn (.inl (by decide))⟩
      refine (parse_core s w hs H (fun h => h.elim)).mono ?_
      rintro x w' ⟨hb, hy, hn⟩
      exact ⟨hb, fun h => absurd h.1.2.1 h2, fun h => ⟨none, 0, hn fun h' => h'.1.elim⟩⟩
  · have H : ParseParts s (w.heap.size + 1) 0 6 ⟨#[]⟩ 14 6 [] 0 False := by
      refine ⟨fun wx h => takeCount_many h (by omega) 32 (by unfold pHn at h1; omega), fun wx h => bytes_err h (by decide) 0 (by omega), fun wx h => ?_⟩
      refine (takeSlots_gen h 14 0 6 (by omega) (.inl rfl) (takeCount_err h (by decide) 64)).mono ?_
      rintro x w' ⟨a, c, p', e', rfl, hr, ho, hf, hn⟩
      exact ⟨a, c, p', e', rfl, hr, ho, fun h => h.elim, fun _ => hn (.inl (by decide))⟩
    refine (parse_core s w hs H (fun h => h.elim)).mono ?_
    rintro x w' ⟨hb, hy, hn⟩
    exact ⟨hb, fun h => absurd h.1.1 h1, fun h => ⟨none, 0, hn fun h' => h'.1.elim⟩⟩

def parseB (s : ByteArray) : Bool := decide (pHn s ≤ 32) && decide (pN s ≤ 64) && decide (pOff s ≤ 500) && zerosB (part s (pOff s) (500 - pOff s))
theorem parseB_iff (s : ByteArray) : parseB s = true ↔ parseOk s := by unfold parseB parseOk pFit; simp [and_assoc]

def cutB (s : ByteArray) : ByteArray := s.extract 4 504

def decE (s : ByteArray) : Int :=
  if s.size < 512 then 4 else if 512 < s.size then 5 else if zerosB s.data.toList = true then 0 else if s.extract 504 512 ≠ s.extract 4 12 then 34
  else if s.extract 0 4 ≠ ⟨(putL (crcSum 0 (s.extract 4 512).data.toList) 4).toArray⟩ then 32 else if parseB (cutB s) = true then 0 else 6

def decP (s : ByteArray) : SheetV := if decE s = 0 ∧ zerosB s.data.toList = false then parsed (cutB s) else sheet0

theorem str_ne {a b : ByteArray} (h : a ≠ b) : (a.toList == b.toList) = false := by
  rw [beq_eq_false_iff_ne, ByteArray.toList_eq, ByteArray.toList_eq]
  exact fun e => h (Go.WideShapes.bytes_inj e)

theorem str_eq {a b : ByteArray} (h : a = b) : (a.toList == b.toList) = true := by rw [h]; simp

set_option maxHeartbeats 400000 in
set_option maxRecDepth 60000 in
theorem blank_any (n : Nat) (w : World) :
    Calls Tryz.prog 220 #[.int .u32 n] w fun x w' => x = .returned (.agg #[.int .u32 n, .int .u64 0, .int .i64 0, .string ⟨#[]⟩, .slice none 0 0]) ∧ Below w.heap.size w w' := by
  go_enter Tryz.func220, Tryz.ntmps220
  go_wp2
  refine bodyPost_ret (v := .agg #[.int .u32 n, .int .u64 0, .int .i64 0, .string ⟨#[]⟩, .slice none 0 0]) (by simp [results, Tryz.results220, go_sem]) rfl ?_
  exact ⟨rfl, (Below.refl _ _).alloc (Nat.le_refl _) _⟩

set_option maxHeartbeats 1600000 in
set_option maxRecDepth 8000 in
theorem dec_short (s : ByteArray) (w : World) (h : s.size < 512) :
    Calls Tryz.prog 200 #[.string s] w fun x w' => x = .returned (.tuple #[sheet0.val none 0, .int .i64 4]) ∧ Below w.heap.size w w' := by
  go_enter Tryz.func200, Tryz.ntmps200
  go_wp2
  refine bodyPost_ret (v := .tuple #[.agg #[.int .u32 0, .int .u64 0, .int .i64 0, .string ⟨#[]⟩, .slice none 0 0], .int .i64 4]) (by simp [results, Tryz.results200, go_sem]) rfl ?_
  exact ⟨rfl, (Below.refl _ _).alloc (Nat.le_refl _) _⟩

set_option maxHeartbeats 1600000 in
set_option maxRecDepth 8000 in
theorem dec_long (s : ByteArray) (w : World) (h : 512 < s.size) (hm : s.size ≤ maxLen) :
    Calls Tryz.prog 200 #[.string s] w fun x w' => x = .returned (.tuple #[sheet0.val none 0, .int .i64 5]) ∧ Below w.heap.size w w' := by
  unfold maxLen at hm
  go_enter Tryz.func200, Tryz.ntmps200
  go_wp2
  refine bodyPost_ret (v := .tuple #[.agg #[.int .u32 0, .int .u64 0, .int .i64 0, .string ⟨#[]⟩, .slice none 0 0], .int .i64 5]) (by simp [results, Tryz.results200, go_sem]) rfl ?_
  exact ⟨rfl, (Below.refl _ _).alloc (Nat.le_refl _) _⟩

set_option maxHeartbeats 1600000 in
set_option maxRecDepth 8000 in
theorem dec_zero (s : ByteArray) (w : World) (h : s.size = 512) (hz : zerosB s.data.toList = true) :
    Calls Tryz.prog 200 #[.string s] w fun x w' => x = .returned (.tuple #[sheet0.val none 0, .int .i64 0]) ∧ Below w.heap.size w w' := by
  have HZ : Hid (∀ wx, Calls Tryz.prog 219 #[.string s] wx fun e w' => e = .returned (.bool true) ∧ w' = wx) := fun wx => by
    have := zeros_any s wx (by rw [h]; unfold maxLen; omega)
    rw [hz] at this
    exact this
  go_enter Tryz.func200, Tryz.ntmps200
  go_wp2_with fail
  obtain ⟨W, HW⟩ : ∃ W, Hid (W = w.alloc (.cells #[.int .u32 0, .int .u64 0, .int .i64 0, .string ⟨#[]⟩, .slice none 0 0] 52)) := ⟨_, rfl⟩
  have hres : RowV W w.heap.size 5 (five (.int .u32 0) (.int .u64 0) (.int .i64 0) (.string ⟨#[]⟩) (.slice none 0 0)) := by rw [HW.out]; exact RowV.five_new w _ _ _ _ _ _
  have bel : Below w.heap.size w W := by rw [HW.out]; exact (Below.refl _ _).alloc (Nat.le_refl _) _
  have hzW : w.heap.size < W.heap.size := by rw [HW.out]; simp
  rw [← HW.out]
  clear HW
  refine (HZ.out _).mono ?_
  rintro x w1 ⟨rfl, rfl⟩
  go_wp2_with fail
  refine (blank_any 0 _).mono ?_
  rintro x w2 ⟨rfl, b2⟩
  have hres2 := hres.below b2 hzW
  have bel2 := below_chain bel b2
  obtain ⟨f0, f1, f2, f3, f4⟩ := hres2.open5
  obtain ⟨d0, d1, d2, d3, d4⟩ := hres2.cells5
  go_wp2
  have hq := hres2.set5 (.int .u32 0) (.int .u64 0) (.int .i64 0) (.string ⟨#[]⟩) (.slice none 0 0)
  have bq := below_set5 bel2 (b := w.heap.size) (Nat.le_refl _) (.int .u32 0) (.int .u64 0) (.int .i64 0) (.string ⟨#[]⟩) (.slice none 0 0)
  obtain ⟨WX, HWX⟩ : ∃ WX, Hid (WX = store5 w2 w.heap.size (.int .u32 0) (.int .u64 0) (.int .i64 0) (.string ⟨#[]⟩) (.slice none 0 0)) := ⟨_, rfl⟩
  rw [← HWX.out] at hq bq
  obtain ⟨r0, r1, r2, r3, r4⟩ := hq.cells5
  rw [show (((((w2.setCell ⟨w.heap.size, 0, none⟩ (.int .u32 0)).setCell ⟨w.heap.size, 1, none⟩ (.int .u64 0)).setCell ⟨w.heap.size, 2, none⟩ (.int .i64 0)).setCell ⟨w.heap.size, 3, none⟩ (.string ⟨#[]⟩)).setCell ⟨w.heap.size, 4, none⟩ (.slice none 0 0)) = WX from HWX.out.symm]
  refine bodyPost_ret (v := .tuple #[.agg #[.int .u32 0, .int .u64 0, .int .i64 0, .string ⟨#[]⟩, .slice none 0 0], .int .i64 0]) (by simp [results, Tryz.results200, go_sem, r0, r1, r2, r3, r4]) rfl ?_
  exact ⟨rfl, bq⟩

set_option maxHeartbeats 1600000 in
set_option maxRecDepth 8000 in
theorem dec_torn (s : ByteArray) (w : World) (h : s.size = 512) (hz : zerosB s.data.toList = false) (ht : s.extract 504 512 ≠ s.extract 4 12) :
    Calls Tryz.prog 200 #[.string s] w fun x w' => x = .returned (.tuple #[sheet0.val none 0, .int .i64 34]) ∧ Below w.heap.size w w' := by
  have hT := str_ne ht
  have HZ : Hid (∀ wx, Calls Tryz.prog 219 #[.string s] wx fun e w' => e = .returned (.bool false) ∧ w' = wx) := fun wx => by
    have := zeros_any s wx (by rw [h]; unfold maxLen; omega)
    rw [hz] at this
    exact this
  go_enter Tryz.func200, Tryz.ntmps200
  go_wp2_with fail
  obtain ⟨W, HW⟩ : ∃ W, Hid (W = w.alloc (.cells #[.int .u32 0, .int .u64 0, .int .i64 0, .string ⟨#[]⟩, .slice none 0 0] 52)) := ⟨_, rfl⟩
  have hres : RowV W w.heap.size 5 (five (.int .u32 0) (.int .u64 0) (.int .i64 0) (.string ⟨#[]⟩) (.slice none 0 0)) := by rw [HW.out]; exact RowV.five_new w _ _ _ _ _ _
  have bel : Below w.heap.size w W := by rw [HW.out]; exact (Below.refl _ _).alloc (Nat.le_refl _) _
  have hzW : w.heap.size < W.heap.size := by rw [HW.out]; simp
  rw [← HW.out]
  clear HW
  refine (HZ.out _).mono ?_
  rintro x w1 ⟨rfl, rfl⟩
  go_wp2_with fail
  go_quiet (fail)
  have hresq : RowV (w1.drewN nq) w.heap.size 5 (five (.int .u32 0) (.int .u64 0) (.int .i64 0) (.string ⟨#[]⟩) (.slice none 0 0)) := hres.below (below_drewN (Below.refl w1.heap.size w1) nq) hzW
  have belq := below_drewN bel nq
  obtain ⟨w2, HW2⟩ : ∃ w2, Hid (w2 = w1.drewN nq) := ⟨_, rfl⟩
  rw [← HW2.out] at hresq belq ⊢
  have hz2 : w.heap.size < w2.heap.size := by rw [HW2.out]; exact hzW
  clear HW2 hres bel hzW
  obtain ⟨f0, f1, f2, f3, f4⟩ := hresq.open5
  obtain ⟨d0, d1, d2, d3, d4⟩ := hresq.cells5
  go_wp2
  have hq := hresq.set5 (.int .u32 0) (.int .u64 0) (.int .i64 0) (.string ⟨#[]⟩) (.slice none 0 0)
  have bq := below_set5 belq (b := w.heap.size) (Nat.le_refl _) (.int .u32 0) (.int .u64 0) (.int .i64 0) (.string ⟨#[]⟩) (.slice none 0 0)
  obtain ⟨WX, HWX⟩ : ∃ WX, Hid (WX = store5 w2 w.heap.size (.int .u32 0) (.int .u64 0) (.int .i64 0) (.string ⟨#[]⟩) (.slice none 0 0)) := ⟨_, rfl⟩
  rw [← HWX.out] at hq bq
  obtain ⟨r0, r1, r2, r3, r4⟩ := hq.cells5
  rw [show (((((w2.setCell ⟨w.heap.size, 0, none⟩ (.int .u32 0)).setCell ⟨w.heap.size, 1, none⟩ (.int .u64 0)).setCell ⟨w.heap.size, 2, none⟩ (.int .i64 0)).setCell ⟨w.heap.size, 3, none⟩ (.string ⟨#[]⟩)).setCell ⟨w.heap.size, 4, none⟩ (.slice none 0 0)) = WX from HWX.out.symm]
  refine bodyPost_ret (v := .tuple #[.agg #[.int .u32 0, .int .u64 0, .int .i64 0, .string ⟨#[]⟩, .slice none 0 0], .int .i64 34]) (by simp [results, Tryz.results200, go_sem, r0, r1, r2, r3, r4]) rfl ?_
  exact ⟨rfl, bq⟩

end Go.Proofs.YtgkfdakieebnmaaGreat

namespace Go.Proofs.YtgkfdakieebnmaaGreat
open Go.RowKit

set_option maxHeartbeats 1600000 in
set_option maxRecDepth 8000 in
theorem dec_sum (s : ByteArray) (w : World) (h : s.size = 512) (hz : zerosB s.data.toList = false) (ht : s.extract 504 512 = s.extract 4 12) (hs : s.extract 0 4 ≠ ⟨(putL (crcSum 0 (s.extract 4 512).data.toList) 4).toArray⟩) :
    Calls Tryz.prog 200 #[.string s] w fun x w' => x = .returned (.tuple #[sheet0.val none 0, .int .i64 32]) ∧ Below w.heap.size w w' := by
  have hT := str_eq ht
  have hS := str_ne hs
  have hcs := crcSum_lt 0 (s.extract 4 512).data.toList
  have HSUM : Hid (∀ wx, Calls Tryz.prog 113 #[.string (s.extract 4 512)] wx fun e w' => e = .returned (.int .u32 (crcSum 0 (s.extract 4 512).data.toList)) ∧ w' = wx) := fun wx => sum_any _ wx (by simp [ByteArray.size_extract]; unfold maxLen; omega)
  have HPUT : Hid (∀ wx, Calls Tryz.prog 112 #[.int .u64 (IntKind.u64.wrap ((crcSum 0 (s.extract 4 512).data.toList : Nat) : Int)), .int .i64 4] wx fun e w' => e = .returned (.string ⟨(putL (crcSum 0 (s.extract 4 512).data.toList) 4).toArray⟩) ∧ Below wx.heap.size wx w') := fun wx => by
    rw [show IntKind.u64.wrap ((crcSum 0 (s.extract 4 512).data.toList : Nat) : Int) = ((crcSum 0 (s.extract 4 512).data.toList : Nat) : Int) from by rw [IntKind.wrap_u64]; omega]
    exact put_any _ 4 wx (by omega)
  clear ht hs
  generalize crcSum 0 (s.extract 4 512).data.toList = C at *
  generalize (⟨(putL C 4).toArray⟩ : ByteArray) = P4 at *
  have HZ : Hid (∀ wx, Calls Tryz.prog 219 #[.string s] wx fun e w' => e = .returned (.bool false) ∧ w' = wx) := fun wx => by
    have := zeros_any s wx (by rw [h]; unfold maxLen; omega)
    rw [hz] at this
    exact this
  go_enter Tryz.func200, Tryz.ntmps200
  go_wp2_with fail
  obtain ⟨W, HW⟩ : ∃ W, Hid (W = w.alloc (.cells #[.int .u32 0, .int .u64 0, .int .i64 0, .string ⟨#[]⟩, .slice none 0 0] 52)) := ⟨_, rfl⟩
  have hres : RowV W w.heap.size 5 (five (.int .u32 0) (.int .u64 0) (.int .i64 0) (.string ⟨#[]⟩) (.slice none 0 0)) := by rw [HW.out]; exact RowV.five_new w _ _ _ _ _ _
  have bel : Below w.heap.size w W := by rw [HW.out]; exact (Below.refl _ _).alloc (Nat.le_refl _) _
  have hzW : w.heap.size < W.heap.size := by rw [HW.out]; simp
  rw [← HW.out]
  clear HW
  refine (HZ.out _).mono ?_
  rintro x w1 ⟨rfl, rfl⟩
  go_wp2_with fail
  go_quiet (fail)
  have hresq : RowV (w1.drewN nq) w.heap.size 5 (five (.int .u32 0) (.int .u64 0) (.int .i64 0) (.string ⟨#[]⟩) (.slice none 0 0)) := hres.below (below_drewN (Below.refl w1.heap.size w1) nq) hzW
  have belq := below_drewN bel nq
  obtain ⟨w2, HW2⟩ : ∃ w2, Hid (w2 = w1.drewN nq) := ⟨_, rfl⟩
  rw [← HW2.out] at hresq belq ⊢
  have hz2 : w.heap.size < w2.heap.size := by rw [HW2.out]; exact hzW
  clear HW2 hres bel hzW
  obtain ⟨f0, f1, f2, f3, f4⟩ := hresq.open5
  obtain ⟨d0, d1, d2, d3, d4⟩ := hresq.cells5
  go_wp2_with fail
  go_region_held3 (fun w' => True) (first | trivial | go_keep)
    (first | (go_at_call 113; refine (HSUM.out _).mono ?_; rintro x w3 ⟨rfl, rfl⟩) | (go_at_call 112; refine (HPUT.out _).mono ?_; rintro x w4 ⟨rfl, b4⟩))
  have bel4 := below_chain belq.drew b4
  have hres4 := (hresq.below ((Below.refl w2.heap.size w2).drew) hz2).below b4 hz2
  have hz4 : w.heap.size < w4.heap.size := Nat.lt_of_lt_of_le hz2 b4.size
  clear hresq belq b4 f0 f1 f2 f3 f4 d0 d1 d2 d3 d4
  obtain ⟨f0, f1, f2, f3, f4⟩ := hres4.open5
  obtain ⟨d0, d1, d2, d3, d4⟩ := hres4.cells5
  go_wp2
  have hq := hres4.set5 (.int .u32 0) (.int .u64 0) (.int .i64 0) (.string ⟨#[]⟩) (.slice none 0 0)
  have bq := below_set5 bel4 (b := w.heap.size) (Nat.le_refl _) (.int .u32 0) (.int .u64 0) (.int .i64 0) (.string ⟨#[]⟩) (.slice none 0 0)
  obtain ⟨WX, HWX⟩ : ∃ WX, Hid (WX = store5 w4 w.heap.size (.int .u32 0) (.int .u64 0) (.int .i64 0) (.string ⟨#[]⟩) (.slice none 0 0)) := ⟨_, rfl⟩
  rw [← HWX.out] at hq bq
  obtain ⟨r0, r1, r2, r3, r4⟩ := hq.cells5
  rw [show (((((w4.setCell ⟨w.heap.size, 0, none⟩ (.int .u32 0)).setCell ⟨w.heap.size, 1, none⟩ (.int .u64 0)).setCell ⟨w.heap.size, 2, none⟩ (.int .i64 0)).setCell ⟨w.heap.size, 3, none⟩ (.string ⟨#[]⟩)).setCell ⟨w.heap.size, 4, none⟩ (.slice none 0 0)) = WX from HWX.out.symm]
  refine bodyPost_ret (v := .tuple #[.agg #[.int .u32 0, .int .u64 0, .int .i64 0, .string ⟨#[]⟩, .slice none 0 0], .int .i64 32]) (by simp [results, Tryz.results200, go_sem, r0, r1, r2, r3, r4]) rfl ?_
  exact ⟨rfl, bq⟩

set_option maxHeartbeats 1600000 in
set_option maxRecDepth 8000 in
theorem dec_parse (s : ByteArray) (w : World) (h : s.size = 512) (hz : zerosB s.data.toList = false) (ht : s.extract 504 512 = s.extract 4 12) (hs : s.extract 0 4 = ⟨(putL (crcSum 0 (s.extract 4 512).data.toList) 4).toArray⟩) :
    Calls Tryz.prog 200 #[.string s] w fun x w' => Below w.heap.size w w' ∧
      (parseOk (cutB s) → ∃ a c, x = .returned (.tuple #[(parsed (cutB s)).val a c, .int .i64 0]) ∧ StrsFrom (w.heap.size + 1) w' a (parsed (cutB s)).slots) ∧
      (¬ parseOk (cutB s) → ∃ a c, x = .returned (.tuple #[sheet0.val a c, .int .i64 6])) := by
  have hT := str_eq ht
  have hS := str_eq hs
  have hcs := crcSum_lt 0 (s.extract 4 512).data.toList
  have HSUM : Hid (∀ wx, Calls Tryz.prog 113 #[.string (s.extract 4 512)] wx fun e w' => e = .returned (.int .u32 (crcSum 0 (s.extract 4 512).data.toList)) ∧ w' = wx) := fun wx => sum_any _ wx (by simp [ByteArray.size_extract]; unfold maxLen; omega)
  have HPUT : Hid (∀ wx, Calls Tryz.prog 112 #[.int .u64 (IntKind.u64.wrap ((crcSum 0 (s.extract 4 512).data.toList : Nat) : Int)), .int .i64 4] wx fun e w' => e = .returned (.string ⟨(putL (crcSum 0 (s.extract 4 512).data.toList) 4).toArray⟩) ∧ Below wx.heap.size wx w') := fun wx => by
    rw [show IntKind.u64.wrap ((crcSum 0 (s.extract 4 512).data.toList : Nat) : Int) = ((crcSum 0 (s.extract 4 512).data.toList : Nat) : Int) from by rw [IntKind.wrap_u64]; omega]
    exact put_any _ 4 wx (by omega)
  have HP : Hid (∀ wx, Calls Tryz.prog 221 #[.string (s.extract 4 504)] wx fun x w' => Below wx.heap.size wx w' ∧
      (parseOk (cutB s) → ∃ a c, x = .returned (.tuple #[(parsed (cutB s)).val a c, .int .i64 0]) ∧ StrsFrom (wx.heap.size + 1) w' a (parsed (cutB s)).slots) ∧
      (¬ parseOk (cutB s) → ∃ a c, x = .returned (.tuple #[sheet0.val a c, .int .i64 6]))) := fun wx => parse_any (cutB s) wx (by unfold cutB; simp [ByteArray.size_extract, h])
  clear ht hs
  generalize crcSum 0 (s.extract 4 512).data.toList = C at *
  generalize (⟨(putL C 4).toArray⟩ : ByteArray) = P4 at *
  have HZ : Hid (∀ wx, Calls Tryz.prog 219 #[.string s] wx fun e w' => e = .returned (.bool false) ∧ w' = wx) := fun wx => by
    have := zeros_any s wx (by rw [h]; unfold maxLen; omega)
    rw [hz] at this
    exact this
  go_enter Tryz.func200, Tryz.ntmps200
  go_wp2_with fail
  obtain ⟨W, HW⟩ : ∃ W, Hid (W = w.alloc (.cells #[.int .u32 0, .int .u64 0, .int .i64 0, .string ⟨#[]⟩, .slice none 0 0] 52)) := ⟨_, rfl⟩
  have hres : RowV W w.heap.size 5 (five (.int .u32 0) (.int .u64 0) (.int .i64 0) (.string ⟨#[]⟩) (.slice none 0 0)) := by rw [HW.out]; exact RowV.five_new w _ _ _ _ _ _
  have bel : Below w.heap.size w W := by rw [HW.out]; exact (Below.refl _ _).alloc (Nat.le_refl _) _
  have hzW : w.heap.size < W.heap.size := by rw [HW.out]; simp
  rw [← HW.out]
  clear HW
  refine (HZ.out _).mono ?_
  rintro x w1 ⟨rfl, rfl⟩
  go_wp2_with fail
  go_quiet (fail)
  have hresq : RowV (w1.drewN nq) w.heap.size 5 (five (.int .u32 0) (.int .u64 0) (.int .i64 0) (.string ⟨#[]⟩) (.slice none 0 0)) := hres.below (below_drewN (Below.refl w1.heap.size w1) nq) hzW
  have belq := below_drewN bel nq
  obtain ⟨w2, HW2⟩ : ∃ w2, Hid (w2 = w1.drewN nq) := ⟨_, rfl⟩
  rw [← HW2.out] at hresq belq ⊢
  have hz2 : w.heap.size < w2.heap.size := by rw [HW2.out]; exact hzW
  clear HW2 hres bel hzW
  obtain ⟨f0, f1, f2, f3, f4⟩ := hresq.open5
  obtain ⟨d0, d1, d2, d3, d4⟩ := hresq.cells5
  go_wp2_with fail
  go_region_held3 (fun w' => True) (first | trivial | go_keep)
    (first | (go_at_call 113; refine (HSUM.out _).mono ?_; rintro x w3 ⟨rfl, rfl⟩) | (go_at_call 112; refine (HPUT.out _).mono ?_; rintro x w4 ⟨rfl, b4⟩))
  have bel4 := below_chain belq.drew b4
  have hres4 := (hresq.below ((Below.refl w2.heap.size w2).drew) hz2).below b4 hz2
  have hz4 : w.heap.size < w4.heap.size := Nat.lt_of_lt_of_le hz2 b4.size
  clear hresq belq b4 f0 f1 f2 f3 f4 d0 d1 d2 d3 d4
  by_cases hok : parseOk (cutB s)
  · have HP' : Hid (∀ wx, Calls Tryz.prog 221 #[.string (s.extract 4 504)] wx fun x w' => Below wx.heap.size wx w' ∧ ∃ a c, x = .returned (.tuple #[(parsed (cutB s)).val a c, .int .i64 0]) ∧ StrsFrom (wx.heap.size + 1) w' a (parsed (cutB s)).slots) :=
      fun wx => (HP.out wx).mono fun x w' h => ⟨h.1, h.2.1 hok⟩
    clear HP
    unfold SheetV.val at HP'
    go_wp2_with fail
    refine (HP'.out _).mono ?_
    rintro x w5 ⟨b5, a5, c5, rfl, hm5⟩
    have bel5 := below_chain bel4 b5
    have hres5 := hres4.below b5 hz4
    clear hres4 bel4
    obtain ⟨f0, f1, f2, f3, f4⟩ := hres5.open5
    obtain ⟨d0, d1, d2, d3, d4⟩ := hres5.cells5
    go_wp2
    have hq := hres5.set5 (.int .u32 (parsed (cutB s)).num) (.int .u64 (parsed (cutB s)).lsn) (.int .i64 (parsed (cutB s)).kind) (.string (parsed (cutB s)).head) (.slice a5 (parsed (cutB s)).slots.length c5)
    have bq := below_set5 bel5 (b := w.heap.size) (Nat.le_refl _) (.int .u32 (parsed (cutB s)).num) (.int .u64 (parsed (cutB s)).lsn) (.int .i64 (parsed (cutB s)).kind) (.string (parsed (cutB s)).head) (.slice a5 (parsed (cutB s)).slots.length c5)
    obtain ⟨WX, HWX⟩ : ∃ WX, Hid (WX = store5 w5 w.heap.size (.int .u32 (parsed (cutB s)).num) (.int .u64 (parsed (cutB s)).lsn) (.int .i64 (parsed (cutB s)).kind) (.string (parsed (cutB s)).head) (.slice a5 (parsed (cutB s)).slots.length c5)) := ⟨_, rfl⟩
    rw [← HWX.out] at hq bq
    obtain ⟨r0, r1, r2, r3, r4⟩ := hq.cells5
    rw [show (((((w5.setCell ⟨w.heap.size, 0, none⟩ (.int .u32 (parsed (cutB s)).num)).setCell ⟨w.heap.size, 1, none⟩ (.int .u64 (parsed (cutB s)).lsn)).setCell ⟨w.heap.size, 2, none⟩ (.int .i64 (parsed (cutB s)).kind)).setCell ⟨w.heap.size, 3, none⟩ (.string (parsed (cutB s)).head)).setCell ⟨w.heap.size, 4, none⟩ (.slice a5 (parsed (cutB s)).slots.length c5)) = WX from HWX.out.symm]
    refine bodyPost_ret (v := .tuple #[.agg #[.int .u32 (parsed (cutB s)).num, .int .u64 (parsed (cutB s)).lsn, .int .i64 (parsed (cutB s)).kind, .string (parsed (cutB s)).head, .slice a5 (parsed (cutB s)).slots.length c5], .int .i64 0]) (by simp [results, Tryz.results200, go_sem, r0, r1, r2, r3, r4]) rfl ?_
    refine ⟨bq, fun _ => ⟨a5, c5, rfl, ?_⟩, fun h => absurd hok h⟩
    rw [HWX.out]
    exact (hm5.mono (by omega)).store5 (by omega) _ _ _ _ _
  · have HP' : Hid (∀ wx, Calls Tryz.prog 221 #[.string (s.extract 4 504)] wx fun x w' => Below wx.heap.size wx w' ∧ ∃ a c, x = .returned (.tuple #[sheet0.val a c, .int .i64 6])) :=
      fun wx => (HP.out wx).mono fun x w' h => ⟨h.1, h.2.2 hok⟩
    clear HP
    simp only [SheetV.val, sheet0, List.length_nil] at HP'
    go_wp2_with fail
    refine (HP'.out _).mono ?_
    rintro x w5 ⟨b5, a5, c5, rfl⟩
    have bel5 := below_chain bel4 b5
    have hres5 := hres4.below b5 hz4
    clear hres4 bel4
    obtain ⟨f0, f1, f2, f3, f4⟩ := hres5.open5
    obtain ⟨d0, d1, d2, d3, d4⟩ := hres5.cells5
    go_wp2
    have hq := hres5.set5 (.int .u32 0) (.int .u64 0) (.int .i64 0) (.string ⟨#[]⟩) (.slice a5 0 c5)
    have bq := below_set5 bel5 (b := w.heap.size) (Nat.le_refl _) (.int .u32 0) (.int .u64 0) (.int .i64 0) (.string ⟨#[]⟩) (.slice a5 0 c5)
    obtain ⟨WX, HWX⟩ : ∃ WX, Hid (WX = store5 w5 w.heap.size (.int .u32 0) (.int .u64 0) (.int .i64 0) (.string ⟨#[]⟩) (.slice a5 0 c5)) := ⟨_, rfl⟩
    rw [← HWX.out] at hq bq
    obtain ⟨r0, r1, r2, r3, r4⟩ := hq.cells5
    rw [show (((((w5.setCell ⟨w.heap.size, 0, none⟩ (.int .u32 0)).setCell ⟨w.heap.size, 1, none⟩ (.int .u64 0)).setCell ⟨w.heap.size, 2, none⟩ (.int .i64 0)).setCell ⟨w.heap.size, 3, none⟩ (.string ⟨#[]⟩)).setCell ⟨w.heap.size, 4, none⟩ (.slice a5 0 c5)) = WX from HWX.out.symm]
    refine bodyPost_ret (v := .tuple #[.agg #[.int .u32 0, .int .u64 0, .int .i64 0, .string ⟨#[]⟩, .slice a5 0 c5], .int .i64 6]) (by simp [results, Tryz.results200, go_sem, r0, r1, r2, r3, r4]) rfl ?_
    exact ⟨bq, fun h => absurd h hok, fun _ => ⟨a5, c5, rfl⟩⟩

end Go.Proofs.YtgkfdakieebnmaaGreat
