/-
  Encode and Decode whole; girderlaw03.awake.
-/
import Derived.Test.YtpggeejolajmgaaPageEncOk
import Derived.Test.YtpggeejolajmgaaPageMath2
import Derived.Test.YtpggeejolajmgaaPageSame3
namespace Go.Proofs.Ytpggeejolajmgaa
open Go.RowKit Go.Sort
set_option linter.unusedVariables false

theorem sheet0_val (a : Option Addr) (c : Nat) : sheet0.val a c = .agg #[.int .u32 0, .int .u64 0, .int .i64 0, .string ⟨#[]⟩, .slice a 0 c] := rfl

theorem decode_any (s : ByteArray) (w : World) (hm : s.size ≤ maxLen) :
    Calls Try.prog 27 #[.string s] w fun x w' => ∃ a c, x = .returned (.tuple #[(decP s).val a c, .int .i64 (decE s)]) ∧ StrsFrom w.heap.size w' a (decP s).slots ∧ Below w.heap.size w w' := by
  by_cases h1 : s.size < 512
  · have hE : decE s = 4 := by unfold decE; rw [if_pos h1]
    have hP : decP s = sheet0 := by unfold decP; rw [hE, if_neg (by simp)]
    rw [hE, hP]
    exact (dec_short s w h1).mono fun x w' h => ⟨none, 0, h.1, .inl rfl, h.2⟩
  by_cases h2 : 512 < s.size
  · have hE : decE s = 5 := by unfold decE; rw [if_neg h1, if_pos h2]
    have hP : decP s = sheet0 := by unfold decP; rw [hE, if_neg (by simp)]
    rw [hE, hP]
    exact (dec_long s w h2 hm).mono fun x w' h => ⟨none, 0, h.1, .inl rfl, h.2⟩
  have h3 : s.size = 512 := by omega
  by_cases hz : zerosB s.data.toList = true
  · have hE : decE s = 0 := by unfold decE; rw [if_neg h1, if_neg h2, if_pos hz]
    have hP : decP s = sheet0 := by unfold decP; rw [if_neg (by rw [hz]; simp)]
    rw [hE, hP]
    exact (dec_zero s w h3 hz).mono fun x w' h => ⟨none, 0, h.1, .inl rfl, h.2⟩
  by_cases ht : s.extract 504 512 = s.extract 4 12
  · by_cases hs : s.extract 0 4 = ⟨(putL (crcSum 0 (s.extract 4 512).data.toList) 4).toArray⟩
    · by_cases hp : parseOk (cutB s)
      · have hE : decE s = 0 := by unfold decE; rw [if_neg h1, if_neg h2, if_neg hz, if_neg (by simpa using ht), if_neg (by simpa using hs), if_pos ((parseB_iff _).2 hp)]
        have hP : decP s = parsed (cutB s) := by unfold decP; rw [if_pos ⟨hE, by simpa using hz⟩]
        rw [hE, hP]
        refine (dec_parse s w h3 (by simpa using hz) ht hs).mono ?_
        rintro x w' ⟨hb, hy, _⟩
        obtain ⟨a, c, e, hm⟩ := hy hp
        exact ⟨a, c, e, hm.mono (by omega), hb⟩
      · have hE : decE s = 6 := by unfold decE; rw [if_neg h1, if_neg h2, if_neg hz, if_neg (by simpa using ht), if_neg (by simpa using hs), if_neg (by rw [parseB_iff]; exact hp)]
        have hP : decP s = sheet0 := by unfold decP; rw [hE, if_neg (by simp)]
        rw [hE, hP]
        refine (dec_parse s w h3 (by simpa using hz) ht hs).mono ?_
        rintro x w' ⟨hb, _, hn⟩
        obtain ⟨a, c, e⟩ := hn hp
        exact ⟨a, c, e, .inl rfl, hb⟩
    · have hE : decE s = 32 := by unfold decE; rw [if_neg h1, if_neg h2, if_neg hz, if_neg (by simpa using ht), if_pos hs]
      have hP : decP s = sheet0 := by unfold decP; rw [hE, if_neg (by simp)]
      rw [hE, hP]
      exact (dec_sum s w h3 (by simpa using hz) ht hs).mono fun x w' h => ⟨none, 0, h.1, .inl rfl, h.2⟩
  · have hE : decE s = 34 := by unfold decE; rw [if_neg h1, if_neg h2, if_neg hz, if_pos ht]
    have hP : decP s = sheet0 := by unfold decP; rw [hE, if_neg (by simp)]
    rw [hE, hP]
    exact (dec_torn s w h3 (by simpa using hz) ht).mono fun x w' h => ⟨none, 0, h.1, .inl rfl, h.2⟩

/-- The bytes of Encode. -/
def encS (p : SheetV) : ByteArray := if encE p = 0 then ⟨(encL p).toArray⟩ else ⟨#[]⟩

theorem encE_fits {p : SheetV} {w : World} {a : Option Addr} (h : p.Ok w a) : encE p = 0 ↔ p.Fits := by
  unfold encE
  constructor
  · intro e
    split at e
    · cases e
    · split at e
      · cases e
      · rename_i h1 h2
        exact ⟨h.num, h.lsn, by omega, by omega, by omega, by omega, by omega⟩
  · intro f
    have := f.kind0; have := f.kind1; have := f.head; have := f.len; have := f.fits
    rw [if_neg (by omega), if_neg (by omega)]

theorem encode_any (p : SheetV) (a : Option Addr) (c : Nat) (w : World) (h : p.Ok w a) :
    Calls Try.prog 26 #[p.val a c] w fun e w' => e = .returned (.tuple #[.string (encS p), .int .i64 (encE p)]) ∧ Below w.heap.size w w' := by
  by_cases h1 : p.kind < 0 ∨ 255 < p.kind ∨ 32 < p.head.size ∨ 64 < p.slots.length
  · have hE : encE p = 1 := by unfold encE; rw [if_pos h1]
    have hS : encS p = ⟨#[]⟩ := by unfold encS; rw [hE]; rfl
    rw [hE, hS]
    exact encode_arg p a c w h h1
  · by_cases h2 : 485 < p.head.size + slotSum p.slots
    · have hE : encE p = 30 := by unfold encE; rw [if_neg h1, if_pos h2]
      have hS : encS p = ⟨#[]⟩ := by unfold encS; rw [hE]; rfl
      rw [hE, hS]
      exact encode_full p a c w h (by omega) (by omega) (by omega) (by omega) h2
    · have hE : encE p = 0 := by unfold encE; rw [if_neg h1, if_neg h2]
      have hS : encS p = ⟨(encL p).toArray⟩ := by unfold encS; rw [if_pos hE]
      rw [hE, hS]
      exact encode_ok p a c w h (by omega) (by omega) (by omega) (by omega) (by omega)

/-- The page of awake. -/
def sheetA : SheetV := ⟨3, 0, 2, ⟨#[]⟩, [⟨#[97]⟩]⟩

theorem sheetA_fits : sheetA.Fits := ⟨by decide, by decide, by decide, by decide, by decide, by decide, by decide⟩

set_option maxHeartbeats 1600000 in
theorem awake_any (w : World) : Calls Try.prog 10 #[] w fun e w' => e = .returned (.bool true) ∧ Below w.heap.size w w' := by
  have hok : ∀ wx a, StrsAt wx a sheetA.slots → sheetA.Ok wx a := fun wx a hm => ⟨by decide, by decide, by decide, by decide, by decide, by decide, hm⟩
  have hE0 : encE sheetA = 0 := (encE_fits (hok (w.alloc (.cells #[.string ⟨#[97]⟩] 9)) (some ⟨w.heap.size, 0, none⟩) (.inr ⟨_, 0, rfl, by simp, fun i hi => by
    obtain rfl : i = 0 := by simpa [sheetA] using hi
    simp [sheetA]⟩))).2 sheetA_fits
  have hS0 : encS sheetA = ⟨(encL sheetA).toArray⟩ := by unfold encS; rw [if_pos hE0]
  obtain ⟨T, HT⟩ : ∃ T, Hid (encS sheetA = T) := ⟨_, rfl⟩
  have hTs : T.size = 512 := by rw [← HT.out, hS0]; exact enc_size sheetA sheetA_fits
  have hTE : decE T = 0 := by rw [← HT.out, hS0]; exact (dec_enc sheetA sheetA_fits).1
  have hTP : decP T = sheetA := by rw [← HT.out, hS0]; exact (dec_enc sheetA sheetA_fits).2
  have HE : Hid (∀ wx, StrsAt wx (some ⟨w.heap.size, 0, none⟩) sheetA.slots → Calls Try.prog 26 #[.agg #[.int .u32 3, .int .u64 0, .int .i64 2, .string ⟨#[]⟩, .slice (some ⟨w.heap.size, 0, none⟩) 1 1]] wx fun e w' => e = .returned (.tuple #[.string T, .int .i64 0]) ∧ Below wx.heap.size wx w') := fun wx hm => by
    have := encode_any sheetA (some ⟨w.heap.size, 0, none⟩) 1 wx (hok wx _ hm)
    rw [hE0, HT.out] at this
    exact this
  have HD : Hid (∀ wx, Calls Try.prog 27 #[.string T] wx fun x w' => ∃ a c, x = .returned (.tuple #[.agg #[.int .u32 3, .int .u64 0, .int .i64 2, .string ⟨#[]⟩, .slice a 1 c], .int .i64 0]) ∧ StrsFrom wx.heap.size w' a sheetA.slots ∧ Below wx.heap.size wx w') := fun wx => by
    have := decode_any T wx (by rw [hTs]; unfold maxLen; omega)
    rw [hTE, hTP] at this
    exact this
  have HM : Hid (∀ wx a c, StrsAt wx (some ⟨w.heap.size, 0, none⟩) sheetA.slots → StrsAt wx a sheetA.slots → Calls Try.prog 15 #[.agg #[.int .u32 3, .int .u64 0, .int .i64 2, .string ⟨#[]⟩, .slice (some ⟨w.heap.size, 0, none⟩) 1 1], .agg #[.int .u32 3, .int .u64 0, .int .i64 2, .string ⟨#[]⟩, .slice a 1 c]] wx fun e w' => e = .returned (.bool true) ∧ Below wx.heap.size wx w') := fun wx a c h1 h2 => by
    have := same_any sheetA sheetA (some ⟨w.heap.size, 0, none⟩) a 1 c wx (hok wx _ h1) (hok wx _ h2)
    rw [show sameB sheetA sheetA = true from by simp [sameB]] at this
    exact this
  clear hTE hTP hS0 hE0
  go_enter Try.func10, Try.ntmps10
  go_wp2_with fail
  obtain ⟨W, HW⟩ : ∃ W, Hid (W = (w.alloc (.cells #[.string ⟨#[97]⟩] 9)).alloc (.cells #[.int .u32 3, .int .u64 0, .int .i64 2, .string ⟨#[]⟩, .slice (some ⟨w.heap.size, 0, none⟩) 1 1] 28)) := ⟨_, rfl⟩
  have hm : StrsAt W (some ⟨w.heap.size, 0, none⟩) sheetA.slots := by
    rw [HW.out]
    refine .inr ⟨_, 0, rfl, by simp; omega, fun i hi => ?_⟩
    obtain rfl : i = 0 := by simpa [sheetA] using hi
    simp [sheetA]
  have bel : Below w.heap.size w W := by rw [HW.out]; exact ((Below.refl _ _).alloc (Nat.le_refl _) _).alloc (by simp) _
  have hz : w.heap.size + 2 ≤ W.heap.size := by rw [HW.out]; simp
  have r1 : RowV W (w.heap.size + 1) 5 (five (.int .u32 3) (.int .u64 0) (.int .i64 2) (.string ⟨#[]⟩) (.slice (some ⟨w.heap.size, 0, none⟩) 1 1)) := by
    rw [HW.out]
    have := RowV.five_new (w.alloc (.cells #[.string ⟨#[97]⟩] 9)) (.int .u32 3) (.int .u64 0) (.int .i64 2) (.string ⟨#[]⟩) (.slice (some ⟨w.heap.size, 0, none⟩) 1 1) 28
    simpa using this
  rw [← HW.out]
  clear HW
  refine (HE.out _ hm).mono ?_
  rintro e w1 ⟨rfl, b1⟩
  go_wp2_with fail
  refine (HD.out _).mono ?_
  rintro e w2 ⟨a2, c2, rfl, hf2, b2⟩
  have b12 := below_chain b1 b2
  have r2 := r1.below b12 (by omega)
  have hm2 := hm.below b12
  have hq2 := hf2.at
  have bel2 := below_chain bel b12
  have hz2 := Nat.le_trans hz b12.size
  clear hm r1 hf2 bel hz b1 b2 b12
  obtain ⟨x0, x1, x2, x3, x4⟩ := r2.cells5
  have hz3 : w.heap.size + 1 < w2.heap.size := by omega
  go_wp2_with fail
  refine (HM.out _ a2 c2 (hm2.below ((Below.refl _ _).alloc (Nat.le_refl _) _)) (hq2.below ((Below.refl _ _).alloc (Nat.le_refl _) _))).mono ?_
  rintro e w3 ⟨rfl, b3⟩
  go_wp2
  go_ret
  exact ⟨rfl, below_chain (bel2.alloc (by omega) _) b3⟩

end Go.Proofs.Ytpggeejolajmgaa
