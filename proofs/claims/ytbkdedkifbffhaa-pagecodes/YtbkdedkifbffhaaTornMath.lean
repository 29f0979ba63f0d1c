/-
  Plain mathematics: of a page that was written over another one, but not wholly.
-/
import Derived.Test.YtbkdedkifbffhaaPageAwake
namespace Go.Proofs.Ytbkdedkifbffhaa
open Go.RowKit
set_option linter.unusedVariables false

section
variable (p : SheetV)

theorem encL_drop4 : (encL p).drop 4 = restL p := by unfold encL; exact List.drop_left' (by rw [putL_length])
theorem encL_take4 : (encL p).take 4 = putL (crcSum 0 ((encL p).drop 4)) 4 := by
  rw [encL_drop4 p]; unfold encL; exact List.take_left' (by rw [putL_length])
theorem encL_lsn : ((encL p).drop 4).take 8 = putL p.lsn 8 := by
  rw [encL_drop4 p]
  unfold restL bodyL
  simp only [List.append_assoc]
  exact List.take_left' (by rw [putL_length])
theorem encL_tail (h : p.Fits) : (encL p).drop 504 = putL p.lsn 8 := by
  have hm := midL_length p h
  have e : encL p = (putL (crcSum 0 (restL p)) 4 ++ midL p) ++ putL p.lsn 8 := by
    unfold encL; rw [List.append_assoc]; rfl
  rw [e]
  exact List.drop_left' (by rw [List.length_append, putL_length, hm])
end

theorem putL_ne {m n : Nat} (hm : m < 18446744073709551616) (hn : n < 18446744073709551616) (h : m ≠ n) : putL m 8 ≠ putL n 8 := fun e => by
  have := congrArg le e
  rw [le_putL, le_putL, Nat.mod_eq_of_lt (by omega), Nat.mod_eq_of_lt (by omega)] at this
  exact h this

theorem zeros_drop {M : List UInt8} (h : zerosB M = true) (k : Nat) : zerosB (M.drop k) = true := by
  unfold zerosB at *
  rw [List.all_eq_true] at *
  exact fun x hx => h x (List.mem_of_mem_drop hx)
theorem zeros_take {M : List UInt8} (h : zerosB M = true) (k : Nat) : zerosB (M.take k) = true := by
  unfold zerosB at *
  rw [List.all_eq_true] at *
  exact fun x hx => h x (List.mem_of_mem_take hx)
theorem lsn_zeros {n : Nat} (hn : n < 18446744073709551616) (h0 : n ≠ 0) : zerosB (putL n 8) = false := by
  rw [Bool.eq_false_iff]
  intro hz
  have := (zerosB_iff _).1 hz
  rw [putL_length] at this
  exact h0 (putL_zero_of this (by omega))

/-- What Decode's OK asks of bytes that are not all zeros. -/
theorem decE_zero {s : ByteArray} (h : decE s = 0) (hz : zerosB s.data.toList = false) :
    s.size = 512 ∧ s.data.toList.drop 504 = (s.data.toList.drop 4).take 8 ∧ s.data.toList.take 4 = putL (crcSum 0 (s.data.toList.drop 4)) 4 := by
  unfold decE at h
  split at h
  · cases h
  split at h
  · cases h
  have hs : s.size = 512 := by omega
  have hsl : s.data.toList.length = 512 := by simpa using hs
  split at h
  · rename_i q; rw [hz] at q; cases q
  split at h
  · cases h
  rename_i h1
  split at h
  · cases h
  rename_i h2
  have e1 : s.extract 504 512 = s.extract 4 12 := by simpa using h1
  have e2 := congrArg (fun b => b.data.toList) e1
  simp only [Lib.extract_data] at e2
  have e3 : s.extract 0 4 = ⟨(putL (crcSum 0 (s.extract 4 512).data.toList) 4).toArray⟩ := by simpa using h2
  have e4 := congrArg (fun b => b.data.toList) e3
  simp only [Lib.extract_data] at e4
  refine ⟨hs, ?_, ?_⟩
  · rw [List.take_of_length_le (by simp; omega)] at e2
    exact e2
  · rw [List.take_of_length_le (l := s.data.toList.drop 4) (by simp; omega)] at e4
    simpa using e4

theorem torn_math (a b : SheetV) (ha : a.Fits) (hb : b.Fits) (hne : a.lsn ≠ b.lsn) (ha0 : a.lsn ≠ 0) (hb0 : b.lsn ≠ 0) (k : Nat) (hk : k ≤ 512) (M : ByteArray)
    (hM : M.data.toList = (encL b).take k ++ (encL a).drop k) (h1 : M.data.toList ≠ encL a) (h2 : M.data.toList ≠ encL b) : decE M ≠ 0 := by
  intro h0
  have la := encL_length a ha.fits
  have lb := encL_length b hb.fits
  have lt : ((encL b).take k).length = k := by rw [List.length_take]; omega
  -- from where on it is the elder one, up to where the newer
  have dr : ∀ m, k ≤ m → M.data.toList.drop m = (encL a).drop m := fun m hm => by
    rw [hM, List.drop_append, lt, List.drop_of_length_le (by omega), List.nil_append, List.drop_drop]
    congr 1; omega
  have tk : ∀ m, m ≤ k → M.data.toList.take m = (encL b).take m := fun m hm => by
    rw [hM, List.take_append, lt, List.take_take, show m - k = 0 from by omega, List.take_zero, List.append_nil, Nat.min_eq_left hm]
  have mid : 12 ≤ k → (M.data.toList.drop 4).take 8 = putL b.lsn 8 := fun h12 => by
    rw [← encL_lsn b, List.take_drop, List.take_drop, tk (4 + 8) (by omega)]
  have hz : zerosB M.data.toList = false := by
    rw [Bool.eq_false_iff]
    intro hz
    by_cases h5 : k ≤ 504
    · have := zeros_drop hz 504
      rw [dr 504 h5, encL_tail a ha, lsn_zeros ha.lsn ha0] at this
      cases this
    · have := zeros_take (zeros_drop hz 4) 8
      rw [mid (by omega), lsn_zeros hb.lsn hb0] at this
      cases this
  obtain ⟨hs, ht, hc⟩ := decE_zero h0 hz
  by_cases h12 : 12 ≤ k
  · by_cases h5 : k ≤ 504
    · rw [dr 504 h5, encL_tail a ha, mid h12] at ht
      exact putL_ne ha.lsn hb.lsn hne ht
    · apply h2
      rw [mid h12, ← encL_tail b hb] at ht
      rw [← List.take_append_drop 504 M.data.toList, ht, tk 504 (by omega), List.take_append_drop]
  · apply h1
    rw [dr 504 (by omega), encL_tail a ha, ← encL_lsn a] at ht
    have e4 : M.data.toList.drop 4 = (encL a).drop 4 := by
      rw [← List.take_append_drop 8 (M.data.toList.drop 4), ← ht, List.drop_drop, dr (4 + 8) (by omega), ← List.drop_drop, List.take_append_drop]
    rw [e4, ← encL_take4 a] at hc
    rw [← List.take_append_drop 4 M.data.toList, hc, e4, List.take_append_drop]

end Go.Proofs.Ytbkdedkifbffhaa
