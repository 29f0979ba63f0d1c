/-
  Plain mathematics: what Decode finds in the bytes that Encode makes.
-/
import Derived.Test.YtdkjbnnldbmkmaaPageDecode2
namespace Go.Proofs.Ytdkjbnnldbmkmaa
open Go.RowKit
set_option linter.unusedVariables false

theorem part_at {s : ByteArray} {pre mid post : List UInt8} (h : s.data.toList = pre ++ (mid ++ post)) {a n : Nat} (ha : a = pre.length) (hn : n = mid.length) : part s a n = mid := by
  subst ha hn; unfold part; rw [h]; simp

theorem extract_at {s : ByteArray} {pre mid post : List UInt8} (h : s.data.toList = pre ++ (mid ++ post)) {a b : Nat} (ha : a = pre.length) (hb : b = a + mid.length) : s.extract a b = ⟨mid.toArray⟩ := by
  subst hb; rw [← part_extract, part_at h ha rfl]

/-- A page that Encode takes. -/
structure SheetV.Fits (p : SheetV) : Prop where
  num : p.num < 4294967296
  lsn : p.lsn < 18446744073709551616
  kind0 : 0 ≤ p.kind
  kind1 : p.kind ≤ 255
  head : p.head.size ≤ 32
  len : p.slots.length ≤ 64
  fits : p.head.size + slotSum p.slots ≤ 485

theorem crcz0 : crcL 4294967295 (List.replicate 64 0) = 4231468184 := by decide +kernel
theorem crcz1 : crcL 4231468184 (List.replicate 64 0) = 4158167844 := by decide +kernel
theorem crcz2 : crcL 4158167844 (List.replicate 64 0) = 2345306063 := by decide +kernel
theorem crcz3 : crcL 2345306063 (List.replicate 64 0) = 1200442991 := by decide +kernel
theorem crcz4 : crcL 1200442991 (List.replicate 64 0) = 64332339 := by decide +kernel
theorem crcz5 : crcL 64332339 (List.replicate 64 0) = 1158271177 := by decide +kernel
theorem crcz6 : crcL 1158271177 (List.replicate 64 0) = 3425213895 := by decide +kernel
theorem crcz7 : crcL 3425213895 (List.replicate 60 0) = 329799228 := by decide +kernel
theorem crcL_rep {n : Nat} (r a b : Nat) (h : n = a + b) : crcL r (List.replicate n 0) = crcL (crcL r (List.replicate a 0)) (List.replicate b 0) := by rw [h, ← List.replicate_append_replicate, crcL_append]

theorem crc_zeros_of (n : Nat) (h : n = 508) : crcL 4294967295 (List.replicate n 0) = 329799228 := by
  rw [crcL_rep 4294967295 64 444 h, crcz0, crcL_rep 4231468184 64 380 (by omega), crcz1, crcL_rep 4158167844 64 316 (by omega), crcz2, crcL_rep 2345306063 64 252 (by omega), crcz3,
    crcL_rep 1200442991 64 188 (by omega), crcz4, crcL_rep 64332339 64 124 (by omega), crcz5, crcL_rep 1158271177 64 60 (by omega), crcz6, crcz7]

theorem crc_zeros_ne (n : Nat) (h : n = 508) : crcSum 0 (List.replicate n 0) ≠ 0 := by
  unfold crcSum
  rw [Nat.sub_zero, crc_zeros_of n h]
  omega

theorem putL_zero_of {n k : Nat} (h : putL n k = List.replicate k 0) (hn : n < 2 ^ (8 * k)) : n = 0 := by
  have e := le_putL n k
  rw [h, Nat.mod_eq_of_lt hn] at e
  rw [← e]
  have : ∀ m, le (List.replicate m 0) = 0 := by
    intro m
    induction m with
    | zero => rfl
    | succ m ih => rw [List.replicate_succ]; simp [le, ih]
  exact this k

theorem encL_zeros (p : SheetV) (h : p.Fits) : zerosB (encL p) = false := by
  rw [Bool.eq_false_iff]
  intro hz
  have h1 := (zerosB_iff _).1 hz
  rw [encL_length p h.fits] at h1
  unfold encL at h1
  have hr : restL p = List.replicate 508 0 := by
    have := congrArg (List.drop 4) h1
    rw [List.drop_append_of_le_length (by rw [putL_length]; omega), List.drop_of_length_le (by rw [putL_length]; omega), List.nil_append, List.drop_replicate] at this
    exact this
  have hc : putL (crcSum 0 (restL p)) 4 = List.replicate 4 0 := by
    have := congrArg (List.take 4) h1
    rw [List.take_append_of_le_length (by rw [putL_length]; omega), List.take_of_length_le (by rw [putL_length]; omega), List.take_replicate] at this
    exact this
  have := putL_zero_of hc (by have := crcSum_lt 0 (restL p); omega)
  rw [hr] at this
  exact crc_zeros_ne _ rfl this

section
variable (p : SheetV)

/-- What stands from the LSN to the LSN at the end. -/
def midL : List UInt8 := bodyL p ++ List.replicate (485 - p.head.size - slotSum p.slots) 0

theorem enc_size (h : p.Fits) : (ByteArray.mk (encL p).toArray).size = 512 := by rw [bytes_size]; exact encL_length p h.fits

theorem enc_data : (ByteArray.mk (encL p).toArray).data.toList = encL p := by simp

theorem midL_length (h : p.Fits) : (midL p).length = 500 := by
  have := h.fits
  simp only [midL, List.length_append, bodyL_length, List.length_replicate]; omega

theorem enc_cut (h : p.Fits) : cutB ⟨(encL p).toArray⟩ = ⟨(midL p).toArray⟩ := by
  refine extract_at (pre := putL (crcSum 0 (restL p)) 4) (post := putL p.lsn 8) ?_ (by rw [putL_length]) (by rw [midL_length p h])
  rw [enc_data]; rfl

theorem enc_rest (h : p.Fits) : (ByteArray.mk (encL p).toArray).extract 4 512 = ⟨(restL p).toArray⟩ := by
  refine extract_at (pre := putL (crcSum 0 (restL p)) 4) (post := []) ?_ (by rw [putL_length]) (by rw [restL_length p h.fits])
  rw [enc_data, List.append_nil]; rfl

theorem enc_sum (h : p.Fits) : (ByteArray.mk (encL p).toArray).extract 0 4 = ⟨(putL (crcSum 0 (restL p)) 4).toArray⟩ := by
  refine extract_at (pre := []) (post := restL p) ?_ rfl (by rw [putL_length])
  rw [enc_data]; rfl

theorem enc_tail (h : p.Fits) : (ByteArray.mk (encL p).toArray).extract 504 512 = ⟨(putL p.lsn 8).toArray⟩ := by
  refine extract_at (pre := putL (crcSum 0 (restL p)) 4 ++ midL p) (post := []) ?_ (by rw [List.length_append, putL_length, midL_length p h]) (by rw [putL_length])
  rw [enc_data, List.append_nil, List.append_assoc]; rfl

theorem enc_lsn (h : p.Fits) : (ByteArray.mk (encL p).toArray).extract 4 12 = ⟨(putL p.lsn 8).toArray⟩ := by
  refine extract_at (pre := putL (crcSum 0 (restL p)) 4) (post := (restL p).drop 8) ?_ (by rw [putL_length]) (by rw [putL_length])
  rw [enc_data]
  have : restL p = putL p.lsn 8 ++ (restL p).drop 8 := by
    unfold restL bodyL
    simp only [List.append_assoc]
    rw [List.drop_left' (by rw [putL_length])]
  rw [← this]; rfl
end

end Go.Proofs.Ytdkjbnnldbmkmaa
