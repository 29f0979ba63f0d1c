/-
  The walk of page.Encode, of a page that fits.
  Plain mathematics: what Decode finds in the bytes that Encode makes.
  The walk of girderlaw03.same.
  Plain mathematics: Decode of Encode is the page.
  Encode and Decode whole; girderlaw03.awake.
-/
import Derived.Test.YtnljephojonilaaBase2C
import Derived.Test.YtnljephojonilaaBase3C
import Derived.Test.YtnljephojonilaaPageSame2C
namespace Go.Proofs.Ytnljephojonilaa
open Go.RowKit
set_option linter.unusedVariables false



end Go.Proofs.Ytnljephojonilaa

namespace Go.Proofs.Ytnljephojonilaa
open Go.RowKit
set_option linter.unusedVariables false

theorem part_at {s : ByteArray} {pre mid post : List UInt8} (h : s.data.toList = pre ++ (mid ++ post)) {a n : Nat} (ha : a = pre.length) (hn : n = mid.length) : part s a n = mid := by
  subst ha hn; unfold part; rw [h]; simp

theorem extract_at {s : ByteArray} {pre mid post : List UInt8} (h : s.data.toList = pre ++ (mid ++ post)) {a b : Nat} (ha : a = pre.length) (hb : b = a + mid.length) : s.extract a b = ⟨mid.toArray⟩ := by
  subst hb; rw [← part_extract, part_at h ha rfl]

/-- A page that Encode takes. -/
structure SheetV.Fits (p : SheetV) : Prop where
  num : p.num < 4294967296
  lsn : p.lsn < 18446744073709551616
  kind0 : 0 ≤ p.kind
  kind1 : p.kind ≤ 255
  head : p.head.size ≤ 32
  len : p.slots.length ≤ 64
  fits : p.head.size + slotSum p.slots ≤ 485

theorem crcz0 : crcL 4294967295 (List.replicate 64 0) = 4231468184 := by decide +kernel
theorem crcz1 : crcL 4231468184 (List.replicate 64 0) = 4158167844 := by decide +kernel
theorem crcz2 : crcL 4158167844 (List.replicate 64 0) = 2345306063 := by decide +kernel
theorem crcz3 : crcL 2345306063 (List.replicate 64 0) = 1200442991 := by decide +kernel
theorem crcz4 : crcL 1200442991 (List.replicate 64 0) = 64332339 := by decide +kernel
theorem crcz5 : crcL 64332339 (List.replicate 64 0) = 1158271177 := by decide +kernel
theorem crcz6 : crcL 1158271177 (List.replicate 64 0) = 3425213895 := by decide +kernel
theorem crcz7 : crcL 3425213895 (List.replicate 60 0) = 329799228 := by decide +kernel
theorem crcL_rep {n : Nat} (r a b : Nat) (h : n = a + b) : crcL r (List.replicate n 0) = crcL (crcL r (List.replicate a 0)) (List.replicate b 0) := by rw [h, ← List.replicate_append_replicate, crcL_append]

theorem crc_zeros_of (n : Nat) (h : n = 508) : crcL 4294967295 (List.replicate n 0) = 329799228 := by
  rw [crcL_rep 4294967295 64 444 h, crcz0, crcL_rep 4231468184 64 380 (by omega), crcz1, crcL_rep 4158167844 64 316 (by omega), crcz2, crcL_rep 2345306063 64 252 (by omega), crcz3,
    crcL_rep 1200442991 64 188 (by omega), crcz4, crcL_rep 64332339 64 124 (by omega), crcz5, crcL_rep 1158271177 64 60 (by omega), crcz6, crcz7]

theorem crc_zeros_ne (n : Nat) (h : n = 508) : crcSum 0 (List.replicate n 0) ≠ 0 := by
  unfold crcSum
  rw [Nat.sub_zero, crc_zeros_of n h]
  omega

theorem putL_zero_of {n k : Nat} (h : putL n k = List.replicate k 0) (hn : n < 2 ^ (8 * k)) : n = 0 := by
  have e := le_putL n k
  rw [h, Nat.mod_eq_of_lt hn] at e
  rw [← e]
  have : ∀ m, le (List.replicate m 0) = 0 := by
    intro m
    induction m with
    | zero => rfl
    | succ m ih => rw [List.replicate_succ]; simp [le, ih]
  exact this k

theorem encL_zeros (p : SheetV) (h : p.Fits) : zerosB (encL p) = false := by
  rw [Bool.eq_false_iff]
  intro hz
  have h1 := (zerosB_iff _).1 hz
  rw [encL_length p h.fits] at h1
  unfold encL at h1
  have hr : restL p = List.replicate 508 0 := by
    have := congrArg (List.drop 4) h1
    rw [List.drop_append_of_le_length (by rw [putL_length]; omega), List.drop_of_length_le (by rw [putL_length]; omega), List.nil_append, List.drop_replicate] at this
    exact this
  have hc : putL (crcSum 0 (restL p)) 4 = List.replicate 4 0 := by
    have := congrArg (List.take 4) h1
    rw [List.take_append_of_le_length (by rw [putL_length]; omega), List.take_of_length_le (by rw [putL_length]; omega), List.take_replicate] at this
    exact this
  have := putL_zero_of hc (by have := crcSum_lt 0 (restL p); omega)
  rw [hr] at this
  exact crc_zeros_ne _ rfl this

section
variable (p : SheetV)

/-- What stands from the LSN to the LSN at the end. -/
def midL : List UInt8 := bodyL p ++ List.replicate (485 - p.head.size - slotSum p.slots) 0

theorem enc_size (h : p.Fits) : (ByteArray.mk (encL p).toArray).size = 512 := by rw [bytes_size]; exact encL_length p h.fits

theorem enc_data : (ByteArray.mk (encL p).toArray).data.toList = encL p := by simp

theorem midL_length (h : p.Fits) : (midL p).length = 500 := by
  have := h.fits
  simp only [midL, List.length_append, bodyL_length, List.length_replicate]; omega

theorem enc_cut (h : p.Fits) : cutB ⟨(encL p).toArray⟩ = ⟨(midL p).toArray⟩ := by
  refine extract_at (pre := putL (crcSum 0 (restL p)) 4) (post := putL p.lsn 8) ?_ (by rw [putL_length]) (by rw [midL_length p h])
  rw [enc_data]; rfl

theorem enc_rest (h : p.Fits) : (ByteArray.mk (encL p).toArray).extract 4 512 = ⟨(restL p).toArray⟩ := by
  refine extract_at (pre := putL (crcSum 0 (restL p)) 4) (post := []) ?_ (by rw [putL_length]) (by rw [restL_length p h.fits])
  rw [enc_data, List.append_nil]; rfl

theorem enc_sum (h : p.Fits) : (ByteArray.mk (encL p).toArray).extract 0 4 = ⟨(putL (crcSum 0 (restL p)) 4).toArray⟩ := by
  refine extract_at (pre := []) (post := restL p) ?_ rfl (by rw [putL_length])
  rw [enc_data]; rfl

theorem enc_tail (h : p.Fits) : (ByteArray.mk (encL p).toArray).extract 504 512 = ⟨(putL p.lsn 8).toArray⟩ := by
  refine extract_at (pre := putL (crcSum 0 (restL p)) 4 ++ midL p) (post := []) ?_ (by rw [List.length_append, putL_length, midL_length p h]) (by rw [putL_length])
  rw [enc_data, List.append_nil, List.append_assoc]; rfl

theorem enc_lsn (h : p.Fits) : (ByteArray.mk (encL p).toArray).extract 4 12 = ⟨(putL p.lsn 8).toArray⟩ := by
  refine extract_at (pre := putL (crcSum 0 (restL p)) 4) (post := (restL p).drop 8) ?_ (by rw [putL_length]) (by rw [putL_length])
  rw [enc_data]
  have : restL p = putL p.lsn 8 ++ (restL p).drop 8 := by
    unfold restL bodyL
    simp only [List.append_assoc]
    rw [List.drop_left' (by rw [putL_length])]
  rw [← this]; rfl
end

end Go.Proofs.Ytnljephojonilaa

namespace Go.Proofs.Ytnljephojonilaa
open Go.RowKit Go.Sort
set_option linter.unusedVariables false



end Go.Proofs.Ytnljephojonilaa

namespace Go.Proofs.Ytnljephojonilaa
open Go.RowKit
set_option linter.unusedVariables false

/-- So many zeros stand behind the slots. -/
def zerosL (p : SheetV) : List UInt8 := List.replicate (485 - p.head.size - slotSum p.slots) 0

/-- The bytes between, as a text. -/
def midB (p : SheetV) : ByteArray := ⟨(midL p).toArray⟩

section
variable (p : SheetV)

theorem mid_data : (midB p).data.toList = putL p.lsn 8 ++ (putL p.num 4 ++ (putL p.kind.toNat 1 ++ (putL p.head.size 1 ++ (p.head.data.toList ++ (putL p.slots.length 1 ++ (slotLens p.slots ++ (slotBytes p.slots ++ zerosL p))))))) := by
  simp [midB, midL, bodyL, zerosL]

theorem head_len : p.head.data.toList.length = p.head.size := by simp

theorem mid_lsn (h : p.Fits) : le (part (midB p) 0 8) = p.lsn := by
  have e := part_at (s := midB p) (pre := []) (mid := putL p.lsn 8) (a := 0) (n := 8) (mid_data p) rfl (by rw [putL_length])
  rw [e, le_putL]
  exact Nat.mod_eq_of_lt h.lsn

theorem mid_num (h : p.Fits) : le (part (midB p) 8 4) = p.num := by
  rw [part_at (pre := putL p.lsn 8) (mid_data p) (by rw [putL_length]) (by rw [putL_length]), le_putL]
  exact Nat.mod_eq_of_lt h.num

theorem mid_kind (h : p.Fits) : le (part (midB p) 12 1) = p.kind.toNat := by
  rw [part_at (pre := putL p.lsn 8 ++ putL p.num 4) (by rw [mid_data, List.append_assoc]) (by simp [putL_length]) (by rw [putL_length]), le_putL]
  exact Nat.mod_eq_of_lt (by have := h.kind0; have := h.kind1; omega)

theorem mid_hn (h : p.Fits) : pHn (midB p) = p.head.size := by
  unfold pHn
  rw [part_at (pre := putL p.lsn 8 ++ putL p.num 4 ++ putL p.kind.toNat 1) (by rw [mid_data, List.append_assoc, List.append_assoc]) (by simp [putL_length]) (by rw [putL_length]), le_putL]
  exact Nat.mod_eq_of_lt (by have := h.head; omega)

theorem mid_head (h : p.Fits) : part (midB p) 14 (pHn (midB p)) = p.head.data.toList := by
  rw [mid_hn p h]
  exact part_at (pre := putL p.lsn 8 ++ putL p.num 4 ++ putL p.kind.toNat 1 ++ putL p.head.size 1) (mid := p.head.data.toList) (post := putL p.slots.length 1 ++ (slotLens p.slots ++ (slotBytes p.slots ++ zerosL p))) (by rw [mid_data]; simp only [List.append_assoc]) (by simp [putL_length]) (by rw [head_len])

theorem mid_n (h : p.Fits) : pN (midB p) = p.slots.length := by
  unfold pN
  rw [mid_hn p h, part_at (pre := putL p.lsn 8 ++ putL p.num 4 ++ putL p.kind.toNat 1 ++ putL p.head.size 1 ++ p.head.data.toList) (mid := putL p.slots.length 1) (post := slotLens p.slots ++ (slotBytes p.slots ++ zerosL p)) (by rw [mid_data]; simp only [List.append_assoc]) (by simp only [List.length_append, putL_length, head_len]) (by rw [putL_length]), le_putL]
  exact Nat.mod_eq_of_lt (by have := h.len; omega)

theorem slot_lt (h : p.Fits) (j : Nat) (hj : j < p.slots.length) : p.slots[j].size < 65536 := by
  have := slotSum_at p.slots j hj
  have := h.fits
  omega

theorem mid_long (h : p.Fits) (j : Nat) (hj : j < p.slots.length) : longAt (midB p) (15 + p.head.size) j = p.slots[j].size := by
  unfold longAt
  have e : slotLens p.slots = slotLens (p.slots.take j) ++ (putL p.slots[j].size 2 ++ slotLens (p.slots.drop (j + 1))) := by
    conv => lhs; rw [← List.take_append_drop j p.slots, slotLens_append, List.drop_eq_getElem_cons hj]
    rfl
  rw [part_at (pre := putL p.lsn 8 ++ putL p.num 4 ++ putL p.kind.toNat 1 ++ putL p.head.size 1 ++ p.head.data.toList ++ putL p.slots.length 1 ++ slotLens (p.slots.take j))
    (mid := putL p.slots[j].size 2) (post := slotLens (p.slots.drop (j + 1)) ++ (slotBytes p.slots ++ zerosL p)) (by rw [mid_data, e]; simp only [List.append_assoc])
    (by simp only [List.length_append, putL_length, head_len, slotLens_length, List.length_take]; omega) (by rw [putL_length]), le_putL]
  exact Nat.mod_eq_of_lt (slot_lt p h j hj)

theorem slotBytes_len_snoc (L : List ByteArray) (k : Nat) (h : k < L.length) : (slotBytes (L.take (k + 1))).length = (slotBytes (L.take k)).length + L[k].size := by
  rw [slotBytes_snoc L k h, List.length_append]; simp

theorem mid_off (h : p.Fits) (k : Nat) (hk : k ≤ p.slots.length) : offAt (midB p) (15 + p.head.size) p.slots.length k = 15 + p.head.size + 2 * p.slots.length + (slotBytes (p.slots.take k)).length := by
  induction k with
  | zero => simp [offAt, slotBytes]
  | succ k ih =>
    simp only [offAt]
    rw [ih (by omega), mid_long p h k (by omega), slotBytes_len_snoc p.slots k (by omega)]
    omega

theorem mid_slot (h : p.Fits) (j : Nat) (hj : j < p.slots.length) : slotAt (midB p) (15 + p.head.size) p.slots.length j = p.slots[j] := by
  unfold slotAt
  rw [mid_off p h j (by omega), mid_long p h j hj]
  have e : slotBytes p.slots = slotBytes (p.slots.take j) ++ (p.slots[j].data.toList ++ slotBytes (p.slots.drop (j + 1))) := by
    conv => lhs; rw [← List.take_append_drop j p.slots, slotBytes_append, List.drop_eq_getElem_cons hj]
    rfl
  rw [part_at (pre := putL p.lsn 8 ++ putL p.num 4 ++ putL p.kind.toNat 1 ++ putL p.head.size 1 ++ p.head.data.toList ++ putL p.slots.length 1 ++ slotLens p.slots ++ slotBytes (p.slots.take j))
    (mid := p.slots[j].data.toList) (post := slotBytes (p.slots.drop (j + 1)) ++ zerosL p) (by rw [mid_data, e]; simp only [List.append_assoc])
    (by simp only [List.length_append, putL_length, head_len, slotLens_length]; omega) (by simp), bytes_self]

theorem mid_poff (h : p.Fits) : pOff (midB p) = 15 + p.head.size + slotSum p.slots := by
  unfold pOff
  rw [mid_hn p h, mid_n p h, mid_off p h _ (Nat.le_refl _), List.take_length]
  have := slot_lengths p.slots
  have := slotLens_length p.slots
  omega

theorem mid_slots (h : p.Fits) : slotsAt (midB p) (15 + pHn (midB p)) (pN (midB p)) = p.slots := by
  rw [mid_hn p h, mid_n p h]
  apply List.ext_getElem
  · rw [slotsAt_length]
  · intro j h1 h2
    simp only [slotsAt, List.getElem_map, List.getElem_range]
    exact mid_slot p h j h2

theorem mid_parsed (h : p.Fits) : parsed (midB p) = p := by
  unfold parsed
  rw [mid_num p h, mid_lsn p h, mid_kind p h, mid_head p h, mid_slots p h, bytes_self, Int.toNat_of_nonneg h.kind0]

theorem mid_ok (h : p.Fits) : parseOk (midB p) := by
  have hf := h.fits
  refine ⟨⟨by rw [mid_hn p h]; exact h.head, by rw [mid_n p h]; exact h.len, by rw [mid_poff p h]; omega⟩, ?_⟩
  rw [mid_poff p h, part_at (pre := putL p.lsn 8 ++ putL p.num 4 ++ putL p.kind.toNat 1 ++ putL p.head.size 1 ++ p.head.data.toList ++ putL p.slots.length 1 ++ slotLens p.slots ++ slotBytes p.slots)
    (mid := zerosL p) (post := []) (by rw [mid_data, List.append_nil]; simp only [List.append_assoc])
    (by have := slot_lengths p.slots; simp only [List.length_append, putL_length, head_len]; omega) (by simp [zerosL]; omega)]
  rw [zerosB_iff]; simp [zerosL]

theorem dec_enc (h : p.Fits) : decE ⟨(encL p).toArray⟩ = 0 ∧ decP ⟨(encL p).toArray⟩ = p := by
  have h1 := enc_size p h
  have hz : zerosB (ByteArray.mk (encL p).toArray).data.toList = false := by rw [enc_data]; exact encL_zeros p h
  have hE : decE ⟨(encL p).toArray⟩ = 0 := by
    unfold decE
    rw [if_neg (by omega), if_neg (by omega), if_neg (by rw [hz]; simp), if_neg (by rw [enc_tail p h, enc_lsn p h]; simp), if_neg (by rw [enc_sum p h, enc_rest p h]; simp),
      if_pos (by rw [parseB_iff, enc_cut p h]; exact mid_ok p h)]
  refine ⟨hE, ?_⟩
  unfold decP
  rw [if_pos ⟨hE, hz⟩, enc_cut p h]
  exact mid_parsed p h

end
end Go.Proofs.Ytnljephojonilaa

namespace Go.Proofs.Ytnljephojonilaa
open Go.RowKit Go.Sort
set_option linter.unusedVariables false

theorem sheet0_val (a : Option Addr) (c : Nat) : sheet0.val a c = .agg #[.int .u32 0, .int .u64 0, .int .i64 0, .string ⟨#[]⟩, .slice a 0 c] := rfl



/-- The bytes of Encode. -/
def encS (p : SheetV) : ByteArray := if encE p = 0 then ⟨(encL p).toArray⟩ else ⟨#[]⟩

theorem encE_fits {p : SheetV} {w : World} {a : Option Addr} (h : p.Ok w a) : encE p = 0 ↔ p.Fits := by
  unfold encE
  constructor
  · intro e
    split at e
    · cases e
    · split at e
      · cases e
      · rename_i h1 h2
        exact ⟨h.num, h.lsn, by omega, by omega, by omega, by omega, by omega⟩
  · intro f
    have := f.kind0; have := f.kind1; have := f.head; have := f.len; have := f.fits
    rw [if_neg (by omega), if_neg (by omega)]



/-- The page of awake. -/
def sheetA : SheetV := ⟨3, 0, 2, ⟨#[]⟩, [⟨#[97]⟩]⟩

theorem sheetA_fits : sheetA.Fits := ⟨by decide, by decide, by decide, by decide, by decide, by decide, by decide⟩



end Go.Proofs.Ytnljephojonilaa
