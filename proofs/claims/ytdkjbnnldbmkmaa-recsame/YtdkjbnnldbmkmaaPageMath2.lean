/-
  Plain mathematics: Decode of Encode is the page.
-/
import Derived.Test.YtdkjbnnldbmkmaaPageMath
namespace Go.Proofs.Ytdkjbnnldbmkmaa
open Go.RowKit
set_option linter.unusedVariables false

/-- So many zeros stand behind the slots. -/
def zerosL (p : SheetV) : List UInt8 := List.replicate (485 - p.head.size - slotSum p.slots) 0

/-- The bytes between, as a text. -/
def midB (p : SheetV) : ByteArray := ⟨(midL p).toArray⟩

section
variable (p : SheetV)

theorem mid_data : (midB p).data.toList = putL p.lsn 8 ++ (putL p.num 4 ++ (putL p.kind.toNat 1 ++ (putL p.head.size 1 ++ (p.head.data.toList ++ (putL p.slots.length 1 ++ (slotLens p.slots ++ (slotBytes p.slots ++ zerosL p))))))) := by
  simp [midB, midL, bodyL, zerosL]

theorem head_len : p.head.data.toList.length = p.head.size := by simp

theorem mid_lsn (h : p.Fits) : le (part (midB p) 0 8) = p.lsn := by
  have e := part_at (s := midB p) (pre := []) (mid := putL p.lsn 8) (a := 0) (n := 8) (mid_data p) rfl (by rw [putL_length])
  rw [e, le_putL]
  exact Nat.mod_eq_of_lt h.lsn

theorem mid_num (h : p.Fits) : le (part (midB p) 8 4) = p.num := by
  rw [part_at (pre := putL p.lsn 8) (mid_data p) (by rw [putL_length]) (by rw [putL_length]), le_putL]
  exact Nat.mod_eq_of_lt h.num

theorem mid_kind (h : p.Fits) : le (part (midB p) 12 1) = p.kind.toNat := by
  rw [part_at (pre := putL p.lsn 8 ++ putL p.num 4) (by rw [mid_data, List.append_assoc]) (by simp [putL_length]) (by rw [putL_length]), le_putL]
  exact Nat.mod_eq_of_lt (by have := h.kind0; have := h.kind1; omega)

theorem mid_hn (h : p.Fits) : pHn (midB p) = p.head.size := by
  unfold pHn
  rw [part_at (pre := putL p.lsn 8 ++ putL p.num 4 ++ putL p.kind.toNat 1) (by rw [mid_data, List.append_assoc, List.append_assoc]) (by simp [putL_length]) (by rw [putL_length]), le_putL]
  exact Nat.mod_eq_of_lt (by have := h.head; omega)

theorem mid_head (h : p.Fits) : part (midB p) 14 (pHn (midB p)) = p.head.data.toList := by
  rw [mid_hn p h]
  exact part_at (pre := putL p.lsn 8 ++ putL p.num 4 ++ putL p.kind.toNat 1 ++ putL p.head.size 1) (mid := p.head.data.toList) (post := putL p.slots.length 1 ++ (slotLens p.slots ++ (slotBytes p.slots ++ zerosL p))) (by rw [mid_data]; simp only [List.append_assoc]) (by simp [putL_length]) (by rw [head_len])

theorem mid_n (h : p.Fits) : pN (midB p) = p.slots.length := by
  unfold pN
  rw [mid_hn p h, part_at (pre := putL p.lsn 8 ++ putL p.num 4 ++ putL p.kind.toNat 1 ++ putL p.head.size 1 ++ p.head.data.toList) (mid := putL p.slots.length 1) (post := slotLens p.slots ++ (slotBytes p.slots ++ zerosL p)) (by rw [mid_data]; simp only [List.append_assoc]) (by simp only [List.length_append, putL_length, head_len]) (by rw [putL_length]), le_putL]
  exact Nat.mod_eq_of_lt (by have := h.len; omega)

theorem slot_lt (h : p.Fits) (j : Nat) (hj : j < p.slots.length) : p.slots[j].size < 65536 := by
  have := slotSum_at p.slots j hj
  have := h.fits
  omega

theorem mid_long (h : p.Fits) (j : Nat) (hj : j < p.slots.length) : longAt (midB p) (15 + p.head.size) j = p.slots[j].size := by
  unfold longAt
  have e : slotLens p.slots = slotLens (p.slots.take j) ++ (putL p.slots[j].size 2 ++ slotLens (p.slots.drop (j + 1))) := by
    conv => lhs; rw [← List.take_append_drop j p.slots, slotLens_append, List.drop_eq_getElem_cons hj]
    rfl
  rw [part_at (pre := putL p.lsn 8 ++ putL p.num 4 ++ putL p.kind.toNat 1 ++ putL p.head.size 1 ++ p.head.data.toList ++ putL p.slots.length 1 ++ slotLens (p.slots.take j))
    (mid := putL p.slots[j].size 2) (post := slotLens (p.slots.drop (j + 1)) ++ (slotBytes p.slots ++ zerosL p)) (by rw [mid_data, e]; simp only [List.append_assoc])
    (by simp only [List.length_append, putL_length, head_len, slotLens_length, List.length_take]; omega) (by rw [putL_length]), le_putL]
  exact Nat.mod_eq_of_lt (slot_lt p h j hj)

theorem slotBytes_len_snoc (L : List ByteArray) (k : Nat) (h : k < L.length) : (slotBytes (L.take (k + 1))).length = (slotBytes (L.take k)).length + L[k].size := by
  rw [slotBytes_snoc L k h, List.length_append]; simp

theorem mid_off (h : p.Fits) (k : Nat) (hk : k ≤ p.slots.length) : offAt (midB p) (15 + p.head.size) p.slots.length k = 15 + p.head.size + 2 * p.slots.length + (slotBytes (p.slots.take k)).length := by
  induction k with
  | zero => simp [offAt, slotBytes]
  | succ k ih =>
    simp only [offAt]
    rw [ih (by omega), mid_long p h k (by omega), slotBytes_len_snoc p.slots k (by omega)]
    omega

theorem mid_slot (h : p.Fits) (j : Nat) (hj : j < p.slots.length) : slotAt (midB p) (15 + p.head.size) p.slots.length j = p.slots[j] := by
  unfold slotAt
  rw [mid_off p h j (by omega), mid_long p h j hj]
  have e : slotBytes p.slots = slotBytes (p.slots.take j) ++ (p.slots[j].data.toList ++ slotBytes (p.slots.drop (j + 1))) := by
    conv => lhs; rw [← List.take_append_drop j p.slots, slotBytes_append, List.drop_eq_getElem_cons hj]
    rfl
  rw [part_at (pre := putL p.lsn 8 ++ putL p.num 4 ++ putL p.kind.toNat 1 ++ putL p.head.size 1 ++ p.head.data.toList ++ putL p.slots.length 1 ++ slotLens p.slots ++ slotBytes (p.slots.take j))
    (mid := p.slots[j].data.toList) (post := slotBytes (p.slots.drop (j + 1)) ++ zerosL p) (by rw [mid_data, e]; simp only [List.append_assoc])
    (by simp only [List.length_append, putL_length, head_len, slotLens_length]; omega) (by simp), bytes_self]

theorem mid_poff (h : p.Fits) : pOff (midB p) = 15 + p.head.size + slotSum p.slots := by
  unfold pOff
  rw [mid_hn p h, mid_n p h, mid_off p h _ (Nat.le_refl _), List.take_length]
  have := slot_lengths p.slots
  have := slotLens_length p.slots
  omega

theorem mid_slots (h : p.Fits) : slotsAt (midB p) (15 + pHn (midB p)) (pN (midB p)) = p.slots := by
  rw [mid_hn p h, mid_n p h]
  apply List.ext_getElem
  · rw [slotsAt_length]
  · intro j h1 h2
    simp only [slotsAt, List.getElem_map, List.getElem_range]
    exact mid_slot p h j h2

theorem mid_parsed (h : p.Fits) : parsed (midB p) = p := by
  unfold parsed
  rw [mid_num p h, mid_lsn p h, mid_kind p h, mid_head p h, mid_slots p h, bytes_self, Int.toNat_of_nonneg h.kind0]

theorem mid_ok (h : p.Fits) : parseOk (midB p) := by
  have hf := h.fits
  refine ⟨⟨by rw [mid_hn p h]; exact h.head, by rw [mid_n p h]; exact h.len, by rw [mid_poff p h]; omega⟩, ?_⟩
  rw [mid_poff p h, part_at (pre := putL p.lsn 8 ++ putL p.num 4 ++ putL p.kind.toNat 1 ++ putL p.head.size 1 ++ p.head.data.toList ++ putL p.slots.length 1 ++ slotLens p.slots ++ slotBytes p.slots)
    (mid := zerosL p) (post := []) (by rw [mid_data, List.append_nil]; simp only [List.append_assoc])
    (by have := slot_lengths p.slots; simp only [List.length_append, putL_length, head_len]; omega) (by simp [zerosL]; omega)]
  rw [zerosB_iff]; simp [zerosL]

theorem dec_enc (h : p.Fits) : decE ⟨(encL p).toArray⟩ = 0 ∧ decP ⟨(encL p).toArray⟩ = p := by
  have h1 := enc_size p h
  have hz : zerosB (ByteArray.mk (encL p).toArray).data.toList = false := by rw [enc_data]; exact encL_zeros p h
  have hE : decE ⟨(encL p).toArray⟩ = 0 := by
    unfold decE
    rw [if_neg (by omega), if_neg (by omega), if_neg (by rw [hz]; simp), if_neg (by rw [enc_tail p h, enc_lsn p h]; simp), if_neg (by rw [enc_sum p h, enc_rest p h]; simp),
      if_pos (by rw [parseB_iff, enc_cut p h]; exact mid_ok p h)]
  refine ⟨hE, ?_⟩
  unfold decP
  rw [if_pos ⟨hE, hz⟩, enc_cut p h]
  exact mid_parsed p h

end
end Go.Proofs.Ytdkjbnnldbmkmaa
