/-
  Plain mathematics: what Decode finds in the bytes that Encode makes.
  Plain mathematics: Decode of Encode is the page.
  The laying of a contract of the library's shelf at this program's numbers (plain text by the library's own command).
  The walks of page.Same, girderref03.Same, girderlaw03.ref, girderlaw03.same, page.Kind, girderref03.Turned.
  The walks of girderlaw03.ref, girderref03.Same, girderlaw03.same, page.Kind, girderref03.Turned.
  The walk of girderlaw03.same.
  Encode and Decode whole; girderlaw03.awake.
  Changes as plain data; the walks of page.within, page.mayBe, page.Check.
  The walks of page.copyOf and page.copyOfOp.
  The walk of page.copyOfOp.
  The laying of a contract of the library's shelf at this program's numbers (plain text by the library's own command).
-/
import Derived.Test.YtkknglcckjhngaaBase1C
import Derived.Test.YtkknglcckjhngaaProg
import Derived.Shelf.Slices.Equal
import Derived.Shelf.Slices.Empties2
import Derived.Lib.QuietBelow
import Derived.Deep.RegionWith
import Derived.Shelf.Spec.SlicesInsert
namespace Go.Proofs.Ytkknglcckjhngaa
open Go.RowKit
set_option linter.unusedVariables false

theorem part_at {s : ByteArray} {pre mid post : List UInt8} (h : s.data.toList = pre ++ (mid ++ post)) {a n : Nat} (ha : a = pre.length) (hn : n = mid.length) : part s a n = mid := by
  subst ha hn; unfold part; rw [h]; simp

theorem extract_at {s : ByteArray} {pre mid post : List UInt8} (h : s.data.toList = pre ++ (mid ++ post)) {a b : Nat} (ha : a = pre.length) (hb : b = a + mid.length) : s.extract a b = ⟨mid.toArray⟩ := by
  subst hb; rw [← part_extract, part_at h ha rfl]

/-- A page that Encode takes. -/
structure SheetV.Fits (p : SheetV) : Prop where
  num : p.num < 4294967296
  lsn : p.lsn < 18446744073709551616
  kind0 : 0 ≤ p.kind
  kind1 : p.kind ≤ 255
  head : p.head.size ≤ 32
  len : p.slots.length ≤ 64
  fits : p.head.size + slotSum p.slots ≤ 485

theorem crcz0 : crcL 4294967295 (List.replicate 64 0) = 4231468184 := by decide +kernel
theorem crcz1 : crcL 4231468184 (List.replicate 64 0) = 4158167844 := by decide +kernel
theorem crcz2 : crcL 4158167844 (List.replicate 64 0) = 2345306063 := by decide +kernel
theorem crcz3 : crcL 2345306063 (List.replicate 64 0) = 1200442991 := by decide +kernel
theorem crcz4 : crcL 1200442991 (List.replicate 64 0) = 64332339 := by decide +kernel
theorem crcz5 : crcL 64332339 (List.replicate 64 0) = 1158271177 := by decide +kernel
theorem crcz6 : crcL 1158271177 (List.replicate 64 0) = 3425213895 := by decide +kernel
theorem crcz7 : crcL 3425213895 (List.replicate 60 0) = 329799228 := by decide +kernel
theorem crcL_rep {n : Nat} (r a b : Nat) (h : n = a + b) : crcL r (List.replicate n 0) = crcL (crcL r (List.replicate a 0)) (List.replicate b 0) := by rw [h, ← List.replicate_append_replicate, crcL_append]

theorem crc_zeros_of (n : Nat) (h : n = 508) : crcL 4294967295 (List.replicate n 0) = 329799228 := by
  rw [crcL_rep 4294967295 64 444 h, crcz0, crcL_rep 4231468184 64 380 (by omega), crcz1, crcL_rep 4158167844 64 316 (by omega), crcz2, crcL_rep 2345306063 64 252 (by omega), crcz3,
    crcL_rep 1200442991 64 188 (by omega), crcz4, crcL_rep 64332339 64 124 (by omega), crcz5, crcL_rep 1158271177 64 60 (by omega), crcz6, crcz7]

theorem crc_zeros_ne (n : Nat) (h : n = 508) : crcSum 0 (List.replicate n 0) ≠ 0 := by
  unfold crcSum
  rw [Nat.sub_zero, crc_zeros_of n h]
  omega

theorem putL_zero_of {n k : Nat} (h : putL n k = List.replicate k 0) (hn : n < 2 ^ (8 * k)) : n = 0 := by
  have e := le_putL n k
  rw [h, Nat.mod_eq_of_lt hn] at e
  rw [← e]
  have : ∀ m, le (List.replicate m 0) = 0 := by
    intro m
    induction m with
    | zero => rfl
    | succ m ih => rw [List.replicate_succ]; simp [le, ih]
  exact this k

theorem encL_zeros (p : SheetV) (h : p.Fits) : zerosB (encL p) = false := by
  rw [Bool.eq_false_iff]
  intro hz
  have h1 := (zerosB_iff _).1 hz
  rw [encL_length p h.fits] at h1
  unfold encL at h1
  have hr : restL p = List.replicate 508 0 := by
    have := congrArg (List.drop 4) h1
    rw [List.drop_append_of_le_length (by rw [putL_length]; omega), List.drop_of_length_le (by rw [putL_length]; omega), List.nil_append, List.drop_replicate] at this
    exact this
  have hc : putL (crcSum 0 (restL p)) 4 = List.replicate 4 0 := by
    have := congrArg (List.take 4) h1
    rw [List.take_append_of_le_length (by rw [putL_length]; omega), List.take_of_length_le (by rw [putL_length]; omega), List.take_replicate] at this
    exact this
  have := putL_zero_of hc (by have := crcSum_lt 0 (restL p); omega)
  rw [hr] at this
  exact crc_zeros_ne _ rfl this

section
variable (p : SheetV)

/-- What stands from the LSN to the LSN at the end. -/
def midL : List UInt8 := bodyL p ++ List.replicate (485 - p.head.size - slotSum p.slots) 0

theorem enc_size (h : p.Fits) : (ByteArray.mk (encL p).toArray).size = 512 := by rw [bytes_size]; exact encL_length p h.fits

theorem enc_data : (ByteArray.mk (encL p).toArray).data.toList = encL p := by simp

theorem midL_length (h : p.Fits) : (midL p).length = 500 := by
  have := h.fits
  simp only [midL, List.length_append, bodyL_length, List.length_replicate]; omega

theorem enc_cut (h : p.Fits) : cutB ⟨(encL p).toArray⟩ = ⟨(midL p).toArray⟩ := by
  refine extract_at (pre := putL (crcSum 0 (restL p)) 4) (post := putL p.lsn 8) ?_ (by rw [putL_length]) (by rw [midL_length p h])
  rw [enc_data]; rfl

theorem enc_rest (h : p.Fits) : (ByteArray.mk (encL p).toArray).extract 4 512 = ⟨(restL p).toArray⟩ := by
  refine extract_at (pre := putL (crcSum 0 (restL p)) 4) (post := []) ?_ (by rw [putL_length]) (by rw [restL_length p h.fits])
  rw [enc_data, List.append_nil]; rfl

theorem enc_sum (h : p.Fits) : (ByteArray.mk (encL p).toArray).extract 0 4 = ⟨(putL (crcSum 0 (restL p)) 4).toArray⟩ := by
  refine extract_at (pre := []) (post := restL p) ?_ rfl (by rw [putL_length])
  rw [enc_data]; rfl

theorem enc_tail (h : p.Fits) : (ByteArray.mk (encL p).toArray).extract 504 512 = ⟨(putL p.lsn 8).toArray⟩ := by
  refine extract_at (pre := putL (crcSum 0 (restL p)) 4 ++ midL p) (post := []) ?_ (by rw [List.length_append, putL_length, midL_length p h]) (by rw [putL_length])
  rw [enc_data, List.append_nil, List.append_assoc]; rfl

theorem enc_lsn (h : p.Fits) : (ByteArray.mk (encL p).toArray).extract 4 12 = ⟨(putL p.lsn 8).toArray⟩ := by
  refine extract_at (pre := putL (crcSum 0 (restL p)) 4) (post := (restL p).drop 8) ?_ (by rw [putL_length]) (by rw [putL_length])
  rw [enc_data]
  have : restL p = putL p.lsn 8 ++ (restL p).drop 8 := by
    unfold restL bodyL
    simp only [List.append_assoc]
    rw [List.drop_left' (by rw [putL_length])]
  rw [← this]; rfl
end

end Go.Proofs.Ytkknglcckjhngaa

namespace Go.Proofs.Ytkknglcckjhngaa
open Go.RowKit
set_option linter.unusedVariables false

/-- So many zeros stand behind the slots. -/
def zerosL (p : SheetV) : List UInt8 := List.replicate (485 - p.head.size - slotSum p.slots) 0

/-- The bytes between, as a text. -/
def midB (p : SheetV) : ByteArray := ⟨(midL p).toArray⟩

section
variable (p : SheetV)

theorem mid_data : (midB p).data.toList = putL p.lsn 8 ++ (putL p.num 4 ++ (putL p.kind.toNat 1 ++ (putL p.head.size 1 ++ (p.head.data.toList ++ (putL p.slots.length 1 ++ (slotLens p.slots ++ (slotBytes p.slots ++ zerosL p))))))) := by
  simp [midB, midL, bodyL, zerosL]

theorem head_len : p.head.data.toList.length = p.head.size := by simp

theorem mid_lsn (h : p.Fits) : le (part (midB p) 0 8) = p.lsn := by
  have e := part_at (s := midB p) (pre := []) (mid := putL p.lsn 8) (a := 0) (n := 8) (mid_data p) rfl (by rw [putL_length])
  rw [e, le_putL]
  exact Nat.mod_eq_of_lt h.lsn

theorem mid_num (h : p.Fits) : le (part (midB p) 8 4) = p.num := by
  rw [part_at (pre := putL p.lsn 8) (mid_data p) (by rw [putL_length]) (by rw [putL_length]), le_putL]
  exact Nat.mod_eq_of_lt h.num

theorem mid_kind (h : p.Fits) : le (part (midB p) 12 1) = p.kind.toNat := by
  rw [part_at (pre := putL p.lsn 8 ++ putL p.num 4) (by rw [mid_data, List.append_assoc]) (by simp [putL_length]) (by rw [putL_length]), le_putL]
  exact Nat.mod_eq_of_lt (by have := h.kind0; have := h.kind1; omega)

theorem mid_hn (h : p.Fits) : pHn (midB p) = p.head.size := by
  unfold pHn
  rw [part_at (pre := putL p.lsn 8 ++ putL p.num 4 ++ putL p.kind.toNat 1) (by rw [mid_data, List.append_assoc, List.append_assoc]) (by simp [putL_length]) (by rw [putL_length]), le_putL]
  exact Nat.mod_eq_of_lt (by have := h.head; omega)

theorem mid_head (h : p.Fits) : part (midB p) 14 (pHn (midB p)) = p.head.data.toList := by
  rw [mid_hn p h]
  exact part_at (pre := putL p.lsn 8 ++ putL p.num 4 ++ putL p.kind.toNat 1 ++ putL p.head.size 1) (mid := p.head.data.toList) (post := putL p.slots.length 1 ++ (slotLens p.slots ++ (slotBytes p.slots ++ zerosL p))) (by rw [mid_data]; simp only [List.append_assoc]) (by simp [putL_length]) (by rw [head_len])

theorem mid_n (h : p.Fits) : pN (midB p) = p.slots.length := by
  unfold pN
  rw [mid_hn p h, part_at (pre := putL p.lsn 8 ++ putL p.num 4 ++ putL p.kind.toNat 1 ++ putL p.head.size 1 ++ p.head.data.toList) (mid := putL p.slots.length 1) (post := slotLens p.slots ++ (slotBytes p.slots ++ zerosL p)) (by rw [mid_data]; simp only [List.append_assoc]) (by simp only [List.length_append, putL_length, head_len]) (by rw [putL_length]), le_putL]
  exact Nat.mod_eq_of_lt (by have := h.len; omega)

theorem slot_lt (h : p.Fits) (j : Nat) (hj : j < p.slots.length) : p.slots[j].size < 65536 := by
  have := slotSum_at p.slots j hj
  have := h.fits
  omega

theorem mid_long (h : p.Fits) (j : Nat) (hj : j < p.slots.length) : longAt (midB p) (15 + p.head.size) j = p.slots[j].size := by
  unfold longAt
  have e : slotLens p.slots = slotLens (p.slots.take j) ++ (putL p.slots[j].size 2 ++ slotLens (p.slots.drop (j + 1))) := by
    conv => lhs; rw [← List.take_append_drop j p.slots, slotLens_append, List.drop_eq_getElem_cons hj]
    rfl
  rw [part_at (pre := putL p.lsn 8 ++ putL p.num 4 ++ putL p.kind.toNat 1 ++ putL p.head.size 1 ++ p.head.data.toList ++ putL p.slots.length 1 ++ slotLens (p.slots.take j))
    (mid := putL p.slots[j].size 2) (post := slotLens (p.slots.drop (j + 1)) ++ (slotBytes p.slots ++ zerosL p)) (by rw [mid_data, e]; simp only [List.append_assoc])
    (by simp only [List.length_append, putL_length, head_len, slotLens_length, List.length_take]; omega) (by rw [putL_length]), le_putL]
  exact Nat.mod_eq_of_lt (slot_lt p h j hj)

theorem slotBytes_len_snoc (L : List ByteArray) (k : Nat) (h : k < L.length) : (slotBytes (L.take (k + 1))).length = (slotBytes (L.take k)).length + L[k].size := by
  rw [slotBytes_snoc L k h, List.length_append]; simp

theorem mid_off (h : p.Fits) (k : Nat) (hk : k ≤ p.slots.length) : offAt (midB p) (15 + p.head.size) p.slots.length k = 15 + p.head.size + 2 * p.slots.length + (slotBytes (p.slots.take k)).length := by
  induction k with
  | zero => simp [offAt, slotBytes]
  | succ k ih =>
    simp only [offAt]
    rw [ih (by omega), mid_long p h k (by omega), slotBytes_len_snoc p.slots k (by omega)]
    omega

theorem mid_slot (h : p.Fits) (j : Nat) (hj : j < p.slots.length) : slotAt (midB p) (15 + p.head.size) p.slots.length j = p.slots[j] := by
  unfold slotAt
  rw [mid_off p h j (by omega), mid_long p h j hj]
  have e : slotBytes p.slots = slotBytes (p.slots.take j) ++ (p.slots[j].data.toList ++ slotBytes (p.slots.drop (j + 1))) := by
    conv => lhs; rw [← List.take_append_drop j p.slots, slotBytes_append, List.drop_eq_getElem_cons hj]
    rfl
  rw [part_at (pre := putL p.lsn 8 ++ putL p.num 4 ++ putL p.kind.toNat 1 ++ putL p.head.size 1 ++ p.head.data.toList ++ putL p.slots.length 1 ++ slotLens p.slots ++ slotBytes (p.slots.take j))
    (mid := p.slots[j].data.toList) (post := slotBytes (p.slots.drop (j + 1)) ++ zerosL p) (by rw [mid_data, e]; simp only [List.append_assoc])
    (by simp only [List.length_append, putL_length, head_len, slotLens_length]; omega) (by simp), bytes_self]

theorem mid_poff (h : p.Fits) : pOff (midB p) = 15 + p.head.size + slotSum p.slots := by
  unfold pOff
  rw [mid_hn p h, mid_n p h, mid_off p h _ (Nat.le_refl _), List.take_length]
  have := slot_lengths p.slots
  have := slotLens_length p.slots
  omega

theorem mid_slots (h : p.Fits) : slotsAt (midB p) (15 + pHn (midB p)) (pN (midB p)) = p.slots := by
  rw [mid_hn p h, mid_n p h]
  apply List.ext_getElem
  · rw [slotsAt_length]
  · intro j h1 h2
    simp only [slotsAt, List.getElem_map, List.getElem_range]
    exact mid_slot p h j h2

theorem mid_parsed (h : p.Fits) : parsed (midB p) = p := by
  unfold parsed
  rw [mid_num p h, mid_lsn p h, mid_kind p h, mid_head p h, mid_slots p h, bytes_self, Int.toNat_of_nonneg h.kind0]

theorem mid_ok (h : p.Fits) : parseOk (midB p) := by
  have hf := h.fits
  refine ⟨⟨by rw [mid_hn p h]; exact h.head, by rw [mid_n p h]; exact h.len, by rw [mid_poff p h]; omega⟩, ?_⟩
  rw [mid_poff p h, part_at (pre := putL p.lsn 8 ++ putL p.num 4 ++ putL p.kind.toNat 1 ++ putL p.head.size 1 ++ p.head.data.toList ++ putL p.slots.length 1 ++ slotLens p.slots ++ slotBytes p.slots)
    (mid := zerosL p) (post := []) (by rw [mid_data, List.append_nil]; simp only [List.append_assoc])
    (by have := slot_lengths p.slots; simp only [List.length_append, putL_length, head_len]; omega) (by simp [zerosL]; omega)]
  rw [zerosB_iff]; simp [zerosL]

theorem dec_enc (h : p.Fits) : decE ⟨(encL p).toArray⟩ = 0 ∧ decP ⟨(encL p).toArray⟩ = p := by
  have h1 := enc_size p h
  have hz : zerosB (ByteArray.mk (encL p).toArray).data.toList = false := by rw [enc_data]; exact encL_zeros p h
  have hE : decE ⟨(encL p).toArray⟩ = 0 := by
    unfold decE
    rw [if_neg (by omega), if_neg (by omega), if_neg (by rw [hz]; simp), if_neg (by rw [enc_tail p h, enc_lsn p h]; simp), if_neg (by rw [enc_sum p h, enc_rest p h]; simp),
      if_pos (by rw [parseB_iff, enc_cut p h]; exact mid_ok p h)]
  refine ⟨hE, ?_⟩
  unfold decP
  rw [if_pos ⟨hE, hz⟩, enc_cut p h]
  exact mid_parsed p h

end
end Go.Proofs.Ytkknglcckjhngaa

namespace Go.Proofs.Ytkknglcckjhngaa
open Go.Shelf

def equalLays_ren : Go.Shelf.Ren := ⟨fun | 193 => 29 | n => n, fun | 31 => 27 | 9 => 9 | 4 => 4 | 3 => 3 | 0 => 0 | n => n, fun | n => n⟩
theorem equalLays : Go.Proofs.Lays.n193 Try.prog equalLays_ren := {
  mixed := by kernel_rfl
  f193 := Try.func29.trans (congrArg some (by kernel_rfl))
  t0 := Try.underlying0
  a0 := Try.isAgg0
  z0 := Try.sizeOf0
  v0 := Try.zeroValue0
  t3 := Try.underlying3
  a3 := Try.isAgg3
  z3 := Try.sizeOf3
  v3 := Try.zeroValue3
  t4 := Try.underlying4
  a4 := Try.isAgg4
  z4 := Try.sizeOf4
  v4 := Try.zeroValue4
  t9 := Try.underlying9
  a9 := Try.isAgg9
  z9 := Try.sizeOf9
  v9 := Try.zeroValue9
  t31 := Try.underlying27
  a31 := Try.isAgg27
  z31 := Try.sizeOf27
  v31 := Try.zeroValue27 }

end Go.Proofs.Ytkknglcckjhngaa

namespace Go.Proofs.Ytkknglcckjhngaa
open Go.RowKit Go.Sort
set_option linter.unusedVariables false

theorem mixed : Try.prog.follows .mixedOrders = true := by kernel_rfl

theorem equal_any (a1 a2 : Option Addr) (c d : Nat) (L M : List ByteArray) (w : World) (hL : StrsAt w a1 L) (hM : StrsAt w a2 M) (h1 : L.length ≤ 9223372036854775807) (h2 : M.length ≤ 9223372036854775807) :
    Calls Try.prog 29 #[.slice a1 L.length c, .slice a2 M.length d] w fun e w' => e = .returned (.bool (decide (L = M))) ∧ ∃ q, w' = w.drewN q := by
  by_cases hl : L.length = M.length
  · by_cases h0 : L = []
    · subst h0
      have hm0 : M.length = 0 := by simpa using hl.symm
      refine (Any.slices_Equal_string_empty equalLays a1 a2 c M.length d w h2).mono ?_
      rintro e w' ⟨rfl, rfl⟩
      refine ⟨?_, 0, rfl⟩
      have : M = [] := List.eq_nil_of_length_eq_zero hm0
      subst this; rfl
    · have h0' : M ≠ [] := fun e => h0 (List.eq_nil_of_length_eq_zero (by rw [hl, e]; rfl))
      rcases hL with hL | ⟨b1, o1, rfl, _, hc1⟩
      · exact absurd hL h0
      rcases hM with hM | ⟨b2, o2, rfl, _, hc2⟩
      · exact absurd hM h0'
      refine (Any.slices_Equal_string equalLays b1 o1 L.length c b2 o2 M.length d L M w (Nat.le_refl _) (Nat.le_refl _) h1 h2 (fun j hj => ?_) (fun j hj => ?_)).mono ?_
      · rw [hc1 j hj, List.getD_eq_getElem?_getD, List.getElem?_eq_getElem hj]; rfl
      · rw [hc2 j hj, List.getD_eq_getElem?_getD, List.getElem?_eq_getElem hj]; rfl
      · rintro e w' ⟨rfl, q, rfl⟩
        exact ⟨by rw [List.take_length, List.take_length], q, rfl⟩
  · refine (Any.slices_Equal_string_lens equalLays a1 a2 L.length c M.length d w hl).mono ?_
    rintro e w' ⟨rfl, rfl⟩
    refine ⟨?_, 0, rfl⟩
    have : ¬ L = M := fun e => hl (by rw [e])
    simp [this]

/-- Are two pages the same but for the LSN? -/
def sameB (p q : SheetV) : Bool := decide (p.num = q.num ∧ p.kind = q.kind ∧ p.head = q.head ∧ p.slots = q.slots)

set_option maxHeartbeats 1600000 in
theorem same_any (p q : SheetV) (a1 a2 : Option Addr) (c d : Nat) (w : World) (hp : p.Ok w a1) (hq : q.Ok w a2) :
    Calls Try.prog 19 #[p.val a1 c, q.val a2 d] w fun e w' => e = .returned (.bool (sameB p q)) ∧ Below w.heap.size w w' := by
  have hE : Hid (∀ wx, Below w.heap.size w wx → Calls Try.prog 29 #[.slice a1 p.slots.length c, .slice a2 q.slots.length d] wx fun e w' => e = .returned (.bool (decide (p.slots = q.slots))) ∧ ∃ q, w' = wx.drewN q) :=
    fun wx hb => equal_any a1 a2 c d p.slots q.slots wx (hp.mem.below hb) (hq.mem.below hb) (by have := hp.len; omega) (by have := hq.len; omega)
  have hn1 := hp.num
  have hn2 := hq.num
  have HS : Hid (sameB p q = decide (p.num = q.num ∧ p.kind = q.kind ∧ p.head = q.head ∧ p.slots = q.slots)) := rfl
  generalize sameB p q = R at *
  clear hp hq
  obtain ⟨n1, l1, k1, h1, L⟩ := p
  obtain ⟨n2, l2, k2, h2, M⟩ := q
  simp only [SheetV.val] at *
  by_cases e1 : n1 = n2
  · by_cases e2 : k1 = k2
    · by_cases e3 : h1 = h2
      · have HR : Hid (R = decide (L = M)) := by show _ = _; rw [HS.out]; simp [e1, e2, e3]
        clear HS
        subst e1 e2 e3
        go_enter Try.func19, Try.ntmps19
        go_wp2_with fail
        refine (hE.out _ (((Below.refl _ _).alloc (Nat.le_refl _) _).alloc (by simp) _)).mono ?_
        rintro e w1 ⟨rfl, nq, rfl⟩
        go_wp2
        go_ret
        exact ⟨by rw [HR.out]; rfl, below_drewN (((Below.refl _ _).alloc (Nat.le_refl _) _).alloc (by simp) _) nq⟩
      · have HR : Hid (R = false) := by show _ = _; rw [HS.out]; simp [e3]
        have e3' := str_ne e3
        clear HS
        subst e1 e2
        go_enter Try.func19, Try.ntmps19
        go_wp2
        go_ret
        exact ⟨by rw [HR.out]; rfl, ((Below.refl _ _).alloc (Nat.le_refl _) _).alloc (by simp) _⟩
    · have HR : Hid (R = false) := by show _ = _; rw [HS.out]; simp [e2]
      have e2' : (k1 == k2) = false := by rw [beq_eq_false_iff_ne]; exact e2
      clear HS
      subst e1
      go_enter Try.func19, Try.ntmps19
      go_wp2
      go_ret
      exact ⟨by rw [HR.out]; rfl, ((Below.refl _ _).alloc (Nat.le_refl _) _).alloc (by simp) _⟩
  · have HR : Hid (R = false) := by show _ = _; rw [HS.out]; simp [e1]
    have e1' : ((n1 : Int) == (n2 : Int)) = false := by rw [beq_eq_false_iff_ne]; omega
    clear HS
    go_enter Try.func19, Try.ntmps19
    go_wp2
    go_ret
    exact ⟨by rw [HR.out]; rfl, ((Below.refl _ _).alloc (Nat.le_refl _) _).alloc (by simp) _⟩

end Go.Proofs.Ytkknglcckjhngaa

namespace Go.Proofs.Ytkknglcckjhngaa
open Go.RowKit Go.Sort
set_option linter.unusedVariables false



/-- 'string([]byte{byte(k)}) + h'. -/
def kindS (k : Int) (h : ByteArray) : ByteArray := ⟨#[UInt8.ofNat (k % 256).toNat]⟩ ++ h

theorem one_byteI {P : Program} (w : World) (k : Int) (src dst el : TypeId) (hs : P.underlying src = some (.slice el)) (he : P.underlying el = some (.int .u8)) (hd : P.underlying dst = some .string) :
    (convert src dst (.slice (some ⟨w.heap.size, 0, none⟩) 1 1)).run P (w.alloc (.cells #[.int .u8 (k % 256)] el)) = .ok (.string ⟨#[UInt8.ofNat (k % 256).toNat]⟩) (w.alloc (.cells #[.int .u8 (k % 256)] el)) := by
  refine RowU.toString (N := 1) (f := fun _ => k % 256) (fun j hj => ?_) [UInt8.ofNat (k % 256).toNat] rfl (fun j hj => ?_) src dst el hs he hd
  · obtain rfl : j = 0 := by omega
    exact ⟨by simp, by simp⟩
  · obtain rfl : j = 0 := by simpa using hj
    simp; omega

set_option maxHeartbeats 400000 in
theorem kind_any (k : Int) (h : ByteArray) (w : World) (hh : h.size ≤ 140737488351232) :
    Calls Try.prog 44 #[.int .i64 k, .string h] w fun e w' => e = .returned (.string (kindS k h)) ∧ Below w.heap.size w w' := by
  have hcv := one_byteI (P := Try.prog) w k 61 9 5 Try.underlying61 Try.underlying5 Try.underlying9
  have hl1 : (ByteArray.mk #[UInt8.ofNat (k % 256).toNat]).size = 1 := rfl
  go_enter Try.func44, Try.ntmps44
  go_wp2
  go_ret
  exact ⟨rfl, (Below.refl _ _).alloc (Nat.le_refl _) _⟩





end Go.Proofs.Ytkknglcckjhngaa

namespace Go.Proofs.Ytkknglcckjhngaa
open Go.RowKit Go.Sort
set_option linter.unusedVariables false



end Go.Proofs.Ytkknglcckjhngaa

namespace Go.Proofs.Ytkknglcckjhngaa
open Go.RowKit Go.Sort
set_option linter.unusedVariables false

theorem sheet0_val (a : Option Addr) (c : Nat) : sheet0.val a c = .agg #[.int .u32 0, .int .u64 0, .int .i64 0, .string ⟨#[]⟩, .slice a 0 c] := rfl



/-- The bytes of Encode. -/
def encS (p : SheetV) : ByteArray := if encE p = 0 then ⟨(encL p).toArray⟩ else ⟨#[]⟩

theorem encE_fits {p : SheetV} {w : World} {a : Option Addr} (h : p.Ok w a) : encE p = 0 ↔ p.Fits := by
  unfold encE
  constructor
  · intro e
    split at e
    · cases e
    · split at e
      · cases e
      · rename_i h1 h2
        exact ⟨h.num, h.lsn, by omega, by omega, by omega, by omega, by omega⟩
  · intro f
    have := f.kind0; have := f.kind1; have := f.head; have := f.len; have := f.fits
    rw [if_neg (by omega), if_neg (by omega)]



/-- The page of awake. -/
def sheetA : SheetV := ⟨3, 0, 2, ⟨#[]⟩, [⟨#[97]⟩]⟩

theorem sheetA_fits : sheetA.Fits := ⟨by decide, by decide, by decide, by decide, by decide, by decide, by decide⟩



end Go.Proofs.Ytkknglcckjhngaa

namespace Go.Proofs.Ytkknglcckjhngaa
open Go.RowKit Go.Sort
set_option linter.unusedVariables false

/-- A change as plain data. -/
structure OpV where
  kind : Int
  at' : Int
  S : ByteArray
  old : ByteArray

def OpV.val (o : OpV) : Value := .agg #[.int .i64 o.kind, .int .i64 o.at', .string o.S, .string o.old]

structure OpV.Ok (o : OpV) : Prop where
  kind : -9223372036854775808 ≤ o.kind ∧ o.kind ≤ 9223372036854775807
  at' : -9223372036854775808 ≤ o.at' ∧ o.at' ≤ 9223372036854775807
  S : o.S.size ≤ 140737488351232
  old : o.old.size ≤ 140737488351232

set_option maxHeartbeats 400000 in
theorem within_yes (n lo hi : Int) (w : World) (h : lo ≤ n ∧ n ≤ hi) :
    Calls Try.prog 38 #[.int .i64 n, .int .i64 lo, .int .i64 hi] w fun e w' => e = .returned (.bool true) ∧ w' = w := by
  obtain ⟨h1, h2⟩ := h
  go_enter Try.func38, Try.ntmps38
  go_wp2
  go_ret
  exact ⟨rfl, rfl⟩

set_option maxHeartbeats 400000 in
theorem within_no (n lo hi : Int) (w : World) (h : ¬ (lo ≤ n ∧ n ≤ hi)) :
    Calls Try.prog 38 #[.int .i64 n, .int .i64 lo, .int .i64 hi] w fun e w' => e = .returned (.bool false) ∧ w' = w := by
  by_cases h1 : lo ≤ n
  · have h2 : ¬ n ≤ hi := fun q => h ⟨h1, q⟩
    go_enter Try.func38, Try.ntmps38
    go_wp2
    go_ret
    exact ⟨rfl, rfl⟩
  · go_enter Try.func38, Try.ntmps38
    go_wp2
    go_ret
    exact ⟨rfl, rfl⟩

/-- Is a change as its kind asks for? -/
def mayP (o : OpV) : Prop :=
  if o.kind = 1 then (0 ≤ o.at' ∧ o.at' ≤ 255) ∧ o.S.size ≤ 32 ∧ o.old.size = 0 else
  if o.kind = 2 then (0 ≤ o.at' ∧ o.at' ≤ 63) ∧ o.old.size = 0 else
  if o.kind = 3 then (0 ≤ o.at' ∧ o.at' ≤ 63) ∧ o.S.size = 0 else
  if o.kind = 4 then (0 ≤ o.at' ∧ o.at' ≤ 63) else
  if o.kind = 5 then o.at' = 0 ∧ o.S.size ≤ 32 ∧ o.old.size ≤ 32 else
  if o.kind = 6 then (0 ≤ o.at' ∧ o.at' ≤ 511) ∧ o.S.size = o.old.size ∧ 0 < o.S.size else
  if o.kind = 7 then o.at' = 0 ∧ (1 ≤ o.S.size ∧ o.S.size ≤ 33) ∧ (1 ≤ o.old.size ∧ o.old.size ≤ 33) else False

def mayB (o : OpV) : Bool :=
  if o.kind = 1 then decide ((0 ≤ o.at' ∧ o.at' ≤ 255)) && decide (o.S.size ≤ 32) && decide (o.old.size = 0) else
  if o.kind = 2 then decide ((0 ≤ o.at' ∧ o.at' ≤ 63)) && decide (o.old.size = 0) else
  if o.kind = 3 then decide ((0 ≤ o.at' ∧ o.at' ≤ 63)) && decide (o.S.size = 0) else
  if o.kind = 4 then decide ((0 ≤ o.at' ∧ o.at' ≤ 63)) else
  if o.kind = 5 then decide (o.at' = 0) && decide (o.S.size ≤ 32) && decide (o.old.size ≤ 32) else
  if o.kind = 6 then decide ((0 ≤ o.at' ∧ o.at' ≤ 511)) && decide (o.S.size = o.old.size) && decide (0 < o.S.size) else
  if o.kind = 7 then decide (o.at' = 0) && decide ((1 ≤ o.S.size ∧ o.S.size ≤ 33)) && decide ((1 ≤ o.old.size ∧ o.old.size ≤ 33)) else false

theorem mayB_iff (o : OpV) : mayB o = true ↔ mayP o := by
  unfold mayB mayP
  by_cases k1 : o.kind = 1
  · simp only [k1, if_true]; simp [and_assoc]
  by_cases k2 : o.kind = 2
  · simp [k2]
  by_cases k3 : o.kind = 3
  · simp [k3]
  by_cases k4 : o.kind = 4
  · simp [k4]
  by_cases k5 : o.kind = 5
  · simp [k5, and_assoc]
  by_cases k6 : o.kind = 6
  · simp [k6, and_assoc]
  by_cases k7 : o.kind = 7
  · simp [k7, and_assoc]
  simp [k1, k2, k3, k4, k5, k6, k7]

set_option maxHeartbeats 1600000 in
theorem mayBe_any (o : OpV) (w : World) (h : o.Ok) :
    Calls Try.prog 30 #[o.val] w fun e w' => e = .returned (.bool (mayB o)) ∧ Below w.heap.size w w' := by
  have hS := h.S
  have hT := h.old
  have HM : Hid (mayB o = mayB o) := rfl
  obtain ⟨R, HR⟩ : ∃ R, Hid (mayB o = R) := ⟨_, rfl⟩
  rw [HR.out]
  have HR2 := HR.out
  unfold mayB at HR2
  obtain ⟨K, A, S, T⟩ := o
  simp only [OpV.val] at *
  by_cases k1 : K = 1
  · subst k1
    have HX : Hid (R = (decide ((0 ≤ A ∧ A ≤ 255)) && decide (S.size ≤ 32) && decide (T.size = 0))) := by show _ = _; rw [← HR2]; simp
    clear HR HR2 HM
    by_cases c0 : (0 ≤ A ∧ A ≤ 255)
    all_goals by_cases c1 : S.size ≤ 32
    all_goals by_cases c2 : T.size = 0
    all_goals
      have HV : Hid (R = decide (((0 ≤ A ∧ A ≤ 255)) ∧ (S.size ≤ 32) ∧ (T.size = 0))) := by show _ = _; rw [HX.out]; simp [Bool.and_assoc]
      clear HX
      go_enter Try.func30, Try.ntmps30
      go_wp2_with fail
      go_quiet (fail)
      go_wp2_with (first | (go_at_call 38; refine (within_yes _ _ _ _ (by omega)).mono ?_; rintro e w1 ⟨rfl, rfl⟩) | (go_at_call 38; refine (within_no _ _ _ _ (by omega)).mono ?_; rintro e w1 ⟨rfl, rfl⟩))
      go_ret
      refine ⟨?_, below_drewN ((Below.refl _ _).alloc (Nat.le_refl _) _) nq⟩
      rw [HV.out]
      first | rfl | (simp_all; done) | (simp_all; omega)
  by_cases k2 : K = 2
  · subst k2
    have HX : Hid (R = (decide ((0 ≤ A ∧ A ≤ 63)) && decide (T.size = 0))) := by show _ = _; rw [← HR2]; simp
    clear HR HR2 HM
    by_cases c0 : (0 ≤ A ∧ A ≤ 63)
    all_goals by_cases c1 : T.size = 0
    all_goals
      have HV : Hid (R = decide (((0 ≤ A ∧ A ≤ 63)) ∧ (T.size = 0))) := by show _ = _; rw [HX.out]; simp [Bool.and_assoc]
      clear HX
      go_enter Try.func30, Try.ntmps30
      go_wp2_with fail
      go_quiet (fail)
      go_wp2_with (first | (go_at_call 38; refine (within_yes _ _ _ _ (by omega)).mono ?_; rintro e w1 ⟨rfl, rfl⟩) | (go_at_call 38; refine (within_no _ _ _ _ (by omega)).mono ?_; rintro e w1 ⟨rfl, rfl⟩))
      go_ret
      refine ⟨?_, below_drewN ((Below.refl _ _).alloc (Nat.le_refl _) _) nq⟩
      rw [HV.out]
      first | rfl | (simp_all; done) | (simp_all; omega)
  by_cases k3 : K = 3
  · subst k3
    have HX : Hid (R = (decide ((0 ≤ A ∧ A ≤ 63)) && decide (S.size = 0))) := by show _ = _; rw [← HR2]; simp
    clear HR HR2 HM
    by_cases c0 : (0 ≤ A ∧ A ≤ 63)
    all_goals by_cases c1 : S.size = 0
    all_goals
      have HV : Hid (R = decide (((0 ≤ A ∧ A ≤ 63)) ∧ (S.size = 0))) := by show _ = _; rw [HX.out]; simp [Bool.and_assoc]
      clear HX
      go_enter Try.func30, Try.ntmps30
      go_wp2_with fail
      go_quiet (fail)
      go_wp2_with (first | (go_at_call 38; refine (within_yes _ _ _ _ (by omega)).mono ?_; rintro e w1 ⟨rfl, rfl⟩) | (go_at_call 38; refine (within_no _ _ _ _ (by omega)).mono ?_; rintro e w1 ⟨rfl, rfl⟩))
      go_ret
      refine ⟨?_, below_drewN ((Below.refl _ _).alloc (Nat.le_refl _) _) nq⟩
      rw [HV.out]
      first | rfl | (simp_all; done) | (simp_all; omega)
  by_cases k4 : K = 4
  · subst k4
    have HX : Hid (R = (decide ((0 ≤ A ∧ A ≤ 63)))) := by show _ = _; rw [← HR2]; simp
    clear HR HR2 HM
    by_cases c0 : (0 ≤ A ∧ A ≤ 63)
    all_goals
      have HV : Hid (R = decide (((0 ≤ A ∧ A ≤ 63)))) := by show _ = _; rw [HX.out]
      clear HX
      go_enter Try.func30, Try.ntmps30
      go_wp2_with fail
      go_quiet (fail)
      go_wp2_with (first | (go_at_call 38; refine (within_yes _ _ _ _ (by omega)).mono ?_; rintro e w1 ⟨rfl, rfl⟩) | (go_at_call 38; refine (within_no _ _ _ _ (by omega)).mono ?_; rintro e w1 ⟨rfl, rfl⟩))
      go_ret
      refine ⟨?_, below_drewN ((Below.refl _ _).alloc (Nat.le_refl _) _) nq⟩
      rw [HV.out]
      first | rfl | (simp_all; done) | (simp_all; omega)
  by_cases k5 : K = 5
  · subst k5
    have HX : Hid (R = (decide (A = 0) && decide (S.size ≤ 32) && decide (T.size ≤ 32))) := by show _ = _; rw [← HR2]; simp
    clear HR HR2 HM
    by_cases c0 : A = 0
    all_goals by_cases c1 : S.size ≤ 32
    all_goals by_cases c2 : T.size ≤ 32
    all_goals
      have HV : Hid (R = decide ((A = 0) ∧ (S.size ≤ 32) ∧ (T.size ≤ 32))) := by show _ = _; rw [HX.out]; simp [Bool.and_assoc]
      clear HX
      go_enter Try.func30, Try.ntmps30
      go_wp2_with fail
      go_quiet (fail)
      go_wp2_with (first | (go_at_call 38; refine (within_yes _ _ _ _ (by omega)).mono ?_; rintro e w1 ⟨rfl, rfl⟩) | (go_at_call 38; refine (within_no _ _ _ _ (by omega)).mono ?_; rintro e w1 ⟨rfl, rfl⟩))
      go_ret
      refine ⟨?_, below_drewN ((Below.refl _ _).alloc (Nat.le_refl _) _) nq⟩
      rw [HV.out]
      first | rfl | (simp_all; done) | (simp_all; omega)
  by_cases k6 : K = 6
  · subst k6
    have HX : Hid (R = (decide ((0 ≤ A ∧ A ≤ 511)) && decide (S.size = T.size) && decide (0 < S.size))) := by show _ = _; rw [← HR2]; simp
    clear HR HR2 HM
    by_cases c0 : (0 ≤ A ∧ A ≤ 511)
    all_goals by_cases c1 : S.size = T.size
    all_goals by_cases c2 : 0 < S.size
    all_goals
      have HV : Hid (R = decide (((0 ≤ A ∧ A ≤ 511)) ∧ (S.size = T.size) ∧ (0 < S.size))) := by show _ = _; rw [HX.out]; simp [Bool.and_assoc]
      clear HX
      go_enter Try.func30, Try.ntmps30
      go_wp2_with fail
      go_quiet (fail)
      go_wp2_with (first | (go_at_call 38; refine (within_yes _ _ _ _ (by omega)).mono ?_; rintro e w1 ⟨rfl, rfl⟩) | (go_at_call 38; refine (within_no _ _ _ _ (by omega)).mono ?_; rintro e w1 ⟨rfl, rfl⟩))
      go_ret
      refine ⟨?_, below_drewN ((Below.refl _ _).alloc (Nat.le_refl _) _) nq⟩
      rw [HV.out]
      first | rfl | (simp_all; done) | (simp_all; omega)
  by_cases k7 : K = 7
  · subst k7
    have HX : Hid (R = (decide (A = 0) && decide ((1 ≤ S.size ∧ S.size ≤ 33)) && decide ((1 ≤ T.size ∧ T.size ≤ 33)))) := by show _ = _; rw [← HR2]; simp
    clear HR HR2 HM
    by_cases c0 : A = 0
    all_goals by_cases c1 : (1 ≤ S.size ∧ S.size ≤ 33)
    all_goals by_cases c2 : (1 ≤ T.size ∧ T.size ≤ 33)
    all_goals
      have HV : Hid (R = decide ((A = 0) ∧ ((1 ≤ S.size ∧ S.size ≤ 33)) ∧ ((1 ≤ T.size ∧ T.size ≤ 33)))) := by show _ = _; rw [HX.out]; simp [Bool.and_assoc]
      clear HX
      go_enter Try.func30, Try.ntmps30
      go_wp2_with fail
      go_quiet (fail)
      go_wp2_with (first | (go_at_call 38; refine (within_yes _ _ _ _ (by omega)).mono ?_; rintro e w1 ⟨rfl, rfl⟩) | (go_at_call 38; refine (within_no _ _ _ _ (by omega)).mono ?_; rintro e w1 ⟨rfl, rfl⟩))
      go_ret
      refine ⟨?_, below_drewN ((Below.refl _ _).alloc (Nat.le_refl _) _) nq⟩
      rw [HV.out]
      first | rfl | (simp_all; done) | (simp_all; omega)
  have HX : Hid (R = false) := by show _ = _; rw [← HR2]; simp [k1, k2, k3, k4, k5, k6, k7]
  have HV := HX.out
  clear HR HR2 HM HX
  have j1 : (K == 1) = false := by rw [beq_eq_false_iff_ne]; exact k1
  have j2 : (K == 2) = false := by rw [beq_eq_false_iff_ne]; exact k2
  have j3 : (K == 3) = false := by rw [beq_eq_false_iff_ne]; exact k3
  have j4 : (K == 4) = false := by rw [beq_eq_false_iff_ne]; exact k4
  have j5 : (K == 5) = false := by rw [beq_eq_false_iff_ne]; exact k5
  have j6 : (K == 6) = false := by rw [beq_eq_false_iff_ne]; exact k6
  have j7 : (K == 7) = false := by rw [beq_eq_false_iff_ne]; exact k7
  go_enter Try.func30, Try.ntmps30
  go_wp2_with fail
  go_quiet (fail)
  go_wp2
  go_ret
  exact ⟨by rw [HV]; rfl, below_drewN ((Below.refl _ _).alloc (Nat.le_refl _) _) nq⟩

/-- The error of Check. -/
def chkB (o : OpV) : Bool := decide (o.S.size ≤ 512) && decide (o.old.size ≤ 512) && mayB o
def chkE (o : OpV) : Int := if chkB o = true then 0 else 33

set_option maxHeartbeats 800000 in
set_option maxRecDepth 8000 in
theorem check_any (o : OpV) (w : World) (h : o.Ok) :
    Calls Try.prog 24 #[o.val] w fun e w' => e = .returned (.int .i64 (chkE o)) ∧ Below w.heap.size w w' := by
  have hS := h.S
  have hT := h.old
  have HMB : Hid (∀ wx, Calls Try.prog 30 #[o.val] wx fun e w' => e = .returned (.bool (mayB o)) ∧ Below wx.heap.size wx w') := fun wx => mayBe_any o wx h
  have HE : Hid (chkE o = if (decide (o.S.size ≤ 512) && decide (o.old.size ≤ 512) && mayB o) = true then 0 else 33) := rfl
  generalize chkE o = E at *
  generalize mayB o = R at *
  clear h
  obtain ⟨K, A, S, T⟩ := o
  simp only [OpV.val] at *
  by_cases c0 : S.size ≤ 512
  · by_cases c1 : T.size ≤ 512
    · cases R
      · have HV : Hid (E = 33) := by show _ = _; rw [HE.out]; simp
        clear HE
        go_enter Try.func24, Try.ntmps24
        go_wp2_with fail
        refine (HMB.out _).mono ?_
        rintro e w1 ⟨rfl, b1⟩
        go_wp2
        go_ret
        exact ⟨by rw [HV.out]; rfl, below_chain ((Below.refl _ _).alloc (Nat.le_refl _) _) b1⟩
      · have HV : Hid (E = 0) := by show _ = _; rw [HE.out]; simp [c0, c1]
        clear HE
        go_enter Try.func24, Try.ntmps24
        go_wp2_with fail
        refine (HMB.out _).mono ?_
        rintro e w1 ⟨rfl, b1⟩
        go_wp2
        go_ret
        exact ⟨by rw [HV.out]; rfl, below_chain ((Below.refl _ _).alloc (Nat.le_refl _) _) b1⟩
    · have HV : Hid (E = 33) := by show _ = _; rw [HE.out]; simp [c1]
      clear HE
      go_enter Try.func24, Try.ntmps24
      go_wp2
      go_ret
      exact ⟨by rw [HV.out]; rfl, (Below.refl _ _).alloc (Nat.le_refl _) _⟩
  · have HV : Hid (E = 33) := by show _ = _; rw [HE.out]; simp [c0]
    clear HE
    go_enter Try.func24, Try.ntmps24
    go_wp2
    go_ret
    exact ⟨by rw [HV.out]; rfl, (Below.refl _ _).alloc (Nat.le_refl _) _⟩

end Go.Proofs.Ytkknglcckjhngaa

namespace Go.Proofs.Ytkknglcckjhngaa
open Go.RowKit Go.Sort
set_option linter.unusedVariables false

set_option maxHeartbeats 1600000 in
theorem copyOf_any (p : SheetV) (a : Option Addr) (c : Nat) (w : World) (h : p.Ok w a) :
    Calls Try.prog 25 #[p.val a c] w fun e w' => ∃ b, e = .returned (p.val (some ⟨b, 0, none⟩) p.slots.length) ∧ w.heap.size < b ∧ b < w'.heap.size ∧ RowV w' b p.slots.length (fun j => .string (p.slots.getD j ByteArray.empty)) ∧ Below w.heap.size w w' := by
  have hm := h.mem
  have hl := h.len
  have hh := h.head
  have hs := h.slots
  clear h
  obtain ⟨num, lsn, kind, head, L⟩ := p
  simp only [SheetV.val] at *
  have hmk := run_make_row' (P := Try.prog) 27 9 (.string ⟨#[]⟩) 16 Try.underlying27 infoStr rfl .i64 .i64 L.length (by omega) (by omega)
  go_enter Try.func25, Try.ntmps25
  go_wp2_with fail
  obtain ⟨W, HW⟩ : ∃ W, Hid (W = ((w.alloc (.cells #[.int .u32 num, .int .u64 lsn, .int .i64 kind, .string head, .slice a L.length c] 29)).alloc (.cells #[.int .u32 0, .int .u64 0, .int .i64 0, .string ⟨#[]⟩, .slice none 0 0] 29)).alloc (.cells (madeCells #[.string ⟨#[]⟩] L.length) 9)) := ⟨_, rfl⟩
  have r0 : RowV W w.heap.size 5 (five (.int .u32 num) (.int .u64 lsn) (.int .i64 kind) (.string head) (.slice a L.length c)) := by
    rw [HW.out]
    exact ((RowV.five_new w _ _ _ _ _ _).below ((Below.refl _ _).alloc (Nat.le_refl _) _) (by simp)).below ((Below.refl _ _).alloc (Nat.le_refl _) _) (by simp; omega)
  have r1 : RowV W (w.heap.size + 1) 5 (five (.int .u32 0) (.int .u64 0) (.int .i64 0) (.string ⟨#[]⟩) (.slice none 0 0)) := by
    rw [HW.out]
    have := (RowV.five_new (w.alloc (.cells #[.int .u32 num, .int .u64 lsn, .int .i64 kind, .string head, .slice a L.length c] 29)) (.int .u32 0) (.int .u64 0) (.int .i64 0) (.string ⟨#[]⟩) (.slice none 0 0) 29).below (((Below.refl _ _).alloc (Nat.le_refl _) (.cells (madeCells #[.string ⟨#[]⟩] L.length) 9))) (by simp)
    simpa using this
  have r2 : RowV W (w.heap.size + 2) L.length (fun _ => .string ⟨#[]⟩) := by
    rw [HW.out]
    have := RowV.made ((w.alloc (.cells #[.int .u32 num, .int .u64 lsn, .int .i64 kind, .string head, .slice a L.length c] 29)).alloc (.cells #[.int .u32 0, .int .u64 0, .int .i64 0, .string ⟨#[]⟩, .slice none 0 0] 29)) L.length (.string ⟨#[]⟩) rfl 9
    simpa using this
  have bel : Below w.heap.size w W := by rw [HW.out]; exact (((Below.refl _ _).alloc (Nat.le_refl _) _).alloc (by simp) _).alloc (by simp; omega) _
  have hz : w.heap.size + 3 ≤ W.heap.size := by rw [HW.out]; simp
  rw [← HW.out]
  clear HW
  go_loopw [13] (fun i wr => ∃ k : Nat, k ≤ L.length ∧ i = .int .i64 k ∧ RowV wr (w.heap.size + 2) L.length (fun j => if j < k then .string (L.getD j ByteArray.empty) else .string ⟨#[]⟩) ∧ RowV wr w.heap.size 5 (five (.int .u32 num) (.int .u64 lsn) (.int .i64 kind) (.string head) (.slice a L.length c)) ∧ RowV wr (w.heap.size + 1) 5 (five (.int .u32 0) (.int .u64 0) (.int .i64 0) (.string ⟨#[]⟩) (.slice none 0 0)) ∧ Below w.heap.size w wr ∧ w.heap.size + 3 ≤ wr.heap.size) (fun i _ => L.length - (intOf i).toNat)
  case atStart => exact ⟨0, by omega, rfl, r2.congr (fun j _ => by simp), r0, r1, bel, hz⟩
  case round =>
    clear r0 r1 r2 bel hz
    obtain ⟨k, hk, rfl, hrow, hb0, hb1, hbel, hz⟩ := hrel
    by_cases hlt : k < L.length
    · obtain ⟨bs, o, rfl, hck⟩ := hm.reach hbel hlt
      have hsz := hs L[k] (List.getElem_mem _)
      have hgd : Hid (L.getD k ByteArray.empty = L[k]) := by show _ = _; rw [List.getD_eq_getElem?_getD, List.getElem?_eq_getElem hlt]; rfl
      obtain ⟨s, hse⟩ : ∃ s, L[k] = s := ⟨_, rfl⟩
      rw [hse] at hck hsz hgd
      clear hse
      obtain ⟨x0, x1, x2, x3, x4⟩ := hb0.cells5
      go_wp2_with fail
      refine (clone_any s _ (by omega)).mono ?_
      rintro e w2 ⟨rfl, b2⟩
      have hrow2 := hrow.below b2 (by omega)
      have q1 := (hrow2 k hlt).1
      have q2 := (hrow2 k hlt).2
      go_wp2
      go_roundw
      case rel =>
        refine ⟨k + 1, by omega, by go_num, (hrow2.set hlt _).congr (fun j hj => ?_), (hb0.below b2 (by omega)).set_other (by omega) _, (hb1.below b2 (by omega)).set_other (by omega) _, (below_chain hbel b2).setCell (p := ⟨w.heap.size + 2, k, none⟩) (by show w.heap.size ≤ w.heap.size + 2; omega) _, by have := b2.size; simp; omega⟩
        by_cases e : j = k
        · subst e; rw [if_pos rfl, if_pos (by omega), hgd.out]
        · rw [if_neg e]; by_cases h : j < k
          · rw [if_pos h, if_pos (by omega)]
          · rw [if_neg h, if_neg (by omega)]
      case measure => simp [intOf]; omega
    · obtain rfl : k = L.length := by omega
      have hrow' : RowV wr (w.heap.size + 2) L.length (fun j => .string (L.getD j ByteArray.empty)) := hrow.congr (fun j hj => by rw [if_pos hj])
      clear hrow
      obtain ⟨x0, x1, x2, x3, x4⟩ := hb0.cells5
      go_wp2_with fail
      refine (clone_any head _ (by omega)).mono ?_
      rintro e w2 ⟨rfl, b2⟩
      have s0 := hb0.below b2 (by omega)
      have s1 := hb1.below b2 (by omega)
      have s2 := hrow'.below b2 (by omega)
      have sb := below_chain hbel b2
      have sz := Nat.le_trans hz b2.size
      clear hb0 hb1 hrow' hbel hz x0 x1 x2 x3 x4 b2
      obtain ⟨x0, x1, x2, x3, x4⟩ := s0.cells5
      obtain ⟨f0, f1, f2, f3, f4⟩ := s0.open5
      obtain ⟨y0, y1, y2, y3, y4⟩ := s1.cells5
      obtain ⟨g0, g1, g2, g3, g4⟩ := s1.open5
      go_wp2
      have hq := ((s1.set_other (b' := w.heap.size) (k := 3) (by omega) (.string head)).set_other (b' := w.heap.size) (k := 4) (by omega) (.slice (some ⟨w.heap.size + 2, 0, none⟩) L.length L.length)).set5 (.int .u32 num) (.int .u64 lsn) (.int .i64 kind) (.string head) (.slice (some ⟨w.heap.size + 2, 0, none⟩) L.length L.length)
      have hr := (((s2.set_other (b' := w.heap.size) (k := 3) (by omega) (.string head)).set_other (b' := w.heap.size) (k := 4) (by omega) (.slice (some ⟨w.heap.size + 2, 0, none⟩) L.length L.length))).set5_other (b := w.heap.size + 1) (by omega) (.int .u32 num) (.int .u64 lsn) (.int .i64 kind) (.string head) (.slice (some ⟨w.heap.size + 2, 0, none⟩) L.length L.length)
      have bq := below_set5 ((sb.setCell (p := ⟨w.heap.size, 3, none⟩) (Nat.le_refl _) (.string head)).setCell (p := ⟨w.heap.size, 4, none⟩) (Nat.le_refl _) (.slice (some ⟨w.heap.size + 2, 0, none⟩) L.length L.length)) (b := w.heap.size + 1) (by omega) (.int .u32 num) (.int .u64 lsn) (.int .i64 kind) (.string head) (.slice (some ⟨w.heap.size + 2, 0, none⟩) L.length L.length)
      obtain ⟨WX, HWX⟩ : ∃ WX, Hid (WX = store5 ((w2.setCell ⟨w.heap.size, 3, none⟩ (.string head)).setCell ⟨w.heap.size, 4, none⟩ (.slice (some ⟨w.heap.size + 2, 0, none⟩) L.length L.length)) (w.heap.size + 1) (.int .u32 num) (.int .u64 lsn) (.int .i64 kind) (.string head) (.slice (some ⟨w.heap.size + 2, 0, none⟩) L.length L.length)) := ⟨_, rfl⟩
      have hzX : w.heap.size + 3 ≤ WX.heap.size := by rw [HWX.out, store5_size]; simpa using sz
      rw [← HWX.out] at hq hr bq
      obtain ⟨r0, r1, r2, r3, r4⟩ := hq.cells5
      rw [show (((((((w2.setCell ⟨w.heap.size, 3, none⟩ (.string head)).setCell ⟨w.heap.size, 4, none⟩ (.slice (some ⟨w.heap.size + 2, 0, none⟩) L.length L.length)).setCell ⟨w.heap.size + 1, 0, none⟩ (.int .u32 num)).setCell ⟨w.heap.size + 1, 1, none⟩ (.int .u64 lsn)).setCell ⟨w.heap.size + 1, 2, none⟩ (.int .i64 kind)).setCell ⟨w.heap.size + 1, 3, none⟩ (.string head)).setCell ⟨w.heap.size + 1, 4, none⟩ (.slice (some ⟨w.heap.size + 2, 0, none⟩) L.length L.length)) = WX from HWX.out.symm]
      refine bodyPost_ret (v := .agg #[.int .u32 num, .int .u64 lsn, .int .i64 kind, .string head, .slice (some ⟨w.heap.size + 2, 0, none⟩) L.length L.length]) (by simp [results, Try.results25, go_sem, r0, r1, r2, r3, r4]) rfl ?_
      exact ⟨w.heap.size + 2, rfl, by omega, by omega, hr, bq⟩

end Go.Proofs.Ytkknglcckjhngaa

namespace Go.Proofs.Ytkknglcckjhngaa
open Go.RowKit Go.Sort
set_option linter.unusedVariables false

/-- Four values, by their places. -/
def four (v0 v1 v2 v3 : Value) : Nat → Value
  | 0 => v0
  | 1 => v1
  | 2 => v2
  | _ => v3

theorem RowV.four_new (w : World) (v0 v1 v2 v3 : Value) (T : TypeId) : RowV (w.alloc (.cells #[v0, v1, v2, v3] T)) w.heap.size 4 (four v0 v1 v2 v3) := by
  intro j hj
  match j, hj with
  | 0, _ => exact ⟨by simp [four], by simp⟩
  | 1, _ => exact ⟨by simp [four], by simp⟩
  | 2, _ => exact ⟨by simp [four], by simp⟩
  | 3, _ => exact ⟨by simp [four], by simp⟩

theorem RowV.cells4 {w : World} {b : Nat} {v0 v1 v2 v3 : Value} (h : RowV w b 4 (four v0 v1 v2 v3)) :
    w.cell? ⟨b, 0, none⟩ = some v0 ∧ w.cell? ⟨b, 1, none⟩ = some v1 ∧ w.cell? ⟨b, 2, none⟩ = some v2 ∧ w.cell? ⟨b, 3, none⟩ = some v3 :=
  ⟨(h 0 (by omega)).1, (h 1 (by omega)).1, (h 2 (by omega)).1, (h 3 (by omega)).1⟩
theorem RowV.open4 {w : World} {b : Nat} {v0 v1 v2 v3 : Value} (h : RowV w b 4 (four v0 v1 v2 v3)) :
    w.frozen? ⟨b, 0, none⟩ = false ∧ w.frozen? ⟨b, 1, none⟩ = false ∧ w.frozen? ⟨b, 2, none⟩ = false ∧ w.frozen? ⟨b, 3, none⟩ = false :=
  ⟨(h 0 (by omega)).2, (h 1 (by omega)).2, (h 2 (by omega)).2, (h 3 (by omega)).2⟩
theorem RowV.set2_4 {w : World} {b : Nat} {v0 v1 v2 v3 : Value} (h : RowV w b 4 (four v0 v1 v2 v3)) (v : Value) : RowV (w.setCell ⟨b, 2, none⟩ v) b 4 (four v0 v1 v v3) :=
  (h.set (k := 2) (by omega) v).congr fun j hj => by match j, hj with | 0, _ => rfl | 1, _ => rfl | 2, _ => rfl | 3, _ => rfl
theorem RowV.set3_4 {w : World} {b : Nat} {v0 v1 v2 v3 : Value} (h : RowV w b 4 (four v0 v1 v2 v3)) (v : Value) : RowV (w.setCell ⟨b, 3, none⟩ v) b 4 (four v0 v1 v2 v) :=
  (h.set (k := 3) (by omega) v).congr fun j hj => by match j, hj with | 0, _ => rfl | 1, _ => rfl | 2, _ => rfl | 3, _ => rfl
theorem RowV.set0_4 {w : World} {b : Nat} {v0 v1 v2 v3 : Value} (h : RowV w b 4 (four v0 v1 v2 v3)) (v : Value) : RowV (w.setCell ⟨b, 0, none⟩ v) b 4 (four v v1 v2 v3) :=
  (h.set (k := 0) (by omega) v).congr fun j hj => by match j, hj with | 0, _ => rfl | 1, _ => rfl | 2, _ => rfl | 3, _ => rfl
theorem RowV.set1_4 {w : World} {b : Nat} {v0 v1 v2 v3 : Value} (h : RowV w b 4 (four v0 v1 v2 v3)) (v : Value) : RowV (w.setCell ⟨b, 1, none⟩ v) b 4 (four v0 v v2 v3) :=
  (h.set (k := 1) (by omega) v).congr fun j hj => by match j, hj with | 0, _ => rfl | 1, _ => rfl | 2, _ => rfl | 3, _ => rfl

/-- Where copyOfOp stands: its own copy, its result. -/
structure CopyAt (w wx : World) (K A : Int) (S T : ByteArray) : Prop where
  own : RowV wx w.heap.size 4 (four (.int .i64 K) (.int .i64 A) (.string S) (.string T))
  res : RowV wx (w.heap.size + 1) 4 (four (.int .i64 0) (.int .i64 0) (.string ⟨#[]⟩) (.string ⟨#[]⟩))
  bel : Below w.heap.size w wx
  lt : w.heap.size + 2 ≤ wx.heap.size

theorem CopyAt.below {w wx wy : World} {K A : Int} {S T : ByteArray} (h : CopyAt w wx K A S T) (k : Below wx.heap.size wx wy) : CopyAt w wy K A S T :=
  ⟨h.own.below k (by have := h.lt; omega), h.res.below k (by have := h.lt; omega), below_chain h.bel k, Nat.le_trans h.lt k.size⟩

theorem CopyAt.set2 {w wx : World} {K A : Int} {S T : ByteArray} (h : CopyAt w wx K A S T) : CopyAt w (wx.setCell ⟨w.heap.size, 2, none⟩ (.string S)) K A S T :=
  ⟨h.own.set2_4 _, h.res.set_other (by omega) _, h.bel.setCell (p := ⟨w.heap.size, 2, none⟩) (Nat.le_refl _) _, by simpa using h.lt⟩
theorem CopyAt.set3 {w wx : World} {K A : Int} {S T : ByteArray} (h : CopyAt w wx K A S T) : CopyAt w (wx.setCell ⟨w.heap.size, 3, none⟩ (.string T)) K A S T :=
  ⟨h.own.set3_4 _, h.res.set_other (by omega) _, h.bel.setCell (p := ⟨w.heap.size, 3, none⟩) (Nat.le_refl _) _, by simpa using h.lt⟩

set_option maxHeartbeats 1600000 in
theorem copyOfOp_any (o : OpV) (w : World) (h : o.Ok) :
    Calls Try.prog 27 #[o.val] w fun e w' => e = .returned o.val ∧ Below w.heap.size w w' := by
  have hS := h.S
  have hT := h.old
  clear h
  obtain ⟨K, A, S, T⟩ := o
  simp only [OpV.val] at *
  have HC : Hid (∀ wx s, s.size ≤ 140737488351232 → CopyAt w wx K A S T → Calls Try.prog 31 #[.string s] wx fun e w' => e = .returned (.string s) ∧ CopyAt w w' K A S T) :=
    fun wx s hs hp => (clone_any s wx (by omega)).mono fun e w' h => ⟨h.1, hp.below h.2⟩
  go_enter Try.func27, Try.ntmps27
  go_wp2_with fail
  obtain ⟨W, HW⟩ : ∃ W, Hid (W = (w.alloc (.cells #[.int .i64 K, .int .i64 A, .string S, .string T] 41)).alloc (.cells #[.int .i64 0, .int .i64 0, .string ⟨#[]⟩, .string ⟨#[]⟩] 41)) := ⟨_, rfl⟩
  have hp : CopyAt w W K A S T := by
    rw [HW.out]
    refine ⟨(RowV.four_new w _ _ _ _ _).below ((Below.refl _ _).alloc (Nat.le_refl _) _) (by simp), ?_, ((Below.refl _ _).alloc (Nat.le_refl _) _).alloc (by simp) _, by simp⟩
    have := RowV.four_new (w.alloc (.cells #[.int .i64 K, .int .i64 A, .string S, .string T] 41)) (.int .i64 0) (.int .i64 0) (.string ⟨#[]⟩) (.string ⟨#[]⟩) 41
    simpa using this
  rw [← HW.out]
  clear HW
  have hpd : CopyAt w W.drew K A S T := hp.below ((Below.refl _ _).drew)
  obtain ⟨c0, c1, c2, c3⟩ := hp.own.cells4
  clear hp
  go_region_with (first | (go_at_call 31; refine (HC.out _ _ (by omega) (by first | exact hpd | assumption)).mono ?_; rintro e w1 ⟨rfl, hp1⟩; obtain ⟨e0, e1, e2, e3⟩ := hp1.own.cells4; obtain ⟨f0, f1, f2, f3⟩ := hp1.own.open4))
  all_goals
    have hq := hp1.set2.set3
    obtain ⟨W2, HW2⟩ : ∃ W2, Hid (W2 = (w1.setCell ⟨w.heap.size, 2, none⟩ (.string S)).setCell ⟨w.heap.size, 3, none⟩ (.string T)) := ⟨_, rfl⟩
    rw [← HW2.out] at hq ⊢
    clear HW2 hp1 e0 e1 e2 e3 f0 f1 f2 f3 c0 c1 c2 c3 hpd
    obtain ⟨x0, x1, x2, x3⟩ := hq.own.cells4
    obtain ⟨y0, y1, y2, y3⟩ := hq.res.cells4
    obtain ⟨g0, g1, g2, g3⟩ := hq.res.open4
    go_wp2
    have hr := (((hq.res.set0_4 (.int .i64 K)).set1_4 (.int .i64 A)).set2_4 (.string S)).set3_4 (.string T)
    have br := (((hq.bel.setCell (p := ⟨w.heap.size + 1, 0, none⟩) (by show w.heap.size ≤ w.heap.size + 1; omega) (.int .i64 K)).setCell (p := ⟨w.heap.size + 1, 1, none⟩) (by show w.heap.size ≤ w.heap.size + 1; omega) (.int .i64 A)).setCell (p := ⟨w.heap.size + 1, 2, none⟩) (by show w.heap.size ≤ w.heap.size + 1; omega) (.string S)).setCell (p := ⟨w.heap.size + 1, 3, none⟩) (by show w.heap.size ≤ w.heap.size + 1; omega) (.string T)
    obtain ⟨WX, HWX⟩ : ∃ WX, Hid (WX = ((((W2.setCell ⟨w.heap.size + 1, 0, none⟩ (.int .i64 K)).setCell ⟨w.heap.size + 1, 1, none⟩ (.int .i64 A)).setCell ⟨w.heap.size + 1, 2, none⟩ (.string S)).setCell ⟨w.heap.size + 1, 3, none⟩ (.string T))) := ⟨_, rfl⟩
    rw [← HWX.out] at hr br ⊢
    obtain ⟨r0, r1, r2, r3⟩ := hr.cells4
    refine bodyPost_ret (v := .agg #[.int .i64 K, .int .i64 A, .string S, .string T]) (by simp [results, Try.results27, go_sem, r0, r1, r2, r3]) rfl ?_
    exact ⟨rfl, br⟩

end Go.Proofs.Ytkknglcckjhngaa

namespace Go.Proofs.Ytkknglcckjhngaa
open Go.Shelf

def insertLays_ren : Go.Shelf.Ren := ⟨fun | 22 => 41 | 29 => 45 | 30 => 46 | 36 => 47 | 17 => 48 | n => n, fun | 24 => 27 | 9 => 9 | 3 => 3 | 4 => 4 | 0 => 0 | n => n, fun | n => n⟩
theorem insertLays : Go.Proofs.Lays2.n22 Try.prog insertLays_ren := {
  mixed := by kernel_rfl
  f17 := Try.func48.trans (congrArg some (by kernel_rfl))
  f22 := Try.func41.trans (congrArg some (by kernel_rfl))
  f29 := Try.func45.trans (congrArg some (by kernel_rfl))
  f30 := Try.func46.trans (congrArg some (by kernel_rfl))
  f36 := Try.func47.trans (congrArg some (by kernel_rfl))
  t0 := Try.underlying0
  a0 := Try.isAgg0
  z0 := Try.sizeOf0
  v0 := Try.zeroValue0
  t3 := Try.underlying3
  a3 := Try.isAgg3
  z3 := Try.sizeOf3
  v3 := Try.zeroValue3
  t4 := Try.underlying4
  a4 := Try.isAgg4
  z4 := Try.sizeOf4
  v4 := Try.zeroValue4
  t9 := Try.underlying9
  a9 := Try.isAgg9
  z9 := Try.sizeOf9
  v9 := Try.zeroValue9
  t24 := Try.underlying27
  a24 := Try.isAgg27
  z24 := Try.sizeOf27
  v24 := Try.zeroValue27
  i9 := by kernel_rfl }

end Go.Proofs.Ytkknglcckjhngaa
