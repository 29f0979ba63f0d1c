/-
  Plain mathematics: bytes that Decode takes are those of Encode of the page that it finds; where its parts stand.
-/
import Derived.Test.YtbkdedkifbffhaaTornMath
namespace Go.Proofs.Ytbkdedkifbffhaa
open Go.RowKit
set_option linter.unusedVariables false

theorem putL_le (l : List UInt8) (n : Nat) (h : l.length = n) : putL (le l) n = l := by
  subst h
  refine le_inj (putL_length _ _) ?_
  rw [le_putL, Nat.mod_eq_of_lt (le_lt l)]

theorem part_add (s : ByteArray) (a m n : Nat) : part s a (m + n) = part s a m ++ part s (a + m) n := by
  unfold part
  rw [List.take_add, List.drop_drop]

theorem slotAt_size {s : ByteArray} {q n j : Nat} (h : offAt s q n j + longAt s q j ≤ s.size) : (slotAt s q n j).size = longAt s q j := by
  unfold slotAt; rw [bytes_size, part_length h]

section
variable {s : ByteArray} {q n : Nat}

theorem slotsAt_take (k : Nat) (hk : k < n) : (slotsAt s q n).take (k + 1) = (slotsAt s q n).take k ++ [slotAt s q n k] := by
  rw [List.take_succ_eq_append_getElem (by rw [slotsAt_length]; exact hk)]
  simp [slotsAt]

theorem lens_back (hq : q + 2 * n ≤ s.size) (hf : offAt s q n n ≤ s.size) (k : Nat) (hk : k ≤ n) : slotLens ((slotsAt s q n).take k) = part s q (2 * k) := by
  induction k with
  | zero => simp [slotLens, part]
  | succ k ih =>
    have h1 := offAt_mono s q n (show k + 1 ≤ n from hk)
    have h2 : offAt s q n (k + 1) = offAt s q n k + longAt s q k := rfl
    rw [slotsAt_take k (by omega), slotLens_append, ih (by omega), show 2 * (k + 1) = 2 * k + 2 from by omega, part_add]
    congr 1
    simp only [slotLens, List.append_nil]
    rw [slotAt_size (by omega)]
    exact putL_le _ 2 (part_length (by omega))

theorem bytes_back (hf : offAt s q n n ≤ s.size) (k : Nat) (hk : k ≤ n) : slotBytes ((slotsAt s q n).take k) = part s (q + 2 * n) (offAt s q n k - (q + 2 * n)) := by
  induction k with
  | zero => simp [slotBytes, part, offAt]
  | succ k ih =>
    have h0 : offAt s q n 0 = q + 2 * n := rfl
    have h1 := offAt_mono s q n (show 0 ≤ k by omega)
    have h2 : offAt s q n (k + 1) = offAt s q n k + longAt s q k := rfl
    rw [slotsAt_take k (by omega), slotBytes_append, ih (by omega), h2, show offAt s q n k + longAt s q k - (q + 2 * n) = (offAt s q n k - (q + 2 * n)) + longAt s q k from by omega, part_add]
    congr 1
    rw [show q + 2 * n + (offAt s q n k - (q + 2 * n)) = offAt s q n k from by omega]
    simp [slotBytes, slotAt]

theorem sum_back (hf : offAt s q n n ≤ s.size) (hq : q + 2 * n ≤ s.size) : q + slotSum (slotsAt s q n) = offAt s q n n := by
  have h1 := lens_back hq hf n (Nat.le_refl _)
  have h2 := bytes_back hf n (Nat.le_refl _)
  have h0 : offAt s q n 0 = q + 2 * n := rfl
  have h3 := offAt_mono s q n (show 0 ≤ n by omega)
  rw [List.take_of_length_le (by rw [slotsAt_length]; exact Nat.le_refl _)] at h1 h2
  have h4 := slot_lengths (slotsAt s q n)
  rw [h1, h2, part_length (by omega), part_length (by omega)] at h4
  omega
end

theorem parsed_fits {s : ByteArray} (hs : s.size = 500) (h : parseOk s) : (parsed s).Fits ∧ midL (parsed s) = s.data.toList := by
  obtain ⟨⟨h1, h2, h3⟩, hz⟩ := h
  have hq : 15 + pHn s + 2 * pN s ≤ s.size := by omega
  have hf : offAt s (15 + pHn s) (pN s) (pN s) ≤ s.size := by rw [hs]; exact h3
  have hsum := sum_back hf hq
  have hpo : pOff s = offAt s (15 + pHn s) (pN s) (pN s) := rfl
  have hhs : (parsed s).head.size = pHn s := by
    show (ByteArray.mk (part s 14 (pHn s)).toArray).size = _
    rw [bytes_size, part_length (by omega)]
  have hss : slotSum (parsed s).slots = slotSum (slotsAt s (15 + pHn s) (pN s)) := rfl
  have F : (parsed s).Fits := by
    refine ⟨?_, ?_, ?_, ?_, by omega, by show (slotsAt s _ _).length ≤ 64; rw [slotsAt_length]; exact h2, by omega⟩
    · exact le_lt_of (l := part s 8 4) (n := 4) (by rw [part_length (by omega)]; omega)
    · exact le_lt_of (l := part s 0 8) (n := 8) (by rw [part_length (by omega)]; omega)
    · show (0 : Int) ≤ ((le (part s 12 1) : Nat) : Int); omega
    · have := le_lt_of (l := part s 12 1) (n := 1) (by rw [part_length (by omega)]; omega)
      show ((le (part s 12 1) : Nat) : Int) ≤ 255; omega
  refine ⟨F, ?_⟩
  have hall : s.data.toList = part s 0 500 := by unfold part; rw [List.drop_zero, List.take_of_length_le (by simp; omega)]
  have l1 := lens_back hq hf (pN s) (Nat.le_refl _)
  have l2 := bytes_back hf (pN s) (Nat.le_refl _)
  rw [List.take_of_length_le (by rw [slotsAt_length]; exact Nat.le_refl _)] at l1 l2
  have hz' : List.replicate (485 - (parsed s).head.size - slotSum (parsed s).slots) 0 = part s (pOff s) (500 - pOff s) := by
    have := (zerosB_iff _).1 hz
    rw [part_length (by omega)] at this
    rw [this]
    congr 1; omega
  unfold midL bodyL
  rw [hz']
  show putL (le (part s 0 8)) 8 ++ putL (le (part s 8 4)) 4 ++ putL (((le (part s 12 1) : Nat) : Int)).toNat 1 ++ putL (parsed s).head.size 1 ++ (ByteArray.mk (part s 14 (pHn s)).toArray).data.toList ++ putL (slotsAt s (15 + pHn s) (pN s)).length 1 ++ slotLens (slotsAt s (15 + pHn s) (pN s)) ++ slotBytes (slotsAt s (15 + pHn s) (pN s)) ++ part s (pOff s) (500 - pOff s) = _
  rw [hhs, slotsAt_length, l1, l2, Int.toNat_natCast, putL_le _ 8 (part_length (by omega)), putL_le _ 4 (part_length (by omega)), putL_le _ 1 (part_length (by omega)),
    show putL (pHn s) 1 = part s 13 1 from putL_le _ 1 (part_length (by omega)), show putL (pN s) 1 = part s (14 + pHn s) 1 from putL_le _ 1 (part_length (by omega)), hall]
  simp only
  have h0 : offAt s (15 + pHn s) (pN s) 0 = 15 + pHn s + 2 * pN s := rfl
  have hm := offAt_mono s (15 + pHn s) (pN s) (show 0 ≤ pN s by omega)
  have e1 := part_add s 0 8 492
  have e2 := part_add s 8 4 488
  have e3 := part_add s 12 1 487
  have e4 := part_add s 13 1 486
  have e5 := part_add s 14 (pHn s) (486 - pHn s)
  have e6 := part_add s (14 + pHn s) 1 (485 - pHn s)
  have e7 := part_add s (15 + pHn s) (2 * pN s) (485 - pHn s - 2 * pN s)
  have e8 := part_add s (15 + pHn s + 2 * pN s) (offAt s (15 + pHn s) (pN s) (pN s) - (15 + pHn s + 2 * pN s)) (500 - pOff s)
  rw [show 14 + (pHn s) + 1 = 15 + pHn s from by omega] at e6
  rw [show pHn s + (486 - pHn s) = 486 from by omega] at e5
  rw [show 1 + (485 - pHn s) = 486 - pHn s from by omega] at e6
  rw [show 2 * pN s + (485 - pHn s - 2 * pN s) = 485 - pHn s from by omega] at e7
  rw [show offAt s (15 + pHn s) (pN s) (pN s) - (15 + pHn s + 2 * pN s) + (500 - pOff s) = 485 - pHn s - 2 * pN s from by omega,
    show 15 + pHn s + 2 * pN s + (offAt s (15 + pHn s) (pN s) (pN s) - (15 + pHn s + 2 * pN s)) = pOff s from by omega] at e8
  rw [show (500 : Nat) = 8 + 492 from rfl, e1, show 0 + 8 = 8 from rfl, show (492 : Nat) = 4 + 488 from rfl, e2, show (488 : Nat) = 1 + 487 from rfl, show 8 + 4 = 12 from rfl, e3, show (487 : Nat) = 1 + 486 from rfl, show 12 + 1 = 13 from rfl, e4, show 13 + 1 = 14 from rfl, e5, e6, e7, e8]
  simp only [List.append_assoc]

theorem enc_of_dec {s : ByteArray} (h0 : decE s = 0) (hz : zerosB s.data.toList = false) : (decP s).Fits ∧ s = ⟨(encL (decP s)).toArray⟩ := by
  obtain ⟨hs, ht, hc⟩ := decE_zero h0 hz
  have hok : parseOk (cutB s) := by
    unfold decE at h0
    rw [if_neg (by omega), if_neg (by omega), if_neg (by rw [hz]; simp)] at h0
    split at h0
    · cases h0
    split at h0
    · cases h0
    split at h0
    · rename_i q; exact (parseB_iff _).1 q
    · cases h0
  have hP : decP s = parsed (cutB s) := by unfold decP; rw [if_pos ⟨h0, hz⟩]
  have hcs : (cutB s).size = 500 := by unfold cutB; simp [ByteArray.size_extract, hs]
  obtain ⟨F, hm⟩ := parsed_fits hcs hok
  rw [hP]
  refine ⟨F, Go.WideShapes.bytes_inj ?_⟩
  show s.data.toList = encL (parsed (cutB s))
  have hcd : (cutB s).data.toList = (s.data.toList.drop 4).take 500 := by unfold cutB; rw [Lib.extract_data]
  have hl : s.data.toList.length = 512 := by simpa using hs
  have hlsn : putL (parsed (cutB s)).lsn 8 = s.data.toList.drop 504 := by
    show putL (le (part (cutB s) 0 8)) 8 = _
    rw [putL_le _ 8 (part_length (by omega)), ht]
    unfold part
    rw [hcd, List.drop_zero, List.take_take]
    rfl
  have hrest : restL (parsed (cutB s)) = s.data.toList.drop 4 := by
    have : restL (parsed (cutB s)) = midL (parsed (cutB s)) ++ putL (parsed (cutB s)).lsn 8 := rfl
    rw [this, hm, hcd, hlsn, show 504 = 4 + 500 from rfl, ← List.drop_drop, List.take_append_drop]
  unfold encL
  rw [hrest, ← hc, List.take_append_drop]

theorem part_cut {s : ByteArray} (hs : s.size = 512) (a n : Nat) (h : a + n ≤ 500) : part s (4 + a) n = part (cutB s) a n := by
  have hcd : (cutB s).data.toList = (s.data.toList.drop 4).take 500 := by unfold cutB; rw [Lib.extract_data]
  unfold part
  rw [hcd, ← List.drop_drop, List.drop_take, List.take_take, Nat.min_eq_left (by omega)]

/-- What stands where in bytes that Decode takes. -/
structure ReadFacts (s : ByteArray) (P : SheetV) : Prop where
  fits : P.Fits
  enc : s = ⟨(encL P).toArray⟩
  lsn : le (part s 4 8) = P.lsn
  num : le (part s 12 4) = P.num
  kind : ((le (part s 16 1) : Nat) : Int) = P.kind
  hn : le (part s 17 1) = P.head.size
  head : (⟨(part s 18 P.head.size).toArray⟩ : ByteArray) = P.head
  n : le (part s (18 + P.head.size) 1) = P.slots.length
  long : ∀ j (hj : j < P.slots.length), le (part s (19 + P.head.size + 2 * j) 2) = P.slots[j].size
  slot : ∀ j (hj : j < P.slots.length), (⟨(part s (19 + P.head.size + 2 * P.slots.length + (slotBytes (P.slots.take j)).length) P.slots[j].size).toArray⟩ : ByteArray) = P.slots[j]

theorem read_facts {s : ByteArray} (h0 : decE s = 0) (hz : zerosB s.data.toList = false) : ReadFacts s (decP s) := by
  obtain ⟨F, hE⟩ := enc_of_dec h0 hz
  obtain ⟨hs, _, _⟩ := decE_zero h0 hz
  have hcut : cutB s = midB (decP s) := by
    have := enc_cut (decP s) F
    rw [← hE] at this
    exact this
  generalize decP s = P at *
  have hf := F.fits
  have hh := F.head
  have hn := F.len
  have pc := fun a n h => (part_cut hs a n h).trans (by rw [hcut])
  have hlb : (slotBytes P.slots).length + 2 * P.slots.length = slotSum P.slots := by
    have := slot_lengths P.slots; have := slotLens_length P.slots; omega
  have hln := slotSum_len P.slots
  refine ⟨F, hE, ?_, ?_, ?_, ?_, ?_, ?_, fun j hj => ?_, fun j hj => ?_⟩
  · rw [show (4 : Nat) = 4 + 0 from rfl, pc 0 8 (by omega)]; exact mid_lsn P F
  · rw [show (12 : Nat) = 4 + 8 from rfl, pc 8 4 (by omega)]; exact mid_num P F
  · rw [show (16 : Nat) = 4 + 12 from rfl, pc 12 1 (by omega), mid_kind P F]; exact Int.toNat_of_nonneg F.kind0
  · rw [show (17 : Nat) = 4 + 13 from rfl, pc 13 1 (by omega)]; exact mid_hn P F
  · rw [show (18 : Nat) = 4 + 14 from rfl, pc 14 _ (by omega)]
    have := mid_head P F
    rw [mid_hn P F] at this
    rw [this, bytes_self]
  · rw [show 18 + P.head.size = 4 + (14 + P.head.size) from by omega, pc _ 1 (by omega)]
    have := mid_n P F
    unfold pN at this
    rw [mid_hn P F] at this
    exact this
  · rw [show 19 + P.head.size + 2 * j = 4 + (15 + P.head.size + 2 * j) from by omega, pc _ 2 (by omega)]
    exact mid_long P F j hj
  · have hst := slotSum_take P.slots (j + 1)
    have hsn := slotSum_snoc P.slots j hj
    have h1 := slot_lengths (P.slots.take j)
    have h2 := slotLens_length (P.slots.take j)
    rw [List.length_take] at h2
    have h3 : (slotBytes (P.slots.take j)).length + P.slots[j].size ≤ (slotBytes P.slots).length := by
      have e3 := slotBytes_len_snoc P.slots j hj
      have e4 : (slotBytes (P.slots.take (j + 1))).length ≤ (slotBytes P.slots).length := by
        conv => rhs; rw [← List.take_append_drop (j + 1) P.slots, slotBytes_append, List.length_append]
        omega
      omega
    rw [show 19 + P.head.size + 2 * P.slots.length + (slotBytes (P.slots.take j)).length = 4 + (15 + P.head.size + 2 * P.slots.length + (slotBytes (P.slots.take j)).length) from by omega, pc _ _ (by omega)]
    have := mid_slot P F j hj
    unfold slotAt at this
    rw [mid_off P F j (by omega), mid_long P F j hj] at this
    exact this

end Go.Proofs.Ytbkdedkifbffhaa
