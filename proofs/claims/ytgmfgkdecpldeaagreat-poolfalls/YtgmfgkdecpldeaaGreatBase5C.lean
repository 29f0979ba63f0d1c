/-
  A struct that is loaded or stored whole: one step, whatever its cells.
  Plain mathematics: of a page that was written over another one, but not wholly.
  The walk of girderlaw05.awake.
  Plain mathematics: bytes that Decode takes are those of Encode of the page that it finds; where its parts stand.
  What the bytes of a page's place say: the walk of pool.readable; pool.blank, pool.givesWay.
  The walks of pool.blank and pool.givesWay.
  The walk of pool.both.choose: which of a page's place and its twin counts.
  Maps whose elements are any values: look-ups, stores, what is taken out.
-/
import Derived.Test.YtgmfgkdecpldeaaGreatProg
import Derived.WalkKit
import Derived.WalkSpells
import Derived.Deep.WholeRow
import Derived.Laws.CopyOwn
import Derived.Test.YtgmfgkdecpldeaaGreatBase3C
import Derived.Test.YtgmfgkdecpldeaaGreatWalFlushC
import Derived.Test.YtgmfgkdecpldeaaGreatPoolCopyC
import Derived.Test.YtgmfgkdecpldeaaGreatDiskSyncC
import Derived.Lib.QuietBelow
import Derived.WalkLawsBesides
import Derived.Maps.OwnSet
namespace Go.Proofs.YtgmfgkdecpldeaaGreat
open Go.RowKit
set_option linter.unusedVariables false

section
variable {P : Program} {ops : Array Oper} {rest : List Oper} {o : Oper} {a : Act} {Q : Exit → Act → World → Prop} {W : World}

theorem wpList_loadRow (hgd : o.guard = none) (x : Operand) (t : TypeId) (ho : o.op = .load t x) (b : Nat) (hx : a.eval x = .pointer (some ⟨b, 0, none⟩)) (c : Array Value) (t' : TypeId) (fr : Nat × Nat) (hb : W.heap[b]? = some (.cells c t' fr))
    (d : TypeDesc) (hu : P.underlying t = some d) (hd : (match d with | .struct _ | .array _ _ => true | _ => false) = true) (hi : (P.info? t).map (·.size) = some c.size) (h : wpList P ops Q rest (a.put o.dst (.agg c)) W) : wpList P ops Q (o :: rest) a W := by
  refine wpList_plain hgd fun K hK => ?_
  have hr := run_loadVar_row (P := P) W b t' t c fr d hb hu hd hi
  unfold Oper.wp execOp
  simp only [ho, hx, Instr.loadAt, Instr.sureAddr, Sem.run_bind, Sem.run_pure, Result.andThen_ok, hr]
  exact hK _ _ h

theorem wpList_storeRow (hgd : o.guard = none) (x y : Operand) (t : TypeId) (ho : o.op = .store t x y) (hdst : o.dst = none) (b : Nat) (hx : a.eval x = .pointer (some ⟨b, 0, none⟩)) (c old : Array Value) (hy : a.eval y = .agg c) (t' : TypeId) (hb : W.heap[b]? = some (.cells old t' (0, 0)))
    (hi : (P.info? t).map (·.size) = some c.size) (ho' : old.size = c.size) (h1 : c.all (·.oneCell') = true) (h : wpList P ops Q rest a (W.setRow b c)) : wpList P ops Q (o :: rest) a W := by
  refine wpList_plain hgd fun K hK => ?_
  have hr := run_storeVar_row (P := P) W b t' t old c hb hi ho' h1
  unfold Oper.wp execOp
  simp only [ho, hx, hy, Instr.storeAt, Instr.sureAddr, Sem.run_bind, Sem.run_pure, Result.andThen_ok, hr]
  refine hK _ _ ?_
  rw [hdst]
  exact h

end

end Go.Proofs.YtgmfgkdecpldeaaGreat

namespace Go.Proofs.YtgmfgkdecpldeaaGreat
open Go.RowKit
set_option linter.unusedVariables false

section
variable (p : SheetV)

theorem encL_drop4 : (encL p).drop 4 = restL p := by unfold encL; exact List.drop_left' (by rw [putL_length])
theorem encL_take4 : (encL p).take 4 = putL (crcSum 0 ((encL p).drop 4)) 4 := by
  rw [encL_drop4 p]; unfold encL; exact List.take_left' (by rw [putL_length])
theorem encL_lsn : ((encL p).drop 4).take 8 = putL p.lsn 8 := by
  rw [encL_drop4 p]
  unfold restL bodyL
  simp only [List.append_assoc]
  exact List.take_left' (by rw [putL_length])
theorem encL_tail (h : p.Fits) : (encL p).drop 504 = putL p.lsn 8 := by
  have hm := midL_length p h
  have e : encL p = (putL (crcSum 0 (restL p)) 4 ++ midL p) ++ putL p.lsn 8 := by
    unfold encL; rw [List.append_assoc]; rfl
  rw [e]
  exact List.drop_left' (by rw [List.length_append, putL_length, hm])
end

theorem putL_ne {m n : Nat} (hm : m < 18446744073709551616) (hn : n < 18446744073709551616) (h : m ≠ n) : putL m 8 ≠ putL n 8 := fun e => by
  have := congrArg le e
  rw [le_putL, le_putL, Nat.mod_eq_of_lt (by omega), Nat.mod_eq_of_lt (by omega)] at this
  exact h this

theorem zeros_drop {M : List UInt8} (h : zerosB M = true) (k : Nat) : zerosB (M.drop k) = true := by
  unfold zerosB at *
  rw [List.all_eq_true] at *
  exact fun x hx => h x (List.mem_of_mem_drop hx)
theorem zeros_take {M : List UInt8} (h : zerosB M = true) (k : Nat) : zerosB (M.take k) = true := by
  unfold zerosB at *
  rw [List.all_eq_true] at *
  exact fun x hx => h x (List.mem_of_mem_take hx)
theorem lsn_zeros {n : Nat} (hn : n < 18446744073709551616) (h0 : n ≠ 0) : zerosB (putL n 8) = false := by
  rw [Bool.eq_false_iff]
  intro hz
  have := (zerosB_iff _).1 hz
  rw [putL_length] at this
  exact h0 (putL_zero_of this (by omega))

/-- What Decode's OK asks of bytes that are not all zeros. -/
theorem decE_zero {s : ByteArray} (h : decE s = 0) (hz : zerosB s.data.toList = false) :
    s.size = 512 ∧ s.data.toList.drop 504 = (s.data.toList.drop 4).take 8 ∧ s.data.toList.take 4 = putL (crcSum 0 (s.data.toList.drop 4)) 4 := by
  unfold decE at h
  split at h
  · cases h
  split at h
  · cases h
  have hs : s.size = 512 := by omega
  have hsl : s.data.toList.length = 512 := by simpa using hs
  split at h
  · rename_i q; rw [hz] at q; cases q
  split at h
  · cases h
  rename_i h1
  split at h
  · cases h
  rename_i h2
  have e1 : s.extract 504 512 = s.extract 4 12 := by simpa using h1
  have e2 := congrArg (fun b => b.data.toList) e1
  simp only [Lib.extract_data] at e2
  have e3 : s.extract 0 4 = ⟨(putL (crcSum 0 (s.extract 4 512).data.toList) 4).toArray⟩ := by simpa using h2
  have e4 := congrArg (fun b => b.data.toList) e3
  simp only [Lib.extract_data] at e4
  refine ⟨hs, ?_, ?_⟩
  · rw [List.take_of_length_le (by simp; omega)] at e2
    exact e2
  · rw [List.take_of_length_le (l := s.data.toList.drop 4) (by simp; omega)] at e4
    simpa using e4

theorem torn_math (a b : SheetV) (ha : a.Fits) (hb : b.Fits) (hne : a.lsn ≠ b.lsn) (ha0 : a.lsn ≠ 0) (hb0 : b.lsn ≠ 0) (k : Nat) (hk : k ≤ 512) (M : ByteArray)
    (hM : M.data.toList = (encL b).take k ++ (encL a).drop k) (h1 : M.data.toList ≠ encL a) (h2 : M.data.toList ≠ encL b) : decE M ≠ 0 := by
  intro h0
  have la := encL_length a ha.fits
  have lb := encL_length b hb.fits
  have lt : ((encL b).take k).length = k := by rw [List.length_take]; omega
  -- from where on it is the elder one, up to where the newer
  have dr : ∀ m, k ≤ m → M.data.toList.drop m = (encL a).drop m := fun m hm => by
    rw [hM, List.drop_append, lt, List.drop_of_length_le (by omega), List.nil_append, List.drop_drop]
    congr 1; omega
  have tk : ∀ m, m ≤ k → M.data.toList.take m = (encL b).take m := fun m hm => by
    rw [hM, List.take_append, lt, List.take_take, show m - k = 0 from by omega, List.take_zero, List.append_nil, Nat.min_eq_left hm]
  have mid : 12 ≤ k → (M.data.toList.drop 4).take 8 = putL b.lsn 8 := fun h12 => by
    rw [← encL_lsn b, List.take_drop, List.take_drop, tk (4 + 8) (by omega)]
  have hz : zerosB M.data.toList = false := by
    rw [Bool.eq_false_iff]
    intro hz
    by_cases h5 : k ≤ 504
    · have := zeros_drop hz 504
      rw [dr 504 h5, encL_tail a ha, lsn_zeros ha.lsn ha0] at this
      cases this
    · have := zeros_take (zeros_drop hz 4) 8
      rw [mid (by omega), lsn_zeros hb.lsn hb0] at this
      cases this
  obtain ⟨hs, ht, hc⟩ := decE_zero h0 hz
  by_cases h12 : 12 ≤ k
  · by_cases h5 : k ≤ 504
    · rw [dr 504 h5, encL_tail a ha, mid h12] at ht
      exact putL_ne ha.lsn hb.lsn hne ht
    · apply h2
      rw [mid h12, ← encL_tail b hb] at ht
      rw [← List.take_append_drop 504 M.data.toList, ht, tk 504 (by omega), List.take_append_drop]
  · apply h1
    rw [dr 504 (by omega), encL_tail a ha, ← encL_lsn a] at ht
    have e4 : M.data.toList.drop 4 = (encL a).drop 4 := by
      rw [← List.take_append_drop 8 (M.data.toList.drop 4), ← ht, List.drop_drop, dr (4 + 8) (by omega), ← List.drop_drop, List.take_append_drop]
    rw [e4, ← encL_take4 a] at hc
    rw [← List.take_append_drop 4 M.data.toList, hc, e4, List.take_append_drop]

end Go.Proofs.YtgmfgkdecpldeaaGreat

namespace Go.Proofs.YtgmfgkdecpldeaaGreat
open Go.RowKit
set_option linter.unusedVariables false

theorem ext_list (s : ByteArray) (a b : Nat) : (s.extract a b).data.toList = (s.data.toList.drop a).take (b - a) := by
  simp [ByteArray.data_extract, List.extract_eq_take_drop]

theorem bytes_ext {a b : ByteArray} (h : a.data.toList = b.data.toList) : a = b := Go.WideShapes.bytes_inj h

/-- A frame that stands there is found. -/
theorem frameN_here {all : ByteArray} {A r B : List UInt8} (hall : all.data.toList = A ++ (frameL (A.length + 1) r ++ B)) (h1 : 1 ≤ r.length) (h2 : r.length ≤ 8192) : frameN all A.length = r.length + 12 := by
  have hl := frameL_length (A.length + 1) r
  have hsz : all.size = A.length + (r.length + 12 + B.length) := by
    have : all.size = all.data.toList.length := by simp
    rw [this, hall]
    simp [hl]
  have hd : all.data.toList.drop A.length = frameL (A.length + 1) r ++ B := by rw [hall]; exact List.drop_left
  have hp : part all A.length 4 = putL r.length 4 := by
    unfold part
    rw [hd]
    unfold frameL
    rw [List.append_assoc, List.append_assoc, List.append_assoc, List.take_append_of_le_length (by rw [putL_length]; omega), List.take_of_length_le (by rw [putL_length]; omega)]
  have hn : le (part all A.length 4) = r.length := by
    rw [hp, le_putL]
    exact Nat.mod_eq_of_lt (by omega)
  have hx : (all.extract A.length (A.length + (r.length + 12))).data.toList = frameL (A.length + 1) r := by
    rw [ext_list, hd, show A.length + (r.length + 12) - A.length = r.length + 12 by omega, ← hl]
    exact List.take_left
  have hy : ((all.extract A.length (A.length + (r.length + 12))).extract 8 (r.length + 8)).data.toList = r := by
    rw [ext_list, hx, show r.length + 8 - 8 = r.length by omega]
    have e : frameL (A.length + 1) r = (putL r.length 4 ++ putL (crcSum 0 (putL (A.length + 1) 8 ++ r)) 4) ++ (r ++ putL r.length 4) := by simp [frameL]
    rw [e]
    have e8 : (putL r.length 4 ++ putL (crcSum 0 (putL (A.length + 1) 8 ++ r)) 4).length = 8 := by simp [putL_length]
    generalize putL r.length 4 ++ putL (crcSum 0 (putL (A.length + 1) 8 ++ r)) 4 = X at e8 ⊢
    rw [← e8, List.drop_left, List.take_left]
  unfold frameN
  rw [hn, if_pos]
  refine ⟨by omega, h2, by omega, h1, ?_⟩
  apply bytes_ext
  rw [hx]
  unfold frameB
  rw [hy]

theorem frameN_end {all : ByteArray} {a : Nat} (h : all.size < a + 4) : frameN all a = 0 := if_neg fun k => by omega

/-- One frame, and nothing behind it. -/
theorem scan_one (r : List UInt8) (h1 : 1 ≤ r.length) (h2 : r.length ≤ 8192) (n : Nat) : scan ⟨(frameL 1 r).toArray⟩ (n + 2) 0 = ([1], r.length + 12) := by
  have hs : (ByteArray.mk (frameL 1 r).toArray).size = r.length + 12 := by rw [bytes_size, frameL_length]
  have e1 : frameN ⟨(frameL 1 r).toArray⟩ 0 = r.length + 12 := frameN_here (A := []) (B := []) (by simp) h1 h2
  have e2 : frameN ⟨(frameL 1 r).toArray⟩ (r.length + 12) = 0 := frameN_end (by rw [hs]; omega)
  have s1 : scan ⟨(frameL 1 r).toArray⟩ (n + 1) (r.length + 12) = ([], r.length + 12) := by
    show (if _ then _ else _) = _
    rw [if_pos e2]
  show (if _ then _ else _) = _
  rw [if_neg (by rw [e1]; omega), e1, show 0 + (r.length + 12) = r.length + 12 from Nat.zero_add _, s1]

theorem scan_none (n : Nat) : scan ⟨#[]⟩ (n + 1) 0 = ([], 0) := by
  show (if _ then _ else _) = _
  rw [if_pos (frameN_end (by show 0 < 4; omega))]

theorem wnew_out (w : World) (room : Nat) (h1 : 8 ≤ room) (h2 : room ≤ 2048) :
    Calls Tryz.prog 36 #[.int .i64 room] w fun e w' => ∃ p, e = .returned (.tuple #[.pointer (some ⟨p, 0, none⟩), .int .i64 0]) ∧ (∃ S', IsDisk w' p S' (newD room) ∧ ∀ k, S' k → w.heap.size ≤ k) ∧ Below w.heap.size w w' := by
  refine (new_any w room h1 h2).mono ?_
  rintro e w' ⟨p, rfl, ⟨m, hd, hm⟩, hb⟩
  refine ⟨p, rfl, ⟨m.has p, ⟨m, hd, fun _ x => x, ?_⟩, hm⟩, hb⟩
  rintro k (rfl | x)
  · exact hd.lt
  · exact hd.rest_lt x

/-- The log of a new disk. -/
theorem openL_new (p room : Nat) : openL p (newD room) = log0 p := by
  unfold openL
  have e : scan ⟨(newD room).log.toArray⟩ ((newD room).log.length + 1) 0 = ([], 0) := scan_none 0
  rw [e]
  rfl

theorem below_kept {S : Nat → Prop} {u v w : World} (h : Below u.heap.size u v) (k : Kept S v w) (hS : ∀ i, S i → u.heap.size ≤ i) : Below u.heap.size u w :=
  ⟨k.os.trans h.os, k.tape.trans h.tape, k.output.trans h.output, Nat.le_trans h.size k.size, fun i hi => (k.block i (Nat.lt_of_lt_of_le hi h.size) fun x => by have := hS i x; omega).trans (h.block i hi)⟩

def abB : ByteArray := ⟨#[97, 98]⟩



end Go.Proofs.YtgmfgkdecpldeaaGreat

namespace Go.Proofs.YtgmfgkdecpldeaaGreat
open Go.RowKit
set_option linter.unusedVariables false

theorem putL_le (l : List UInt8) (n : Nat) (h : l.length = n) : putL (le l) n = l := by
  subst h
  refine le_inj (putL_length _ _) ?_
  rw [le_putL, Nat.mod_eq_of_lt (le_lt l)]

theorem part_add (s : ByteArray) (a m n : Nat) : part s a (m + n) = part s a m ++ part s (a + m) n := by
  unfold part
  rw [List.take_add, List.drop_drop]

theorem slotAt_size {s : ByteArray} {q n j : Nat} (h : offAt s q n j + longAt s q j ≤ s.size) : (slotAt s q n j).size = longAt s q j := by
  unfold slotAt; rw [bytes_size, part_length h]

section
variable {s : ByteArray} {q n : Nat}

theorem slotsAt_take (k : Nat) (hk : k < n) : (slotsAt s q n).take (k + 1) = (slotsAt s q n).take k ++ [slotAt s q n k] := by
  rw [List.take_succ_eq_append_getElem (by rw [slotsAt_length]; exact hk)]
  simp [slotsAt]

theorem lens_back (hq : q + 2 * n ≤ s.size) (hf : offAt s q n n ≤ s.size) (k : Nat) (hk : k ≤ n) : slotLens ((slotsAt s q n).take k) = part s q (2 * k) := by
  induction k with
  | zero => simp [slotLens, part]
  | succ k ih =>
    have h1 := offAt_mono s q n (show k + 1 ≤ n from hk)
    have h2 : offAt s q n (k + 1) = offAt s q n k + longAt s q k := rfl
    rw [slotsAt_take k (by omega), slotLens_append, ih (by omega), show 2 * (k + 1) = 2 * k + 2 from by omega, part_add]
    congr 1
    simp only [slotLens, List.append_nil]
    rw [slotAt_size (by omega)]
    exact putL_le _ 2 (part_length (by omega))

theorem bytes_back (hf : offAt s q n n ≤ s.size) (k : Nat) (hk : k ≤ n) : slotBytes ((slotsAt s q n).take k) = part s (q + 2 * n) (offAt s q n k - (q + 2 * n)) := by
  induction k with
  | zero => simp [slotBytes, part, offAt]
  | succ k ih =>
    have h0 : offAt s q n 0 = q + 2 * n := rfl
    have h1 := offAt_mono s q n (show 0 ≤ k by omega)
    have h2 : offAt s q n (k + 1) = offAt s q n k + longAt s q k := rfl
    rw [slotsAt_take k (by omega), slotBytes_append, ih (by omega), h2, show offAt s q n k + longAt s q k - (q + 2 * n) = (offAt s q n k - (q + 2 * n)) + longAt s q k from by omega, part_add]
    congr 1
    rw [show q + 2 * n + (offAt s q n k - (q + 2 * n)) = offAt s q n k from by omega]
    simp [slotBytes, slotAt]

theorem sum_back (hf : offAt s q n n ≤ s.size) (hq : q + 2 * n ≤ s.size) : q + slotSum (slotsAt s q n) = offAt s q n n := by
  have h1 := lens_back hq hf n (Nat.le_refl _)
  have h2 := bytes_back hf n (Nat.le_refl _)
  have h0 : offAt s q n 0 = q + 2 * n := rfl
  have h3 := offAt_mono s q n (show 0 ≤ n by omega)
  rw [List.take_of_length_le (by rw [slotsAt_length]; exact Nat.le_refl _)] at h1 h2
  have h4 := slot_lengths (slotsAt s q n)
  rw [h1, h2, part_length (by omega), part_length (by omega)] at h4
  omega
end

theorem parsed_fits {s : ByteArray} (hs : s.size = 500) (h : parseOk s) : (parsed s).Fits ∧ midL (parsed s) = s.data.toList := by
  obtain ⟨⟨h1, h2, h3⟩, hz⟩ := h
  have hq : 15 + pHn s + 2 * pN s ≤ s.size := by omega
  have hf : offAt s (15 + pHn s) (pN s) (pN s) ≤ s.size := by rw [hs]; exact h3
  have hsum := sum_back hf hq
  have hpo : pOff s = offAt s (15 + pHn s) (pN s) (pN s) := rfl
  have hhs : (parsed s).head.size = pHn s := by
    show (ByteArray.mk (part s 14 (pHn s)).toArray).size = _
    rw [bytes_size, part_length (by omega)]
  have hss : slotSum (parsed s).slots = slotSum (slotsAt s (15 + pHn s) (pN s)) := rfl
  have F : (parsed s).Fits := by
    refine ⟨?_, ?_, ?_, ?_, by omega, by show (slotsAt s _ _).length ≤ 64; rw [slotsAt_length]; exact h2, by omega⟩
    · exact le_lt_of (l := part s 8 4) (n := 4) (by rw [part_length (by omega)]; omega)
    · exact le_lt_of (l := part s 0 8) (n := 8) (by rw [part_length (by omega)]; omega)
    · show (0 : Int) ≤ ((le (part s 12 1) : Nat) : Int); omega
    · have := le_lt_of (l := part s 12 1) (n := 1) (by rw [part_length (by omega)]; omega)
      show ((le (part s 12 1) : Nat) : Int) ≤ 255; omega
  refine ⟨F, ?_⟩
  have hall : s.data.toList = part s 0 500 := by unfold part; rw [List.drop_zero, List.take_of_length_le (by simp; omega)]
  have l1 := lens_back hq hf (pN s) (Nat.le_refl _)
  have l2 := bytes_back hf (pN s) (Nat.le_refl _)
  rw [List.take_of_length_le (by rw [slotsAt_length]; exact Nat.le_refl _)] at l1 l2
  have hz' : List.replicate (485 - (parsed s).head.size - slotSum (parsed s).slots) 0 = part s (pOff s) (500 - pOff s) := by
    have := (zerosB_iff _).1 hz
    rw [part_length (by omega)] at this
    rw [this]
    congr 1; omega
  unfold midL bodyL
  rw [hz']
  show putL (le (part s 0 8)) 8 ++ putL (le (part s 8 4)) 4 ++ putL (((le (part s 12 1) : Nat) : Int)).toNat 1 ++ putL (parsed s).head.size 1 ++ (ByteArray.mk (part s 14 (pHn s)).toArray).data.toList ++ putL (slotsAt s (15 + pHn s) (pN s)).length 1 ++ slotLens (slotsAt s (15 + pHn s) (pN s)) ++ slotBytes (slotsAt s (15 + pHn s) (pN s)) ++ part s (pOff s) (500 - pOff s) = _
  rw [hhs, slotsAt_length, l1, l2, Int.toNat_natCast, putL_le _ 8 (part_length (by omega)), putL_le _ 4 (part_length (by omega)), putL_le _ 1 (part_length (by omega)),
    show putL (pHn s) 1 = part s 13 1 from putL_le _ 1 (part_length (by omega)), show putL (pN s) 1 = part s (14 + pHn s) 1 from putL_le _ 1 (part_length (by omega)), hall]
  simp only
  have h0 : offAt s (15 + pHn s) (pN s) 0 = 15 + pHn s + 2 * pN s := rfl
  have hm := offAt_mono s (15 + pHn s) (pN s) (show 0 ≤ pN s by omega)
  have e1 := part_add s 0 8 492
  have e2 := part_add s 8 4 488
  have e3 := part_add s 12 1 487
  have e4 := part_add s 13 1 486
  have e5 := part_add s 14 (pHn s) (486 - pHn s)
  have e6 := part_add s (14 + pHn s) 1 (485 - pHn s)
  have e7 := part_add s (15 + pHn s) (2 * pN s) (485 - pHn s - 2 * pN s)
  have e8 := part_add s (15 + pHn s + 2 * pN s) (offAt s (15 + pHn s) (pN s) (pN s) - (15 + pHn s + 2 * pN s)) (500 - pOff s)
  rw [show 14 + (pHn s) + 1 = 15 + pHn s from by omega] at e6
  rw [show pHn s + (486 - pHn s) = 486 from by omega] at e5
  rw [show 1 + (485 - pHn s) = 486 - pHn s from by omega] at e6
  rw [show 2 * pN s + (485 - pHn s - 2 * pN s) = 485 - pHn s from by omega] at e7
  rw [show offAt s (15 + pHn s) (pN s) (pN s) - (15 + pHn s + 2 * pN s) + (500 - pOff s) = 485 - pHn s - 2 * pN s from by omega,
    show 15 + pHn s + 2 * pN s + (offAt s (15 + pHn s) (pN s) (pN s) - (15 + pHn s + 2 * pN s)) = pOff s from by omega] at e8
  rw [show (500 : Nat) = 8 + 492 from rfl, e1, show 0 + 8 = 8 from rfl, show (492 : Nat) = 4 + 488 from rfl, e2, show (488 : Nat) = 1 + 487 from rfl, show 8 + 4 = 12 from rfl, e3, show (487 : Nat) = 1 + 486 from rfl, show 12 + 1 = 13 from rfl, e4, show 13 + 1 = 14 from rfl, e5, e6, e7, e8]
  simp only [List.append_assoc]

theorem enc_of_dec {s : ByteArray} (h0 : decE s = 0) (hz : zerosB s.data.toList = false) : (decP s).Fits ∧ s = ⟨(encL (decP s)).toArray⟩ := by
  obtain ⟨hs, ht, hc⟩ := decE_zero h0 hz
  have hok : parseOk (cutB s) := by
    unfold decE at h0
    rw [if_neg (by omega), if_neg (by omega), if_neg (by rw [hz]; simp)] at h0
    split at h0
    · cases h0
    split at h0
    · cases h0
    split at h0
    · rename_i q; exact (parseB_iff _).1 q
    · cases h0
  have hP : decP s = parsed (cutB s) := by unfold decP; rw [if_pos ⟨h0, hz⟩]
  have hcs : (cutB s).size = 500 := by unfold cutB; simp [ByteArray.size_extract, hs]
  obtain ⟨F, hm⟩ := parsed_fits hcs hok
  rw [hP]
  refine ⟨F, Go.WideShapes.bytes_inj ?_⟩
  show s.data.toList = encL (parsed (cutB s))
  have hcd : (cutB s).data.toList = (s.data.toList.drop 4).take 500 := by unfold cutB; rw [Lib.extract_data]
  have hl : s.data.toList.length = 512 := by simpa using hs
  have hlsn : putL (parsed (cutB s)).lsn 8 = s.data.toList.drop 504 := by
    show putL (le (part (cutB s) 0 8)) 8 = _
    rw [putL_le _ 8 (part_length (by omega)), ht]
    unfold part
    rw [hcd, List.drop_zero, List.take_take]
    rfl
  have hrest : restL (parsed (cutB s)) = s.data.toList.drop 4 := by
    have : restL (parsed (cutB s)) = midL (parsed (cutB s)) ++ putL (parsed (cutB s)).lsn 8 := rfl
    rw [this, hm, hcd, hlsn, show 504 = 4 + 500 from rfl, ← List.drop_drop, List.take_append_drop]
  unfold encL
  rw [hrest, ← hc, List.take_append_drop]

theorem part_cut {s : ByteArray} (hs : s.size = 512) (a n : Nat) (h : a + n ≤ 500) : part s (4 + a) n = part (cutB s) a n := by
  have hcd : (cutB s).data.toList = (s.data.toList.drop 4).take 500 := by unfold cutB; rw [Lib.extract_data]
  unfold part
  rw [hcd, ← List.drop_drop, List.drop_take, List.take_take, Nat.min_eq_left (by omega)]

/-- What stands where in bytes that Decode takes. -/
structure ReadFacts (s : ByteArray) (P : SheetV) : Prop where
  fits : P.Fits
  enc : s = ⟨(encL P).toArray⟩
  lsn : le (part s 4 8) = P.lsn
  num : le (part s 12 4) = P.num
  kind : ((le (part s 16 1) : Nat) : Int) = P.kind
  hn : le (part s 17 1) = P.head.size
  head : (⟨(part s 18 P.head.size).toArray⟩ : ByteArray) = P.head
  n : le (part s (18 + P.head.size) 1) = P.slots.length
  long : ∀ j (hj : j < P.slots.length), le (part s (19 + P.head.size + 2 * j) 2) = P.slots[j].size
  slot : ∀ j (hj : j < P.slots.length), (⟨(part s (19 + P.head.size + 2 * P.slots.length + (slotBytes (P.slots.take j)).length) P.slots[j].size).toArray⟩ : ByteArray) = P.slots[j]

theorem read_facts {s : ByteArray} (h0 : decE s = 0) (hz : zerosB s.data.toList = false) : ReadFacts s (decP s) := by
  obtain ⟨F, hE⟩ := enc_of_dec h0 hz
  obtain ⟨hs, _, _⟩ := decE_zero h0 hz
  have hcut : cutB s = midB (decP s) := by
    have := enc_cut (decP s) F
    rw [← hE] at this
    exact this
  generalize decP s = P at *
  have hf := F.fits
  have hh := F.head
  have hn := F.len
  have pc := fun a n h => (part_cut hs a n h).trans (by rw [hcut])
  have hlb : (slotBytes P.slots).length + 2 * P.slots.length = slotSum P.slots := by
    have := slot_lengths P.slots; have := slotLens_length P.slots; omega
  have hln := slotSum_len P.slots
  refine ⟨F, hE, ?_, ?_, ?_, ?_, ?_, ?_, fun j hj => ?_, fun j hj => ?_⟩
  · rw [show (4 : Nat) = 4 + 0 from rfl, pc 0 8 (by omega)]; exact mid_lsn P F
  · rw [show (12 : Nat) = 4 + 8 from rfl, pc 8 4 (by omega)]; exact mid_num P F
  · rw [show (16 : Nat) = 4 + 12 from rfl, pc 12 1 (by omega), mid_kind P F]; exact Int.toNat_of_nonneg F.kind0
  · rw [show (17 : Nat) = 4 + 13 from rfl, pc 13 1 (by omega)]; exact mid_hn P F
  · rw [show (18 : Nat) = 4 + 14 from rfl, pc 14 _ (by omega)]
    have := mid_head P F
    rw [mid_hn P F] at this
    rw [this, bytes_self]
  · rw [show 18 + P.head.size = 4 + (14 + P.head.size) from by omega, pc _ 1 (by omega)]
    have := mid_n P F
    unfold pN at this
    rw [mid_hn P F] at this
    exact this
  · rw [show 19 + P.head.size + 2 * j = 4 + (15 + P.head.size + 2 * j) from by omega, pc _ 2 (by omega)]
    exact mid_long P F j hj
  · have hst := slotSum_take P.slots (j + 1)
    have hsn := slotSum_snoc P.slots j hj
    have h1 := slot_lengths (P.slots.take j)
    have h2 := slotLens_length (P.slots.take j)
    rw [List.length_take] at h2
    have h3 : (slotBytes (P.slots.take j)).length + P.slots[j].size ≤ (slotBytes P.slots).length := by
      have e3 := slotBytes_len_snoc P.slots j hj
      have e4 : (slotBytes (P.slots.take (j + 1))).length ≤ (slotBytes P.slots).length := by
        conv => rhs; rw [← List.take_append_drop (j + 1) P.slots, slotBytes_append, List.length_append]
        omega
      omega
    rw [show 19 + P.head.size + 2 * P.slots.length + (slotBytes (P.slots.take j)).length = 4 + (15 + P.head.size + 2 * P.slots.length + (slotBytes (P.slots.take j)).length) from by omega, pc _ _ (by omega)]
    have := mid_slot P F j hj
    unfold slotAt at this
    rw [mid_off P F j (by omega), mid_long P F j hj] at this
    exact this

end Go.Proofs.YtgmfgkdecpldeaaGreat

namespace Go.Proofs.YtgmfgkdecpldeaaGreat
open Go.RowKit Go.Sort
set_option linter.unusedVariables false

theorem decP_fit (s : ByteArray) : (decP s).Fits := by
  by_cases h : decE s = 0 ∧ zerosB s.data.toList = false
  · exact (enc_of_dec h.1 h.2).1
  · have e : decP s = sheet0 := by unfold decP; rw [if_neg h]
    rw [e]
    exact ⟨by decide, by decide, by decide, by decide, by decide, by decide, by decide⟩

/-- Are bytes those of the page n? -/
def rdB (n : Nat) (s : ByteArray) : Bool := decide (decE s = 0 ∧ ((decP s).num = n ∨ (decP s).num = 0))
/-- The page n of bytes. -/
def rdP (n : Nat) (s : ByteArray) : SheetV := if rdB n s = true then { decP s with num := n } else sheet0

theorem slotSum_mem {L : List ByteArray} {s : ByteArray} (h : s ∈ L) : s.size ≤ slotSum L := by
  induction L with
  | nil => cases h
  | cons x L ih =>
    simp only [slotSum]
    rcases List.mem_cons.1 h with rfl | h
    · omega
    · have := ih h; omega

theorem SheetV.Fits.ok {p : SheetV} (h : p.Fits) {w : World} {a : Option Addr} (hm : StrsAt w a p.slots) : p.Ok w a := by
  have h1 := h.kind0
  have h2 := h.kind1
  have h3 := h.head
  have h4 := h.len
  have h5 := h.fits
  exact ⟨h.num, h.lsn, by omega, by omega, by omega, fun s hs => by have := slotSum_mem hs; omega, hm⟩

theorem rdP_fit {n : Nat} (hn : n < 4294967296) (s : ByteArray) : (rdP n s).Fits := by
  unfold rdP
  split
  · have := decP_fit s
    exact ⟨hn, this.lsn, this.kind0, this.kind1, this.head, this.len, this.fits⟩
  · exact ⟨by decide, by decide, by decide, by decide, by decide, by decide, by decide⟩

/-- A page's five cells. -/
def SheetV.arr (p : SheetV) (a : Option Addr) (c : Nat) : Array Value := #[.int .u32 p.num, .int .u64 p.lsn, .int .i64 p.kind, .string p.head, .slice a p.slots.length c]

theorem SheetV.val_arr (p : SheetV) (a : Option Addr) (c : Nat) : p.val a c = .agg (p.arr a c) := rfl

/-- The cells of a page that is not there. -/
def zero5 : Array Value := #[.int .u32 0, .int .u64 0, .int .i64 0, .string ⟨#[]⟩, .slice none 0 0]

/-- Texts from B on lie as they did, where only blocks below B turned. -/
theorem StrsFrom.over {B : Nat} {w w' : World} {a : Option Addr} {L : List ByteArray} (h : StrsFrom B w a L) (k : ∀ b, B ≤ b → b < w.heap.size → w'.heap[b]? = w.heap[b]?) (hs : w.heap.size ≤ w'.heap.size) : StrsFrom B w' a L := by
  rcases h with h | ⟨b, o, e, hB, hb, hc⟩
  · exact .inl h
  · exact .inr ⟨b, o, e, hB, Nat.lt_of_lt_of_le hb hs, fun i hi => (World.cell?_of_block (w := w) (a := ⟨b, o + i, none⟩) (k b hB hb)).trans (hc i hi)⟩

theorem store5_other (w : World) (b k : Nat) (v0 v1 v2 v3 v4 : Value) (h : k ≠ b) : (store5 w b v0 v1 v2 v3 v4).heap[k]? = w.heap[k]? :=
  (Below.heap_setCell _ _ _ _ h).trans ((Below.heap_setCell _ _ _ _ h).trans ((Below.heap_setCell _ _ _ _ h).trans ((Below.heap_setCell _ _ _ _ h).trans (Below.heap_setCell _ _ _ _ h))))

theorem Blk.store5 {w : World} {b : Nat} {u0 u1 u2 u3 u4 : Value} {t : TypeId} (h : Blk w b #[u0, u1, u2, u3, u4] t) (v0 v1 v2 v3 v4 : Value) : Blk (store5 w b v0 v1 v2 v3 v4) b #[v0, v1, v2, v3, v4] t :=
  ((((h.set 0 v0).set 1 v1).set 2 v2).set 3 v3).set 4 v4

theorem StrsFrom.sub {B : Nat} {w w' : World} {a : Option Addr} {L : List ByteArray} (h : StrsFrom B w a L) (k : ∀ b, B ≤ b → b < w.heap.size → w'.heap[b]? = w.heap[b]?) (hs : w.heap.size ≤ w'.heap.size) {C : Nat} (hC : C ≤ B) : StrsFrom C w' a L := (h.over k hs).mono hC

theorem rd_over (w1 : World) (z : Nat) (o : Obj) (u0 u1 u2 u3 u4 : Value) {a : Option Addr} {L : List ByteArray} (hS : StrsFrom (z + 1) w1 a L) : StrsFrom z ((store5 w1 z u0 u1 u2 u3 u4).alloc o) a L :=
  ((hS.store5 (by omega) u0 u1 u2 u3 u4).below ((Below.refl _ _).alloc (Nat.le_refl _) _)).mono (by omega)

set_option maxHeartbeats 1600000 in
theorem readable_any (n : Nat) (s : ByteArray) (w : World) (hn : n < 4294967296) (hm : s.size ≤ maxLen) :
    Calls Tryz.prog 117 #[.int .u32 n, .string s] w fun x w' => ∃ a c, x = .returned (.tuple #[(rdP n s).val a c, .bool (rdB n s)]) ∧ StrsFrom w.heap.size w' a (rdP n s).slots ∧ Below w.heap.size w w' := by
  have HD : Hid (∀ W, Calls Tryz.prog 23 #[.string s] W fun x w' => ∃ a c, x = .returned (.tuple #[(decP s).val a c, .int .i64 (decE s)]) ∧ StrsFrom W.heap.size w' a (decP s).slots ∧ Below W.heap.size W w') := fun W => decode_any s W hm
  have hnum := (decP_fit s).num
  have HB : Hid (rdB n s = decide (decE s = 0 ∧ ((decP s).num = n ∨ (decP s).num = 0))) := rfl
  have HP : Hid (rdP n s = if rdB n s = true then { decP s with num := n } else sheet0) := rfl
  generalize rdB n s = B at *
  generalize rdP n s = P at *
  generalize decE s = E at *
  generalize decP s = D at *
  obtain ⟨num, lsn, kind, head, L⟩ := D
  simp only [SheetV.val] at HD
  go_enter Tryz.func117, Tryz.ntmps117
  go_wp2_with fail
  refine (HD.out _).mono ?_
  rintro x w1 ⟨a, c, rfl, hS, hb⟩
  have hlt : w.heap.size < w1.heap.size := by have := hb.size; simp at this; omega
  have hZ : Blk w1 w.heap.size zero5 56 := (Blk.made w zero5 56).same (hb.block _ (by simp))
  have f0 := hZ.frozen 0
  have f1 := hZ.frozen 1
  have f2 := hZ.frozen 2
  have f3 := hZ.frozen 3
  have f4 := hZ.frozen 4
  have c0 := hZ.cell 0
  have c1 := hZ.cell 1
  have c2 := hZ.cell 2
  have c3 := hZ.cell 3
  have c4 := hZ.cell 4
  simp only [zero5] at c0 c1 c2 c3 c4
  have hS' : StrsFrom (w.heap.size + 1) w1 a L := by simpa using hS
  have hb1 : Below w.heap.size w w1 := ((Below.refl _ _).alloc (Nat.le_refl _) _).trans (hb.mono (by simp))
  by_cases hE : E = 0
  · subst hE
    by_cases h1 : num = n
    · subst h1
      have h1' : ¬ ((num : Int) ≠ num) := by simp
      go_wp2
      refine bodyPost_ret (v := .tuple #[.agg #[.int .u32 num, .int .u64 lsn, .int .i64 kind, .string head, .slice a L.length c], .bool true]) (by simp [results, Tryz.results117, go_sem, c0, c1, c2, c3, c4, hlt]) rfl ?_
      have hB : B = true := by rw [HB.out]; simp
      have hP : P = ⟨num, lsn, kind, head, L⟩ := by rw [HP.out, hB]; rfl
      rw [hP, hB]
      refine ⟨a, c, rfl, ?_, ?_⟩
      · exact rd_over w1 _ _ _ _ _ _ _ hS'
      · exact (below_set5 hb1 (Nat.le_refl _) _ _ _ _ _).alloc (by rw [store5_size]; omega) _
    · have h1' : ¬ ((num : Int) = n) := by omega
      by_cases h2 : num = 0
      · subst h2
        go_wp2
        refine bodyPost_ret (v := .tuple #[.agg #[.int .u32 n, .int .u64 lsn, .int .i64 kind, .string head, .slice a L.length c], .bool true]) (by simp [results, Tryz.results117, go_sem, c0, c1, c2, c3, c4, hlt]) rfl ?_
        have hB : B = true := by rw [HB.out]; simp
        have hP : P = ⟨n, lsn, kind, head, L⟩ := by rw [HP.out, hB]; rfl
        rw [hP, hB]
        refine ⟨a, c, rfl, ?_, ?_⟩
        · exact rd_over w1 _ _ _ _ _ _ _ hS'
        · exact (below_set5 hb1 (Nat.le_refl _) _ _ _ _ _).alloc (by rw [store5_size]; omega) _
      · have h2' : ¬ ((num : Int) = 0) := by omega
        go_wp2
        refine bodyPost_ret (v := .tuple #[.agg #[.int .u32 0, .int .u64 0, .int .i64 0, .string ⟨#[]⟩, .slice none 0 0], .bool false]) (by simp [results, Tryz.results117, go_sem, c0, c1, c2, c3, c4, hlt]) rfl ?_
        have hB : B = false := by rw [HB.out]; simp [h1, h2]
        have hP : P = sheet0 := by rw [HP.out, hB]; rfl
        rw [hP, hB]
        exact ⟨none, 0, rfl, .inl rfl, (below_set5 hb1 (Nat.le_refl _) _ _ _ _ _).alloc (by rw [store5_size]; omega) _⟩
        rename_i hbad
        have hbad' : (num : Int) = n ∨ num = 0 := by simpa using hbad
        omega
  · go_wp2
    refine bodyPost_ret (v := .tuple #[.agg #[.int .u32 0, .int .u64 0, .int .i64 0, .string ⟨#[]⟩, .slice none 0 0], .bool false]) (by simp [results, Tryz.results117, go_sem, c0, c1, c2, c3, c4, hlt]) rfl ?_
    have hB : B = false := by rw [HB.out]; simp [hE]
    have hP : P = sheet0 := by rw [HP.out, hB]; rfl
    rw [hP, hB]
    exact ⟨none, 0, rfl, .inl rfl, (below_set5 hb1 (Nat.le_refl _) _ _ _ _ _).alloc (by rw [store5_size]; omega) _⟩

end Go.Proofs.YtgmfgkdecpldeaaGreat

namespace Go.Proofs.YtgmfgkdecpldeaaGreat
open Go.RowKit Go.Sort
set_option linter.unusedVariables false

/-- Has a page nothing but its number? -/
def blankB (p : SheetV) : Bool := decide (p.lsn = 0) && sameB p ⟨p.num, 0, 0, ⟨#[]⟩, []⟩

set_option maxHeartbeats 1600000 in
theorem pblank_any (p : SheetV) (a1 : Option Addr) (c : Nat) (w : World) (hp : p.Ok w a1) :
    Calls Tryz.prog 140 #[p.val a1 c] w fun e w' => e = .returned (.bool (blankB p)) ∧ Below w.heap.size w w' := by
  have hq : ∀ wx, SheetV.Ok ⟨p.num, 0, 0, ⟨#[]⟩, []⟩ wx none := fun wx => ⟨hp.num, by show (0 : Nat) < _; omega, by show (-9223372036854775808 : Int) ≤ 0 ∧ (0 : Int) ≤ 9223372036854775807; omega, by show 0 ≤ _; omega, by show 0 ≤ _; omega, (by intro s hs; cases hs), StrsAt.nil _ _⟩
  have HSM : Hid (∀ wx, Below w.heap.size w wx → Calls Tryz.prog 35 #[p.val a1 c, SheetV.val ⟨p.num, 0, 0, ⟨#[]⟩, []⟩ none 0] wx fun e w' => e = .returned (.bool (sameB p ⟨p.num, 0, 0, ⟨#[]⟩, []⟩)) ∧ Below wx.heap.size wx w') := fun wx hb => same_any p _ a1 none c 0 wx (hp.below hb) (hq wx)
  have HBL : Hid (∀ wx, Calls Tryz.prog 62 #[.int .u32 p.num] wx fun x w' => x = .returned (.agg #[.int .u32 p.num, .int .u64 0, .int .i64 0, .string ⟨#[]⟩, .slice none 0 0]) ∧ Below wx.heap.size wx w') := fun wx => blank_any p.num wx
  have hl1 := hp.lsn
  have HB : Hid (blankB p = (decide (p.lsn = 0) && sameB p ⟨p.num, 0, 0, ⟨#[]⟩, []⟩)) := rfl
  generalize blankB p = B at *
  generalize sameB p ⟨p.num, 0, 0, ⟨#[]⟩, []⟩ = R at *
  clear hp hq
  obtain ⟨n1, l1, k1, h1, L⟩ := p
  simp only [SheetV.val] at *
  obtain ⟨W, HW⟩ : ∃ W, Hid (W = w.alloc (.cells #[.int .u32 n1, .int .u64 l1, .int .i64 k1, .string h1, .slice a1 L.length c] 56)) := ⟨_, rfl⟩
  have bel : Below w.heap.size w W := by rw [HW.out]; exact (Below.refl _ _).alloc (Nat.le_refl _) _
  have r1 : RowV W w.heap.size 5 (five (.int .u32 n1) (.int .u64 l1) (.int .i64 k1) (.string h1) (.slice a1 L.length c)) := by rw [HW.out]; exact RowV.five_new w _ _ _ _ _ _
  obtain ⟨x0, x1, x2, x3, x4⟩ := r1.cells5
  clear r1
  have gx0 := cell_regrown x0
  have gx1 := cell_regrown x1
  have gx2 := cell_regrown x2
  have gx3 := cell_regrown x3
  have gx4 := cell_regrown x4
  have cB : ∀ dd os, Calls Tryz.prog 62 #[.int .u32 n1] (grow (redrawn W dd) os) fun e w'' => e = .returned (.agg #[.int .u32 n1, .int .u64 0, .int .i64 0, .string ⟨#[]⟩, .slice none 0 0]) ∧ ∃ p : Regrown, w'' = grow (redrawn W p.d) p.os := fun dd os => Calls.regrown_of (HBL.out _)
  have cS : ∀ dd os, Calls Tryz.prog 35 #[.agg #[.int .u32 n1, .int .u64 l1, .int .i64 k1, .string h1, .slice a1 L.length c], .agg #[.int .u32 n1, .int .u64 0, .int .i64 0, .string ⟨#[]⟩, .slice none 0 0]] (grow (redrawn W dd) os) fun e w'' => e = .returned (.bool R) ∧ ∃ p : Regrown, w'' = grow (redrawn W p.d) p.os := fun dd os => Calls.regrown_of (HSM.out _ (below_chain bel (below_regrown W dd os)))
  by_cases e1 : l1 = 0
  · have e1' : ((l1 : Int) == 0) = true := by rw [beq_iff_eq]; omega
    have E1 : Hid (l1 = 0) := e1
    clear e1
    go_enter Tryz.func140, Tryz.ntmps140
    go_wp2_with fail
    rw [← HW.out]
    refine wp_region_quiet_below mixed (by kernel_rfl) ?_
    repeat (quiet_step (first | exact cB _ _ | exact cS _ _))
    refine wpQuiet_nil ?_
    intro _ hw'
    obtain ⟨⟨dq, osq⟩, hw''⟩ := hw'
    subst hw''
    go_wp2
    go_ret
    exact ⟨by rw [HB.out]; simp [E1.out], below_chain bel (below_regrown W dq osq)⟩
  · have e1' : ((l1 : Int) == 0) = false := by rw [beq_eq_false_iff_ne]; omega
    have E1 : Hid (¬ l1 = 0) := e1
    clear e1
    go_enter Tryz.func140, Tryz.ntmps140
    go_wp2_with fail
    rw [← HW.out]
    refine wp_region_quiet_below mixed (by kernel_rfl) ?_
    repeat (first | go_big_quiet_step (first | exact cB _ _ | exact cS _ _) | quiet_step (first | exact cB _ _ | exact cS _ _))
    refine wpQuiet_nil ?_
    intro _ hw'
    obtain ⟨⟨dq, osq⟩, hw''⟩ := hw'
    subst hw''
    go_wp2
    go_ret
    exact ⟨by rw [HB.out]; simp [E1.out], below_chain bel (below_regrown W dq osq)⟩

/-- Is a twin passed over for the place? -/
def givesB (y x : SheetV) : Bool := blankB y || (!blankB x && decide (y.lsn ≤ x.lsn))

set_option maxHeartbeats 1600000 in
theorem gives_any (y x : SheetV) (a1 a2 : Option Addr) (c d : Nat) (w : World) (hy : y.Ok w a1) (hx : x.Ok w a2) :
    Calls Tryz.prog 118 #[y.val a1 c, x.val a2 d] w fun e w' => e = .returned (.bool (givesB y x)) ∧ Below w.heap.size w w' := by
  have HY : Hid (∀ wx, Below w.heap.size w wx → Calls Tryz.prog 140 #[y.val a1 c] wx fun e w' => e = .returned (.bool (blankB y)) ∧ Below wx.heap.size wx w') := fun wx hb => pblank_any y a1 c wx (hy.below hb)
  have HX : Hid (∀ wx, Below w.heap.size w wx → Calls Tryz.prog 140 #[x.val a2 d] wx fun e w' => e = .returned (.bool (blankB x)) ∧ Below wx.heap.size wx w') := fun wx hb => pblank_any x a2 d wx (hx.below hb)
  have HG : Hid (givesB y x = (blankB y || (!blankB x && decide (y.lsn ≤ x.lsn)))) := rfl
  have hl1 := hy.lsn
  have hl2 := hx.lsn
  generalize givesB y x = G at *
  generalize blankB y = BY at *
  generalize blankB x = BX at *
  clear hy hx
  obtain ⟨n1, l1, k1, h1, L⟩ := y
  obtain ⟨n2, l2, k2, h2, M⟩ := x
  simp only [SheetV.val] at *
  obtain ⟨W, HW⟩ : ∃ W, Hid (W = (w.alloc (.cells #[.int .u32 n1, .int .u64 l1, .int .i64 k1, .string h1, .slice a1 L.length c] 56)).alloc (.cells #[.int .u32 n2, .int .u64 l2, .int .i64 k2, .string h2, .slice a2 M.length d] 56)) := ⟨_, rfl⟩
  have bel : Below w.heap.size w W := by rw [HW.out]; exact ((Below.refl _ _).alloc (Nat.le_refl _) _).alloc (by simp) _
  have r1 : RowV W w.heap.size 5 (five (.int .u32 n1) (.int .u64 l1) (.int .i64 k1) (.string h1) (.slice a1 L.length c)) := by
    rw [HW.out]; exact (RowV.five_new w _ _ _ _ _ _).below ((Below.refl _ _).alloc (Nat.le_refl _) _) (by simp)
  have r2 : RowV W (w.heap.size + 1) 5 (five (.int .u32 n2) (.int .u64 l2) (.int .i64 k2) (.string h2) (.slice a2 M.length d)) := by
    rw [HW.out]
    have := RowV.five_new (w.alloc (.cells #[.int .u32 n1, .int .u64 l1, .int .i64 k1, .string h1, .slice a1 L.length c] 56)) (.int .u32 n2) (.int .u64 l2) (.int .i64 k2) (.string h2) (.slice a2 M.length d) 56
    simpa using this
  have hz : w.heap.size + 2 ≤ W.heap.size := by rw [HW.out]; simp
  obtain ⟨x0, x1, x2, x3, x4⟩ := r1.cells5
  obtain ⟨y0, y1, y2, y3, y4⟩ := r2.cells5
  go_enter Tryz.func118, Tryz.ntmps118
  go_wp2_with fail
  rw [← HW.out]
  refine (HY.out _ bel).mono ?_
  rintro e w1 ⟨rfl, b1⟩
  have r1' := r1.below b1 (by omega)
  have r2' := r2.below b1 (by omega)
  have bel1 := below_chain bel b1
  have hz1 := Nat.le_trans hz b1.size
  clear x0 x1 x2 x3 x4 y0 y1 y2 y3 y4 r1 r2 HW
  obtain ⟨x0, x1, x2, x3, x4⟩ := r1'.cells5
  obtain ⟨y0, y1, y2, y3, y4⟩ := r2'.cells5
  cases BY
  · go_wp2_with fail
    refine (HX.out _ bel1).mono ?_
    rintro e w2 ⟨rfl, b2⟩
    have r1'' := r1'.below b2 (by omega)
    have r2'' := r2'.below b2 (by omega)
    have bel2 := below_chain bel1 b2
    clear x0 x1 x2 x3 x4 y0 y1 y2 y3 y4 r1' r2' bel1 bel
    obtain ⟨x0, x1, x2, x3, x4⟩ := r1''.cells5
    obtain ⟨y0, y1, y2, y3, y4⟩ := r2''.cells5
    cases BX
    · go_wp2
      go_ret
      exact ⟨by rw [HG.out]; simp, bel2⟩
    · go_wp2
      go_ret
      exact ⟨by rw [HG.out]; simp, bel2⟩
  · go_wp2
    go_ret
    exact ⟨by rw [HG.out]; simp, bel1⟩

end Go.Proofs.YtgmfgkdecpldeaaGreat

namespace Go.Proofs.YtgmfgkdecpldeaaGreat
open Go.RowKit Go.Sort
set_option linter.unusedVariables false

/-- Does the place count? -/
def chP (n : Nat) (p t : ByteArray) : Bool := rdB n p && (!rdB n t || givesB (rdP n t) (rdP n p))
/-- The page that counts. -/
def chX (n : Nat) (p t : ByteArray) : SheetV := if chP n p t = true then rdP n p else if rdB n t = true then rdP n t else sheet0
/-- Is it the twin? -/
def chT (n : Nat) (p t : ByteArray) : Bool := !chP n p t && rdB n t
def chE (n : Nat) (p t : ByteArray) : Int := if chP n p t = true then 0 else if rdB n t = true then 0 else 60

theorem sh_ok {n : Nat} (hn : n < 4294967296) (s : ByteArray) {B : Nat} {w : World} {a : Option Addr} (h : StrsFrom B w a (rdP n s).slots) : (rdP n s).Ok w a := (rdP_fit hn s).ok h.at

/-- A page is told, in new memory. -/
structure ShOut (w : World) (X : SheetV) (f : Value → Ending) (x : Ending) (w' : World) : Prop where
  out : ∃ a c, x = f (X.val a c) ∧ StrsFrom w.heap.size w' a X.slots ∧ Below w.heap.size w w'

/-- Two boxes and a result's box, with what their pages' slots are. -/
structure ChAt (w W : World) (q1 q2 : Nat) (X Y : SheetV) (a1 a2 : Option Addr) (c1 c2 : Nat) : Prop where
  z : Blk W (w.heap.size + 1) zero5 56
  x : Blk W q1 (X.arr a1 c1) 56
  y : Blk W q2 (Y.arr a2 c2) 56
  l1 : w.heap.size + 1 < q1
  l2 : q1 < q2
  l3 : q2 < W.heap.size
  sx : StrsFrom (w.heap.size + 2) W a1 X.slots
  sy : StrsFrom (w.heap.size + 2) W a2 Y.slots
  bel : Below w.heap.size w W

theorem ChAt.below {w W W' : World} {q1 q2 : Nat} {X Y : SheetV} {a1 a2 : Option Addr} {c1 c2 : Nat} (h : ChAt w W q1 q2 X Y a1 a2 c1 c2) (b : Below W.heap.size W W') : ChAt w W' q1 q2 X Y a1 a2 c1 c2 := by
  have h1 := h.l1
  have h2 := h.l2
  have h3 := h.l3
  exact ⟨h.z.same (b.block _ (by omega)), h.x.same (b.block _ (by omega)), h.y.same (b.block _ (by omega)), h1, h2, Nat.lt_of_lt_of_le h3 b.size, h.sx.below b, h.sy.below b, below_chain h.bel b⟩

/-- Its cells. -/
structure ChC (w W : World) (q1 q2 : Nat) (X Y : SheetV) (a1 a2 : Option Addr) (c1 c2 : Nat) : Prop where
  x0 : W.cell? ⟨q1, 0, none⟩ = some (.int .u32 X.num)
  x1 : W.cell? ⟨q1, 1, none⟩ = some (.int .u64 X.lsn)
  x2 : W.cell? ⟨q1, 2, none⟩ = some (.int .i64 X.kind)
  x3 : W.cell? ⟨q1, 3, none⟩ = some (.string X.head)
  x4 : W.cell? ⟨q1, 4, none⟩ = some (.slice a1 X.slots.length c1)
  y0 : W.cell? ⟨q2, 0, none⟩ = some (.int .u32 Y.num)
  y1 : W.cell? ⟨q2, 1, none⟩ = some (.int .u64 Y.lsn)
  y2 : W.cell? ⟨q2, 2, none⟩ = some (.int .i64 Y.kind)
  y3 : W.cell? ⟨q2, 3, none⟩ = some (.string Y.head)
  y4 : W.cell? ⟨q2, 4, none⟩ = some (.slice a2 Y.slots.length c2)
  f0 : W.frozen? ⟨w.heap.size + 1, 0, none⟩ = false
  f1 : W.frozen? ⟨w.heap.size + 1, 1, none⟩ = false
  f2 : W.frozen? ⟨w.heap.size + 1, 2, none⟩ = false
  f3 : W.frozen? ⟨w.heap.size + 1, 3, none⟩ = false
  f4 : W.frozen? ⟨w.heap.size + 1, 4, none⟩ = false
  z0 : W.cell? ⟨w.heap.size + 1, 0, none⟩ = some (.int .u32 0)
  z1 : W.cell? ⟨w.heap.size + 1, 1, none⟩ = some (.int .u64 0)
  z2 : W.cell? ⟨w.heap.size + 1, 2, none⟩ = some (.int .i64 0)
  z3 : W.cell? ⟨w.heap.size + 1, 3, none⟩ = some (.string ⟨#[]⟩)
  z4 : W.cell? ⟨w.heap.size + 1, 4, none⟩ = some (.slice none 0 0)

theorem ChAt.cells {w W : World} {q1 q2 : Nat} {X Y : SheetV} {a1 a2 : Option Addr} {c1 c2 : Nat} (h : ChAt w W q1 q2 X Y a1 a2 c1 c2) : ChC w W q1 q2 X Y a1 a2 c1 c2 :=
  ⟨h.x.cell 0, h.x.cell 1, h.x.cell 2, h.x.cell 3, h.x.cell 4, h.y.cell 0, h.y.cell 1, h.y.cell 2, h.y.cell 3, h.y.cell 4, h.z.frozen 0, h.z.frozen 1, h.z.frozen 2, h.z.frozen 3, h.z.frozen 4, h.z.cell 0, h.z.cell 1, h.z.cell 2, h.z.cell 3, h.z.cell 4⟩

set_option maxHeartbeats 3200000 in
theorem choose_any (n : Nat) (p t : ByteArray) (w : World) (hn : n < 4294967296) (hp : p.size ≤ maxLen) (ht : t.size ≤ maxLen) :
    Calls Tryz.prog 92 #[.agg #[.string p, .string t], .int .u32 n] w (ShOut w (chX n p t) fun v => .returned (.tuple #[v, .bool (chT n p t), .int .i64 (chE n p t)])) := by
  have HR1 : Hid (∀ (W : World), Calls Tryz.prog 117 #[.int .u32 n, .string p] W fun x w' => ∃ a c, x = .returned (.tuple #[(rdP n p).val a c, .bool (rdB n p)]) ∧ StrsFrom W.heap.size w' a (rdP n p).slots ∧ Below W.heap.size W w') := fun W => readable_any n p W hn hp
  have HR2 : Hid (∀ (W : World), Calls Tryz.prog 117 #[.int .u32 n, .string t] W fun x w' => ∃ a c, x = .returned (.tuple #[(rdP n t).val a c, .bool (rdB n t)]) ∧ StrsFrom W.heap.size w' a (rdP n t).slots ∧ Below W.heap.size W w') := fun W => readable_any n t W hn ht
  have HG : Hid (∀ (a1 a2 : Option Addr) (c d B1 B2 : Nat) (W : World), StrsFrom B1 W a1 (rdP n t).slots → StrsFrom B2 W a2 (rdP n p).slots → Calls Tryz.prog 118 #[(rdP n t).val a1 c, (rdP n p).val a2 d] W fun e w' => e = .returned (.bool (givesB (rdP n t) (rdP n p))) ∧ Below W.heap.size W w') := fun a1 a2 c d B1 B2 W h1 h2 => gives_any _ _ a1 a2 c d W (sh_ok hn t h1) (sh_ok hn p h2)
  have HP : Hid (chP n p t = (rdB n p && (!rdB n t || givesB (rdP n t) (rdP n p)))) := rfl
  have HX : Hid (chX n p t = if chP n p t = true then rdP n p else if rdB n t = true then rdP n t else sheet0) := rfl
  have HT : Hid (chT n p t = (!chP n p t && rdB n t)) := rfl
  have HE : Hid (chE n p t = if chP n p t = true then 0 else if rdB n t = true then 0 else 60) := rfl
  generalize chX n p t = CX at *
  generalize chT n p t = CT at *
  generalize chE n p t = CE at *
  generalize chP n p t = CP at *
  generalize givesB (rdP n t) (rdP n p) = GB at *
  generalize rdP n p = X at *
  generalize rdB n p = BX at *
  generalize rdP n t = Y at *
  generalize rdB n t = BY at *
  obtain ⟨W0, HW0⟩ : ∃ W0, Hid (W0 = (w.alloc (.cells #[.string p, .string t] 150)).alloc (.cells #[.int .u32 0, .int .u64 0, .int .i64 0, .string ⟨#[]⟩, .slice none 0 0] 56)) := ⟨_, rfl⟩
  have b0 : Below w.heap.size w W0 := by rw [HW0.out]; exact ((Below.refl _ _).alloc (Nat.le_refl _) _).alloc (by simp) _
  have s0 : W0.heap.size = w.heap.size + 2 := by rw [HW0.out]; simp
  have kb : Blk W0 w.heap.size #[.string p, .string t] 150 := by rw [HW0.out]; exact (Blk.made w _ _).same (heap_old _ _ (by simp))
  have kz : Blk W0 (w.heap.size + 1) zero5 56 := by
    rw [HW0.out]
    have := Blk.made (w.alloc (.cells #[.string p, .string t] 150)) zero5 56
    have e : (w.alloc (.cells #[.string p, .string t] 150)).heap.size = w.heap.size + 1 := by simp
    rw [e] at this
    exact this
  have e0 : W0.cell? ⟨w.heap.size, 0, none⟩ = some (.string p) := kb.cell 0
  have e1 : W0.cell? ⟨w.heap.size, 1, none⟩ = some (.string t) := kb.cell 1
  go_enter Tryz.func92, Tryz.ntmps92
  go_wp2_with fail
  rw [← HW0.out]
  refine (HR1.out _).mono ?_
  rintro x w1 ⟨a1, c1, rfl, hs1, b1⟩
  have z1 : w.heap.size + 2 ≤ w1.heap.size := by have := b1.size; omega
  have kb1 := kb.same (b1.block _ (by omega))
  have kz1 := kz.same (b1.block _ (by omega))
  rw [s0] at hs1
  have bel1 := below_chain b0 b1
  clear e0 e1 kb kz b0 b1 HW0 s0
  have e1 : w1.cell? ⟨w.heap.size, 1, none⟩ = some (.string t) := kb1.cell 1
  have hl1 : w.heap.size < w1.heap.size := by omega
  have HXV : Hid (X.val a1 c1 = .agg #[.int .u32 X.num, .int .u64 X.lsn, .int .i64 X.kind, .string X.head, .slice a1 X.slots.length c1]) := rfl
  rw [HXV.out]
  obtain ⟨W2, HW2⟩ : ∃ W2, Hid (W2 = w1.alloc (.cells #[.int .u32 X.num, .int .u64 X.lsn, .int .i64 X.kind, .string X.head, .slice a1 X.slots.length c1] 56)) := ⟨_, rfl⟩
  go_wp2_with fail
  rw [← HW2.out]
  have z2 : W2.heap.size = w1.heap.size + 1 := by rw [HW2.out]; simp
  have b2 : Below w1.heap.size w1 W2 := by rw [HW2.out]; exact (Below.refl _ _).alloc (Nat.le_refl _) _
  have kx2 : Blk W2 w1.heap.size (X.arr a1 c1) 56 := by rw [HW2.out]; exact Blk.made w1 _ _
  have kz2 := kz1.same (b2.block _ (by omega))
  have hs2 := hs1.below b2
  have bel2 := below_chain bel1 b2
  clear HW2 b2 kz1 kb1 hs1 e1
  refine (HR2.out _).mono ?_
  rintro x w3 ⟨a2, c2, rfl, hs3, b3⟩
  have HYV : Hid (Y.val a2 c2 = .agg #[.int .u32 Y.num, .int .u64 Y.lsn, .int .i64 Y.kind, .string Y.head, .slice a2 Y.slots.length c2]) := rfl
  rw [HYV.out]
  obtain ⟨W4, HW4⟩ : ∃ W4, Hid (W4 = w3.alloc (.cells #[.int .u32 Y.num, .int .u64 Y.lsn, .int .i64 Y.kind, .string Y.head, .slice a2 Y.slots.length c2] 56)) := ⟨_, rfl⟩
  have b4 : Below w3.heap.size w3 W4 := by rw [HW4.out]; exact (Below.refl _ _).alloc (Nat.le_refl _) _
  have z3 := b3.size
  have C : ChAt w W4 w1.heap.size w3.heap.size X Y a1 a2 c1 c2 := by
    refine ⟨(kz2.same (b3.block _ (by omega))).same (b4.block _ (by omega)), (kx2.same (b3.block _ (by omega))).same (b4.block _ (by omega)), ?_, by omega, by omega, ?_, (hs2.below b3).below b4, (hs3.mono (by omega)).below b4, below_chain (below_chain bel2 b3) b4⟩
    · rw [HW4.out]; exact Blk.made w3 _ _
    · rw [HW4.out]; simp
  generalize w1.heap.size = q1 at *
  go_upto_region 3 with fail
  rw [← HW4.out]
  generalize w3.heap.size = q2 at *
  clear HW4 b4 b3 z3 hs3 hs2 kx2 kz2 bel2 z2 HXV HYV HR1 HR2 bel1 hl1 z1
  have l1 := C.l1
  have l2 := C.l2
  obtain ⟨x0, x1, x2, x3, x4, y0, y1, y2, y3, y4, f0, f1, f2, f3, f4, z0, z1, z2, z3, z4⟩ := C.cells
  cases BX
  · cases BY
    · go_wp2_with fail
      refine bodyPost_ret (v := .tuple #[.agg #[.int .u32 0, .int .u64 0, .int .i64 0, .string ⟨#[]⟩, .slice none 0 0], .bool false, .int .i64 60]) (by simp [results, Tryz.results92, go_sem, z0, z1, z2, z3, z4]) rfl ?_
      have hCP : CP = false := by rw [HP.out]; simp
      rw [hCP] at HX HT HE
      have hX : CX = sheet0 := by rw [HX.out]; simp
      have hT : CT = false := by rw [HT.out]; simp
      have hE : CE = 60 := by rw [HE.out]; simp
      rw [hX, hT, hE]
      exact ⟨⟨none, 0, rfl, .inl rfl, below_set5 C.bel (by omega) _ _ _ _ _⟩⟩
    · go_wp2_with fail
      refine bodyPost_ret (v := .tuple #[.agg #[.int .u32 Y.num, .int .u64 Y.lsn, .int .i64 Y.kind, .string Y.head, .slice a2 Y.slots.length c2], .bool true, .int .i64 0]) (by simp [results, Tryz.results92, go_sem, z0, z1, z2, z3, z4]) rfl ?_
      have hCP : CP = false := by rw [HP.out]; simp
      rw [hCP] at HX HT HE
      have hX : CX = Y := by rw [HX.out]; simp
      have hT : CT = true := by rw [HT.out]; simp
      have hE : CE = 0 := by rw [HE.out]; simp
      rw [hX, hT, hE]
      exact ⟨⟨a2, c2, rfl, (C.sy.store5 (by omega) _ _ _ _ _).mono (by omega), below_set5 C.bel (by omega) _ _ _ _ _⟩⟩
  · cases BY
    · go_wp2_with fail
      refine bodyPost_ret (v := .tuple #[.agg #[.int .u32 X.num, .int .u64 X.lsn, .int .i64 X.kind, .string X.head, .slice a1 X.slots.length c1], .bool false, .int .i64 0]) (by simp [results, Tryz.results92, go_sem, z0, z1, z2, z3, z4]) rfl ?_
      have hCP : CP = true := by rw [HP.out]; simp
      rw [hCP] at HX HT HE
      have hX : CX = X := by rw [HX.out]; simp
      have hT : CT = false := by rw [HT.out]; simp
      have hE : CE = 0 := by rw [HE.out]; simp
      rw [hX, hT, hE]
      exact ⟨⟨a1, c1, rfl, (C.sx.store5 (by omega) _ _ _ _ _).mono (by omega), below_set5 C.bel (by omega) _ _ _ _ _⟩⟩
    · go_wp2_with fail
      refine (HG.out a2 a1 c2 c1 _ _ _ C.sy C.sx).mono ?_
      rintro x w5 ⟨rfl, b5⟩
      have C5 := C.below b5
      clear C x0 x1 x2 x3 x4 y0 y1 y2 y3 y4 f0 f1 f2 f3 f4 z0 z1 z2 z3 z4
      obtain ⟨x0, x1, x2, x3, x4, y0, y1, y2, y3, y4, f0, f1, f2, f3, f4, z0, z1, z2, z3, z4⟩ := C5.cells
      cases GB
      · go_wp2_with fail
        refine bodyPost_ret (v := .tuple #[.agg #[.int .u32 Y.num, .int .u64 Y.lsn, .int .i64 Y.kind, .string Y.head, .slice a2 Y.slots.length c2], .bool true, .int .i64 0]) (by simp [results, Tryz.results92, go_sem, z0, z1, z2, z3, z4]) rfl ?_
        have hCP : CP = false := by rw [HP.out]; simp
        rw [hCP] at HX HT HE
        have hX : CX = Y := by rw [HX.out]; simp
        have hT : CT = true := by rw [HT.out]; simp
        have hE : CE = 0 := by rw [HE.out]; simp
        rw [hX, hT, hE]
        exact ⟨⟨a2, c2, rfl, (C5.sy.store5 (by omega) _ _ _ _ _).mono (by omega), below_set5 C5.bel (by omega) _ _ _ _ _⟩⟩
      · go_wp2_with fail
        refine bodyPost_ret (v := .tuple #[.agg #[.int .u32 X.num, .int .u64 X.lsn, .int .i64 X.kind, .string X.head, .slice a1 X.slots.length c1], .bool false, .int .i64 0]) (by simp [results, Tryz.results92, go_sem, z0, z1, z2, z3, z4]) rfl ?_
        have hCP : CP = true := by rw [HP.out]; simp
        rw [hCP] at HX HT HE
        have hX : CX = X := by rw [HX.out]; simp
        have hT : CT = false := by rw [HT.out]; simp
        have hE : CE = 0 := by rw [HE.out]; simp
        rw [hX, hT, hE]
        exact ⟨⟨a1, c1, rfl, (C5.sx.store5 (by omega) _ _ _ _ _).mono (by omega), below_set5 C5.bel (by omega) _ _ _ _ _⟩⟩

end Go.Proofs.YtgmfgkdecpldeaaGreat

namespace Go.Proofs.YtgmfgkdecpldeaaGreat
open Go.RowKit
set_option linter.unusedVariables false

/-- An element, whatever it is. -/
def rawElem (v : Value) : Option (DataW Value × List MemPlace) := some (.held v, [])

/-- What a map has at a key; z, if it has nothing there. -/
def getV (D : DataW Value) (l : Lit) (z : Value) : Value := match D.atKey l (.held z) with | .held v => v | _ => z

/-- Block b is a map of sz entries that reads as D. -/
def MapV (k : TypeId) (w : World) (b sz : Nat) (D : DataW Value) : Prop := w.ownsMap Tryz.prog k rawElem b sz D ∧ Maps.size D = sz

section
variable {k t e : TypeId} {w : World} {b sz : Nat} {D : DataW Value}

theorem MapV.lt (h : MapV k w b sz D) : b < w.heap.size := World.ownsMap.lt h.1

theorem MapV.isMap (h : MapV k w b sz D) : ∃ es c, w.heap[b]? = some (.map es c) := by
  obtain ⟨es, c, hb, _⟩ := h.1
  exact ⟨es, c, hb⟩

theorem MapV.same {w' : World} (h : MapV k w b sz D) (e : w'.heap[b]? = w.heap[b]?) : MapV k w' b sz D := by
  obtain ⟨es, c, hb, r⟩ := h.1
  exact ⟨⟨es, c, e.trans hb, r⟩, h.2⟩

theorem MapV.made (k : TypeId) (w : World) : MapV k (w.alloc (.map #[] 0)) w.heap.size 0 (.map []) := ⟨World.ownsMap_made _ _ _ _, rfl⟩

theorem MapV.of_le {n : Nat} (h : w.ownsMap Tryz.prog k rawElem b n D) : MapV k w b (Maps.size D) D := by
  refine ⟨?_, rfl⟩
  obtain ⟨es, c, hb, F, hs, hD⟩ := h
  refine ⟨es, c, hb, F, ?_, hD⟩
  rw [hD]
  simp [Maps.size, length_sorted]

theorem MapV.look (h : MapV k w b sz D) (K : Maps.Keyed Tryz.prog k) (ht : Tryz.prog.underlying t = some (.map k e)) {z : Value} (hz : (zeroValue e).run Tryz.prog w = .ok z w) {key : Value} {l : Lit} (hk : keyOf Tryz.prog k key = some l) :
    (Instr.lookup t (.map (some b)) key false).run Tryz.prog w = .ok (getV D l z) w := by
  obtain ⟨v, ps, hr, hv⟩ := h.1.lookup K ht hz (zd := .held z) (zp := []) rfl hk
  have hv' : DataW.held v = D.atKey l (.held z) := by
    unfold rawElem at hv
    simp only [Option.some.injEq, Prod.mk.injEq] at hv
    exact hv.1
  rw [hr]
  unfold getV
  rw [← hv']

theorem MapV.lookOk (h : MapV k w b sz D) (K : Maps.Keyed Tryz.prog k) (ht : Tryz.prog.underlying t = some (.map k e)) {z : Value} (hz : (zeroValue e).run Tryz.prog w = .ok z w) {key : Value} {l : Lit} (hk : keyOf Tryz.prog k key = some l) :
    (Instr.lookup t (.map (some b)) key true).run Tryz.prog w = .ok (.tuple #[getV D l z, .bool (Maps.has D l)]) w := by
  obtain ⟨v, ps, hr, hv⟩ := h.1.look_ok K ht hz (zd := .held z) (zp := []) rfl hk
  have hv' : DataW.held v = D.atKey l (.held z) := by
    unfold rawElem at hv
    simp only [Option.some.injEq, Prod.mk.injEq] at hv
    exact hv.1
  rw [hr]
  unfold getV
  rw [← hv']

/-- A store as a function of the world. -/
theorem put_ex (k t e : TypeId) (b : Nat) (key val : Value) : ∃ u : World → World, ∀ (w : World) (sz : Nat) (D : DataW Value) (l : Lit), MapV k w b sz D → Maps.Keyed Tryz.prog k → Tryz.prog.underlying t = some (.map k e) → sz ≤ 1000000 → keyOf Tryz.prog k key = some l →
    (Instr.mapUpdate t (.map (some b)) key val).run Tryz.prog w = .ok () (u w) ∧ MapV k (u w) b (Maps.size (D.put l (.held val))) (D.put l (.held val)) ∧ w.mapTurned (u w) b := by
  refine ⟨fun w => match (Instr.mapUpdate t (.map (some b)) key val).run Tryz.prog w with
    | .ok _ w' => w'
    | _ => w, fun w sz D l h K ht hn hk => ?_⟩
  obtain ⟨w', hr, h1, h2⟩ := h.1.store K ht (by unfold maxLen; omega) hk (show rawElem val = some (.held val, []) from rfl)
  simp only [hr]
  exact ⟨trivial, MapV.of_le h1, h2⟩

/-- Taking out, as a function of the world. -/
theorem del_ex (k t e : TypeId) (b : Nat) (key : Value) (ty : TypeId) : ∃ u : World → World, ∀ (w : World) (sz : Nat) (D : DataW Value) (l : Lit), MapV k w b sz D → Maps.Keyed Tryz.prog k → Tryz.prog.underlying t = some (.map k e) → keyOf Tryz.prog k key = some l →
    (Builtin.delete_ #[t, k] ty #[.map (some b), key]).run Tryz.prog w = .ok (.tuple #[]) (u w) ∧ MapV k (u w) b (Maps.size (D.del l)) (D.del l) ∧ w.mapTurned (u w) b := by
  refine ⟨fun w => match (Builtin.delete_ #[t, k] ty #[.map (some b), key]).run Tryz.prog w with
    | .ok _ w' => w'
    | _ => w, fun w sz D l h K ht hk => ?_⟩
  obtain ⟨w', hr, h1, h2⟩ := h.1.drop K ht hk ty
  simp only [hr]
  exact ⟨trivial, MapV.of_le h1, h2⟩

theorem MapV.tidy (h : MapV k w b sz D) (K : Maps.Keyed Tryz.prog k) : Maps.Tidy D := h.1.tidy K

theorem getV_put_same (hD : Maps.IsMap D) {l : Lit} (hl : WideAt.IsKeyLit l) (v z : Value) : getV (D.put l (.held v)) l z = v := by
  unfold getV; rw [Maps.atKey_put_same hD hl]

theorem getV_put_other {l l' : Lit} (hne : l' ≠ l) (v z : Value) : getV (D.put l (.held v)) l' z = getV D l' z := by
  unfold getV; rw [Maps.atKey_put_other hne]

theorem getV_del_same {l : Lit} (z : Value) : getV (D.del l) l z = z := by
  unfold getV; rw [Maps.atKey_del_same]

theorem getV_del_other {l l' : Lit} (hne : l' ≠ l) (z : Value) : getV (D.del l) l' z = getV D l' z := by
  unfold getV; rw [Maps.atKey_del_other hne]

theorem getV_none {l : Lit} (h : Maps.has D l = false) (z : Value) : getV D l z = z := by
  unfold getV; rw [Maps.atKey_of_not_has h]
end

end Go.Proofs.YtgmfgkdecpldeaaGreat
