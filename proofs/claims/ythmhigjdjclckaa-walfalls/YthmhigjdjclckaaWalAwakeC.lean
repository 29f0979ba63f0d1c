/-
  The walk of girderlaw05.awake.
-/
import Derived.Test.YthmhigjdjclckaaWalFlushC
namespace Go.Proofs.Ythmhigjdjclckaa
open Go.RowKit
set_option linter.unusedVariables false

theorem ext_list (s : ByteArray) (a b : Nat) : (s.extract a b).data.toList = (s.data.toList.drop a).take (b - a) := by
  simp [ByteArray.data_extract, List.extract_eq_take_drop]

theorem bytes_ext {a b : ByteArray} (h : a.data.toList = b.data.toList) : a = b := Go.WideShapes.bytes_inj h

/-- A frame that stands there is found. -/
theorem frameN_here {all : ByteArray} {A r B : List UInt8} (hall : all.data.toList = A ++ (frameL (A.length + 1) r ++ B)) (h1 : 1 ≤ r.length) (h2 : r.length ≤ 8192) : frameN all A.length = r.length + 12 := by
  have hl := frameL_length (A.length + 1) r
  have hsz : all.size = A.length + (r.length + 12 + B.length) := by
    have : all.size = all.data.toList.length := by simp
    rw [this, hall]
    simp [hl]
  have hd : all.data.toList.drop A.length = frameL (A.length + 1) r ++ B := by rw [hall]; exact List.drop_left
  have hp : part all A.length 4 = putL r.length 4 := by
    unfold part
    rw [hd]
    unfold frameL
    rw [List.append_assoc, List.append_assoc, List.append_assoc, List.take_append_of_le_length (by rw [putL_length]; omega), List.take_of_length_le (by rw [putL_length]; omega)]
  have hn : le (part all A.length 4) = r.length := by
    rw [hp, le_putL]
    exact Nat.mod_eq_of_lt (by omega)
  have hx : (all.extract A.length (A.length + (r.length + 12))).data.toList = frameL (A.length + 1) r := by
    rw [ext_list, hd, show A.length + (r.length + 12) - A.length = r.length + 12 by omega, ← hl]
    exact List.take_left
  have hy : ((all.extract A.length (A.length + (r.length + 12))).extract 8 (r.length + 8)).data.toList = r := by
    rw [ext_list, hx, show r.length + 8 - 8 = r.length by omega]
    have e : frameL (A.length + 1) r = (putL r.length 4 ++ putL (crcSum 0 (putL (A.length + 1) 8 ++ r)) 4) ++ (r ++ putL r.length 4) := by simp [frameL]
    rw [e]
    have e8 : (putL r.length 4 ++ putL (crcSum 0 (putL (A.length + 1) 8 ++ r)) 4).length = 8 := by simp [putL_length]
    generalize putL r.length 4 ++ putL (crcSum 0 (putL (A.length + 1) 8 ++ r)) 4 = X at e8 ⊢
    rw [← e8, List.drop_left, List.take_left]
  unfold frameN
  rw [hn, if_pos]
  refine ⟨by omega, h2, by omega, h1, ?_⟩
  apply bytes_ext
  rw [hx]
  unfold frameB
  rw [hy]

theorem frameN_end {all : ByteArray} {a : Nat} (h : all.size < a + 4) : frameN all a = 0 := if_neg fun k => by omega

/-- One frame, and nothing behind it. -/
theorem scan_one (r : List UInt8) (h1 : 1 ≤ r.length) (h2 : r.length ≤ 8192) (n : Nat) : scan ⟨(frameL 1 r).toArray⟩ (n + 2) 0 = ([1], r.length + 12) := by
  have hs : (ByteArray.mk (frameL 1 r).toArray).size = r.length + 12 := by rw [bytes_size, frameL_length]
  have e1 : frameN ⟨(frameL 1 r).toArray⟩ 0 = r.length + 12 := frameN_here (A := []) (B := []) (by simp) h1 h2
  have e2 : frameN ⟨(frameL 1 r).toArray⟩ (r.length + 12) = 0 := frameN_end (by rw [hs]; omega)
  have s1 : scan ⟨(frameL 1 r).toArray⟩ (n + 1) (r.length + 12) = ([], r.length + 12) := by
    show (if _ then _ else _) = _
    rw [if_pos e2]
  show (if _ then _ else _) = _
  rw [if_neg (by rw [e1]; omega), e1, show 0 + (r.length + 12) = r.length + 12 from Nat.zero_add _, s1]

theorem scan_none (n : Nat) : scan ⟨#[]⟩ (n + 1) 0 = ([], 0) := by
  show (if _ then _ else _) = _
  rw [if_pos (frameN_end (by show 0 < 4; omega))]

theorem wnew_out (w : World) (room : Nat) (h1 : 8 ≤ room) (h2 : room ≤ 2048) :
    Calls Try.prog 5 #[.int .i64 room] w fun e w' => ∃ p, e = .returned (.tuple #[.pointer (some ⟨p, 0, none⟩), .int .i64 0]) ∧ (∃ S', IsDisk w' p S' (newD room) ∧ ∀ k, S' k → w.heap.size ≤ k) ∧ Below w.heap.size w w' := by
  refine (new_any w room h1 h2).mono ?_
  rintro e w' ⟨p, rfl, ⟨m, hd, hm⟩, hb⟩
  refine ⟨p, rfl, ⟨m.has p, ⟨m, hd, fun _ x => x, ?_⟩, hm⟩, hb⟩
  rintro k (rfl | x)
  · exact hd.lt
  · exact hd.rest_lt x

/-- The log of a new disk. -/
theorem openL_new (p room : Nat) : openL p (newD room) = log0 p := by
  unfold openL
  have e : scan ⟨(newD room).log.toArray⟩ ((newD room).log.length + 1) 0 = ([], 0) := scan_none 0
  rw [e]
  rfl

theorem below_kept {S : Nat → Prop} {u v w : World} (h : Below u.heap.size u v) (k : Kept S v w) (hS : ∀ i, S i → u.heap.size ≤ i) : Below u.heap.size u w :=
  ⟨k.os.trans h.os, k.tape.trans h.tape, k.output.trans h.output, Nat.le_trans h.size k.size, fun i hi => (k.block i (Nat.lt_of_lt_of_le hi h.size) fun x => by have := hS i x; omega).trans (h.block i hi)⟩

def abB : ByteArray := ⟨#[97, 98]⟩

set_option maxHeartbeats 1600000 in
set_option maxRecDepth 8000 in
theorem awake_any (w : World) : Calls Try.prog 7 #[] w fun e w' => e = .returned (.bool true) ∧ Below w.heap.size w w' := by
  go_enter Try.func7, Try.ntmps7
  go_wp2_with fail
  refine (wnew_out w 8 (by omega) (by omega)).mono ?_
  rintro e w1 ⟨p, rfl, ⟨D1, hd1, hn1⟩, b1⟩
  have HD1 : Hid (IsDisk w1 p D1 (newD 8) ∧ (∀ k, D1 k → w.heap.size ≤ k) ∧ Below w.heap.size w w1) := ⟨hd1, hn1, b1⟩
  clear hd1 hn1 b1
  go_wp2_with fail
  refine (open_out HD1.out.1 rfl (by show 0 ≤ _; omega) (by show (scan ⟨#[]⟩ (0 + 1) 0).2 = 0; rw [scan_none])).mono ?_
  rintro e w2 ⟨q, rfl, ⟨S2, hl2, hn2⟩, b2⟩
  rw [openL_new] at hl2
  have HD2 : Hid (IsLog w2 q S2 (log0 p) ∧ IsDisk w2 p D1 (newD 8) ∧ (∀ k, S2 k → ¬ D1 k) ∧ (∀ k, S2 k ∨ D1 k → w.heap.size ≤ k) ∧ Below w.heap.size w w2) := by
    obtain ⟨h1, h2, h3⟩ := HD1.out
    refine ⟨hl2, h1.below b2, fun k x y => ?_, fun k x => ?_, h3.trans (b2.mono h3.size)⟩
    · have := hn2 k x; have := h1.lt y; omega
    · rcases x with x | x
      · have := hn2 k x; have := h3.size; omega
      · exact h2 k x
  clear HD1 hl2 hn2 b2
  go_wp2_with fail
  refine (append_out HD2.out.1 (by show 0 ≤ _; omega) (by show 0 ≤ _; omega) (by show 0 ≤ _; omega) abB (by decide) (by decide) (by show 2 + 12 + 0 + 0 ≤ 4194304; omega)).mono ?_
  rintro e w3 ⟨rfl, S3, hl3, hm3⟩
  have HD3 : Hid (IsLog w3 q S3 (putG (log0 p) abB) ∧ IsDisk w3 p D1 (newD 8) ∧ (∀ k, S3 k → ¬ D1 k) ∧ (∀ k, S3 k ∨ D1 k → w.heap.size ≤ k) ∧ Below w.heap.size w w3) := by
    obtain ⟨h1, h2, h3, h4, h5⟩ := HD2.out
    have hb := h2.beside hm3 fun k x y => h3 k y x
    refine ⟨hl3, hb.1, fun k x y => hb.2 k y x, fun k x => ?_, below_kept h5 hm3.1 fun k x => h4 k (.inl x)⟩
    rcases x with x | x
    · rcases hm3.2 k x with y | y
      · exact h4 k (.inl y)
      · have := h5.size; omega
    · exact h4 k (.inr x)
  clear HD2 hl3 hm3
  have hab : (frameL 1 [97, 98]).length = 14 := by rw [frameL_length]; rfl
  go_wp2_with fail
  refine (flush_out HD3.out.1 HD3.out.2.1 HD3.out.2.2.1 rfl (by show 0 < (frameL 1 [97, 98]).length; omega) (by show (frameL 1 [97, 98]).length ≤ _; omega) rfl rfl (by show 0 ≤ _; omega) rfl 1 (by show 0 + 1 ≤ 1; omega)).mono ?_
  rintro e w4 ⟨rfl, D4, hl4, hd4, ha4, hn4, hk4⟩
  have HD4 : Hid (IsDisk w4 p D4 (flushD (putG (log0 p) abB) (newD 8)) ∧ (∀ k, D4 k → w.heap.size ≤ k) ∧ Below w.heap.size w w4) := by
    obtain ⟨h1, h2, h3, h4, h5⟩ := HD3.out
    refine ⟨hd4, fun k x => ?_, below_kept h5 hk4 h4⟩
    rcases hn4 k x with y | y
    · exact h4 k (.inr y)
    · have := h5.size; omega
  clear HD3 hl4 hd4 ha4 hn4 hk4
  have hlog : (flushD (putG (log0 p) abB) (newD 8)).log = frameL 1 [97, 98] := rfl
  have hsc : scan ⟨(flushD (putG (log0 p) abB) (newD 8)).log.toArray⟩ ((flushD (putG (log0 p) abB) (newD 8)).log.length + 1) 0 = ([1], 14) := by
    rw [hlog, hab]
    exact scan_one [97, 98] (by decide) (by decide) 13
  go_wp2_with fail
  refine (open_out HD4.out.1 rfl (by rw [hlog]; omega) (by rw [hsc, hlog]; exact hab.symm)).mono ?_
  rintro e w5 ⟨q5, rfl, ⟨S5, hl5, hn5⟩, b5⟩
  have e5 : openL p (flushD (putG (log0 p) abB) (newD 8)) = ⟨p, frameL 1 [97, 98], [1], 14, false, 0⟩ := by
    unfold openL
    rw [hsc, hlog, List.take_of_length_le (by show _ ≤ 14; omega)]
  rw [e5] at hl5
  have HD5 : Hid (IsLog w5 q5 S5 ⟨p, frameL 1 [97, 98], [1], 14, false, 0⟩ ∧ Below w.heap.size w w5) := ⟨hl5, HD4.out.2.2.trans (b5.mono HD4.out.2.2.size)⟩
  clear HD4 hl5 hn5 b5 e5 hsc hlog
  go_wp2_with fail
  refine (get_last HD5.out.1 (fun a b h1 h2 => by simp at h2; omega) (by show 1 ≤ _; omega) (by show (frameL 1 [97, 98]).length ≤ _; omega) 0 1 15 rfl rfl (by omega) (by omega) (by show 15 = (frameL 1 [97, 98]).length + 1; omega)).mono ?_
  rintro e w6 ⟨rfl, n6, rfl⟩
  have erec : recB ⟨p, frameL 1 [97, 98], [1], 14, false, 0⟩ 1 15 = ⟨#[97, 98]⟩ := by
    unfold recB
    have : (List.drop (1 + 7) (frameL 1 [97, 98])).take (15 - 1 - 12) = [97, 98] := by decide +kernel
    simp only [this]
  rw [erec]
  have HB : Hid (Below w.heap.size w (w5.drewN n6)) := below_drewN HD5.out.2 n6
  clear HD5 erec hab
  go_wp2
  go_ret
  exact ⟨rfl, HB.out⟩

end Go.Proofs.Ythmhigjdjclckaa
