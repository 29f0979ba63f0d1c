/-
  Plain mathematics of the sum CRC-32C on natural numbers: what one round, eight rounds, and a list of bytes do to the register. No Go program is named here.
-/
import Derived.WalkKit
import Derived.Test.YtchjboijoebifaaGreatProg
import Derived.WalkSpells
import Derived.WalkLawsBesides
import Derived.Deep.OwnRows
import Derived.SliceStrings
import Derived.BigQuiet
import Derived.Deep.QuietTactic
import Derived.Lib.AppendStr
import Derived.Shelf.LaysM
import Derived.Shelf.Strconv.Clone
set_option linter.unusedVariables false
set_option linter.unusedSimpArgs false
namespace Go.Proofs.YtchjboijoebifaaGreat

def crc1 (r : Nat) : Nat := if r % 2 = 1 then (r / 2) ^^^ 2197175160 else r / 2

def crcN : Nat → Nat → Nat
  | 0, r => r
  | k + 1, r => crc1 (crcN k r)

def crcB (r b : Nat) : Nat := crcN 8 (r ^^^ b)

def crcL (r : Nat) (l : List UInt8) : Nat := l.foldl (fun r b => crcB r b.toNat) r

theorem crc1_lt {r : Nat} (h : r < 4294967296) : crc1 r < 4294967296 := by
  unfold crc1
  split
  · exact Nat.xor_lt_two_pow (n := 32) (by omega) (by omega)
  · omega

theorem crcN_lt {r : Nat} (h : r < 4294967296) (k : Nat) : crcN k r < 4294967296 := by
  induction k with
  | zero => exact h
  | succ k ih => exact crc1_lt ih

theorem crcB_lt {r b : Nat} (h : r < 4294967296) (hb : b < 256) : crcB r b < 4294967296 :=
  crcN_lt (Nat.xor_lt_two_pow (n := 32) (by omega) (by omega)) 8

theorem crcL_lt (l : List UInt8) : ∀ {r : Nat}, r < 4294967296 → crcL r l < 4294967296 := by
  induction l with
  | nil => intro r h; exact h
  | cons b l ih => intro r h; exact ih (crcB_lt h b.toNat_lt)

theorem crcL_snoc (r : Nat) (l : List UInt8) (b : UInt8) : crcL r (l ++ [b]) = crcB (crcL r l) b.toNat := by
  simp [crcL, List.foldl_append]

theorem crcL_append (r : Nat) (l k : List UInt8) : crcL r (l ++ k) = crcL (crcL r l) k := by
  simp [crcL, List.foldl_append]

def crcSum (s : Nat) (l : List UInt8) : Nat := 4294967295 - crcL (4294967295 - s) l

theorem crcSum_lt (s : Nat) (l : List UInt8) : crcSum s l < 4294967296 := by unfold crcSum; omega

theorem crcSum_append {s : Nat} (h : s < 4294967296) (l k : List UInt8) : crcSum (crcSum s l) k = crcSum s (l ++ k) := by
  unfold crcSum
  have := crcL_lt l (r := 4294967295 - s) (by omega)
  rw [crcL_append, show 4294967295 - (4294967295 - crcL (4294967295 - s) l) = crcL (4294967295 - s) l from by omega]

theorem crc1_odd {x : Nat} (hx : x < 4294967296) (h : (bits .and .u32 (x : Int) 1 == 1) = true) :
    bits .xor .u32 ((x : Int) / 2) 2197175160 = ((crc1 x : Nat) : Int) := by
  have h1 := u32_and_nat x 1 hx (by omega)
  rw [show ((1 : Nat) : Int) = 1 from rfl] at h1
  rw [h1, nat_mask1, beq_iff_eq] at h
  have h2 := u32_xor_nat (x / 2) 2197175160 (by omega) (by omega)
  rw [show ((2197175160 : Nat) : Int) = 2197175160 from rfl, show ((x / 2 : Nat) : Int) = (x : Int) / 2 from by omega] at h2
  rw [h2]; unfold crc1; rw [if_pos (by omega)]

theorem crc1_even {x : Nat} (hx : x < 4294967296) (h : (bits .and .u32 (x : Int) 1 == 1) = false) :
    ((x : Int) / 2) = ((crc1 x : Nat) : Int) := by
  have h1 := u32_and_nat x 1 hx (by omega)
  rw [show ((1 : Nat) : Int) = 1 from rfl] at h1
  rw [h1, nat_mask1, beq_eq_false_iff_ne] at h
  unfold crc1; rw [if_neg (by omega)]; omega

theorem ret_int {k : IntKind} {a b : Int} (h : a = b) : Ending.returned (.int k a) = .returned (.int k b) := by rw [h]

theorem not32 {c : Nat} (hc : c < 4294967296) : bits .xor .u32 IntKind.u32.max (c : Int) = ((4294967295 - c : Nat) : Int) := by
  have h := u32_xor_nat 4294967295 c (by omega) hc
  rw [show IntKind.u32.max = ((4294967295 : Nat) : Int) from by decide, h]
  congr 1
  rw [show 4294967295 - c = 2 ^ 32 - (c + 1) from by omega]
  apply Nat.eq_of_testBit_eq
  intro i
  rw [Nat.testBit_xor, Nat.testBit_two_pow_sub_succ (by omega), show 4294967295 = 2 ^ 32 - 1 from rfl, Nat.testBit_two_pow_sub_one]
  by_cases hi : i < 32
  · simp [hi]
  · have : c.testBit i = false := Nat.testBit_lt_two_pow (Nat.lt_of_lt_of_le (by omega : c < 2 ^ 32) (Nat.pow_le_pow_right (by omega) (by omega)))
    simp [hi, this]

end Go.Proofs.YtchjboijoebifaaGreat

namespace Go.Proofs.YtchjboijoebifaaGreat

def le : List UInt8 → Nat
  | [] => 0
  | b :: l => b.toNat + 256 * le l

def byteAt (n i : Nat) : UInt8 := UInt8.ofNat (n / 2 ^ (8 * i))

def putL (n N : Nat) : List UInt8 := (List.range N).map (byteAt n)

def longOf (x : Int) : Nat := min x.toNat 8

theorem putL_length (n N : Nat) : (putL n N).length = N := by simp [putL]

theorem byteAt_int (n i : Nat) : ((n : Int) / 2 ^ (8 * i) % 256) = (((byteAt n i).toNat : Nat) : Int) := by
  simp [byteAt]

theorem byteAt_toNat (n i : Nat) : (byteAt n i).toNat = n / 2 ^ (8 * i) % 256 := by simp [byteAt]

theorem le_lt (l : List UInt8) : le l < 2 ^ (8 * l.length) := by
  induction l with
  | nil => simp [le]
  | cons b l ih =>
    have hb := b.toNat_lt
    rw [List.length_cons, show 8 * (l.length + 1) = 8 + 8 * l.length from by omega, Nat.pow_add]
    simp only [le]
    omega

theorem le_lt_of {l : List UInt8} {n : Nat} (h : l.length ≤ n) : le l < 2 ^ (8 * n) :=
  Nat.lt_of_lt_of_le (le_lt l) (Nat.pow_le_pow_right (by omega) (by omega))

theorem le_lt_64 {l : List UInt8} (h : l.length ≤ 8) : le l < 18446744073709551616 := le_lt_of (n := 8) h

theorem le_append (l k : List UInt8) : le (l ++ k) = le l + 2 ^ (8 * l.length) * le k := by
  induction l with
  | nil => simp [le]
  | cons b l ih =>
    rw [List.length_cons, show 8 * (l.length + 1) = 8 + 8 * l.length from by omega, Nat.pow_add]
    simp only [List.cons_append, le, ih, Nat.mul_add, Nat.mul_assoc]
    omega

theorem le_inj : ∀ {l k : List UInt8}, l.length = k.length → le l = le k → l = k
  | [], [], _, _ => rfl
  | [], _ :: _, h, _ => by simp at h
  | _ :: _, [], h, _ => by simp at h
  | a :: l, b :: k, h, e => by
    simp only [le] at e
    have ha := a.toNat_lt
    have hb := b.toNat_lt
    have e1 : a.toNat = b.toNat := by omega
    have e2 : le l = le k := by omega
    rw [UInt8.toNat_inj.1 e1, le_inj (by simpa using h) e2]

theorem putL_succ (n N : Nat) : putL n (N + 1) = putL n N ++ [byteAt n N] := by
  simp [putL, List.range_succ]

theorem le_putL (n N : Nat) : le (putL n N) = n % 2 ^ (8 * N) := by
  induction N with
  | zero => simp [putL, le, Nat.mod_one]
  | succ N ih =>
    rw [putL_succ, le_append, ih, putL_length, show 8 * (N + 1) = 8 * N + 8 from by omega, Nat.pow_add, Nat.mod_mul]
    simp [le, byteAt_toNat]

theorem le_or (l : List UInt8) (b : UInt8) : le (l ++ [b]) = le l ||| (b.toNat * 2 ^ (8 * l.length)) := by
  rw [Nat.or_comm, Nat.mul_comm, ← Nat.two_pow_add_eq_or_of_lt (le_lt l), le_append]
  simp [le]
  omega

theorem bytes_add (l k : List UInt8) : (ByteArray.mk l.toArray ++ ByteArray.mk k.toArray) = ByteArray.mk (l ++ k).toArray := by
  apply ByteArray.ext
  rw [ByteArray.data_append]
  simp

end Go.Proofs.YtchjboijoebifaaGreat

namespace Go.Proofs.YtchjboijoebifaaGreat
open Go.RowKit

theorem below_chain {w W W' : World} (h : Below w.heap.size w W) (k : Below W.heap.size W W') : Below w.heap.size w W' :=
  h.trans (k.mono h.size)

theorem below_drewN {B : Nat} {w W : World} (h : Below B w W) (n : Nat) : Below B w (W.drewN n) := ⟨h.os, h.tape, h.output, h.size, h.block⟩

def RowU (w : World) (b N : Nat) (f : Nat → Int) : Prop :=
  ∀ j, j < N → w.cell? ⟨b, j, none⟩ = some (.int .u8 (f j)) ∧ w.frozen? ⟨b, j, none⟩ = false

theorem RowU.congr {w : World} {b N : Nat} {f g : Nat → Int} (h : RowU w b N f) (e : ∀ j, j < N → f j = g j) : RowU w b N g :=
  fun j hj => by rw [← e j hj]; exact h j hj

theorem RowU.set {w : World} {b N : Nat} {f : Nat → Int} (h : RowU w b N f) {k : Nat} (hk : k < N) (v : Int) :
    RowU (w.setCell ⟨b, k, none⟩ (.int .u8 v)) b N (fun j => if j = k then v else f j) := by
  intro j hj
  refine ⟨?_, by rw [World.frozen?_setCell]; exact (h j hj).2⟩
  by_cases e : j = k
  · subst e; simp only [if_pos]; exact World.cell?_setCell_same _ _ _ (h j hj).1
  · simp only [if_neg e]; rw [World.cell?_setCell_other _ _ _ _ (by intro q; exact e (by simpa using q.symm))]; exact (h j hj).1

theorem RowU.made (w : World) (N : Nat) (t : TypeId) : RowU (w.alloc (.cells (madeCells #[.int .u8 0] N) t)) w.heap.size N (fun _ => 0) := by
  intro j hj
  refine ⟨?_, by simp⟩
  rw [World.cell?_alloc_new]
  have h : (madeCells #[Value.int .u8 0] N).toList[j]? = some (.int .u8 0) := by
    rw [toList_madeCells_one]; simp [hj]
  simpa using h

theorem RowU.toString {P : Program} {w : World} {b N c : Nat} {f : Nat → Int} (h : RowU w b N f) (l : List UInt8) (hl : l.length = N) (e : ∀ j (hj : j < l.length), f j = (l[j].toNat : Int))
    (src dst el : TypeId) (hs : P.underlying src = some (.slice el)) (he : P.underlying el = some (.int .u8)) (hd : P.underlying dst = some .string) :
    (convert src dst (.slice (some ⟨b, 0, none⟩) N c)).run P w = .ok (.string ⟨l.toArray⟩) w := by
  subst hl
  refine run_convert_bytes_back w src dst el ⟨b, 0, none⟩ c l hs he hd (fun j hj => ?_)
  have := (h j hj).1
  rw [← e j hj, ← this]
  by_cases h0 : j = 0
  · subst h0; simp [Addr.add]
  · simp [Addr.add, h0]

theorem info5 : (Tryz.prog.info? 5).map (fun i => (i.zero, i.size, i.bytes)) = some (some (.int .u8 0), 1, 1) := by kernel_rfl

set_option maxHeartbeats 400000 in
set_option maxRecDepth 60000 in
theorem put_any (n : Nat) (x : Int) (w : World) (_hn : n < 18446744073709551616) :
    Calls Tryz.prog 90 #[.int .u64 n, .int .i64 x] w fun e w' => e = .returned (.string ⟨(putL n (longOf x)).toArray⟩) ∧ Below w.heap.size w w' := by
  have hN : longOf x ≤ 8 := by unfold longOf; omega
  have hmk := run_make_row' (P := Tryz.prog) 92 5 (.int .u8 0) 1 Tryz.underlying92 info5 rfl .i64 .i64 (longOf x) (by omega) (by omega)
  have h1 : (if x < 0 then (0 : Int) else x) = ((x.toNat : Nat) : Int) := by split <;> omega
  have h2 : (if (8 : Int) < ((x.toNat : Nat) : Int) then 8 else ((x.toNat : Nat) : Int)) = ((longOf x : Nat) : Int) := by unfold longOf; split <;> omega
  generalize longOf x = N at *
  generalize x.toNat = y at *
  go_enter Tryz.func90, Tryz.ntmps90
  go_wp2_with fail
  go_loopw [13] (fun i wr => ∃ k : Nat, k ≤ N ∧ i = .int .i64 k ∧ Below w.heap.size w wr ∧ RowU wr w.heap.size N (fun j => if j < k then ((byteAt n j).toNat : Int) else 0)) (fun i _ => N - (intOf i).toNat)
  case atStart => exact ⟨0, by omega, rfl, (Below.refl _ _).alloc (Nat.le_refl _) _, (RowU.made w N _).congr (fun j _ => by simp)⟩
  case round =>
    obtain ⟨k, hk, rfl, hb, hr⟩ := hrel
    by_cases hlt : k < N
    · have hck := (hr k hlt).1
      have hfk := (hr k hlt).2
      go_wp2
      go_roundw
      case rel =>
        refine ⟨k + 1, by omega, by go_num, hb.setCell (Nat.le_refl _) _, (hr.set hlt _).congr (fun j hj => ?_)⟩
        by_cases e : j = k
        · subst e; rw [if_pos rfl, if_pos (by omega)]; exact byteAt_int n j
        · rw [if_neg e]; by_cases h : j < k
          · rw [if_pos h, if_pos (by omega)]
          · rw [if_neg h, if_neg (by omega)]
      case measure => simp [intOf]; omega
    · obtain rfl : k = N := by omega
      have hcv := hr.toString (P := Tryz.prog) (c := k) (putL n k) (putL_length n k) (fun j hj => by rw [putL_length] at hj; simp [putL, hj]) 92 9 5 Tryz.underlying92 Tryz.underlying5 Tryz.underlying9
      clear hr
      go_wp2
      go_ret
      exact ⟨rfl, hb⟩

end Go.Proofs.YtchjboijoebifaaGreat

namespace Go.Proofs.YtchjboijoebifaaGreat
open Go.RowKit

def part (s : ByteArray) (at' long : Nat) : List UInt8 := (s.data.toList.drop at').take long

theorem part_length {s : ByteArray} {a n : Nat} (h : a + n ≤ s.size) : (part s a n).length = n := by
  simp [part]; omega

theorem part_snoc {s : ByteArray} {a n : Nat} (h : a + n < s.size) : part s a (n + 1) = part s a n ++ [s[a + n]] := by
  unfold part
  rw [List.take_succ_eq_append_getElem (by simp; omega)]
  congr 1
  simp [List.getElem_drop]
  rfl

theorem or_byte {y b k : Nat} (hy : y < 18446744073709551616) (hb : b < 256) (hk : k < 8) :
    bits .or .u64 (y : Int) (IntKind.u64.wrap (IntKind.u64.wrap (b : Int) * 2 ^ (8 * k))) = ((y ||| b * 2 ^ (8 * k) : Nat) : Int) := by
  have h1 : 2 ^ (8 * k) ≤ 2 ^ 56 := Nat.pow_le_pow_right (by omega) (by omega)
  have h2 : b * 2 ^ (8 * k) ≤ 255 * 2 ^ 56 := Nat.mul_le_mul (by omega) h1
  have e1 : IntKind.u64.wrap (b : Int) = (b : Int) := by rw [IntKind.wrap_u64]; omega
  have e2 : (b : Int) * 2 ^ (8 * k) = ((b * 2 ^ (8 * k) : Nat) : Int) := by simp
  rw [e1, e2]
  generalize b * 2 ^ (8 * k) = z at *
  have e3 : IntKind.u64.wrap (z : Int) = (z : Int) := by rw [IntKind.wrap_u64]; omega
  rw [e3]
  exact u64_or_nat _ _ hy (by omega)

set_option maxHeartbeats 400000 in
set_option maxRecDepth 60000 in
theorem get_arg (s : ByteArray) (a n : Int) (w : World) (h : n < 0 ∨ 8 < n ∨ a < 0 ∨ (s.size : Int) < a) (hs : s.size ≤ maxLen) :
    Calls Tryz.prog 76 #[.string s, .int .i64 a, .int .i64 n] w fun e w' => e = .returned (.tuple #[.int .u64 0, .int .i64 1]) ∧ w' = w := by
  unfold maxLen at hs
  by_cases h1 : n < 0
  · go_enter Tryz.func76, Tryz.ntmps76
    go_wp2
    go_ret2
    exact ⟨rfl, rfl⟩
  by_cases h2 : 8 < n
  · go_enter Tryz.func76, Tryz.ntmps76
    go_wp2
    go_ret2
    exact ⟨rfl, rfl⟩
  by_cases h3 : a < 0
  · go_enter Tryz.func76, Tryz.ntmps76
    go_wp2
    go_ret2
    exact ⟨rfl, rfl⟩
  have h4 : (s.size : Int) < a := by omega
  clear h
  go_enter Tryz.func76, Tryz.ntmps76
  go_wp2
  go_ret2
  exact ⟨rfl, rfl⟩

set_option maxHeartbeats 400000 in
set_option maxRecDepth 60000 in
theorem get_cut (s : ByteArray) (a n : Nat) (w : World) (hn : n ≤ 8) (ha : a ≤ s.size) (h : s.size < a + n) (hs : s.size ≤ maxLen) :
    Calls Tryz.prog 76 #[.string s, .int .i64 a, .int .i64 n] w fun e w' => e = .returned (.tuple #[.int .u64 0, .int .i64 4]) ∧ w' = w := by
  unfold maxLen at hs
  go_enter Tryz.func76, Tryz.ntmps76
  go_wp2
  go_ret2
  exact ⟨rfl, rfl⟩

set_option maxHeartbeats 400000 in
set_option maxRecDepth 60000 in
theorem get_ok (s : ByteArray) (a n : Nat) (w : World) (hn : n ≤ 8) (h : a + n ≤ s.size) (hs : s.size ≤ maxLen) :
    Calls Tryz.prog 76 #[.string s, .int .i64 a, .int .i64 n] w fun e w' => e = .returned (.tuple #[.int .u64 (le (part s a n)), .int .i64 0]) ∧ w' = w := by
  unfold maxLen at hs
  have d1 : decide ((n : Int) < 0) = false := by simp
  have d2 : decide ((8 : Int) < (n : Int)) = false := by simp; omega
  have d3 : decide ((a : Int) < 0) = false := by simp
  have d4 : decide (s.size < a) = false := by simp; omega
  have d5 : decide ((s.size : Int) - (a : Int) < (n : Int)) = false := by simp; omega
  go_enter Tryz.func76, Tryz.ntmps76
  go_wp2
  go_loop [8, 33] (fun t i => ∃ k : Nat, k ≤ n ∧ i = .int .i64 k ∧ t = .int .u64 (le (part s a k))) (fun _ i => n - (intOf i).toNat)
  case atStart => exact ⟨0, Nat.zero_le _, rfl, by simp [part, le]⟩
  case round =>
    obtain ⟨k, hk, rfl, rfl⟩ := hrel
    by_cases hlt : k < n
    · have hy : le (part s a k) < 18446744073709551616 := le_lt_64 (by rw [part_length (by omega)]; omega)
      have hk8 : k < 8 := by omega
      have Hs : Hid (le (part s a (k + 1)) = le (part s a k) ||| (s[a + k].toNat * 2 ^ (8 * k))) := by
        rw [part_snoc (by omega)]; have := le_or (part s a k) s[a + k]; rw [part_length (by omega)] at this; exact this
      generalize le (part s a k) = y at *
      go_wp2
      go_round
      case rel => exact ⟨k + 1, by omega, by go_num, by rw [Hs.out, or_byte hy s[a + k].toNat_lt hk8]⟩
      case measure => simp [intOf]; omega
    · obtain rfl : k = n := by omega
      go_wp2
      go_ret2
      exact ⟨rfl, rfl⟩

theorem bytes_size (l : List UInt8) : (ByteArray.mk l.toArray).size = l.length := by
  show l.toArray.size = l.length
  simp

theorem bytes_self (s : ByteArray) : ByteArray.mk s.data.toList.toArray = s := by simp

set_option maxHeartbeats 400000 in
set_option maxRecDepth 60000 in
theorem text_more (s : ByteArray) (w : World) (h : 65535 < s.size) (hs : s.size ≤ maxLen) :
    Calls Tryz.prog 114 #[.string s] w fun e w' => e = .returned (.tuple #[.string ⟨#[]⟩, .int .i64 5]) ∧ w' = w := by
  unfold maxLen at hs
  go_enter Tryz.func114, Tryz.ntmps114
  go_wp2
  go_ret2
  exact ⟨rfl, rfl⟩

set_option maxHeartbeats 400000 in
set_option maxRecDepth 60000 in
theorem text_ok (s : ByteArray) (w : World) (h : s.size ≤ 65535) :
    Calls Tryz.prog 114 #[.string s] w fun e w' => e = .returned (.tuple #[.string ⟨(putL s.size 2 ++ s.data.toList).toArray⟩, .int .i64 0]) ∧ Below w.heap.size w w' := by
  go_enter Tryz.func114, Tryz.ntmps114
  go_wp2_with fail
  refine (put_any s.size 2 _ (by omega)).mono ?_
  rintro e w1 ⟨rfl, hb⟩
  rw [show longOf 2 = 2 from rfl]
  have hl : (ByteArray.mk (putL s.size 2).toArray).size = 2 := by rw [bytes_size, putL_length]
  go_wp2
  go_ret2
  exact ⟨by rw [← bytes_add, bytes_self]; rfl, hb⟩

end Go.Proofs.YtchjboijoebifaaGreat

namespace Go.Proofs.YtchjboijoebifaaGreat
open Go.RowKit

structure SheetV where
  num : Nat
  lsn : Nat
  kind : Int
  head : ByteArray
  slots : List ByteArray

end Go.Proofs.YtchjboijoebifaaGreat

namespace Go.Proofs.YtchjboijoebifaaGreat
open Go.RowKit

def cellsOf (l : List UInt8) : List Value := l.map fun c => .int .u8 (c.toNat : Int)

structure IsWriter (w : World) (b : Nat) (l : List UInt8) (a : Option Addr) (c : Nat) : Prop where
  c0 : w.cell? ⟨b, 0, none⟩ = some (.slice a l.length c)
  f0 : w.frozen? ⟨b, 0, none⟩ = false
  own : w.ownsRow (b + 1) 5 1 (.slice a l.length c) l.length (cellsOf l)
  lt : b < w.heap.size

theorem strCells_eq (s : ByteArray) : Lib.strCells s = cellsOf s.data.toList := by
  unfold Lib.strCells cellsOf
  rfl

theorem i5 : (Tryz.prog.info? 5).map (fun i => (i.zero, i.size, i.bytes)) = some (some (.int .u8 0), 1, 1) := info5

section
variable {w : World} {b : Nat} {l : List UInt8} {a : Option Addr} {c : Nat}

set_option maxHeartbeats 800000 in
set_option maxRecDepth 60000 in
theorem wbytes_any (h : IsWriter w b l a c) (s : ByteArray) (hl : l.length + s.size ≤ 140737488355328) :
    Calls Tryz.prog 89 #[.pointer (some ⟨b, 0, none⟩), .string s] w fun x w' =>
      x = .returned (.tuple #[]) ∧ (∃ a' c', IsWriter w' b (l ++ s.data.toList) a' c') ∧ Below b w w' := by
  obtain ⟨i0, hi, hz0, hz1, hz2⟩ := info_parts i5
  have hc0 := h.c0
  have hf0 := h.f0
  have hown := h.own
  have hlt := h.lt
  go_enter Tryz.func89, Tryz.ntmps89
  go_wp2_with (at_builtin; refine Lib.wpList_append_own_string _ rfl _ _ 92 9 rfl (b + 1) 5 i0 Tryz.underlying92 Tryz.underlying9 hi hz0 hz1 hz2 (.slice a l.length c) l.length (cellsOf l) rfl hown s rfl (by unfold maxLen; omega) hl (by omega) ?_)
  intro v' w1 hown' hgrow _
  have hne : some b ≠ (Value.slice a l.length c).ownBlock := fun e => by have := hown.lt b e.symm; omega
  have hbk := hgrow.block b hlt hne
  have hc1 := (World.cell?_of_block (w := w) (a := ⟨b, 0, none⟩) hbk).trans hc0
  have hf1 := (World.frozen?_of_block (w := w) (a := ⟨b, 0, none⟩) hbk).trans hf0
  have hz1 : b < w1.heap.size := Nat.lt_of_lt_of_le hlt hgrow.size
  have hbel : Below b w w1 := (Below.refl b w).grown hgrow (by omega) (fun k hk => by have := hown.lt k hk; omega)
  obtain ⟨a', c', hv⟩ : ∃ a' c', v' = .slice a' (l.length + s.size) c' := by
    rcases hown'.2 with ⟨e1, e2⟩ | ⟨g, cap, cur, e1, _⟩
    · exact ⟨none, 0, by rw [e1, e2]⟩
    · exact ⟨_, _, e1⟩
  subst hv
  rw [strCells_eq] at hown'
  have HO : Hid (w1.ownsRow (b + 1) 5 1 (.slice a' (l.length + s.size) c') (l.length + s.size) (cellsOf l ++ cellsOf s.data.toList)) := hown'
  clear hown' hown hgrow hne hbk h hc0 hf0
  go_wp2
  go_end0
  have hlen : (l ++ s.data.toList).length = l.length + s.size := by simp
  refine ⟨rfl, ⟨a', c', ?_, ?_, ?_, ?_⟩, hbel.setCell (p := ⟨b, 0, none⟩) (Nat.le_refl _) _⟩
  · rw [hlen]; exact World.cell?_setCell_same _ _ _ hc1
  · rw [World.frozen?_setCell]; exact hf1
  · rw [hlen, show cellsOf (l ++ s.data.toList) = cellsOf l ++ cellsOf s.data.toList from by simp [cellsOf]]
    exact ownsRow_setCell_below HO.out (a := ⟨b, 0, none⟩) (by show b < b + 1; omega) _
  · simpa using hz1

theorem IsWriter.below (h : IsWriter w b l a c) {w' : World} (k : Below w.heap.size w w') : IsWriter w' b l a c :=
  ⟨(k.cell (p := ⟨b, 0, none⟩) h.lt).trans h.c0, (k.frozen (p := ⟨b, 0, none⟩) h.lt).trans h.f0,
    h.own.kept (row := none) ⟨k.os, k.tape, k.output, k.size, fun i hi _ => k.block i hi⟩ (by cases h2 : (Value.slice a l.length c).ownBlock <;> simp), Nat.lt_of_lt_of_le h.lt k.size⟩

theorem below_lower {w1 w2 : World} (h : Below w.heap.size w w1) (k : Below b w1 w2) (hb : b ≤ w.heap.size) : Below b w w2 := (h.mono hb).trans k

set_option maxHeartbeats 400000 in
set_option maxRecDepth 60000 in
theorem wnumber_any (h : IsWriter w b l a c) (n : Nat) (x : Int) (hn : n < 18446744073709551616) (hl : l.length + 8 ≤ 140737488355328) :
    Calls Tryz.prog 43 #[.pointer (some ⟨b, 0, none⟩), .int .u64 n, .int .i64 x] w fun y w' =>
      y = .returned (.tuple #[]) ∧ (∃ a' c', IsWriter w' b (l ++ putL n (longOf x)) a' c') ∧ Below b w w' := by
  have hlt := h.lt
  have hlen : (ByteArray.mk (putL n (longOf x)).toArray).size ≤ 8 := by rw [bytes_size, putL_length]; unfold longOf; omega
  go_enter Tryz.func43, Tryz.ntmps43
  go_wp2_with fail
  refine (put_any n x _ hn).mono ?_
  rintro y w1 ⟨rfl, b1⟩
  go_wp2_with fail
  refine (wbytes_any (h.below b1) _ (by omega)).mono ?_
  rintro y w2 ⟨rfl, ⟨a', c', h2⟩, b2⟩
  go_wp2
  go_end0
  refine ⟨rfl, ⟨a', c', ?_⟩, below_lower b1 b2 (by omega)⟩
  simpa using h2

def textE (s : ByteArray) : Int := if s.size ≤ 65535 then 0 else 5

def textB (s : ByteArray) : List UInt8 := if s.size ≤ 65535 then putL s.size 2 ++ s.data.toList else []

theorem IsWriter.toString (h : IsWriter w b l a c) : (convert 92 9 (.slice a l.length c)).run Tryz.prog w = .ok (.string ⟨l.toArray⟩) w := by
  rcases h.own.2 with ⟨e1, e2⟩ | ⟨g, cap, cur, e1, _⟩
  · have hl : l = [] := List.eq_nil_of_length_eq_zero e2
    rw [e1, hl]
    exact run_convert_bytes_nil w 92 5 Tryz.underlying92 Tryz.underlying5 0 0 9 Tryz.underlying9
  · have ho := h.own
    rw [e1] at ho ⊢
    exact run_convert_bytes_back w 92 9 5 ⟨g, 0, none⟩ cap l Tryz.underlying92 Tryz.underlying5 Tryz.underlying9 (fun j hj => ho.cells rfl j _ (by simp [cellsOf, hj]))

set_option maxHeartbeats 400000 in
set_option maxRecDepth 60000 in
theorem wall_any (h : IsWriter w b l a c) :
    Calls Tryz.prog 48 #[.pointer (some ⟨b, 0, none⟩)] w fun y w' => y = .returned (.string ⟨l.toArray⟩) ∧ w' = w := by
  have hc0 := h.c0
  have hcv := h.toString
  go_enter Tryz.func48, Tryz.ntmps48
  go_wp2
  go_ret
  exact ⟨rfl, rfl⟩

end

set_option maxHeartbeats 400000 in
set_option maxRecDepth 60000 in
theorem new_writer (w : World) :
    Calls Tryz.prog 42 #[] w fun y w' => y = .returned (.pointer (some ⟨w.heap.size, 0, none⟩)) ∧ IsWriter w' w.heap.size [] none 0 ∧ Below w.heap.size w w' := by
  go_enter Tryz.func42, Tryz.ntmps42
  go_wp2
  go_ret
  exact ⟨rfl, ⟨by simp, by simp, World.ownsRow_nil _ _ _ _, by simp⟩, (Below.refl _ _).alloc (Nat.le_refl _) _⟩

end Go.Proofs.YtchjboijoebifaaGreat

namespace Go.Proofs.YtchjboijoebifaaGreat
open Go.RowKit

set_option maxHeartbeats 400000 in
set_option maxRecDepth 60000 in
theorem shift_any (r b : Nat) (w : World) (hr : r < 4294967296) (hb : b < 256) :
    Calls Tryz.prog 137 #[.int .u32 r, .int .u8 b] w fun e w' => e = .returned (.int .u32 (crcB r b)) ∧ w' = w := by
  go_enter Tryz.func137, Tryz.ntmps137
  go_wp2
  go_loop [0, 10] (fun t i => ∃ k : Nat, k ≤ 8 ∧ i = .int .i64 k ∧ t = .int .u32 (crcN k (r ^^^ b))) (fun _ i => 8 - (intOf i).toNat)
  case atStart => exact ⟨0, by omega, rfl, by rw [u32_xor_nat _ _ hr (by omega)]; rfl⟩
  case round =>
    obtain ⟨k, hk, rfl, rfl⟩ := hrel
    have hx : crcN k (r ^^^ b) < 4294967296 := crcN_lt (Nat.xor_lt_two_pow (n := 32) (by omega) (by omega)) k
    have hs : Hid (crcN (k + 1) (r ^^^ b) = crc1 (crcN k (r ^^^ b))) := rfl
    by_cases hlt : k < 8
    · generalize crcN k (r ^^^ b) = x at *
      go_wp2
      · go_round
        case rel => exact ⟨k + 1, by omega, by go_num, by rw [hs.out, crc1_odd hx ‹_›]⟩
        case measure => simp [intOf]; omega
      · go_round
        case rel => exact ⟨k + 1, by omega, by go_num, by rw [hs.out, crc1_even hx ‹_›]⟩
        case measure => simp [intOf]; omega
    · obtain rfl : k = 8 := by omega
      go_wp2
      go_ret
      exact ⟨rfl, rfl⟩

theorem take_snoc (s : ByteArray) (k : Nat) (h : k < s.size) : s.data.toList.take (k + 1) = s.data.toList.take k ++ [s[k]] := by
  rw [List.take_succ_eq_append_getElem (by simpa using h)]; rfl

set_option maxHeartbeats 400000 in
set_option maxRecDepth 60000 in
theorem more_any (c : Nat) (s : ByteArray) (w : World) (hc : c < 4294967296) (hs : s.size ≤ maxLen) :
    Calls Tryz.prog 108 #[.int .u32 c, .string s] w fun e w' => e = .returned (.int .u32 (crcSum c s.data.toList)) ∧ w' = w := by
  unfold maxLen at hs
  go_enter Tryz.func108, Tryz.ntmps108
  go_wp2
  go_loop [5, 11] (fun t i => ∃ k : Nat, k ≤ s.size ∧ i = .int .i64 k ∧ t = .int .u32 (crcL (4294967295 - c) (s.data.toList.take k))) (fun _ i => s.size - (intOf i).toNat)
  case atStart => exact ⟨0, Nat.zero_le _, rfl, by rw [not32 hc]; rfl⟩
  case round =>
    obtain ⟨k, hk, rfl, rfl⟩ := hrel
    have hx : crcL (4294967295 - c) (s.data.toList.take k) < 4294967296 := crcL_lt _ (by omega)
    by_cases hlt : k < s.size
    · have hts : Hid (crcL (4294967295 - c) (s.data.toList.take (k + 1)) = crcB (crcL (4294967295 - c) (s.data.toList.take k)) s[k].toNat) := by rw [take_snoc s k hlt]; exact crcL_snoc _ _ _
      generalize crcL (4294967295 - c) (s.data.toList.take k) = x at *
      go_wp2_with (go_at_call 137; refine (shift_any x s[k].toNat _ hx s[k].toNat_lt).mono ?_; rintro e w' ⟨rfl, rfl⟩)
      go_round
      case rel => exact ⟨k + 1, by omega, by go_num, by rw [hts.out]⟩
      case measure => simp [intOf]; omega
    · obtain rfl : k = s.size := by omega
      have hfin : Hid (crcSum c s.data.toList = 4294967295 - crcL (4294967295 - c) (s.data.toList.take s.size)) := by
        rw [List.take_of_length_le (by simp)]; rfl
      generalize crcL (4294967295 - c) (s.data.toList.take s.size) = x at *
      go_wp2
      go_ret
      exact ⟨ret_int (by rw [hfin.out]; exact not32 hx), rfl⟩

set_option maxHeartbeats 400000 in
set_option maxRecDepth 60000 in
theorem sum_any (s : ByteArray) (w : World) (hs : s.size ≤ maxLen) :
    Calls Tryz.prog 109 #[.string s] w fun e w' => e = .returned (.int .u32 (crcSum 0 s.data.toList)) ∧ w' = w := by
  go_enter Tryz.func109, Tryz.ntmps109
  go_wp2_with (go_at_call 108; refine (more_any 0 s _ (by omega) hs).mono ?_; rintro e w' ⟨rfl, rfl⟩)
  go_ret
  exact ⟨rfl, rfl⟩

end Go.Proofs.YtchjboijoebifaaGreat

namespace Go.Proofs.YtchjboijoebifaaGreat
open Go.Shelf Go.RowKit

def cloneRen : Go.Shelf.Ren := ⟨fun | 316 => 149 | n => n, fun | 9 => 9 | 3 => 3 | 4 => 4 | 37 => 92 | 0 => 0 | 127 => 215 | 5 => 5 | n => n, fun | n => n⟩

theorem cloneLays : Go.Proofs.LaysM.n316 Tryz.prog cloneRen := {
  mixed := by kernel_rfl
  f316 := Tryz.func149.trans (congrArg some (by kernel_rfl))
  t0 := Tryz.underlying0
  a0 := Tryz.isAgg0
  z0 := Tryz.sizeOf0
  v0 := Tryz.zeroValue0
  t3 := Tryz.underlying3
  a3 := Tryz.isAgg3
  z3 := Tryz.sizeOf3
  v3 := Tryz.zeroValue3
  t4 := Tryz.underlying4
  a4 := Tryz.isAgg4
  z4 := Tryz.sizeOf4
  v4 := Tryz.zeroValue4
  t9 := Tryz.underlying9
  a9 := Tryz.isAgg9
  z9 := Tryz.sizeOf9
  v9 := Tryz.zeroValue9
  t37 := Tryz.underlying92
  a37 := Tryz.isAgg92
  z37 := Tryz.sizeOf92
  v37 := Tryz.zeroValue92
  t127 := Tryz.underlying215
  a127 := Tryz.isAgg215
  z127 := Tryz.sizeOf215
  v127 := Tryz.zeroValue215
  t5 := Tryz.underlying5
  a5 := Tryz.isAgg5
  z5 := Tryz.sizeOf5
  v5 := Tryz.zeroValue5
  i0 := by kernel_rfl
  i3 := by kernel_rfl
  i4 := by kernel_rfl
  i5 := by kernel_rfl
  i9 := by kernel_rfl
  i37 := by kernel_rfl
  i127 := by kernel_rfl }

theorem clone_inner (s : ByteArray) (w : World) (hlim : s.size ≤ 281474976710656) :
    Calls Tryz.prog 149 #[.string s] w fun e w' => e = .returned (.string s) ∧ Below w.heap.size w w' := Any.stringslite_Clone cloneLays s w hlim

set_option maxHeartbeats 400000 in
set_option maxRecDepth 60000 in
theorem clone_any (s : ByteArray) (w : World) (hlim : s.size ≤ 281474976710656) :
    Calls Tryz.prog 138 #[.string s] w fun e w' => e = .returned (.string s) ∧ Below w.heap.size w w' := by
  go_enter Tryz.func138, Tryz.ntmps138
  go_wp2_with fail
  refine (clone_inner s _ hlim).mono ?_
  rintro e w1 ⟨rfl, hb⟩
  go_wp2
  go_ret
  exact ⟨rfl, hb⟩

end Go.Proofs.YtchjboijoebifaaGreat

namespace Go.Proofs.YtchjboijoebifaaGreat
open Go.RowKit

structure Only (b : Nat) (w w' : World) : Prop where
  os : w'.os = w.os
  tape : w'.tape = w.tape
  output : w'.output = w.output
  size : w.heap.size ≤ w'.heap.size
  block : ∀ k, k < w.heap.size → k ≠ b → w'.heap[k]? = w.heap[k]?

theorem Only.refl (b : Nat) (w : World) : Only b w w := ⟨rfl, rfl, rfl, Nat.le_refl _, fun _ _ _ => rfl⟩

theorem Only.trans {b : Nat} {u v w : World} (h : Only b u v) (k : Only b v w) : Only b u w :=
  ⟨k.os.trans h.os, k.tape.trans h.tape, k.output.trans h.output, Nat.le_trans h.size k.size, fun i hi hb => (k.block i (Nat.lt_of_lt_of_le hi h.size) hb).trans (h.block i hi hb)⟩

theorem Only.of_below {b : Nat} {w w' : World} (h : Below w.heap.size w w') : Only b w w' := ⟨h.os, h.tape, h.output, h.size, fun k hk _ => h.block k hk⟩

theorem Only.drewN {b : Nat} {w w' : World} (h : Only b w w') (n : Nat) : Only b w (w'.drewN n) := ⟨h.os, h.tape, h.output, h.size, h.block⟩

theorem Only.setCell {b : Nat} {w w' : World} (h : Only b w w') (i : Nat) (v : Value) : Only b w (w'.setCell ⟨b, i, none⟩ v) :=
  h.trans ⟨rfl, rfl, rfl, by simp, fun k _ hk => Below.heap_setCell _ _ _ _ hk⟩

theorem Only.below {b B : Nat} {w u v : World} (h : Only b u v) (k : Below B w u) (hB : B ≤ b) (hw : B ≤ w.heap.size) : Below B w v :=
  ⟨h.os.trans k.os, h.tape.trans k.tape, h.output.trans k.output, Nat.le_trans k.size h.size, fun i hi => (h.block i (Nat.lt_of_lt_of_le hi (Nat.le_trans hw k.size)) (by omega)).trans (k.block i hi)⟩

theorem Only.cell {b : Nat} {w w' : World} (h : Only b w w') {p : Addr} (hp : p.block < w.heap.size) (hb : p.block ≠ b) : w'.cell? p = w.cell? p := World.cell?_of_block (w := w) (h.block p.block hp hb)

structure IsReader (w : World) (b : Nat) (s : ByteArray) (p : Nat) (e : Int) : Prop where
  c0 : w.cell? ⟨b, 0, none⟩ = some (.string s)
  c1 : w.cell? ⟨b, 1, none⟩ = some (.int .i64 p)
  c2 : w.cell? ⟨b, 2, none⟩ = some (.int .i64 e)
  f1 : w.frozen? ⟨b, 1, none⟩ = false
  f2 : w.frozen? ⟨b, 2, none⟩ = false
  le : p ≤ s.size
  sz : s.size ≤ 281474976710656
  lt : b < w.heap.size

theorem IsReader.drewN {w : World} {b : Nat} {s : ByteArray} {p : Nat} {e : Int} (h : IsReader w b s p e) (n : Nat) : IsReader (w.drewN n) b s p e :=
  ⟨by simpa using h.c0, by simpa using h.c1, by simpa using h.c2, by simpa using h.f1, by simpa using h.f2, h.le, h.sz, h.lt⟩

theorem IsReader.below {w w' : World} {b : Nat} {s : ByteArray} {p : Nat} {e : Int} (h : IsReader w b s p e) (k : Below w.heap.size w w') : IsReader w' b s p e :=
  ⟨(k.cell (p := ⟨b, 0, none⟩) h.lt).trans h.c0, (k.cell (p := ⟨b, 1, none⟩) h.lt).trans h.c1, (k.cell (p := ⟨b, 2, none⟩) h.lt).trans h.c2,
    (k.frozen (p := ⟨b, 1, none⟩) h.lt).trans h.f1, (k.frozen (p := ⟨b, 2, none⟩) h.lt).trans h.f2, h.le, h.sz, Nat.lt_of_lt_of_le h.lt k.size⟩

theorem IsReader.setErr {w : World} {b : Nat} {s : ByteArray} {p : Nat} {e : Int} (h : IsReader w b s p e) (e' : Int) : IsReader (w.setCell ⟨b, 2, none⟩ (.int .i64 e')) b s p e' :=
  ⟨by rw [World.cell?_setCell_other _ _ _ _ (by simp)]; exact h.c0, by rw [World.cell?_setCell_other _ _ _ _ (by simp)]; exact h.c1, World.cell?_setCell_same _ _ _ h.c2,
    by rw [World.frozen?_setCell]; exact h.f1, by rw [World.frozen?_setCell]; exact h.f2, h.le, h.sz, by simpa using h.lt⟩

theorem IsReader.setAt {w : World} {b : Nat} {s : ByteArray} {p : Nat} {e : Int} (h : IsReader w b s p e) (p' : Nat) (hp : p' ≤ s.size) : IsReader (w.setCell ⟨b, 1, none⟩ (.int .i64 p')) b s p' e :=
  ⟨by rw [World.cell?_setCell_other _ _ _ _ (by simp)]; exact h.c0, World.cell?_setCell_same _ _ _ h.c1, by rw [World.cell?_setCell_other _ _ _ _ (by simp)]; exact h.c2,
    by rw [World.frozen?_setCell]; exact h.f1, by rw [World.frozen?_setCell]; exact h.f2, hp, h.sz, by simpa using h.lt⟩

section
variable {w : World} {b : Nat} {s : ByteArray} {p : Nat} {e : Int}

set_option maxHeartbeats 400000 in
set_option maxRecDepth 60000 in
theorem err_any (h : IsReader w b s p e) :
    Calls Tryz.prog 82 #[.pointer (some ⟨b, 0, none⟩)] w fun x w' => x = .returned (.int .i64 e) ∧ w' = w := by
  have c2 := h.c2
  go_enter Tryz.func82, Tryz.ntmps82
  go_wp2
  go_ret
  exact ⟨rfl, rfl⟩

set_option maxHeartbeats 400000 in
set_option maxRecDepth 60000 in
theorem left_any (h : IsReader w b s p e) :
    Calls Tryz.prog 81 #[.pointer (some ⟨b, 0, none⟩)] w fun x w' => x = .returned (.int .i64 ((s.size : Int) - (p : Int))) ∧ ∃ n, w' = w.drewN n := by
  have c0 := h.c0
  have c1 := h.c1
  have hsz := h.sz
  have hle := h.le
  go_enter Tryz.func81, Tryz.ntmps81
  go_wp2
  go_quiet (fail)
  go_wp2
  go_ret
  exact ⟨rfl, _, rfl⟩

set_option maxHeartbeats 400000 in
set_option maxRecDepth 60000 in
theorem stopped_any (h : IsReader w b s p e) :
    Calls Tryz.prog 75 #[.pointer (some ⟨b, 0, none⟩)] w fun x w' => x = .returned (.bool (e != 0)) ∧ w' = w := by
  go_enter Tryz.func75, Tryz.ntmps75
  go_wp2_with fail
  refine (err_any h).mono ?_
  rintro x w1 ⟨rfl, rfl⟩
  go_wp2
  go_ret
  exact ⟨rfl, rfl⟩

def failE (e n : Int) : Int := if e = 0 then n else e

set_option maxHeartbeats 400000 in
set_option maxRecDepth 60000 in
theorem fail_any (h : IsReader w b s p e) (n : Int) :
    Calls Tryz.prog 77 #[.pointer (some ⟨b, 0, none⟩), .int .i64 n] w fun x w' => x = .returned (.tuple #[]) ∧ IsReader w' b s p (failE e n) ∧ Only b w w' := by
  have c2 := h.c2
  have f2 := h.f2
  by_cases h0 : e = 0
  · subst h0
    go_enter Tryz.func77, Tryz.ntmps77
    go_wp2
    go_end0
    exact ⟨rfl, h.setErr n, (Only.refl _ _).setCell _ _⟩
  · have h1 : (e != 0) = true := by rw [bne_iff_ne]; exact h0
    go_enter Tryz.func77, Tryz.ntmps77
    go_wp2
    refine bodyPost_ret (results_none rfl _ _ _) rfl ?_
    exact ⟨rfl, by unfold failE; rw [if_neg h0]; exact h, Only.refl _ _⟩

end
end Go.Proofs.YtchjboijoebifaaGreat
