/-
  Plain mathematics of the sum CRC-32C on natural numbers: what one round, eight rounds, and a list of bytes do to the register. No Go program is named here.
  Plain mathematics of numbers in bytes, the lowest byte first. No Go program is named here.
  The walks of raw.Put and girderref01.Put: a number's lowest bytes.
  The walks of raw.Get, raw.Text and girderref01.Number: numbers out of bytes, and a text in bytes.
  Texts in memory, pages as plain data, and the walks of page.Room, page.Blank, page.zeros.
  The walks of raw.Writer's methods, over a writer that lies in memory: the bytes that it has are those that were put.
  The walks of the sum: what raw.shiftByte, raw.More, raw.Sum and girderref01.More return, for every register and every text.
  Plain mathematics of a page's bytes, and the walks of page.putSlots and page.zeros.
  The laying of a contract of the library's shelf at this program's numbers (plain text by the library's own command).
  The walk of page.Encode.
  The walk of page.Encode, of a page that fits.
  The contract of internal/stringslite.Clone, taken from the library's shelf at this program's numbers, and the walk of strings.Clone: the same bytes, in new memory.
  The walks of raw.Reader's small methods: Err, At, Left, stopped, Fail, over a reader that lies in memory.
  The walks of raw.Reader's taking methods: Number, Bytes, Text, Bool, End, over a reader that lies in memory; each is told by a plain function of the text, the place and the error.
-/
import Derived.WalkKit
import Derived.Test.YtpnnadfmhkplhaaProg
import Derived.WalkSpells
import Derived.WalkLawsBesides
import Derived.Deep.OwnRows
import Derived.SliceStrings
import Derived.BigQuiet
import Derived.Deep.QuietTactic
import Derived.Lib.AppendStr
import Derived.Shelf.Lays
import Derived.Shelf.Strings.Repeat
import Derived.Shelf.LaysM
import Derived.Shelf.Strconv.Clone
import Derived.Deep.RegionHeld3
namespace Go.Proofs.Ytpnnadfmhkplhaa

/-- One round: the register shifted right, and turned by the feedback where the bit that went out was 1. -/
def crc1 (r : Nat) : Nat := if r % 2 = 1 then (r / 2) ^^^ 2197175160 else r / 2

/-- So many rounds. -/
def crcN : Nat → Nat → Nat
  | 0, r => r
  | k + 1, r => crc1 (crcN k r)

/-- One byte. -/
def crcB (r b : Nat) : Nat := crcN 8 (r ^^^ b)

/-- A list of bytes. -/
def crcL (r : Nat) (l : List UInt8) : Nat := l.foldl (fun r b => crcB r b.toNat) r

theorem crc1_lt {r : Nat} (h : r < 4294967296) : crc1 r < 4294967296 := by
  unfold crc1
  split
  · exact Nat.xor_lt_two_pow (n := 32) (by omega) (by omega)
  · omega

theorem crcN_lt {r : Nat} (h : r < 4294967296) (k : Nat) : crcN k r < 4294967296 := by
  induction k with
  | zero => exact h
  | succ k ih => exact crc1_lt ih

theorem crcB_lt {r b : Nat} (h : r < 4294967296) (hb : b < 256) : crcB r b < 4294967296 :=
  crcN_lt (Nat.xor_lt_two_pow (n := 32) (by omega) (by omega)) 8

theorem crcL_lt (l : List UInt8) : ∀ {r : Nat}, r < 4294967296 → crcL r l < 4294967296 := by
  induction l with
  | nil => intro r h; exact h
  | cons b l ih => intro r h; exact ih (crcB_lt h b.toNat_lt)

theorem crcL_snoc (r : Nat) (l : List UInt8) (b : UInt8) : crcL r (l ++ [b]) = crcB (crcL r l) b.toNat := by
  simp [crcL, List.foldl_append]

theorem crcL_append (r : Nat) (l k : List UInt8) : crcL r (l ++ k) = crcL (crcL r l) k := by
  simp [crcL, List.foldl_append]

/-- The sum behind 'sum' and the bytes 'l'. -/
def crcSum (s : Nat) (l : List UInt8) : Nat := 4294967295 - crcL (4294967295 - s) l

theorem crcSum_lt (s : Nat) (l : List UInt8) : crcSum s l < 4294967296 := by unfold crcSum; omega

theorem crcSum_append {s : Nat} (h : s < 4294967296) (l k : List UInt8) : crcSum (crcSum s l) k = crcSum s (l ++ k) := by
  unfold crcSum
  have := crcL_lt l (r := 4294967295 - s) (by omega)
  rw [crcL_append, show 4294967295 - (4294967295 - crcL (4294967295 - s) l) = crcL (4294967295 - s) l from by omega]

theorem crc1_odd {x : Nat} (hx : x < 4294967296) (h : (bits .and .u32 (x : Int) 1 == 1) = true) :
    bits .xor .u32 ((x : Int) / 2) 2197175160 = ((crc1 x : Nat) : Int) := by
  have h1 := u32_and_nat x 1 hx (by omega)
  rw [show ((1 : Nat) : Int) = 1 from rfl] at h1
  rw [h1, nat_mask1, beq_iff_eq] at h
  have h2 := u32_xor_nat (x / 2) 2197175160 (by omega) (by omega)
  rw [show ((2197175160 : Nat) : Int) = 2197175160 from rfl, show ((x / 2 : Nat) : Int) = (x : Int) / 2 from by omega] at h2
  rw [h2]; unfold crc1; rw [if_pos (by omega)]

theorem crc1_even {x : Nat} (hx : x < 4294967296) (h : (bits .and .u32 (x : Int) 1 == 1) = false) :
    ((x : Int) / 2) = ((crc1 x : Nat) : Int) := by
  have h1 := u32_and_nat x 1 hx (by omega)
  rw [show ((1 : Nat) : Int) = 1 from rfl] at h1
  rw [h1, nat_mask1, beq_eq_false_iff_ne] at h
  unfold crc1; rw [if_neg (by omega)]; omega

theorem crc1_odd' {x : Nat} (hx : x < 4294967296) (h : ((x : Int) % 2 == 1) = true) :
    bits .xor .u32 ((x : Int) / 2) 2197175160 = ((crc1 x : Nat) : Int) := by
  rw [beq_iff_eq] at h
  have h2 := u32_xor_nat (x / 2) 2197175160 (by omega) (by omega)
  rw [show ((2197175160 : Nat) : Int) = 2197175160 from rfl, show ((x / 2 : Nat) : Int) = (x : Int) / 2 from by omega] at h2
  rw [h2]; unfold crc1; rw [if_pos (by omega)]

theorem crc1_even' {x : Nat} (h : ((x : Int) % 2 == 1) = false) : ((x : Int) / 2) = ((crc1 x : Nat) : Int) := by
  rw [beq_eq_false_iff_ne] at h
  unfold crc1; rw [if_neg (by omega)]; omega

theorem xor_byte {x b : Nat} (hx : x < 4294967296) (hb : b < 256) : bits .xor .u32 (x : Int) ((b : Int) % 4294967296) = ((x ^^^ b : Nat) : Int) := by
  rw [Int.emod_eq_of_lt (by omega) (by omega)]
  exact u32_xor_nat _ _ hx (by omega)

theorem ret_int {k : IntKind} {a b : Int} (h : a = b) : Ending.returned (.int k a) = .returned (.int k b) := by rw [h]

theorem not32 {c : Nat} (hc : c < 4294967296) : bits .xor .u32 IntKind.u32.max (c : Int) = ((4294967295 - c : Nat) : Int) := by
  have h := u32_xor_nat 4294967295 c (by omega) hc
  rw [show IntKind.u32.max = ((4294967295 : Nat) : Int) from by decide, h]
  congr 1
  rw [show 4294967295 - c = 2 ^ 32 - (c + 1) from by omega]
  apply Nat.eq_of_testBit_eq
  intro i
  rw [Nat.testBit_xor, Nat.testBit_two_pow_sub_succ (by omega), show 4294967295 = 2 ^ 32 - 1 from rfl, Nat.testBit_two_pow_sub_one]
  by_cases hi : i < 32
  · simp [hi]
  · have : c.testBit i = false := Nat.testBit_lt_two_pow (Nat.lt_of_lt_of_le (by omega : c < 2 ^ 32) (Nat.pow_le_pow_right (by omega) (by omega)))
    simp [hi, this]

theorem crcSum_nine : crcSum 0 [49, 50, 51, 52, 53, 54, 55, 56, 57] = 3808858755 := by decide +kernel

end Go.Proofs.Ytpnnadfmhkplhaa

namespace Go.Proofs.Ytpnnadfmhkplhaa

/-- The number of bytes, the lowest first. -/
def le : List UInt8 → Nat
  | [] => 0
  | b :: l => b.toNat + 256 * le l

/-- Byte i of a number. -/
def byteAt (n i : Nat) : UInt8 := UInt8.ofNat (n / 2 ^ (8 * i))

/-- The lowest N bytes of a number. -/
def putL (n N : Nat) : List UInt8 := (List.range N).map (byteAt n)

/-- How many bytes 'long' asks for. -/
def longOf (x : Int) : Nat := min x.toNat 8

theorem putL_length (n N : Nat) : (putL n N).length = N := by simp [putL]

theorem byteAt_int (n i : Nat) : ((n : Int) / 2 ^ (8 * i) % 256) = (((byteAt n i).toNat : Nat) : Int) := by
  simp [byteAt]

theorem byteAt_toNat (n i : Nat) : (byteAt n i).toNat = n / 2 ^ (8 * i) % 256 := by simp [byteAt]

theorem le_lt (l : List UInt8) : le l < 2 ^ (8 * l.length) := by
  induction l with
  | nil => simp [le]
  | cons b l ih =>
    have hb := b.toNat_lt
    rw [List.length_cons, show 8 * (l.length + 1) = 8 + 8 * l.length from by omega, Nat.pow_add]
    simp only [le]
    omega

theorem le_lt_of {l : List UInt8} {n : Nat} (h : l.length ≤ n) : le l < 2 ^ (8 * n) :=
  Nat.lt_of_lt_of_le (le_lt l) (Nat.pow_le_pow_right (by omega) (by omega))

theorem le_lt_64 {l : List UInt8} (h : l.length ≤ 8) : le l < 18446744073709551616 := le_lt_of (n := 8) h

theorem le_append (l k : List UInt8) : le (l ++ k) = le l + 2 ^ (8 * l.length) * le k := by
  induction l with
  | nil => simp [le]
  | cons b l ih =>
    rw [List.length_cons, show 8 * (l.length + 1) = 8 + 8 * l.length from by omega, Nat.pow_add]
    simp only [List.cons_append, le, ih, Nat.mul_add, Nat.mul_assoc]
    omega

theorem le_inj : ∀ {l k : List UInt8}, l.length = k.length → le l = le k → l = k
  | [], [], _, _ => rfl
  | [], _ :: _, h, _ => by simp at h
  | _ :: _, [], h, _ => by simp at h
  | a :: l, b :: k, h, e => by
    simp only [le] at e
    have ha := a.toNat_lt
    have hb := b.toNat_lt
    have e1 : a.toNat = b.toNat := by omega
    have e2 : le l = le k := by omega
    rw [UInt8.toNat_inj.1 e1, le_inj (by simpa using h) e2]

theorem putL_succ (n N : Nat) : putL n (N + 1) = putL n N ++ [byteAt n N] := by
  simp [putL, List.range_succ]

theorem le_putL (n N : Nat) : le (putL n N) = n % 2 ^ (8 * N) := by
  induction N with
  | zero => simp [putL, le, Nat.mod_one]
  | succ N ih =>
    rw [putL_succ, le_append, ih, putL_length, show 8 * (N + 1) = 8 * N + 8 from by omega, Nat.pow_add, Nat.mod_mul]
    simp [le, byteAt_toNat]

/-- Reading from the highest byte down. -/
theorem le_drop (l : List UInt8) (k : Nat) (h : k < l.length) : le (l.drop k) = l[k].toNat + 256 * le (l.drop (k + 1)) := by
  rw [List.drop_eq_getElem_cons h]; rfl

/-- Reading from the lowest byte up, by 'or'. -/
theorem le_or (l : List UInt8) (b : UInt8) : le (l ++ [b]) = le l ||| (b.toNat * 2 ^ (8 * l.length)) := by
  rw [Nat.or_comm, Nat.mul_comm, ← Nat.two_pow_add_eq_or_of_lt (le_lt l), le_append]
  simp [le]
  omega

theorem bytes_add (l k : List UInt8) : (ByteArray.mk l.toArray ++ ByteArray.mk k.toArray) = ByteArray.mk (l ++ k).toArray := by
  apply ByteArray.ext
  rw [ByteArray.data_append]
  simp

end Go.Proofs.Ytpnnadfmhkplhaa

namespace Go.Proofs.Ytpnnadfmhkplhaa
open Go.RowKit

theorem below_chain {w W W' : World} (h : Below w.heap.size w W) (k : Below W.heap.size W W') : Below w.heap.size w W' :=
  h.trans (k.mono h.size)

theorem below_drewN {B : Nat} {w W : World} (h : Below B w W) (n : Nat) : Below B w (W.drewN n) := ⟨h.os, h.tape, h.output, h.size, h.block⟩

/-- A row of N bytes that may be written: cell j holds f j. -/
def RowU (w : World) (b N : Nat) (f : Nat → Int) : Prop :=
  ∀ j, j < N → w.cell? ⟨b, j, none⟩ = some (.int .u8 (f j)) ∧ w.frozen? ⟨b, j, none⟩ = false

theorem RowU.congr {w : World} {b N : Nat} {f g : Nat → Int} (h : RowU w b N f) (e : ∀ j, j < N → f j = g j) : RowU w b N g :=
  fun j hj => by rw [← e j hj]; exact h j hj

theorem RowU.set {w : World} {b N : Nat} {f : Nat → Int} (h : RowU w b N f) {k : Nat} (hk : k < N) (v : Int) :
    RowU (w.setCell ⟨b, k, none⟩ (.int .u8 v)) b N (fun j => if j = k then v else f j) := by
  intro j hj
  refine ⟨?_, by rw [World.frozen?_setCell]; exact (h j hj).2⟩
  by_cases e : j = k
  · subst e; simp only [if_pos]; exact World.cell?_setCell_same _ _ _ (h j hj).1
  · simp only [if_neg e]; rw [World.cell?_setCell_other _ _ _ _ (by intro q; exact e (by simpa using q.symm))]; exact (h j hj).1

theorem RowU.made (w : World) (N : Nat) (t : TypeId) : RowU (w.alloc (.cells (madeCells #[.int .u8 0] N) t)) w.heap.size N (fun _ => 0) := by
  intro j hj
  refine ⟨?_, by simp⟩
  rw [World.cell?_alloc_new]
  have h : (madeCells #[Value.int .u8 0] N).toList[j]? = some (.int .u8 0) := by
    rw [toList_madeCells_one]; simp [hj]
  simpa using h

/-- 'string(b)' of such a row. -/
theorem RowU.toString {P : Program} {w : World} {b N c : Nat} {f : Nat → Int} (h : RowU w b N f) (l : List UInt8) (hl : l.length = N) (e : ∀ j (hj : j < l.length), f j = (l[j].toNat : Int))
    (src dst el : TypeId) (hs : P.underlying src = some (.slice el)) (he : P.underlying el = some (.int .u8)) (hd : P.underlying dst = some .string) :
    (convert src dst (.slice (some ⟨b, 0, none⟩) N c)).run P w = .ok (.string ⟨l.toArray⟩) w := by
  subst hl
  refine run_convert_bytes_back w src dst el ⟨b, 0, none⟩ c l hs he hd (fun j hj => ?_)
  have := (h j hj).1
  rw [← e j hj, ← this]
  by_cases h0 : j = 0
  · subst h0; simp [Addr.add]
  · simp [Addr.add, h0]

theorem info5 : (Try.prog.info? 5).map (fun i => (i.zero, i.size, i.bytes)) = some (some (.int .u8 0), 1, 1) := by kernel_rfl

set_option maxHeartbeats 400000 in
theorem put_any (n : Nat) (x : Int) (w : World) (_hn : n < 18446744073709551616) :
    Calls Try.prog 33 #[.int .u64 n, .int .i64 x] w fun e w' => e = .returned (.string ⟨(putL n (longOf x)).toArray⟩) ∧ Below w.heap.size w w' := by
  have hN : longOf x ≤ 8 := by unfold longOf; omega
  have hmk := run_make_row' (P := Try.prog) 63 5 (.int .u8 0) 1 Try.underlying63 info5 rfl .i64 .i64 (longOf x) (by omega) (by omega)
  have h1 : (if x < 0 then (0 : Int) else x) = ((x.toNat : Nat) : Int) := by split <;> omega
  have h2 : (if (8 : Int) < ((x.toNat : Nat) : Int) then 8 else ((x.toNat : Nat) : Int)) = ((longOf x : Nat) : Int) := by unfold longOf; split <;> omega
  generalize longOf x = N at *
  generalize x.toNat = y at *
  go_enter Try.func33, Try.ntmps33
  go_wp2_with fail
  go_loopw [13] (fun i wr => ∃ k : Nat, k ≤ N ∧ i = .int .i64 k ∧ Below w.heap.size w wr ∧ RowU wr w.heap.size N (fun j => if j < k then ((byteAt n j).toNat : Int) else 0)) (fun i _ => N - (intOf i).toNat)
  case atStart => exact ⟨0, by omega, rfl, (Below.refl _ _).alloc (Nat.le_refl _) _, (RowU.made w N _).congr (fun j _ => by simp)⟩
  case round =>
    obtain ⟨k, hk, rfl, hb, hr⟩ := hrel
    by_cases hlt : k < N
    · have hck := (hr k hlt).1
      have hfk := (hr k hlt).2
      go_wp2
      go_roundw
      case rel =>
        refine ⟨k + 1, by omega, by go_num, hb.setCell (Nat.le_refl _) _, (hr.set hlt _).congr (fun j hj => ?_)⟩
        by_cases e : j = k
        · subst e; rw [if_pos rfl, if_pos (by omega)]; exact byteAt_int n j
        · rw [if_neg e]; by_cases h : j < k
          · rw [if_pos h, if_pos (by omega)]
          · rw [if_neg h, if_neg (by omega)]
      case measure => simp [intOf]; omega
    · obtain rfl : k = N := by omega
      have hcv := hr.toString (P := Try.prog) (c := k) (putL n k) (putL_length n k) (fun j hj => by rw [putL_length] at hj; simp [putL, hj]) 63 9 5 Try.underlying63 Try.underlying5 Try.underlying9
      clear hr
      go_wp2
      go_ret
      exact ⟨rfl, hb⟩

/-- 'string([]byte{b})' of a block that was just laid. -/
theorem one_byte {P : Program} (w : World) (q : Nat) (src dst el : TypeId) (hs : P.underlying src = some (.slice el)) (he : P.underlying el = some (.int .u8)) (hd : P.underlying dst = some .string) :
    (convert src dst (.slice (some ⟨w.heap.size, 0, none⟩) 1 1)).run P (w.alloc (.cells #[.int .u8 ((q : Int) % 256)] el)) = .ok (.string ⟨[UInt8.ofNat q].toArray⟩) (w.alloc (.cells #[.int .u8 ((q : Int) % 256)] el)) := by
  refine RowU.toString (N := 1) (f := fun _ => (q : Int) % 256) (fun j hj => ?_) [UInt8.ofNat q] rfl (fun j hj => ?_) src dst el hs he hd
  · obtain rfl : j = 0 := by omega
    exact ⟨by simp, by simp⟩
  · obtain rfl : j = 0 := by simpa using hj
    simp


end Go.Proofs.Ytpnnadfmhkplhaa

namespace Go.Proofs.Ytpnnadfmhkplhaa
open Go.RowKit
set_option linter.unusedVariables false

/-- What lies at a place. -/
def part (s : ByteArray) (at' long : Nat) : List UInt8 := (s.data.toList.drop at').take long

theorem part_length {s : ByteArray} {a n : Nat} (h : a + n ≤ s.size) : (part s a n).length = n := by
  simp [part]; omega

theorem part_snoc {s : ByteArray} {a n : Nat} (h : a + n < s.size) : part s a (n + 1) = part s a n ++ [s[a + n]] := by
  unfold part
  rw [List.take_succ_eq_append_getElem (by simp; omega)]
  congr 1
  simp [List.getElem_drop]
  rfl

theorem or_byte {y b k : Nat} (hy : y < 18446744073709551616) (hb : b < 256) (hk : k < 8) :
    bits .or .u64 (y : Int) (IntKind.u64.wrap (IntKind.u64.wrap (b : Int) * 2 ^ (8 * k))) = ((y ||| b * 2 ^ (8 * k) : Nat) : Int) := by
  have h1 : 2 ^ (8 * k) ≤ 2 ^ 56 := Nat.pow_le_pow_right (by omega) (by omega)
  have h2 : b * 2 ^ (8 * k) ≤ 255 * 2 ^ 56 := Nat.mul_le_mul (by omega) h1
  have e1 : IntKind.u64.wrap (b : Int) = (b : Int) := by rw [IntKind.wrap_u64]; omega
  have e2 : (b : Int) * 2 ^ (8 * k) = ((b * 2 ^ (8 * k) : Nat) : Int) := by simp
  rw [e1, e2]
  generalize b * 2 ^ (8 * k) = z at *
  have e3 : IntKind.u64.wrap (z : Int) = (z : Int) := by rw [IntKind.wrap_u64]; omega
  rw [e3]
  exact u64_or_nat _ _ hy (by omega)

set_option maxHeartbeats 400000 in
theorem get_arg (s : ByteArray) (a n : Int) (w : World) (h : n < 0 ∨ 8 < n ∨ a < 0 ∨ (s.size : Int) < a) (hs : s.size ≤ maxLen) :
    Calls Try.prog 37 #[.string s, .int .i64 a, .int .i64 n] w fun e w' => e = .returned (.tuple #[.int .u64 0, .int .i64 1]) ∧ w' = w := by
  unfold maxLen at hs
  by_cases h1 : n < 0
  · go_enter Try.func37, Try.ntmps37
    go_wp2
    go_ret2
    exact ⟨rfl, rfl⟩
  by_cases h2 : 8 < n
  · go_enter Try.func37, Try.ntmps37
    go_wp2
    go_ret2
    exact ⟨rfl, rfl⟩
  by_cases h3 : a < 0
  · go_enter Try.func37, Try.ntmps37
    go_wp2
    go_ret2
    exact ⟨rfl, rfl⟩
  have h4 : (s.size : Int) < a := by omega
  clear h
  go_enter Try.func37, Try.ntmps37
  go_wp2
  go_ret2
  exact ⟨rfl, rfl⟩

set_option maxHeartbeats 400000 in
theorem get_cut (s : ByteArray) (a n : Nat) (w : World) (hn : n ≤ 8) (ha : a ≤ s.size) (h : s.size < a + n) (hs : s.size ≤ maxLen) :
    Calls Try.prog 37 #[.string s, .int .i64 a, .int .i64 n] w fun e w' => e = .returned (.tuple #[.int .u64 0, .int .i64 4]) ∧ w' = w := by
  unfold maxLen at hs
  go_enter Try.func37, Try.ntmps37
  go_wp2
  go_ret2
  exact ⟨rfl, rfl⟩

set_option maxHeartbeats 400000 in
theorem get_ok (s : ByteArray) (a n : Nat) (w : World) (hn : n ≤ 8) (h : a + n ≤ s.size) (hs : s.size ≤ maxLen) :
    Calls Try.prog 37 #[.string s, .int .i64 a, .int .i64 n] w fun e w' => e = .returned (.tuple #[.int .u64 (le (part s a n)), .int .i64 0]) ∧ w' = w := by
  unfold maxLen at hs
  have d1 : decide ((n : Int) < 0) = false := by simp
  have d2 : decide ((8 : Int) < (n : Int)) = false := by simp; omega
  have d3 : decide ((a : Int) < 0) = false := by simp
  have d4 : decide (s.size < a) = false := by simp; omega
  have d5 : decide ((s.size : Int) - (a : Int) < (n : Int)) = false := by simp; omega
  go_enter Try.func37, Try.ntmps37
  go_wp2
  go_loop [8, 33] (fun t i => ∃ k : Nat, k ≤ n ∧ i = .int .i64 k ∧ t = .int .u64 (le (part s a k))) (fun _ i => n - (intOf i).toNat)
  case atStart => exact ⟨0, Nat.zero_le _, rfl, by simp [part, le]⟩
  case round =>
    obtain ⟨k, hk, rfl, rfl⟩ := hrel
    by_cases hlt : k < n
    · have hy : le (part s a k) < 18446744073709551616 := le_lt_64 (by rw [part_length (by omega)]; omega)
      have hk8 : k < 8 := by omega
      have Hs : Hid (le (part s a (k + 1)) = le (part s a k) ||| (s[a + k].toNat * 2 ^ (8 * k))) := by
        rw [part_snoc (by omega)]; have := le_or (part s a k) s[a + k]; rw [part_length (by omega)] at this; exact this
      generalize le (part s a k) = y at *
      go_wp2
      go_round
      case rel => exact ⟨k + 1, by omega, by go_num, by rw [Hs.out, or_byte hy s[a + k].toNat_lt hk8]⟩
      case measure => simp [intOf]; omega
    · obtain rfl : k = n := by omega
      go_wp2
      go_ret2
      exact ⟨rfl, rfl⟩



theorem bytes_size (l : List UInt8) : (ByteArray.mk l.toArray).size = l.length := by
  show l.toArray.size = l.length
  simp

theorem bytes_self (s : ByteArray) : ByteArray.mk s.data.toList.toArray = s := by simp

set_option maxHeartbeats 400000 in
theorem text_more (s : ByteArray) (w : World) (h : 65535 < s.size) (hs : s.size ≤ maxLen) :
    Calls Try.prog 47 #[.string s] w fun e w' => e = .returned (.tuple #[.string ⟨#[]⟩, .int .i64 5]) ∧ w' = w := by
  unfold maxLen at hs
  go_enter Try.func47, Try.ntmps47
  go_wp2
  go_ret2
  exact ⟨rfl, rfl⟩

set_option maxHeartbeats 400000 in
theorem text_ok (s : ByteArray) (w : World) (h : s.size ≤ 65535) :
    Calls Try.prog 47 #[.string s] w fun e w' => e = .returned (.tuple #[.string ⟨(putL s.size 2 ++ s.data.toList).toArray⟩, .int .i64 0]) ∧ Below w.heap.size w w' := by
  go_enter Try.func47, Try.ntmps47
  go_wp2_with fail
  refine (put_any s.size 2 _ (by omega)).mono ?_
  rintro e w1 ⟨rfl, hb⟩
  rw [show longOf 2 = 2 from rfl]
  have hl : (ByteArray.mk (putL s.size 2).toArray).size = 2 := by rw [bytes_size, putL_length]
  go_wp2
  go_ret2
  exact ⟨by rw [← bytes_add, bytes_self]; rfl, hb⟩

end Go.Proofs.Ytpnnadfmhkplhaa

namespace Go.Proofs.Ytpnnadfmhkplhaa
open Go.RowKit
set_option linter.unusedVariables false

/-- The texts L lie one behind the other from a on. -/
def StrsAt (w : World) (a : Option Addr) (L : List ByteArray) : Prop :=
  L = [] ∨ ∃ b o, a = some ⟨b, o, none⟩ ∧ b < w.heap.size ∧ ∀ i (hi : i < L.length), w.cell? ⟨b, o + i, none⟩ = some (.string L[i])

theorem StrsAt.nil (w : World) (a : Option Addr) : StrsAt w a [] := .inl rfl

theorem StrsAt.below {w w' : World} {a : Option Addr} {L : List ByteArray} (h : StrsAt w a L) (k : Below w.heap.size w w') : StrsAt w' a L := by
  rcases h with h | ⟨b, o, e, hb, hc⟩
  · exact .inl h
  · exact .inr ⟨b, o, e, Nat.lt_of_lt_of_le hb k.size, fun i hi => (k.cell (p := ⟨b, o + i, none⟩) hb).trans (hc i hi)⟩

theorem StrsAt.belowB {w w' : World} {B : Nat} {b o : Nat} {L : List ByteArray} (h : StrsAt w (some ⟨b, o, none⟩) L) (k : Below B w w') (hb : b < B) : StrsAt w' (some ⟨b, o, none⟩) L := by
  rcases h with h | ⟨b', o', e, hb', hc⟩
  · exact .inl h
  · cases e
    exact .inr ⟨b, o, rfl, Nat.lt_of_lt_of_le hb' k.size, fun i hi => (k.cell (p := ⟨b, o + i, none⟩) hb).trans (hc i hi)⟩

/-- A page as plain data. -/
structure SheetV where
  num : Nat
  lsn : Nat
  kind : Int
  head : ByteArray
  slots : List ByteArray

/-- A page as a value, its slots from a on. -/
def SheetV.val (p : SheetV) (a : Option Addr) (c : Nat) : Value := .agg #[.int .u32 p.num, .int .u64 p.lsn, .int .i64 p.kind, .string p.head, .slice a p.slots.length c]

/-- What the slots take. -/
def slotSum : List ByteArray → Nat
  | [] => 0
  | s :: L => 2 + s.size + slotSum L

theorem slotSum_append (L M : List ByteArray) : slotSum (L ++ M) = slotSum L + slotSum M := by
  induction L with
  | nil => simp [slotSum]
  | cons s L ih => simp only [List.cons_append, slotSum, ih]; omega

theorem slotSum_snoc (L : List ByteArray) (k : Nat) (h : k < L.length) : slotSum (L.take (k + 1)) = slotSum (L.take k) + (2 + L[k].size) := by
  rw [List.take_succ_eq_append_getElem h, slotSum_append]; simp [slotSum]

/-- The bytes that are left. -/
def roomF (p : SheetV) : Int := IntKind.i64.wrap (485 - (p.head.size : Int) - (slotSum p.slots : Int))

theorem wrap_sub (x y : Int) : IntKind.i64.wrap (IntKind.i64.wrap x - y) = IntKind.i64.wrap (x - y) := by
  simp only [IntKind.wrap_i64]; omega

theorem wrap_small {x : Int} (h1 : -9223372036854775808 ≤ x) (h2 : x ≤ 9223372036854775807) : IntKind.i64.wrap x = x := by
  rw [IntKind.wrap_i64]; omega



end Go.Proofs.Ytpnnadfmhkplhaa

namespace Go.Proofs.Ytpnnadfmhkplhaa
open Go.RowKit
set_option linter.unusedVariables false

/-- The cells of bytes. -/
def cellsOf (l : List UInt8) : List Value := l.map fun c => .int .u8 (c.toNat : Int)

/-- A writer in block b, with the bytes l, that lie in a block behind it. -/
structure IsWriter (w : World) (b : Nat) (l : List UInt8) (a : Option Addr) (c : Nat) : Prop where
  c0 : w.cell? ⟨b, 0, none⟩ = some (.slice a l.length c)
  f0 : w.frozen? ⟨b, 0, none⟩ = false
  own : w.ownsRow (b + 1) 5 1 (.slice a l.length c) l.length (cellsOf l)
  lt : b < w.heap.size

theorem strCells_eq (s : ByteArray) : Lib.strCells s = cellsOf s.data.toList := by
  unfold Lib.strCells cellsOf
  rfl

theorem i5 : (Try.prog.info? 5).map (fun i => (i.zero, i.size, i.bytes)) = some (some (.int .u8 0), 1, 1) := info5

section
variable {w : World} {b : Nat} {l : List UInt8} {a : Option Addr} {c : Nat}

set_option maxHeartbeats 800000 in
theorem wbytes_any (h : IsWriter w b l a c) (s : ByteArray) (hl : l.length + s.size ≤ 140737488355328) :
    Calls Try.prog 32 #[.pointer (some ⟨b, 0, none⟩), .string s] w fun x w' =>
      x = .returned (.tuple #[]) ∧ (∃ a' c', IsWriter w' b (l ++ s.data.toList) a' c') ∧ Below b w w' := by
  obtain ⟨i0, hi, hz0, hz1, hz2⟩ := info_parts i5
  have hc0 := h.c0
  have hf0 := h.f0
  have hown := h.own
  have hlt := h.lt
  go_enter Try.func32, Try.ntmps32
  go_wp2_with (at_builtin; refine Lib.wpList_append_own_string _ rfl _ _ 63 9 rfl (b + 1) 5 i0 Try.underlying63 Try.underlying9 hi hz0 hz1 hz2 (.slice a l.length c) l.length (cellsOf l) rfl hown s rfl (by unfold maxLen; omega) hl (by omega) ?_)
  intro v' w1 hown' hgrow _
  have hne : some b ≠ (Value.slice a l.length c).ownBlock := fun e => by have := hown.lt b e.symm; omega
  have hbk := hgrow.block b hlt hne
  have hc1 := (World.cell?_of_block (w := w) (a := ⟨b, 0, none⟩) hbk).trans hc0
  have hf1 := (World.frozen?_of_block (w := w) (a := ⟨b, 0, none⟩) hbk).trans hf0
  have hz1 : b < w1.heap.size := Nat.lt_of_lt_of_le hlt hgrow.size
  have hbel : Below b w w1 := (Below.refl b w).grown hgrow (by omega) (fun k hk => by have := hown.lt k hk; omega)
  obtain ⟨a', c', hv⟩ : ∃ a' c', v' = .slice a' (l.length + s.size) c' := by
    rcases hown'.2 with ⟨e1, e2⟩ | ⟨g, cap, cur, e1, _⟩
    · exact ⟨none, 0, by rw [e1, e2]⟩
    · exact ⟨_, _, e1⟩
  subst hv
  rw [strCells_eq] at hown'
  have HO : Hid (w1.ownsRow (b + 1) 5 1 (.slice a' (l.length + s.size) c') (l.length + s.size) (cellsOf l ++ cellsOf s.data.toList)) := hown'
  clear hown' hown hgrow hne hbk h hc0 hf0
  go_wp2
  go_end0
  have hlen : (l ++ s.data.toList).length = l.length + s.size := by simp
  refine ⟨rfl, ⟨a', c', ?_, ?_, ?_, ?_⟩, hbel.setCell (p := ⟨b, 0, none⟩) (Nat.le_refl _) _⟩
  · rw [hlen]; exact World.cell?_setCell_same _ _ _ hc1
  · rw [World.frozen?_setCell]; exact hf1
  · rw [hlen, show cellsOf (l ++ s.data.toList) = cellsOf l ++ cellsOf s.data.toList from by simp [cellsOf]]
    exact ownsRow_setCell_below HO.out (a := ⟨b, 0, none⟩) (by show b < b + 1; omega) _
  · simpa using hz1

theorem IsWriter.below (h : IsWriter w b l a c) {w' : World} (k : Below w.heap.size w w') : IsWriter w' b l a c :=
  ⟨(k.cell (p := ⟨b, 0, none⟩) h.lt).trans h.c0, (k.frozen (p := ⟨b, 0, none⟩) h.lt).trans h.f0,
    h.own.kept (row := none) ⟨k.os, k.tape, k.output, k.size, fun i hi _ => k.block i hi⟩ (by cases h2 : (Value.slice a l.length c).ownBlock <;> simp), Nat.lt_of_lt_of_le h.lt k.size⟩

theorem below_lower {w1 w2 : World} (h : Below w.heap.size w w1) (k : Below b w1 w2) (hb : b ≤ w.heap.size) : Below b w w2 := (h.mono hb).trans k

set_option maxHeartbeats 400000 in
theorem wnumber_any (h : IsWriter w b l a c) (n : Nat) (x : Int) (hn : n < 18446744073709551616) (hl : l.length + 8 ≤ 140737488355328) :
    Calls Try.prog 9 #[.pointer (some ⟨b, 0, none⟩), .int .u64 n, .int .i64 x] w fun y w' =>
      y = .returned (.tuple #[]) ∧ (∃ a' c', IsWriter w' b (l ++ putL n (longOf x)) a' c') ∧ Below b w w' := by
  have hlt := h.lt
  have hlen : (ByteArray.mk (putL n (longOf x)).toArray).size ≤ 8 := by rw [bytes_size, putL_length]; unfold longOf; omega
  go_enter Try.func9, Try.ntmps9
  go_wp2_with fail
  refine (put_any n x _ hn).mono ?_
  rintro y w1 ⟨rfl, b1⟩
  go_wp2_with fail
  refine (wbytes_any (h.below b1) _ (by omega)).mono ?_
  rintro y w2 ⟨rfl, ⟨a', c', h2⟩, b2⟩
  go_wp2
  go_end0
  refine ⟨rfl, ⟨a', c', ?_⟩, below_lower b1 b2 (by omega)⟩
  simpa using h2

/-- The error of Text. -/
def textE (s : ByteArray) : Int := if s.size ≤ 65535 then 0 else 5

/-- The bytes of Text. -/
def textB (s : ByteArray) : List UInt8 := if s.size ≤ 65535 then putL s.size 2 ++ s.data.toList else []

set_option maxHeartbeats 400000 in
theorem wtext_any (h : IsWriter w b l a c) (s : ByteArray) (hs : s.size ≤ 140737488351232) (hl : l.length + 65537 ≤ 140737488355328) :
    Calls Try.prog 34 #[.pointer (some ⟨b, 0, none⟩), .string s] w fun y w' =>
      y = .returned (.int .i64 (textE s)) ∧ (∃ a' c', IsWriter w' b (l ++ textB s) a' c') ∧ Below b w w' := by
  have hlt := h.lt
  by_cases hz : s.size ≤ 65535
  · have hlen : (ByteArray.mk (putL s.size 2 ++ s.data.toList).toArray).size ≤ 65537 := by rw [bytes_size]; simp [putL_length]; omega
    go_enter Try.func34, Try.ntmps34
    go_wp2_with fail
    refine (text_ok s _ hz).mono ?_
    rintro y w1 ⟨rfl, b1⟩
    go_wp2_with fail
    refine (wbytes_any (h.below b1) _ (by omega)).mono ?_
    rintro y w2 ⟨rfl, ⟨a', c', h2⟩, b2⟩
    go_wp2
    go_ret
    refine ⟨by unfold textE; rw [if_pos hz]; rfl, ⟨a', c', ?_⟩, below_lower b1 b2 (by omega)⟩
    unfold textB; rw [if_pos hz]
    simpa using h2
  · go_enter Try.func34, Try.ntmps34
    go_wp2_with fail
    refine (text_more s _ (by omega) (by unfold maxLen; omega)).mono ?_
    rintro y w1 ⟨rfl, rfl⟩
    go_wp2
    go_ret
    refine ⟨by unfold textE; rw [if_neg hz]; rfl, ⟨a, c, ?_⟩, Below.refl _ _⟩
    unfold textB; rw [if_neg hz, List.append_nil]
    exact h

set_option maxHeartbeats 400000 in
theorem wbool_any (h : IsWriter w b l a c) (v : Bool) (hl : l.length + 8 ≤ 140737488355328) :
    Calls Try.prog 35 #[.pointer (some ⟨b, 0, none⟩), .bool v] w fun y w' =>
      y = .returned (.tuple #[]) ∧ (∃ a' c', IsWriter w' b (l ++ putL v.toNat 1) a' c') ∧ Below b w w' := by
  cases v
  · go_enter Try.func35, Try.ntmps35
    go_wp2_with fail
    refine (wnumber_any h 0 1 (by decide) hl).mono ?_
    rintro y w2 ⟨rfl, h2, b2⟩
    go_wp2
    go_end0
    exact ⟨rfl, h2, b2⟩
  · go_enter Try.func35, Try.ntmps35
    go_wp2_with fail
    refine (wnumber_any h 1 1 (by decide) hl).mono ?_
    rintro y w2 ⟨rfl, h2, b2⟩
    go_wp2
    go_end0
    exact ⟨rfl, h2, b2⟩



theorem IsWriter.toString (h : IsWriter w b l a c) : (convert 63 9 (.slice a l.length c)).run Try.prog w = .ok (.string ⟨l.toArray⟩) w := by
  rcases h.own.2 with ⟨e1, e2⟩ | ⟨g, cap, cur, e1, _⟩
  · have hl : l = [] := List.eq_nil_of_length_eq_zero e2
    rw [e1, hl]
    exact run_convert_bytes_nil w 63 5 Try.underlying63 Try.underlying5 0 0 9 Try.underlying9
  · have ho := h.own
    rw [e1] at ho ⊢
    exact run_convert_bytes_back w 63 9 5 ⟨g, 0, none⟩ cap l Try.underlying63 Try.underlying5 Try.underlying9 (fun j hj => ho.cells rfl j _ (by simp [cellsOf, hj]))

set_option maxHeartbeats 400000 in
theorem wall_any (h : IsWriter w b l a c) :
    Calls Try.prog 18 #[.pointer (some ⟨b, 0, none⟩)] w fun y w' => y = .returned (.string ⟨l.toArray⟩) ∧ w' = w := by
  have hc0 := h.c0
  have hcv := h.toString
  go_enter Try.func18, Try.ntmps18
  go_wp2
  go_ret
  exact ⟨rfl, rfl⟩

end

set_option maxHeartbeats 400000 in
theorem new_writer (w : World) :
    Calls Try.prog 8 #[] w fun y w' => y = .returned (.pointer (some ⟨w.heap.size, 0, none⟩)) ∧ IsWriter w' w.heap.size [] none 0 ∧ Below w.heap.size w w' := by
  go_enter Try.func8, Try.ntmps8
  go_wp2
  go_ret
  exact ⟨rfl, ⟨by simp, by simp, World.ownsRow_nil _ _ _ _, by simp⟩, (Below.refl _ _).alloc (Nat.le_refl _) _⟩

end Go.Proofs.Ytpnnadfmhkplhaa

namespace Go.Proofs.Ytpnnadfmhkplhaa
open Go.RowKit



theorem take_snoc (s : ByteArray) (k : Nat) (h : k < s.size) : s.data.toList.take (k + 1) = s.data.toList.take k ++ [s[k]] := by
  rw [List.take_succ_eq_append_getElem (by simpa using h)]; rfl






end Go.Proofs.Ytpnnadfmhkplhaa

namespace Go.Proofs.Ytpnnadfmhkplhaa
open Go.RowKit
set_option linter.unusedVariables false

/-- The lengths of slots. -/
def slotLens : List ByteArray → List UInt8
  | [] => []
  | s :: L => putL s.size 2 ++ slotLens L

/-- The bytes of slots. -/
def slotBytes : List ByteArray → List UInt8
  | [] => []
  | s :: L => s.data.toList ++ slotBytes L

theorem slotLens_append (L M : List ByteArray) : slotLens (L ++ M) = slotLens L ++ slotLens M := by
  induction L with
  | nil => rfl
  | cons s L ih => simp only [List.cons_append, slotLens, ih, List.append_assoc]

theorem slotBytes_append (L M : List ByteArray) : slotBytes (L ++ M) = slotBytes L ++ slotBytes M := by
  induction L with
  | nil => rfl
  | cons s L ih => simp only [List.cons_append, slotBytes, ih, List.append_assoc]

theorem slotLens_snoc (L : List ByteArray) (k : Nat) (h : k < L.length) : slotLens (L.take (k + 1)) = slotLens (L.take k) ++ putL L[k].size 2 := by
  rw [List.take_succ_eq_append_getElem h, slotLens_append]; simp [slotLens]

theorem slotBytes_snoc (L : List ByteArray) (k : Nat) (h : k < L.length) : slotBytes (L.take (k + 1)) = slotBytes (L.take k) ++ L[k].data.toList := by
  rw [List.take_succ_eq_append_getElem h, slotBytes_append]; simp [slotBytes]

theorem slotLens_length (L : List ByteArray) : (slotLens L).length = 2 * L.length := by
  induction L with
  | nil => rfl
  | cons s L ih => simp only [slotLens, List.length_append, putL_length, ih, List.length_cons]; omega

theorem slot_lengths (L : List ByteArray) : (slotLens L).length + (slotBytes L).length = slotSum L := by
  induction L with
  | nil => rfl
  | cons s L ih =>
    have : s.data.toList.length = s.size := by simp
    simp only [slotLens, slotBytes, slotSum, List.length_append, putL_length]; omega

theorem slotSum_take (L : List ByteArray) (k : Nat) : slotSum (L.take k) ≤ slotSum L := by
  conv => rhs; rw [← List.take_append_drop k L, slotSum_append]
  omega

theorem slotSum_at (L : List ByteArray) (k : Nat) (h : k < L.length) : 2 + L[k].size ≤ slotSum L := by
  have := slotSum_snoc L k h
  have := slotSum_take L (k + 1)
  omega

theorem slotSum_len (L : List ByteArray) : 2 * L.length ≤ slotSum L := by
  have := slotLens_length L
  have := slot_lengths L
  omega

/-- A page's bytes without the zeros, from the LSN on. -/
def bodyL (p : SheetV) : List UInt8 :=
  putL p.lsn 8 ++ putL p.num 4 ++ putL p.kind.toNat 1 ++ putL p.head.size 1 ++ p.head.data.toList ++ putL p.slots.length 1 ++ slotLens p.slots ++ slotBytes p.slots

/-- All but the sum. -/
def restL (p : SheetV) : List UInt8 := bodyL p ++ List.replicate (485 - p.head.size - slotSum p.slots) 0 ++ putL p.lsn 8

/-- A page's bytes. -/
def encL (p : SheetV) : List UInt8 := putL (crcSum 0 (restL p)) 4 ++ restL p

theorem bodyL_length (p : SheetV) : (bodyL p).length = 15 + p.head.size + slotSum p.slots := by
  have := slot_lengths p.slots
  have : p.head.data.toList.length = p.head.size := by simp
  simp only [bodyL, List.length_append, putL_length]; omega

theorem restL_length (p : SheetV) (h : p.head.size + slotSum p.slots ≤ 485) : (restL p).length = 508 := by
  simp only [restL, List.length_append, bodyL_length, putL_length, List.length_replicate]; omega

theorem encL_length (p : SheetV) (h : p.head.size + slotSum p.slots ≤ 485) : (encL p).length = 512 := by
  simp only [encL, List.length_append, restL_length p h, putL_length]

/-- The error of Encode. -/
def encE (p : SheetV) : Int := if p.kind < 0 ∨ 255 < p.kind ∨ 32 < p.head.size ∨ 64 < p.slots.length then 1 else if 485 < p.head.size + slotSum p.slots then 30 else 0

section
variable {w0 w : World} {b : Nat} {l : List UInt8} {a : Option Addr} {c : Nat}

theorem StrsAt.reach {L : List ByteArray} {s : Option Addr} (hm : StrsAt w0 s L) (h0 : Below w0.heap.size w0 w) {k : Nat} (hk : k < L.length) :
    ∃ bs o, s = some ⟨bs, o, none⟩ ∧ w.cell? ⟨bs, o + k, none⟩ = some (.string L[k]) := by
  rcases hm with hm | ⟨bs, o, rfl, hb, hc⟩
  · subst hm; simp at hk
  · exact ⟨bs, o, rfl, (h0.cell (p := ⟨bs, o + k, none⟩) hb).trans (hc k hk)⟩



end
end Go.Proofs.Ytpnnadfmhkplhaa

namespace Go.Proofs.Ytpnnadfmhkplhaa
open Go.Shelf Go.RowKit





theorem repeatL_one_zero (n : Nat) : Lib.repeatL [0] n = List.replicate n (0 : UInt8) := by
  induction n with
  | zero => rfl
  | succ n ih => rw [List.replicate_succ, ← ih]; rfl



end Go.Proofs.Ytpnnadfmhkplhaa

namespace Go.Proofs.Ytpnnadfmhkplhaa
open Go.RowKit
set_option linter.unusedVariables false

/-- What is known of a page that was handed in: its parts' sizes, its slots' place. -/
structure SheetV.Ok (p : SheetV) (w : World) (a : Option Addr) : Prop where
  num : p.num < 4294967296
  lsn : p.lsn < 18446744073709551616
  kind : -9223372036854775808 ≤ p.kind ∧ p.kind ≤ 9223372036854775807
  head : p.head.size ≤ 140737488351232
  len : p.slots.length ≤ 8796093021952
  slots : ∀ s ∈ p.slots, s.size ≤ 140737488351232
  mem : StrsAt w a p.slots

theorem SheetV.Ok.below {p : SheetV} {w w' : World} {a : Option Addr} (h : p.Ok w a) (k : Below w.heap.size w w') : p.Ok w' a :=
  ⟨h.num, h.lsn, h.kind, h.head, h.len, h.slots, h.mem.below k⟩



theorem slotSum_le (L : List ByteArray) (hn : L.length ≤ 64) (hs : ∀ s ∈ L, s.size ≤ 140737488351232) : slotSum L ≤ 64 * 140737488351234 := by
  have : ∀ M : List ByteArray, (∀ s ∈ M, s.size ≤ 140737488351232) → slotSum M ≤ M.length * 140737488351234 := by
    intro M
    induction M with
    | nil => intro _; simp [slotSum]
    | cons s M ih =>
      intro h
      have h1 := h s (by simp)
      have h2 := ih (fun x hx => h x (by simp [hx]))
      simp only [slotSum, List.length_cons, Nat.add_mul]
      omega
  exact Nat.le_trans (this L hs) (Nat.mul_le_mul_right _ hn)

theorem roomF_eq {p : SheetV} {w : World} {a : Option Addr} (h : p.Ok w a) (hn : p.slots.length ≤ 64) : roomF p = 485 - (p.head.size : Int) - (slotSum p.slots : Int) := by
  have h1 := slotSum_le p.slots hn h.slots
  have h2 := h.head
  exact wrap_small (by omega) (by omega)





/-- A box of five cells is read as it was laid. -/
theorem box5 {w wX : World} {v0 v1 v2 v3 v4 : Value} {T : TypeId} (hb : Below (w.heap.size + 1) (w.alloc (.cells #[v0, v1, v2, v3, v4] T)) wX) :
    wX.cell? ⟨w.heap.size, 0, none⟩ = some v0 ∧ wX.cell? ⟨w.heap.size, 1, none⟩ = some v1 ∧ wX.cell? ⟨w.heap.size, 2, none⟩ = some v2 ∧ wX.cell? ⟨w.heap.size, 3, none⟩ = some v3 ∧ wX.cell? ⟨w.heap.size, 4, none⟩ = some v4 :=
  ⟨(hb.cell (p := ⟨w.heap.size, 0, none⟩) (by simp)).trans (by simp), (hb.cell (p := ⟨w.heap.size, 1, none⟩) (by simp)).trans (by simp), (hb.cell (p := ⟨w.heap.size, 2, none⟩) (by simp)).trans (by simp),
    (hb.cell (p := ⟨w.heap.size, 3, none⟩) (by simp)).trans (by simp), (hb.cell (p := ⟨w.heap.size, 4, none⟩) (by simp)).trans (by simp)⟩

theorem wnumber_is {w : World} {b : Nat} {l : List UInt8} {a : Option Addr} {c : Nat} (h : IsWriter w b l a c) (n k : Nat) (hn : n < 18446744073709551616) (hk : k ≤ 8) (hl : l.length + 8 ≤ 140737488355328) :
    Calls Try.prog 9 #[.pointer (some ⟨b, 0, none⟩), .int .u64 n, .int .i64 k] w fun y w' =>
      y = .returned (.tuple #[]) ∧ (∃ a' c', IsWriter w' b (l ++ putL n k) a' c') ∧ Below b w w' := by
  have := wnumber_any h n k hn hl
  rw [show longOf (k : Int) = k from by unfold longOf; omega] at this
  exact this

end Go.Proofs.Ytpnnadfmhkplhaa

namespace Go.Proofs.Ytpnnadfmhkplhaa
open Go.RowKit
set_option linter.unusedVariables false



end Go.Proofs.Ytpnnadfmhkplhaa

namespace Go.Proofs.Ytpnnadfmhkplhaa
open Go.Shelf Go.RowKit

def cloneRen : Go.Shelf.Ren := ⟨fun | 316 => 52 | n => n, fun | 9 => 9 | 3 => 3 | 4 => 4 | 37 => 63 | 0 => 0 | 127 => 89 | 5 => 5 | n => n, fun | n => n⟩

theorem cloneLays : Go.Proofs.LaysM.n316 Try.prog cloneRen := {
  mixed := by kernel_rfl
  f316 := Try.func52.trans (congrArg some (by kernel_rfl))
  t0 := Try.underlying0
  a0 := Try.isAgg0
  z0 := Try.sizeOf0
  v0 := Try.zeroValue0
  t3 := Try.underlying3
  a3 := Try.isAgg3
  z3 := Try.sizeOf3
  v3 := Try.zeroValue3
  t4 := Try.underlying4
  a4 := Try.isAgg4
  z4 := Try.sizeOf4
  v4 := Try.zeroValue4
  t9 := Try.underlying9
  a9 := Try.isAgg9
  z9 := Try.sizeOf9
  v9 := Try.zeroValue9
  t37 := Try.underlying63
  a37 := Try.isAgg63
  z37 := Try.sizeOf63
  v37 := Try.zeroValue63
  t127 := Try.underlying89
  a127 := Try.isAgg89
  z127 := Try.sizeOf89
  v127 := Try.zeroValue89
  t5 := Try.underlying5
  a5 := Try.isAgg5
  z5 := Try.sizeOf5
  v5 := Try.zeroValue5
  i0 := by kernel_rfl
  i3 := by kernel_rfl
  i4 := by kernel_rfl
  i5 := by kernel_rfl
  i9 := by kernel_rfl
  i37 := by kernel_rfl
  i127 := by kernel_rfl }

theorem clone_inner (s : ByteArray) (w : World) (hlim : s.size ≤ 281474976710656) :
    Calls Try.prog 52 #[.string s] w fun e w' => e = .returned (.string s) ∧ Below w.heap.size w w' := Any.stringslite_Clone cloneLays s w hlim

set_option maxHeartbeats 400000 in
theorem clone_any (s : ByteArray) (w : World) (hlim : s.size ≤ 281474976710656) :
    Calls Try.prog 50 #[.string s] w fun e w' => e = .returned (.string s) ∧ Below w.heap.size w w' := by
  go_enter Try.func50, Try.ntmps50
  go_wp2_with fail
  refine (clone_inner s _ hlim).mono ?_
  rintro e w1 ⟨rfl, hb⟩
  go_wp2
  go_ret
  exact ⟨rfl, hb⟩

end Go.Proofs.Ytpnnadfmhkplhaa

namespace Go.Proofs.Ytpnnadfmhkplhaa
open Go.RowKit
set_option linter.unusedVariables false

/-- w' is as w was, but for block b and for new blocks. -/
structure Only (b : Nat) (w w' : World) : Prop where
  os : w'.os = w.os
  tape : w'.tape = w.tape
  output : w'.output = w.output
  size : w.heap.size ≤ w'.heap.size
  block : ∀ k, k < w.heap.size → k ≠ b → w'.heap[k]? = w.heap[k]?

theorem Only.refl (b : Nat) (w : World) : Only b w w := ⟨rfl, rfl, rfl, Nat.le_refl _, fun _ _ _ => rfl⟩

theorem Only.trans {b : Nat} {u v w : World} (h : Only b u v) (k : Only b v w) : Only b u w :=
  ⟨k.os.trans h.os, k.tape.trans h.tape, k.output.trans h.output, Nat.le_trans h.size k.size, fun i hi hb => (k.block i (Nat.lt_of_lt_of_le hi h.size) hb).trans (h.block i hi hb)⟩

theorem Only.of_below {b : Nat} {w w' : World} (h : Below w.heap.size w w') : Only b w w' := ⟨h.os, h.tape, h.output, h.size, fun k hk _ => h.block k hk⟩

theorem Only.drewN {b : Nat} {w w' : World} (h : Only b w w') (n : Nat) : Only b w (w'.drewN n) := ⟨h.os, h.tape, h.output, h.size, h.block⟩

theorem Only.setCell {b : Nat} {w w' : World} (h : Only b w w') (i : Nat) (v : Value) : Only b w (w'.setCell ⟨b, i, none⟩ v) :=
  h.trans ⟨rfl, rfl, rfl, by simp, fun k _ hk => Below.heap_setCell _ _ _ _ hk⟩

theorem Only.below {b B : Nat} {w u v : World} (h : Only b u v) (k : Below B w u) (hB : B ≤ b) (hw : B ≤ w.heap.size) : Below B w v :=
  ⟨h.os.trans k.os, h.tape.trans k.tape, h.output.trans k.output, Nat.le_trans k.size h.size, fun i hi => (h.block i (Nat.lt_of_lt_of_le hi (Nat.le_trans hw k.size)) (by omega)).trans (k.block i hi)⟩

theorem Only.cell {b : Nat} {w w' : World} (h : Only b w w') {p : Addr} (hp : p.block < w.heap.size) (hb : p.block ≠ b) : w'.cell? p = w.cell? p := World.cell?_of_block (w := w) (h.block p.block hp hb)

/-- A reader in block b: the text, how many bytes were taken, the error. -/
structure IsReader (w : World) (b : Nat) (s : ByteArray) (p : Nat) (e : Int) : Prop where
  c0 : w.cell? ⟨b, 0, none⟩ = some (.string s)
  c1 : w.cell? ⟨b, 1, none⟩ = some (.int .i64 p)
  c2 : w.cell? ⟨b, 2, none⟩ = some (.int .i64 e)
  f1 : w.frozen? ⟨b, 1, none⟩ = false
  f2 : w.frozen? ⟨b, 2, none⟩ = false
  le : p ≤ s.size
  sz : s.size ≤ 281474976710656
  lt : b < w.heap.size

theorem IsReader.drewN {w : World} {b : Nat} {s : ByteArray} {p : Nat} {e : Int} (h : IsReader w b s p e) (n : Nat) : IsReader (w.drewN n) b s p e :=
  ⟨by simpa using h.c0, by simpa using h.c1, by simpa using h.c2, by simpa using h.f1, by simpa using h.f2, h.le, h.sz, h.lt⟩

theorem IsReader.below {w w' : World} {b : Nat} {s : ByteArray} {p : Nat} {e : Int} (h : IsReader w b s p e) (k : Below w.heap.size w w') : IsReader w' b s p e :=
  ⟨(k.cell (p := ⟨b, 0, none⟩) h.lt).trans h.c0, (k.cell (p := ⟨b, 1, none⟩) h.lt).trans h.c1, (k.cell (p := ⟨b, 2, none⟩) h.lt).trans h.c2,
    (k.frozen (p := ⟨b, 1, none⟩) h.lt).trans h.f1, (k.frozen (p := ⟨b, 2, none⟩) h.lt).trans h.f2, h.le, h.sz, Nat.lt_of_lt_of_le h.lt k.size⟩

theorem IsReader.setErr {w : World} {b : Nat} {s : ByteArray} {p : Nat} {e : Int} (h : IsReader w b s p e) (e' : Int) : IsReader (w.setCell ⟨b, 2, none⟩ (.int .i64 e')) b s p e' :=
  ⟨by rw [World.cell?_setCell_other _ _ _ _ (by simp)]; exact h.c0, by rw [World.cell?_setCell_other _ _ _ _ (by simp)]; exact h.c1, World.cell?_setCell_same _ _ _ h.c2,
    by rw [World.frozen?_setCell]; exact h.f1, by rw [World.frozen?_setCell]; exact h.f2, h.le, h.sz, by simpa using h.lt⟩

theorem IsReader.setAt {w : World} {b : Nat} {s : ByteArray} {p : Nat} {e : Int} (h : IsReader w b s p e) (p' : Nat) (hp : p' ≤ s.size) : IsReader (w.setCell ⟨b, 1, none⟩ (.int .i64 p')) b s p' e :=
  ⟨by rw [World.cell?_setCell_other _ _ _ _ (by simp)]; exact h.c0, World.cell?_setCell_same _ _ _ h.c1, by rw [World.cell?_setCell_other _ _ _ _ (by simp)]; exact h.c2,
    by rw [World.frozen?_setCell]; exact h.f1, by rw [World.frozen?_setCell]; exact h.f2, hp, h.sz, by simpa using h.lt⟩

section
variable {w : World} {b : Nat} {s : ByteArray} {p : Nat} {e : Int}

set_option maxHeartbeats 400000 in
theorem err_any (h : IsReader w b s p e) :
    Calls Try.prog 43 #[.pointer (some ⟨b, 0, none⟩)] w fun x w' => x = .returned (.int .i64 e) ∧ w' = w := by
  have c2 := h.c2
  go_enter Try.func43, Try.ntmps43
  go_wp2
  go_ret
  exact ⟨rfl, rfl⟩



set_option maxHeartbeats 400000 in
theorem left_any (h : IsReader w b s p e) :
    Calls Try.prog 42 #[.pointer (some ⟨b, 0, none⟩)] w fun x w' => x = .returned (.int .i64 ((s.size : Int) - (p : Int))) ∧ ∃ n, w' = w.drewN n := by
  have c0 := h.c0
  have c1 := h.c1
  have hsz := h.sz
  have hle := h.le
  go_enter Try.func42, Try.ntmps42
  go_wp2
  go_quiet (fail)
  go_wp2
  go_ret
  exact ⟨rfl, _, rfl⟩

set_option maxHeartbeats 400000 in
theorem stopped_any (h : IsReader w b s p e) :
    Calls Try.prog 36 #[.pointer (some ⟨b, 0, none⟩)] w fun x w' => x = .returned (.bool (e != 0)) ∧ w' = w := by
  go_enter Try.func36, Try.ntmps36
  go_wp2_with fail
  refine (err_any h).mono ?_
  rintro x w1 ⟨rfl, rfl⟩
  go_wp2
  go_ret
  exact ⟨rfl, rfl⟩

/-- The error behind Fail. -/
def failE (e n : Int) : Int := if e = 0 then n else e

set_option maxHeartbeats 400000 in
theorem fail_any (h : IsReader w b s p e) (n : Int) :
    Calls Try.prog 38 #[.pointer (some ⟨b, 0, none⟩), .int .i64 n] w fun x w' => x = .returned (.tuple #[]) ∧ IsReader w' b s p (failE e n) ∧ Only b w w' := by
  have c2 := h.c2
  have f2 := h.f2
  by_cases h0 : e = 0
  · subst h0
    go_enter Try.func38, Try.ntmps38
    go_wp2
    go_end0
    exact ⟨rfl, h.setErr n, (Only.refl _ _).setCell _ _⟩
  · have h1 : (e != 0) = true := by rw [bne_iff_ne]; exact h0
    go_enter Try.func38, Try.ntmps38
    go_wp2
    refine bodyPost_ret (results_none rfl _ _ _) rfl ?_
    exact ⟨rfl, by unfold failE; rw [if_neg h0]; exact h, Only.refl _ _⟩

end
end Go.Proofs.Ytpnnadfmhkplhaa

namespace Go.Proofs.Ytpnnadfmhkplhaa
open Go.RowKit
set_option linter.unusedVariables false

/-- What Number does: the place, the error, the number. -/
def numF (s : ByteArray) (p : Nat) (e n : Int) : Nat × Int × Nat :=
  if e ≠ 0 then (p, e, 0) else if n < 0 ∨ 8 < n then (p, 1, 0) else if s.size < p + n.toNat then (p, 4, 0) else (p + n.toNat, 0, le (part s p n.toNat))

/-- What Bytes does. -/
def bytesF (s : ByteArray) (p : Nat) (e n : Int) : Nat × Int × List UInt8 :=
  if e ≠ 0 then (p, e, []) else if n < 0 then (p, 1, []) else if s.size < p + n.toNat then (p, 4, []) else (p + n.toNat, 0, part s p n.toNat)

/-- What Text does. -/
def textF (s : ByteArray) (p : Nat) (e m : Int) : Nat × Int × List UInt8 :=
  if e ≠ 0 then (p, e, []) else if s.size < p + 2 then (p, 4, []) else if m < (le (part s p 2) : Int) then (p, 5, []) else
    if s.size < p + 2 + le (part s p 2) then (p, 4, []) else (p + 2 + le (part s p 2), 0, part s (p + 2) (le (part s p 2)))

/-- What Bool does. -/
def boolF (s : ByteArray) (p : Nat) (e : Int) : Nat × Int × Bool :=
  if e ≠ 0 then (p, e, false) else if s.size < p + 1 then (p, 4, false) else if 1 < le (part s p 1) then (p, 6, false) else (p + 1, 0, le (part s p 1) == 1)

/-- The error behind End. -/
def endE (s : ByteArray) (p : Nat) (e : Int) : Int := if e = 0 ∧ p < s.size then 5 else e

theorem part_extract (s : ByteArray) (a n : Nat) : (⟨(part s a n).toArray⟩ : ByteArray) = s.extract a (a + n) := by
  have := Lib.extract_data s a (a + n)
  rw [show a + n - a = n from by omega] at this
  rw [part, ← this, bytes_self]

section
variable {w : World} {b : Nat} {s : ByteArray} {p : Nat} {e : Int}

set_option maxHeartbeats 400000 in
theorem take_cut (h : IsReader w b s p 0) (a n : Nat) (ha : p + a ≤ s.size) (hn : s.size < p + a + n) (hm : n ≤ 9223372036854775807) :
    Calls Try.prog 48 #[.pointer (some ⟨b, 0, none⟩), .int .i64 a, .int .i64 n] w fun x w' => x = .returned (.string ⟨#[]⟩) ∧ IsReader w' b s p 4 ∧ Only b w w' := by
  have hsz := h.sz
  have hle := h.le
  go_enter Try.func48, Try.ntmps48
  go_wp2_with fail
  refine (left_any h).mono ?_
  rintro x w1 ⟨rfl, m, rfl⟩
  have h1 := h.drewN m
  go_wp2_with fail
  refine (fail_any h1 4).mono ?_
  rintro x w2 ⟨rfl, h2, o2⟩
  go_wp2
  go_ret
  exact ⟨rfl, h2, ((Only.refl b w).drewN m).trans o2⟩

set_option maxHeartbeats 400000 in
theorem take_ok (h : IsReader w b s p 0) (a n : Nat) (hn : p + a + n ≤ s.size) :
    Calls Try.prog 48 #[.pointer (some ⟨b, 0, none⟩), .int .i64 a, .int .i64 n] w fun x w' => x = .returned (.string ⟨(part s (p + a) n).toArray⟩) ∧ IsReader w' b s (p + a + n) 0 ∧ Only b w w' := by
  have hsz := h.sz
  have hle := h.le
  go_enter Try.func48, Try.ntmps48
  go_wp2_with fail
  refine (left_any h).mono ?_
  rintro x w1 ⟨rfl, m, rfl⟩
  have h1 := h.drewN m
  have c1 := h1.c1
  have f1 := h1.f1
  go_wp2_with fail
  have h2 := h1.setAt (p + a + n) hn
  rw [show ((p + a + n : Nat) : Int) = (p : Int) + (a : Int) + (n : Int) from by omega] at h2
  have o2 : Only b w ((w.drewN m).setCell ⟨b, 1, none⟩ (.int .i64 ((p : Int) + (a : Int) + (n : Int)))) := ((Only.refl b w).drewN m).setCell 1 _
  have d0 := h2.c0
  have d1 := h2.c1
  rw [show ((p + a + n : Nat) : Int) = (p : Int) + (a : Int) + (n : Int) from by omega] at d1
  generalize (w.drewN m).setCell ⟨b, 1, none⟩ (.int .i64 ((p : Int) + (a : Int) + (n : Int))) = W2 at *
  clear h1 c1 f1
  have hsl := fun wx => run_slice_string (P := Try.prog) wx 9 s .i64 .i64 ((p : Int) + (a : Int)) ((p : Int) + (a : Int) + (n : Int)) Try.underlying9 (by omega) (by omega) (by omega)
  rw [show ((p : Int) + (a : Int)).toNat = p + a from by omega, show ((p : Int) + (a : Int) + (n : Int)).toNat = p + a + n from by omega] at hsl
  have hcl : (s.extract (p + a) (p + a + n)).size ≤ 281474976710656 := by simp; omega
  have hex : (⟨(part s (p + a) n).toArray⟩ : ByteArray) = s.extract (p + a) (p + a + n) := by
    have := Lib.extract_data s (p + a) (p + a + n)
    rw [show p + a + n - (p + a) = n from by omega] at this
    rw [part, ← this, bytes_self]
  have Hex : Hid ((⟨(part s (p + a) n).toArray⟩ : ByteArray) = s.extract (p + a) (p + a + n)) := hex
  clear hex
  go_region_held3 (fun w' => w'.cell? ⟨b, 0, none⟩ = some (.string s) ∧ w'.cell? ⟨b, 1, none⟩ = some (.int .i64 ((p : Int) + (a : Int) + (n : Int)))) (first | go_keep | exact ⟨(b3.cell (p := ⟨b, 0, none⟩) h2.lt).trans d0, (b3.cell (p := ⟨b, 1, none⟩) h2.lt).trans d1⟩)
    (first | (go_at_call 50; refine (clone_any _ _ hcl).mono ?_; rintro x w3 ⟨rfl, b3⟩))
  go_wp2
  go_ret
  refine ⟨?_, (h2.drewN 1).below b3, o2.trans (((Only.refl b W2).drewN 1).trans (Only.of_below b3))⟩
  rw [Hex.out]; rfl

theorem numF_err (h : e ≠ 0) (n : Int) : numF s p e n = (p, e, 0) := by unfold numF; rw [if_pos h]
theorem numF_arg (n : Int) (h : n < 0 ∨ 8 < n) : numF s p 0 n = (p, 1, 0) := by unfold numF; rw [if_neg (by simp), if_pos h]
theorem numF_cut (n : Nat) (h : n ≤ 8) (hc : s.size < p + n) : numF s p 0 n = (p, 4, 0) := by
  unfold numF; rw [if_neg (by simp), if_neg (by omega), if_pos (by simpa using hc)]
theorem numF_ok (n : Nat) (h : n ≤ 8) (hc : p + n ≤ s.size) : numF s p 0 n = (p + n, 0, le (part s p n)) := by
  unfold numF; rw [if_neg (by simp), if_neg (by omega), if_neg (by simp; omega), Int.toNat_natCast]

set_option maxHeartbeats 400000 in
theorem number_any (h : IsReader w b s p e) (n : Int) :
    Calls Try.prog 20 #[.pointer (some ⟨b, 0, none⟩), .int .i64 n] w fun x w' =>
      x = .returned (.int .u64 (numF s p e n).2.2) ∧ IsReader w' b s (numF s p e n).1 (numF s p e n).2.1 ∧ Only b w w' := by
  have hsz := h.sz
  have hle := h.le
  have hsm : s.size ≤ maxLen := by unfold maxLen; omega
  by_cases he : e = 0
  · subst he
    have hst := stopped_any h
    rw [show ((0 : Int) != 0) = false from rfl] at hst
    have HST : Hid (Calls Try.prog 36 #[.pointer (some ⟨b, 0, none⟩)] w fun x w' => x = .returned (.bool false) ∧ w' = w) := hst
    clear hst
    have c0 := h.c0
    have c1 := h.c1
    by_cases hn : n < 0 ∨ 8 < n
    · rw [numF_arg n hn]
      go_enter Try.func20, Try.ntmps20
      go_wp2_with fail
      refine HST.out.mono ?_
      rintro x w1 ⟨rfl, rfl⟩
      go_wp2_with fail
      go_quiet ((go_at_call 37; exact Calls.quiet_of_same (get_arg s p n _ (by omega) hsm)))
      go_wp2_with fail
      refine (fail_any (h.drewN _) 1).mono ?_
      rintro x w2 ⟨rfl, h2, o2⟩
      go_wp2
      go_ret
      exact ⟨rfl, h2, ((Only.refl b w1).drewN _).trans o2⟩
    · obtain ⟨n, rfl⟩ := Int.eq_ofNat_of_zero_le (show 0 ≤ n by omega)
      by_cases hc : s.size < p + n
      · rw [numF_cut n (by omega) hc]
        go_enter Try.func20, Try.ntmps20
        go_wp2_with fail
        refine HST.out.mono ?_
        rintro x w1 ⟨rfl, rfl⟩
        go_wp2_with fail
        go_quiet ((go_at_call 37; exact Calls.quiet_of_same (get_cut s p n _ (by omega) (by omega) hc hsm)))
        go_wp2_with fail
        refine (fail_any (h.drewN _) 4).mono ?_
        rintro x w2 ⟨rfl, h2, o2⟩
        go_wp2
        go_ret
        exact ⟨rfl, h2, ((Only.refl b w1).drewN _).trans o2⟩
      · rw [numF_ok n (by omega) (by omega)]
        have f1 := h.f1
        go_enter Try.func20, Try.ntmps20
        go_wp2_with fail
        refine HST.out.mono ?_
        rintro x w1 ⟨rfl, rfl⟩
        go_wp2_with fail
        go_quiet ((go_at_call 37; exact Calls.quiet_of_same (get_ok s p n _ (by omega) (by omega) hsm)))
        go_wp2
        go_ret
        refine ⟨rfl, ?_, ((Only.refl b w1).drewN _).setCell 1 _⟩
        have h2 := (h.drewN nq).setAt (p + n) (by omega)
        rw [show ((p + n : Nat) : Int) = (p : Int) + (n : Int) from by omega] at h2
        exact h2
  · rw [numF_err he]
    have hst := stopped_any h
    rw [show (e != 0) = true from by rw [bne_iff_ne]; exact he] at hst
    have HST : Hid (Calls Try.prog 36 #[.pointer (some ⟨b, 0, none⟩)] w fun x w' => x = .returned (.bool true) ∧ w' = w) := hst
    clear hst
    go_enter Try.func20, Try.ntmps20
    go_wp2_with fail
    refine HST.out.mono ?_
    rintro x w1 ⟨rfl, rfl⟩
    go_wp2
    go_ret
    exact ⟨rfl, h, Only.refl _ _⟩

end
end Go.Proofs.Ytpnnadfmhkplhaa
