/-
  Plain mathematics of the sum CRC-32C on natural numbers: what one round, eight rounds, and a list of bytes do to the register. No Go program is named here.
-/
import Derived.WalkKit
namespace Go.Proofs.YtgkfdakieebnmaaGreat

def crc1 (r : Nat) : Nat := if r % 2 = 1 then (r / 2) ^^^ 2197175160 else r / 2

def crcN : Nat → Nat → Nat
  | 0, r => r
  | k + 1, r => crc1 (crcN k r)

def crcB (r b : Nat) : Nat := crcN 8 (r ^^^ b)

def crcL (r : Nat) (l : List UInt8) : Nat := l.foldl (fun r b => crcB r b.toNat) r

theorem crc1_lt {r : Nat} (h : r < 4294967296) : crc1 r < 4294967296 := by
  unfold crc1
  split
  · exact Nat.xor_lt_two_pow (n := 32) (by omega) (by omega)
  · omega

theorem crcN_lt {r : Nat} (h : r < 4294967296) (k : Nat) : crcN k r < 4294967296 := by
  induction k with
  | zero => exact h
  | succ k ih => exact crc1_lt ih

theorem crcB_lt {r b : Nat} (h : r < 4294967296) (hb : b < 256) : crcB r b < 4294967296 :=
  crcN_lt (Nat.xor_lt_two_pow (n := 32) (by omega) (by omega)) 8

theorem crcL_lt (l : List UInt8) : ∀ {r : Nat}, r < 4294967296 → crcL r l < 4294967296 := by
  induction l with
  | nil => intro r h; exact h
  | cons b l ih => intro r h; exact ih (crcB_lt h b.toNat_lt)

theorem crcL_snoc (r : Nat) (l : List UInt8) (b : UInt8) : crcL r (l ++ [b]) = crcB (crcL r l) b.toNat := by
  simp [crcL, List.foldl_append]

theorem crcL_append (r : Nat) (l k : List UInt8) : crcL r (l ++ k) = crcL (crcL r l) k := by
  simp [crcL, List.foldl_append]

def crcSum (s : Nat) (l : List UInt8) : Nat := 4294967295 - crcL (4294967295 - s) l

theorem crcSum_lt (s : Nat) (l : List UInt8) : crcSum s l < 4294967296 := by unfold crcSum; omega

theorem crcSum_append {s : Nat} (h : s < 4294967296) (l k : List UInt8) : crcSum (crcSum s l) k = crcSum s (l ++ k) := by
  unfold crcSum
  have := crcL_lt l (r := 4294967295 - s) (by omega)
  rw [crcL_append, show 4294967295 - (4294967295 - crcL (4294967295 - s) l) = crcL (4294967295 - s) l from by omega]

theorem crc1_odd {x : Nat} (hx : x < 4294967296) (h : (bits .and .u32 (x : Int) 1 == 1) = true) :
    bits .xor .u32 ((x : Int) / 2) 2197175160 = ((crc1 x : Nat) : Int) := by
  have h1 := u32_and_nat x 1 hx (by omega)
  rw [show ((1 : Nat) : Int) = 1 from rfl] at h1
  rw [h1, nat_mask1, beq_iff_eq] at h
  have h2 := u32_xor_nat (x / 2) 2197175160 (by omega) (by omega)
  rw [show ((2197175160 : Nat) : Int) = 2197175160 from rfl, show ((x / 2 : Nat) : Int) = (x : Int) / 2 from by omega] at h2
  rw [h2]; unfold crc1; rw [if_pos (by omega)]

theorem crc1_even {x : Nat} (hx : x < 4294967296) (h : (bits .and .u32 (x : Int) 1 == 1) = false) :
    ((x : Int) / 2) = ((crc1 x : Nat) : Int) := by
  have h1 := u32_and_nat x 1 hx (by omega)
  rw [show ((1 : Nat) : Int) = 1 from rfl] at h1
  rw [h1, nat_mask1, beq_eq_false_iff_ne] at h
  unfold crc1; rw [if_neg (by omega)]; omega

theorem ret_int {k : IntKind} {a b : Int} (h : a = b) : Ending.returned (.int k a) = .returned (.int k b) := by rw [h]

theorem not32 {c : Nat} (hc : c < 4294967296) : bits .xor .u32 IntKind.u32.max (c : Int) = ((4294967295 - c : Nat) : Int) := by
  have h := u32_xor_nat 4294967295 c (by omega) hc
  rw [show IntKind.u32.max = ((4294967295 : Nat) : Int) from by decide, h]
  congr 1
  rw [show 4294967295 - c = 2 ^ 32 - (c + 1) from by omega]
  apply Nat.eq_of_testBit_eq
  intro i
  rw [Nat.testBit_xor, Nat.testBit_two_pow_sub_succ (by omega), show 4294967295 = 2 ^ 32 - 1 from rfl, Nat.testBit_two_pow_sub_one]
  by_cases hi : i < 32
  · simp [hi]
  · have : c.testBit i = false := Nat.testBit_lt_two_pow (Nat.lt_of_lt_of_le (by omega : c < 2 ^ 32) (Nat.pow_le_pow_right (by omega) (by omega)))
    simp [hi, this]

end Go.Proofs.YtgkfdakieebnmaaGreat

namespace Go.Proofs.YtgkfdakieebnmaaGreat

def le : List UInt8 → Nat
  | [] => 0
  | b :: l => b.toNat + 256 * le l

def byteAt (n i : Nat) : UInt8 := UInt8.ofNat (n / 2 ^ (8 * i))

def putL (n N : Nat) : List UInt8 := (List.range N).map (byteAt n)

def longOf (x : Int) : Nat := min x.toNat 8

theorem putL_length (n N : Nat) : (putL n N).length = N := by simp [putL]

theorem byteAt_int (n i : Nat) : ((n : Int) / 2 ^ (8 * i) % 256) = (((byteAt n i).toNat : Nat) : Int) := by
  simp [byteAt]

theorem byteAt_toNat (n i : Nat) : (byteAt n i).toNat = n / 2 ^ (8 * i) % 256 := by simp [byteAt]

theorem le_lt (l : List UInt8) : le l < 2 ^ (8 * l.length) := by
  induction l with
  | nil => simp [le]
  | cons b l ih =>
    have hb := b.toNat_lt
    rw [List.length_cons, show 8 * (l.length + 1) = 8 + 8 * l.length from by omega, Nat.pow_add]
    simp only [le]
    omega

theorem le_lt_of {l : List UInt8} {n : Nat} (h : l.length ≤ n) : le l < 2 ^ (8 * n) :=
  Nat.lt_of_lt_of_le (le_lt l) (Nat.pow_le_pow_right (by omega) (by omega))

theorem le_lt_64 {l : List UInt8} (h : l.length ≤ 8) : le l < 18446744073709551616 := le_lt_of (n := 8) h

theorem le_append (l k : List UInt8) : le (l ++ k) = le l + 2 ^ (8 * l.length) * le k := by
  induction l with
  | nil => simp [le]
  | cons b l ih =>
    rw [List.length_cons, show 8 * (l.length + 1) = 8 + 8 * l.length from by omega, Nat.pow_add]
    simp only [List.cons_append, le, ih, Nat.mul_add, Nat.mul_assoc]
    omega

theorem le_inj : ∀ {l k : List UInt8}, l.length = k.length → le l = le k → l = k
  | [], [], _, _ => rfl
  | [], _ :: _, h, _ => by simp at h
  | _ :: _, [], h, _ => by simp at h
  | a :: l, b :: k, h, e => by
    simp only [le] at e
    have ha := a.toNat_lt
    have hb := b.toNat_lt
    have e1 : a.toNat = b.toNat := by omega
    have e2 : le l = le k := by omega
    rw [UInt8.toNat_inj.1 e1, le_inj (by simpa using h) e2]

theorem putL_succ (n N : Nat) : putL n (N + 1) = putL n N ++ [byteAt n N] := by
  simp [putL, List.range_succ]

theorem le_putL (n N : Nat) : le (putL n N) = n % 2 ^ (8 * N) := by
  induction N with
  | zero => simp [putL, le, Nat.mod_one]
  | succ N ih =>
    rw [putL_succ, le_append, ih, putL_length, show 8 * (N + 1) = 8 * N + 8 from by omega, Nat.pow_add, Nat.mod_mul]
    simp [le, byteAt_toNat]

theorem le_or (l : List UInt8) (b : UInt8) : le (l ++ [b]) = le l ||| (b.toNat * 2 ^ (8 * l.length)) := by
  rw [Nat.or_comm, Nat.mul_comm, ← Nat.two_pow_add_eq_or_of_lt (le_lt l), le_append]
  simp [le]
  omega

theorem bytes_add (l k : List UInt8) : (ByteArray.mk l.toArray ++ ByteArray.mk k.toArray) = ByteArray.mk (l ++ k).toArray := by
  apply ByteArray.ext
  rw [ByteArray.data_append]
  simp

end Go.Proofs.YtgkfdakieebnmaaGreat
