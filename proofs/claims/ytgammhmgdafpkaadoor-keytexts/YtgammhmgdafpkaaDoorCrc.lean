/-
  Plain mathematics of the sum CRC-32C on natural numbers: what one round, eight rounds, and a list of bytes do to the register. No Go program is named here.
-/
import Derived.WalkKit
namespace Go.Proofs.YtgammhmgdafpkaaDoor

/-- One round: the register shifted right, and turned by the feedback where the bit that went out was 1. -/
def crc1 (r : Nat) : Nat := if r % 2 = 1 then (r / 2) ^^^ 2197175160 else r / 2

/-- So many rounds. -/
def crcN : Nat → Nat → Nat
  | 0, r => r
  | k + 1, r => crc1 (crcN k r)

/-- One byte. -/
def crcB (r b : Nat) : Nat := crcN 8 (r ^^^ b)

/-- A list of bytes. -/
def crcL (r : Nat) (l : List UInt8) : Nat := l.foldl (fun r b => crcB r b.toNat) r

theorem crc1_lt {r : Nat} (h : r < 4294967296) : crc1 r < 4294967296 := by
  unfold crc1
  split
  · exact Nat.xor_lt_two_pow (n := 32) (by omega) (by omega)
  · omega

theorem crcN_lt {r : Nat} (h : r < 4294967296) (k : Nat) : crcN k r < 4294967296 := by
  induction k with
  | zero => exact h
  | succ k ih => exact crc1_lt ih

theorem crcB_lt {r b : Nat} (h : r < 4294967296) (hb : b < 256) : crcB r b < 4294967296 :=
  crcN_lt (Nat.xor_lt_two_pow (n := 32) (by omega) (by omega)) 8

theorem crcL_lt (l : List UInt8) : ∀ {r : Nat}, r < 4294967296 → crcL r l < 4294967296 := by
  induction l with
  | nil => intro r h; exact h
  | cons b l ih => intro r h; exact ih (crcB_lt h b.toNat_lt)

theorem crcL_snoc (r : Nat) (l : List UInt8) (b : UInt8) : crcL r (l ++ [b]) = crcB (crcL r l) b.toNat := by
  simp [crcL, List.foldl_append]

theorem crcL_append (r : Nat) (l k : List UInt8) : crcL r (l ++ k) = crcL (crcL r l) k := by
  simp [crcL, List.foldl_append]

/-- The sum behind 'sum' and the bytes 'l'. -/
def crcSum (s : Nat) (l : List UInt8) : Nat := 4294967295 - crcL (4294967295 - s) l

theorem crcSum_lt (s : Nat) (l : List UInt8) : crcSum s l < 4294967296 := by unfold crcSum; omega

theorem crcSum_append {s : Nat} (h : s < 4294967296) (l k : List UInt8) : crcSum (crcSum s l) k = crcSum s (l ++ k) := by
  unfold crcSum
  have := crcL_lt l (r := 4294967295 - s) (by omega)
  rw [crcL_append, show 4294967295 - (4294967295 - crcL (4294967295 - s) l) = crcL (4294967295 - s) l from by omega]

theorem crc1_odd {x : Nat} (hx : x < 4294967296) (h : (bits .and .u32 (x : Int) 1 == 1) = true) :
    bits .xor .u32 ((x : Int) / 2) 2197175160 = ((crc1 x : Nat) : Int) := by
  have h1 := u32_and_nat x 1 hx (by omega)
  rw [show ((1 : Nat) : Int) = 1 from rfl] at h1
  rw [h1, nat_mask1, beq_iff_eq] at h
  have h2 := u32_xor_nat (x / 2) 2197175160 (by omega) (by omega)
  rw [show ((2197175160 : Nat) : Int) = 2197175160 from rfl, show ((x / 2 : Nat) : Int) = (x : Int) / 2 from by omega] at h2
  rw [h2]; unfold crc1; rw [if_pos (by omega)]

theorem crc1_even {x : Nat} (hx : x < 4294967296) (h : (bits .and .u32 (x : Int) 1 == 1) = false) :
    ((x : Int) / 2) = ((crc1 x : Nat) : Int) := by
  have h1 := u32_and_nat x 1 hx (by omega)
  rw [show ((1 : Nat) : Int) = 1 from rfl] at h1
  rw [h1, nat_mask1, beq_eq_false_iff_ne] at h
  unfold crc1; rw [if_neg (by omega)]; omega

theorem crc1_odd' {x : Nat} (hx : x < 4294967296) (h : ((x : Int) % 2 == 1) = true) :
    bits .xor .u32 ((x : Int) / 2) 2197175160 = ((crc1 x : Nat) : Int) := by
  rw [beq_iff_eq] at h
  have h2 := u32_xor_nat (x / 2) 2197175160 (by omega) (by omega)
  rw [show ((2197175160 : Nat) : Int) = 2197175160 from rfl, show ((x / 2 : Nat) : Int) = (x : Int) / 2 from by omega] at h2
  rw [h2]; unfold crc1; rw [if_pos (by omega)]

theorem crc1_even' {x : Nat} (h : ((x : Int) % 2 == 1) = false) : ((x : Int) / 2) = ((crc1 x : Nat) : Int) := by
  rw [beq_eq_false_iff_ne] at h
  unfold crc1; rw [if_neg (by omega)]; omega

theorem xor_byte {x b : Nat} (hx : x < 4294967296) (hb : b < 256) : bits .xor .u32 (x : Int) ((b : Int) % 4294967296) = ((x ^^^ b : Nat) : Int) := by
  rw [Int.emod_eq_of_lt (by omega) (by omega)]
  exact u32_xor_nat _ _ hx (by omega)

theorem ret_int {k : IntKind} {a b : Int} (h : a = b) : Ending.returned (.int k a) = .returned (.int k b) := by rw [h]

theorem not32 {c : Nat} (hc : c < 4294967296) : bits .xor .u32 IntKind.u32.max (c : Int) = ((4294967295 - c : Nat) : Int) := by
  have h := u32_xor_nat 4294967295 c (by omega) hc
  rw [show IntKind.u32.max = ((4294967295 : Nat) : Int) from by decide, h]
  congr 1
  rw [show 4294967295 - c = 2 ^ 32 - (c + 1) from by omega]
  apply Nat.eq_of_testBit_eq
  intro i
  rw [Nat.testBit_xor, Nat.testBit_two_pow_sub_succ (by omega), show 4294967295 = 2 ^ 32 - 1 from rfl, Nat.testBit_two_pow_sub_one]
  by_cases hi : i < 32
  · simp [hi]
  · have : c.testBit i = false := Nat.testBit_lt_two_pow (Nat.lt_of_lt_of_le (by omega : c < 2 ^ 32) (Nat.pow_le_pow_right (by omega) (by omega)))
    simp [hi, this]

theorem crcSum_nine : crcSum 0 [49, 50, 51, 52, 53, 54, 55, 56, 57] = 3808858755 := by decide +kernel

end Go.Proofs.YtgammhmgdafpkaaDoor
