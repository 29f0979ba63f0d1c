/-
  math/bits.ReverseBytes64: the bytes of a number of 64 bits, the other way round.
-/
import Derived.Test.YtgammhmgdafpkaaDoorLe
import Derived.Test.YtgammhmgdafpkaaDoorProg
import Derived.WalkKit
namespace Go.Proofs.YtgammhmgdafpkaaDoor
open Go.RowKit
set_option linter.unusedVariables false
set_option linter.unusedSimpArgs false

/-- Bytes side by side change their places. -/
def rv1 (x : Nat) : Nat := (x / 256 &&& 71777214294589695) ||| ((x &&& 71777214294589695) * 256 % 18446744073709551616)
def rv2 (x : Nat) : Nat := (x / 65536 &&& 281470681808895) ||| ((x &&& 281470681808895) * 65536 % 18446744073709551616)
def rv3 (x : Nat) : Nat := (x / 4294967296) ||| (x * 4294967296 % 18446744073709551616)
/-- The bytes the other way round. -/
def rvN (x : Nat) : Nat := rv3 (rv2 (rv1 x))

theorem tb_or {a b : Nat} (ha : a < 18446744073709551616) (hb : b < 18446744073709551616) : a ||| b < 18446744073709551616 := Nat.or_lt_two_pow (n := 64) ha hb
theorem rv1_lt {x : Nat} (h : x < 18446744073709551616) : rv1 x < 18446744073709551616 := tb_or (Nat.lt_of_le_of_lt Nat.and_le_left (by omega)) (Nat.mod_lt _ (by omega))
theorem rv2_lt {x : Nat} (h : x < 18446744073709551616) : rv2 x < 18446744073709551616 := tb_or (Nat.lt_of_le_of_lt Nat.and_le_left (by omega)) (Nat.mod_lt _ (by omega))
theorem rv3_lt {x : Nat} (h : x < 18446744073709551616) : rv3 x < 18446744073709551616 := tb_or (by omega) (Nat.mod_lt _ (by omega))
theorem rvN_lt {x : Nat} (h : x < 18446744073709551616) : rvN x < 18446744073709551616 := rv3_lt (rv2_lt (rv1_lt h))

theorem m3_bit (k : Nat) : (71777214294589695 : Nat).testBit k = decide (k < 64 ∧ k / 8 % 2 = 0) := by
  by_cases h : k < 64
  · have : ∀ i : Fin 64, (71777214294589695 : Nat).testBit i.val = decide (i.val < 64 ∧ i.val / 8 % 2 = 0) := by decide +kernel
    exact this ⟨k, h⟩
  · rw [Nat.testBit_lt_two_pow (Nat.lt_of_lt_of_le (by omega : (71777214294589695 : Nat) < 2 ^ 64) (Nat.pow_le_pow_right (by omega) (by omega)))]
    exact (decide_eq_false (by omega)).symm
theorem m4_bit (k : Nat) : (281470681808895 : Nat).testBit k = decide (k < 64 ∧ k / 16 % 2 = 0) := by
  by_cases h : k < 64
  · have : ∀ i : Fin 64, (281470681808895 : Nat).testBit i.val = decide (i.val < 64 ∧ i.val / 16 % 2 = 0) := by decide +kernel
    exact this ⟨k, h⟩
  · rw [Nat.testBit_lt_two_pow (Nat.lt_of_lt_of_le (by omega : (281470681808895 : Nat) < 2 ^ 64) (Nat.pow_le_pow_right (by omega) (by omega)))]
    exact (decide_eq_false (by omega)).symm

theorem rv1_bit (x k : Nat) : (rv1 x).testBit k = ((x.testBit (k + 8) && decide (k < 64 ∧ k / 8 % 2 = 0)) || (decide (k < 64) && (decide (8 ≤ k) && (x.testBit (k - 8) && decide (k - 8 < 64 ∧ (k - 8) / 8 % 2 = 0))))) := by
  unfold rv1
  rw [Nat.testBit_or, Nat.testBit_and, show (256 : Nat) = 2 ^ 8 from rfl, Nat.testBit_div_two_pow, show (18446744073709551616 : Nat) = 2 ^ 64 from rfl, Nat.testBit_mod_two_pow, Nat.testBit_mul_two_pow, Nat.testBit_and, m3_bit, m3_bit]
theorem rv2_bit (x k : Nat) : (rv2 x).testBit k = ((x.testBit (k + 16) && decide (k < 64 ∧ k / 16 % 2 = 0)) || (decide (k < 64) && (decide (16 ≤ k) && (x.testBit (k - 16) && decide (k - 16 < 64 ∧ (k - 16) / 16 % 2 = 0))))) := by
  unfold rv2
  rw [Nat.testBit_or, Nat.testBit_and, show (65536 : Nat) = 2 ^ 16 from rfl, Nat.testBit_div_two_pow, show (18446744073709551616 : Nat) = 2 ^ 64 from rfl, Nat.testBit_mod_two_pow, Nat.testBit_mul_two_pow, Nat.testBit_and, m4_bit, m4_bit]
theorem rv3_bit (x k : Nat) : (rv3 x).testBit k = (x.testBit (k + 32) || (decide (k < 64) && (decide (32 ≤ k) && x.testBit (k - 32)))) := by
  unfold rv3
  rw [Nat.testBit_or, show (4294967296 : Nat) = 2 ^ 32 from rfl, Nat.testBit_div_two_pow, show (18446744073709551616 : Nat) = 2 ^ 64 from rfl, Nat.testBit_mod_two_pow, Nat.testBit_mul_two_pow]

set_option maxHeartbeats 4000000 in
theorem rvN_bit (x : Nat) : ∀ k, k < 64 → (rvN x).testBit k = x.testBit (8 * (7 - k / 8) + k % 8)
  | 0, _ => by unfold rvN; simp [-Nat.testBit_zero, rv3_bit, rv2_bit, rv1_bit]
  | 1, _ => by unfold rvN; simp [-Nat.testBit_zero, rv3_bit, rv2_bit, rv1_bit]
  | 2, _ => by unfold rvN; simp [-Nat.testBit_zero, rv3_bit, rv2_bit, rv1_bit]
  | 3, _ => by unfold rvN; simp [-Nat.testBit_zero, rv3_bit, rv2_bit, rv1_bit]
  | 4, _ => by unfold rvN; simp [-Nat.testBit_zero, rv3_bit, rv2_bit, rv1_bit]
  | 5, _ => by unfold rvN; simp [-Nat.testBit_zero, rv3_bit, rv2_bit, rv1_bit]
  | 6, _ => by unfold rvN; simp [-Nat.testBit_zero, rv3_bit, rv2_bit, rv1_bit]
  | 7, _ => by unfold rvN; simp [-Nat.testBit_zero, rv3_bit, rv2_bit, rv1_bit]
  | 8, _ => by unfold rvN; simp [-Nat.testBit_zero, rv3_bit, rv2_bit, rv1_bit]
  | 9, _ => by unfold rvN; simp [-Nat.testBit_zero, rv3_bit, rv2_bit, rv1_bit]
  | 10, _ => by unfold rvN; simp [-Nat.testBit_zero, rv3_bit, rv2_bit, rv1_bit]
  | 11, _ => by unfold rvN; simp [-Nat.testBit_zero, rv3_bit, rv2_bit, rv1_bit]
  | 12, _ => by unfold rvN; simp [-Nat.testBit_zero, rv3_bit, rv2_bit, rv1_bit]
  | 13, _ => by unfold rvN; simp [-Nat.testBit_zero, rv3_bit, rv2_bit, rv1_bit]
  | 14, _ => by unfold rvN; simp [-Nat.testBit_zero, rv3_bit, rv2_bit, rv1_bit]
  | 15, _ => by unfold rvN; simp [-Nat.testBit_zero, rv3_bit, rv2_bit, rv1_bit]
  | 16, _ => by unfold rvN; simp [-Nat.testBit_zero, rv3_bit, rv2_bit, rv1_bit]
  | 17, _ => by unfold rvN; simp [-Nat.testBit_zero, rv3_bit, rv2_bit, rv1_bit]
  | 18, _ => by unfold rvN; simp [-Nat.testBit_zero, rv3_bit, rv2_bit, rv1_bit]
  | 19, _ => by unfold rvN; simp [-Nat.testBit_zero, rv3_bit, rv2_bit, rv1_bit]
  | 20, _ => by unfold rvN; simp [-Nat.testBit_zero, rv3_bit, rv2_bit, rv1_bit]
  | 21, _ => by unfold rvN; simp [-Nat.testBit_zero, rv3_bit, rv2_bit, rv1_bit]
  | 22, _ => by unfold rvN; simp [-Nat.testBit_zero, rv3_bit, rv2_bit, rv1_bit]
  | 23, _ => by unfold rvN; simp [-Nat.testBit_zero, rv3_bit, rv2_bit, rv1_bit]
  | 24, _ => by unfold rvN; simp [-Nat.testBit_zero, rv3_bit, rv2_bit, rv1_bit]
  | 25, _ => by unfold rvN; simp [-Nat.testBit_zero, rv3_bit, rv2_bit, rv1_bit]
  | 26, _ => by unfold rvN; simp [-Nat.testBit_zero, rv3_bit, rv2_bit, rv1_bit]
  | 27, _ => by unfold rvN; simp [-Nat.testBit_zero, rv3_bit, rv2_bit, rv1_bit]
  | 28, _ => by unfold rvN; simp [-Nat.testBit_zero, rv3_bit, rv2_bit, rv1_bit]
  | 29, _ => by unfold rvN; simp [-Nat.testBit_zero, rv3_bit, rv2_bit, rv1_bit]
  | 30, _ => by unfold rvN; simp [-Nat.testBit_zero, rv3_bit, rv2_bit, rv1_bit]
  | 31, _ => by unfold rvN; simp [-Nat.testBit_zero, rv3_bit, rv2_bit, rv1_bit]
  | 32, _ => by unfold rvN; simp [-Nat.testBit_zero, rv3_bit, rv2_bit, rv1_bit]
  | 33, _ => by unfold rvN; simp [-Nat.testBit_zero, rv3_bit, rv2_bit, rv1_bit]
  | 34, _ => by unfold rvN; simp [-Nat.testBit_zero, rv3_bit, rv2_bit, rv1_bit]
  | 35, _ => by unfold rvN; simp [-Nat.testBit_zero, rv3_bit, rv2_bit, rv1_bit]
  | 36, _ => by unfold rvN; simp [-Nat.testBit_zero, rv3_bit, rv2_bit, rv1_bit]
  | 37, _ => by unfold rvN; simp [-Nat.testBit_zero, rv3_bit, rv2_bit, rv1_bit]
  | 38, _ => by unfold rvN; simp [-Nat.testBit_zero, rv3_bit, rv2_bit, rv1_bit]
  | 39, _ => by unfold rvN; simp [-Nat.testBit_zero, rv3_bit, rv2_bit, rv1_bit]
  | 40, _ => by unfold rvN; simp [-Nat.testBit_zero, rv3_bit, rv2_bit, rv1_bit]
  | 41, _ => by unfold rvN; simp [-Nat.testBit_zero, rv3_bit, rv2_bit, rv1_bit]
  | 42, _ => by unfold rvN; simp [-Nat.testBit_zero, rv3_bit, rv2_bit, rv1_bit]
  | 43, _ => by unfold rvN; simp [-Nat.testBit_zero, rv3_bit, rv2_bit, rv1_bit]
  | 44, _ => by unfold rvN; simp [-Nat.testBit_zero, rv3_bit, rv2_bit, rv1_bit]
  | 45, _ => by unfold rvN; simp [-Nat.testBit_zero, rv3_bit, rv2_bit, rv1_bit]
  | 46, _ => by unfold rvN; simp [-Nat.testBit_zero, rv3_bit, rv2_bit, rv1_bit]
  | 47, _ => by unfold rvN; simp [-Nat.testBit_zero, rv3_bit, rv2_bit, rv1_bit]
  | 48, _ => by unfold rvN; simp [-Nat.testBit_zero, rv3_bit, rv2_bit, rv1_bit]
  | 49, _ => by unfold rvN; simp [-Nat.testBit_zero, rv3_bit, rv2_bit, rv1_bit]
  | 50, _ => by unfold rvN; simp [-Nat.testBit_zero, rv3_bit, rv2_bit, rv1_bit]
  | 51, _ => by unfold rvN; simp [-Nat.testBit_zero, rv3_bit, rv2_bit, rv1_bit]
  | 52, _ => by unfold rvN; simp [-Nat.testBit_zero, rv3_bit, rv2_bit, rv1_bit]
  | 53, _ => by unfold rvN; simp [-Nat.testBit_zero, rv3_bit, rv2_bit, rv1_bit]
  | 54, _ => by unfold rvN; simp [-Nat.testBit_zero, rv3_bit, rv2_bit, rv1_bit]
  | 55, _ => by unfold rvN; simp [-Nat.testBit_zero, rv3_bit, rv2_bit, rv1_bit]
  | 56, _ => by unfold rvN; simp [-Nat.testBit_zero, rv3_bit, rv2_bit, rv1_bit]
  | 57, _ => by unfold rvN; simp [-Nat.testBit_zero, rv3_bit, rv2_bit, rv1_bit]
  | 58, _ => by unfold rvN; simp [-Nat.testBit_zero, rv3_bit, rv2_bit, rv1_bit]
  | 59, _ => by unfold rvN; simp [-Nat.testBit_zero, rv3_bit, rv2_bit, rv1_bit]
  | 60, _ => by unfold rvN; simp [-Nat.testBit_zero, rv3_bit, rv2_bit, rv1_bit]
  | 61, _ => by unfold rvN; simp [-Nat.testBit_zero, rv3_bit, rv2_bit, rv1_bit]
  | 62, _ => by unfold rvN; simp [-Nat.testBit_zero, rv3_bit, rv2_bit, rv1_bit]
  | 63, _ => by unfold rvN; simp [-Nat.testBit_zero, rv3_bit, rv2_bit, rv1_bit]
  | k + 64, h => by omega

theorem rvN_byte (x i : Nat) (hi : i < 8) : byteAt (rvN x) i = byteAt x (7 - i) := by
  apply UInt8.toNat_inj.1
  rw [byteAt_toNat, byteAt_toNat]
  apply Nat.eq_of_testBit_eq
  intro j
  rw [show (256 : Nat) = 2 ^ 8 from rfl, Nat.testBit_mod_two_pow, Nat.testBit_mod_two_pow, Nat.testBit_div_two_pow, Nat.testBit_div_two_pow]
  by_cases hj : j < 8
  · rw [rvN_bit x (j + 8 * i) (by omega)]
    congr 2
    omega
  · simp [hj]

/-- The bytes of a number the other way round. -/
theorem putL_rv (x : Nat) : putL (rvN x) 8 = (putL x 8).reverse := by
  have h : ∀ i, i < 8 → byteAt (rvN x) i = byteAt x (7 - i) := rvN_byte x
  simp only [putL, show List.range 8 = [0, 1, 2, 3, 4, 5, 6, 7] from rfl, List.map_cons, List.map_nil, h 0 (by omega), h 1 (by omega), h 2 (by omega), h 3 (by omega), h 4 (by omega), h 5 (by omega), h 6 (by omega), h 7 (by omega)]
  rfl

theorem rv1_int (x : Nat) (hx : x < 18446744073709551616) : bits .or .u64 (bits .and .u64 ((x : Int) / 256) 71777214294589695) (IntKind.u64.wrap (bits .and .u64 (x : Int) 71777214294589695 * 256)) = ((rv1 x : Nat) : Int) := by
  have a1 := u64_and_nat (x / 256) 71777214294589695 (by omega) (by omega)
  have a2 := u64_and_nat x 71777214294589695 hx (by omega)
  rw [show ((71777214294589695 : Nat) : Int) = 71777214294589695 from rfl] at a1 a2
  rw [show ((x : Int) / 256) = ((x / 256 : Nat) : Int) from by omega, a1, a2, IntKind.wrap_u64, show (((x &&& 71777214294589695 : Nat) : Int) * 256 % 18446744073709551616) = (((x &&& 71777214294589695) * 256 % 18446744073709551616 : Nat) : Int) from by omega]
  exact u64_or_nat _ _ (Nat.lt_of_le_of_lt Nat.and_le_left (by omega)) (Nat.mod_lt _ (by omega))
theorem rv2_int (x : Nat) (hx : x < 18446744073709551616) : bits .or .u64 (bits .and .u64 ((x : Int) / 65536) 281470681808895) (IntKind.u64.wrap (bits .and .u64 (x : Int) 281470681808895 * 65536)) = ((rv2 x : Nat) : Int) := by
  have a1 := u64_and_nat (x / 65536) 281470681808895 (by omega) (by omega)
  have a2 := u64_and_nat x 281470681808895 hx (by omega)
  rw [show ((281470681808895 : Nat) : Int) = 281470681808895 from rfl] at a1 a2
  rw [show ((x : Int) / 65536) = ((x / 65536 : Nat) : Int) from by omega, a1, a2, IntKind.wrap_u64, show (((x &&& 281470681808895 : Nat) : Int) * 65536 % 18446744073709551616) = (((x &&& 281470681808895) * 65536 % 18446744073709551616 : Nat) : Int) from by omega]
  exact u64_or_nat _ _ (Nat.lt_of_le_of_lt Nat.and_le_left (by omega)) (Nat.mod_lt _ (by omega))
theorem rv3_int (x : Nat) (hx : x < 18446744073709551616) : bits .or .u64 ((x : Int) / 4294967296) (IntKind.u64.wrap ((x : Int) * 4294967296)) = ((rv3 x : Nat) : Int) := by
  rw [show ((x : Int) / 4294967296) = ((x / 4294967296 : Nat) : Int) from by omega, IntKind.wrap_u64, show ((x : Int) * 4294967296 % 18446744073709551616) = ((x * 4294967296 % 18446744073709551616 : Nat) : Int) from by omega]
  exact u64_or_nat _ _ (by omega) (Nat.mod_lt _ (by omega))

set_option maxHeartbeats 400000 in
theorem rev_any (x : Nat) (w : World) (hx : x < 18446744073709551616) :
    Calls Tryd.prog 24 #[.int .u64 x] w fun e w' => e = .returned (.int .u64 (rvN x)) ∧ w' = w := by
  have h1 := rv1_int x hx
  have h2 := rv2_int (rv1 x) (rv1_lt hx)
  have h3 := rv3_int (rv2 (rv1 x)) (rv2_lt (rv1_lt hx))
  go_enter Tryd.func24, Tryd.ntmps24
  go_wp2
  go_ret
  exact ⟨rfl, rfl⟩

end Go.Proofs.YtgammhmgdafpkaaDoor
