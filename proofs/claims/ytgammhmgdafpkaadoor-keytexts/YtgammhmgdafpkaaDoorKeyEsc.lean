/-
  strings.ReplaceAll at this program's numbers: 255 behind each byte 0; the highest bit of a number turned over.
-/
import Derived.Test.YtgammhmgdafpkaaDoorShReplace
import Derived.Test.YtgammhmgdafpkaaDoorKeyMem
import Derived.Test.YtgammhmgdafpkaaDoorKeyRev
namespace Go.Proofs.YtgammhmgdafpkaaDoor
open Go.Shelf Go.RowKit
set_option linter.unusedVariables false

theorem index_zero (l : List UInt8) : Lib.index (0 :: l) [0] = 0 := rfl

theorem index_other {b : UInt8} (hb : b ≠ 0) (l : List UInt8) : Lib.index (b :: l) [0] = if Lib.index l [0] == -1 then -1 else Lib.index l [0] + 1 := by
  show (if [(0 : UInt8)].isPrefixOf (b :: l) = true then (0 : Int) else if Lib.index l [0] == -1 then -1 else Lib.index l [0] + 1) = _
  have : [(0 : UInt8)].isPrefixOf (b :: l) = false := by
    simp [List.isPrefixOf]
    exact fun e => hb e.symm
  rw [this]
  rfl

theorem replaceK_esc : ∀ l : List UInt8, Lib.replaceK [0] [0, 255] (Lib.count l [0]) l = escL l
  | [] => by rw [Lib.count_miss (by rfl)]; rfl
  | b :: l => by
    have ih := replaceK_esc l
    by_cases hb : b = 0
    · subst hb
      have h0 := index_zero l
      rw [Lib.count_hit (i := 0) (by simp) h0, Nat.add_comm, Lib.replaceK_hit _ _ _ _ 0 h0]
      simp only [escL, if_pos]
      simp
      exact ih
    · have h1 := index_other hb l
      simp only [escL, if_neg hb]
      have hge := Lib.index_ge l [0]
      by_cases hm : Lib.index l [0] = -1
      · rw [hm] at h1
        rw [Lib.count_miss (by rw [h1]; rfl)]
        rw [Lib.count_miss hm] at ih
        show b :: l = b :: escL l
        rw [← ih]
        rfl
      · obtain ⟨i, hi⟩ : ∃ i : Nat, Lib.index l [0] = i := ⟨(Lib.index l [0]).toNat, by omega⟩
        have h2 : Lib.index (b :: l) [0] = ((i + 1 : Nat) : Int) := by
          rw [h1, hi, if_neg (by simp)]; omega
        rw [Lib.count_hit (by simp) h2, Nat.add_comm, Lib.replaceK_hit _ _ _ _ _ h2]
        rw [Lib.count_hit (by simp) hi, Nat.add_comm, Lib.replaceK_hit _ _ _ _ _ hi] at ih
        simp only [List.length_cons, List.length_nil, List.take_succ_cons, List.cons_append, List.drop_succ_cons] at ih ⊢
        rw [← ih]

theorem replaceAll_esc (l : List UInt8) : Lib.replaceAll l [0] [0, 255] = escL l := by
  unfold Lib.replaceAll Lib.replace Lib.replaceNum
  rw [if_neg (by decide), if_pos (Or.inl (by decide))]
  exact replaceK_esc l

/-- The variable that strings.ReplaceAll reads. -/
def maxLenAt : Addr := ⟨replaceLays_ren.g 1, 0, none⟩

theorem replace_any (s : ByteArray) (m : Int) (w : World) (hs : s.size ≤ 20) (hm : w.cell? maxLenAt = some (.int .i64 m)) :
    Calls Tryd.prog 27 #[.string s, .string ⟨#[0]⟩, .string ⟨#[0, 255]⟩] w fun e w' => e = .returned (.string ⟨(escL s.data.toList).toArray⟩) ∧ Below w.heap.size w w' := by
  have hc := Lib.countB_mul_le (ByteArray.mk #[0]) (by decide) s.size s (Nat.le_refl _)
  rw [show (ByteArray.mk #[0]).size = 1 from rfl, Nat.mul_one] at hc
  have h := Any.strings_ReplaceAll replaceLays replaceExtra s ⟨#[0]⟩ ⟨#[0, 255]⟩ m w (by omega) hm (by decide) (by rw [show (ByteArray.mk #[0, 255]).size = 2 from rfl]; omega)
  rw [show Lib.replaceAll s.data.toList (ByteArray.mk #[0]).data.toList (ByteArray.mk #[0, 255]).data.toList = escL s.data.toList from replaceAll_esc _] at h
  exact h

/-- The highest bit turned over. -/
theorem xor_high {a : Nat} (h : a < 18446744073709551616) : a ^^^ 9223372036854775808 = (a + 9223372036854775808) % 18446744073709551616 := by
  apply Nat.eq_of_testBit_eq
  intro i
  rw [Nat.testBit_xor, Nat.add_comm, show (9223372036854775808 : Nat) = 2 ^ 63 from rfl, show (18446744073709551616 : Nat) = 2 ^ 64 from rfl, Nat.testBit_mod_two_pow, Nat.testBit_two_pow]
  rcases Nat.lt_trichotomy i 63 with k | k | k
  · rw [Nat.testBit_two_pow_add_gt (by omega)]
    simp [show ¬ 63 = i by omega, show i < 64 by omega]
  · subst k
    rw [Nat.testBit_two_pow_add_eq]
    simp
  · have : a.testBit i = false := Nat.testBit_lt_two_pow (Nat.lt_of_lt_of_le (by omega : a < 2 ^ 64) (Nat.pow_le_pow_right (by omega) (by omega)))
    simp [this, show ¬ 63 = i by omega, show ¬ i < 64 by omega]

theorem toU_high (n : Int) : (toU n + 9223372036854775808) % 18446744073709551616 = toU (n + 9223372036854775808) := by
  unfold toU; omega

theorem xor_int (n : Int) : bits .xor .u64 ((toU n : Nat) : Int) 9223372036854775808 = ((toU (n + 9223372036854775808) : Nat) : Int) := by
  have h := u64_xor_nat (toU n) 9223372036854775808 (u64_lt n) (by omega)
  rw [show ((9223372036854775808 : Nat) : Int) = 9223372036854775808 from rfl] at h
  rw [h, xor_high (u64_lt n), toU_high]

end Go.Proofs.YtgammhmgdafpkaaDoor
