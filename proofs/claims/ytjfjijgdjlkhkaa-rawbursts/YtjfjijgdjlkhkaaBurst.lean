/-
  Plain mathematics: two lists of bytes that differ within 32 bits that stand side by side have unlike sums. No Go program is named here.
-/
import Derived.Test.YtjfjijgdjlkhkaaLe
namespace Go.Proofs.Ytjfjijgdjlkhkaa

theorem crc1_eq (x : Nat) : crc1 x = (x / 2) ^^^ (if x % 2 = 1 then 2197175160 else 0) := by
  unfold crc1
  split <;> simp

theorem crc1_xor (x y : Nat) : crc1 (x ^^^ y) = crc1 x ^^^ crc1 y := by
  have hd : (x ^^^ y) / 2 = (x / 2) ^^^ (y / 2) := by
    apply Nat.eq_of_testBit_eq; intro i
    simp [Nat.testBit_xor, Nat.testBit_div_two]
  have hb : decide ((x ^^^ y) % 2 = 1) = (decide (x % 2 = 1) ^^ decide (y % 2 = 1)) := by
    rw [← Nat.testBit_zero, Nat.testBit_xor, Nat.testBit_zero, Nat.testBit_zero]
  have hm : (x ^^^ y) % 2 = (x + y) % 2 := by
    rcases Nat.mod_two_eq_zero_or_one x with hx | hx <;> rcases Nat.mod_two_eq_zero_or_one y with hy | hy <;> rcases Nat.mod_two_eq_zero_or_one (x ^^^ y) with hz | hz <;> simp [hx, hy, hz] at hb <;> omega
  rw [crc1_eq, crc1_eq, crc1_eq, hd, hm]
  rcases Nat.mod_two_eq_zero_or_one x with hx | hx <;> rcases Nat.mod_two_eq_zero_or_one y with hy | hy
  · rw [if_neg (by omega), if_neg (by omega), if_neg (by omega)]; simp
  · rw [if_pos (by omega), if_neg (by omega), if_pos (by omega)]; simp [Nat.xor_assoc]
  · rw [if_pos (by omega), if_pos (by omega), if_neg (by omega), Nat.xor_zero, Nat.xor_assoc, Nat.xor_assoc, Nat.xor_comm (y / 2)]
  · rw [if_neg (by omega), if_pos (by omega), if_pos (by omega)]
    apply Nat.eq_of_testBit_eq; intro i
    simp only [Nat.testBit_xor, Nat.zero_testBit]
    cases (x / 2).testBit i <;> cases (y / 2).testBit i <;> cases Nat.testBit 2197175160 i <;> rfl

theorem crcN_xor (k x y : Nat) : crcN k (x ^^^ y) = crcN k x ^^^ crcN k y := by
  induction k with
  | zero => rfl
  | succ k ih => simp only [crcN, ih, crc1_xor]

theorem crcN_add (a b r : Nat) : crcN (a + b) r = crcN a (crcN b r) := by
  induction a with
  | zero => simp [crcN]
  | succ a ih => rw [show a + 1 + b = (a + b) + 1 from by omega]; simp only [crcN, ih]

theorem crc1_double (x : Nat) : crc1 (2 * x) = x := by
  unfold crc1; rw [if_neg (by omega)]; omega

theorem crcN_shift (k x : Nat) : crcN k (2 ^ k * x) = x := by
  induction k generalizing x with
  | zero => simp [crcN]
  | succ k ih =>
    rw [Nat.pow_succ, Nat.mul_assoc]
    simp only [crcN]
    rw [ih (2 * x), crc1_double]

theorem crc1_ne {x : Nat} (h : x < 4294967296) (hx : x ≠ 0) : crc1 x ≠ 0 := by
  unfold crc1
  split
  · intro e
    have : (x / 2 ^^^ 2197175160).testBit 31 = true := by
      rw [Nat.testBit_xor, Nat.testBit_lt_two_pow (show x / 2 < 2 ^ 31 by omega)]; decide
    rw [e] at this; simp at this
  · omega

theorem crcN_ne {x : Nat} (h : x < 4294967296) (hx : x ≠ 0) (k : Nat) : crcN k x ≠ 0 := by
  induction k with
  | zero => exact hx
  | succ k ih => exact crc1_ne (crcN_lt h k) ih

/-- A byte and what lies above it. -/
theorem add_eq_xor (b m : Nat) (h : b < 256) : b + 256 * m = b ^^^ 2 ^ 8 * m := by
  apply Nat.eq_of_testBit_eq; intro i
  rw [Nat.add_comm, show (256 : Nat) = 2 ^ 8 from rfl, Nat.testBit_two_pow_mul_add _ h, Nat.testBit_xor, Nat.testBit_two_pow_mul]
  by_cases hi : i < 8
  · have : ¬ 8 ≤ i := by omega
    simp [hi, this]
  · have h8 : 8 ≤ i := by omega
    have : b.testBit i = false := Nat.testBit_lt_two_pow (Nat.lt_of_lt_of_le h (by rw [show 256 = 2 ^ 8 from rfl]; exact Nat.pow_le_pow_right (by omega) h8))
    simp [hi, h8, this]

/-- The register behind a list of bytes, as one shift over all bits. -/
theorem crcL_le (l : List UInt8) : ∀ r, crcL r l = crcN (8 * l.length) (r ^^^ le l) := by
  induction l with
  | nil => intro r; simp [crcL, crcN, le]
  | cons b l ih =>
    intro r
    have e : crcL r (b :: l) = crcL (crcB r b.toNat) l := rfl
    rw [e, ih, List.length_cons, show 8 * (l.length + 1) = 8 * l.length + 8 from by omega, crcN_add]
    congr 1
    simp only [le]
    rw [add_eq_xor _ _ b.toNat_lt, ← Nat.xor_assoc, crcN_xor, crcN_shift]
    rfl

/-- Two lists of one length whose bits differ by E, shifted by 'first': the registers are the same just where E is 0. -/
theorem crcL_burst {l k : List UInt8} {first E r : Nat} (hlen : k.length = l.length) (hf : first ≤ 8 * l.length) (hE : E < 4294967296) (h : le k = le l ^^^ 2 ^ first * E) :
    crcL r l = crcL r k ↔ E = 0 := by
  have hx : crcL r k = crcL r l ^^^ crcN (8 * l.length - first) E := by
    rw [crcL_le, crcL_le, hlen, h, ← Nat.xor_assoc, crcN_xor (8 * l.length) (r ^^^ le l)]
    congr 1
    have : 8 * l.length = (8 * l.length - first) + first := by omega
    rw [this, crcN_add, crcN_shift]
    congr 1; omega
  constructor
  · intro e
    rcases Nat.eq_zero_or_pos E with h0 | h0
    · exact h0
    · exfalso
      refine crcN_ne hE (by omega) (8 * l.length - first) ?_
      rw [hx] at e
      have e2 : crcL r l ^^^ crcL r l = crcL r l ^^^ (crcL r l ^^^ crcN (8 * l.length - first) E) := by rw [← e]
      rw [Nat.xor_self, ← Nat.xor_assoc, Nat.xor_self, Nat.zero_xor] at e2
      exact e2.symm
  · intro e
    subst e
    have h0 : crcN (8 * l.length - first) 0 = 0 := by
      generalize 8 * l.length - first = m
      induction m with
      | zero => rfl
      | succ m ih => simp only [crcN, ih]; rfl
    rw [hx, h0, Nat.xor_zero]

theorem le_burst {l k : List UInt8} {first E : Nat} (hlen : k.length = l.length) (h : le k = le l ^^^ 2 ^ first * E) : l = k ↔ E = 0 := by
  constructor
  · intro e
    subst e
    have e2 : le l ^^^ le l = le l ^^^ (le l ^^^ 2 ^ first * E) := by rw [← h]
    rw [Nat.xor_self, ← Nat.xor_assoc, Nat.xor_self, Nat.zero_xor] at e2
    have := Nat.mul_eq_zero.1 e2.symm
    rcases this with h1 | h1
    · have := Nat.two_pow_pos first; omega
    · exact h1
  · intro e
    subst e
    rw [Nat.mul_zero, Nat.xor_zero] at h
    exact le_inj hlen.symm h.symm

/-- The sums of two such lists are the same just where the lists are. -/
theorem crcSum_burst {l k : List UInt8} {first E : Nat} (hlen : k.length = l.length) (hf : first ≤ 8 * l.length) (hE : E < 4294967296) (h : le k = le l ^^^ 2 ^ first * E) :
    crcSum 0 l = crcSum 0 k ↔ l = k := by
  rw [le_burst hlen h, ← crcL_burst (r := 4294967295 - 0) hlen hf hE h]
  unfold crcSum
  have h1 := crcL_lt l (r := 4294967295 - 0) (by omega)
  have h2 := crcL_lt k (r := 4294967295 - 0) (by omega)
  omega

/-- Bit i of a list of bytes. -/
theorem le_testBit (l : List UInt8) : ∀ i, (le l).testBit i = ((l[i / 8]?.getD 0).toNat).testBit (i % 8) := by
  induction l with
  | nil => intro i; simp [le]
  | cons b l ih =>
    intro i
    simp only [le]
    rw [Nat.add_comm, show (256 : Nat) = 2 ^ 8 from rfl, Nat.testBit_two_pow_mul_add _ b.toNat_lt]
    by_cases hi : i < 8
    · rw [if_pos hi, show i / 8 = 0 from by omega, show i % 8 = i from by omega]; simp
    · rw [if_neg hi, ih, show (i - 8) % 8 = i % 8 from by omega, show i / 8 = (i - 8) / 8 + 1 from by omega]; simp

/-- One bit turned over. -/
theorem le_set (l : List UInt8) (p : Nat) (h : p / 8 < l.length) (v : UInt8) (hv : v.toNat = l[p / 8].toNat ^^^ 2 ^ (p % 8)) : le (l.set (p / 8) v) = le l ^^^ 2 ^ p := by
  apply Nat.eq_of_testBit_eq; intro i
  rw [Nat.testBit_xor, le_testBit, le_testBit, Nat.testBit_two_pow]
  by_cases hi : i / 8 = p / 8
  · rw [hi]
    have e1 : (l.set (p / 8) v)[p / 8]? = some v := by simp [h]
    have e2 : l[p / 8]? = some l[p / 8] := List.getElem?_eq_getElem h
    rw [e1, e2]
    simp only [Option.getD_some]
    rw [hv, Nat.testBit_xor, Nat.testBit_two_pow]
    congr 1
    rw [decide_eq_decide]
    omega
  · rw [List.getElem?_set_ne (by omega)]
    have : ¬ p = i := by intro e; subst e; exact hi rfl
    simp [this]

theorem burst_step {l k : List UInt8} {first E j p : Nat} (h : le k = le l ^^^ 2 ^ first * E) (hE : E < 2 ^ j) (hp : p = first + j) (hk : p / 8 < k.length) (v : UInt8) (hv : v.toNat = k[p / 8].toNat ^^^ 2 ^ (p % 8)) :
    le (k.set (p / 8) v) = le l ^^^ 2 ^ first * (E ^^^ 2 ^ j) ∧ E ^^^ 2 ^ j < 2 ^ (j + 1) := by
  constructor
  · rw [le_set k p hk v hv, h, Nat.xor_assoc]
    congr 1
    subst hp
    apply Nat.eq_of_testBit_eq; intro i
    rw [Nat.testBit_xor, Nat.testBit_two_pow_mul, Nat.testBit_two_pow_mul, Nat.testBit_xor, Nat.testBit_two_pow, Nat.testBit_two_pow]
    by_cases hi : first ≤ i
    · simp only [hi, decide_true, Bool.true_and]
      congr 1
      rw [decide_eq_decide]; omega
    · have : ¬ first + j = i := by omega
      simp [hi, this]
  · exact Nat.xor_lt_two_pow (Nat.lt_of_lt_of_le hE (Nat.pow_le_pow_right (by omega) (by omega))) (Nat.pow_lt_pow_right (by omega) (by omega))

end Go.Proofs.Ytjfjijgdjlkhkaa
