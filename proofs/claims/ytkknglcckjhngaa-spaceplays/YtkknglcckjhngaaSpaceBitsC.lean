/-
  A map of bits as plain data: which pages are taken, how many are.
-/
import Derived.Lib.BitFns
import Derived.RowKit
namespace Go.Proofs.Ytkknglcckjhngaa
set_option linter.unusedVariables false

/-- The byte i of a text. -/
def bytN (s : ByteArray) (i : Nat) : Nat := (s.data.toList.getD i 0).toNat

theorem bytN_lt (s : ByteArray) (i : Nat) : bytN s i < 256 := UInt8.toNat_lt _

theorem bytN_at {s : ByteArray} {i : Nat} (h : i < s.size) : bytN s i = s[i].toNat := by
  unfold bytN
  rw [List.getD_eq_getElem?_getD, List.getElem?_eq_getElem (by simpa using h)]
  rfl

/-- The byte, and the bit alone, of a page. -/
def atN (n : Nat) : Nat := (n - 1) / 8
def pwN (n : Nat) : Nat := 2 ^ ((n - 1) % 8)

theorem pwN_lt (n : Nat) : pwN n < 256 := by
  unfold pwN
  have h : (n - 1) % 8 < 8 := Nat.mod_lt _ (by decide)
  exact Nat.pow_lt_pow_of_lt (a := 2) (m := 8) (by decide) h

/-- Is the bit of a page set? -/
def bitS (s : ByteArray) (n : Nat) : Bool := (bytN s (atN n)).testBit ((n - 1) % 8)

/-- Is a page taken? -/
def tkB (s : ByteArray) (n : Nat) : Bool := decide (1 ≤ n ∧ n ≤ 2048) && bitS s n

theorem bit_and (s : ByteArray) (n : Nat) : ((bytN s (atN n) &&& pwN n : Nat) = 0) ↔ bitS s n = false := by
  unfold pwN bitS
  constructor
  · intro h
    have := congrArg (fun x => Nat.testBit x ((n - 1) % 8)) h
    simpa [Nat.testBit_and, Nat.testBit_two_pow_self] using this
  · intro h
    apply Nat.eq_of_testBit_eq
    intro i
    rw [Nat.testBit_and, Nat.zero_testBit]
    by_cases e : (n - 1) % 8 = i
    · rw [← e, h]; rfl
    · rw [Nat.testBit_two_pow_of_ne e, Bool.and_false]

/-- One byte as a text. -/
def one (x : Nat) : ByteArray := ⟨#[UInt8.ofNat x]⟩

theorem one_size (x : Nat) : (one x).size = 1 := rfl

/-- The pages up to k that are taken, rising. -/
def tkL (s : ByteArray) (k : Nat) : List Nat := ((List.range k).map (· + 1)).filter (tkB s)

theorem tkL_snoc (s : ByteArray) (k : Nat) : tkL s (k + 1) = tkL s k ++ (if tkB s (k + 1) then [k + 1] else []) := by
  unfold tkL
  rw [List.range_succ, List.map_append, List.filter_append]
  simp only [List.map_cons, List.map_nil, List.filter_cons, List.filter_nil]

/-- How many bits are set in the first k bytes. -/
def cntN (s : ByteArray) : Nat → Nat
  | 0 => 0
  | k + 1 => cntN s k + Lib.onesCount (bytN s k)

theorem ones8 : ∀ x : Fin 256, Lib.onesCount x.val = (x.val.testBit 0).toNat + (x.val.testBit 1).toNat + (x.val.testBit 2).toNat + (x.val.testBit 3).toNat + (x.val.testBit 4).toNat + (x.val.testBit 5).toNat + (x.val.testBit 6).toNat + (x.val.testBit 7).toNat := by decide +kernel

theorem ones_le (x : Nat) (h : x < 256) : Lib.onesCount x ≤ 8 := by
  have := ones8 ⟨x, h⟩
  simp only at this
  rw [this]
  have b : ∀ y : Bool, y.toNat ≤ 1 := by decide
  have h0 := b (x.testBit 0); have h1 := b (x.testBit 1); have h2 := b (x.testBit 2); have h3 := b (x.testBit 3)
  have h4 := b (x.testBit 4); have h5 := b (x.testBit 5); have h6 := b (x.testBit 6); have h7 := b (x.testBit 7)
  omega

theorem cntN_le (s : ByteArray) (k : Nat) : cntN s k ≤ 8 * k := by
  induction k with
  | zero => simp [cntN]
  | succ k ih => have := ones_le _ (bytN_lt s k); simp only [cntN]; omega

theorem len_if (b : Bool) (n : Nat) : (if b then [n] else []).length = b.toNat := by cases b <;> rfl

theorem tk_in {s : ByteArray} {k j : Nat} (hk : k < 256) (hj : j < 8) : tkB s (8 * k + j + 1) = (bytN s k).testBit j := by
  unfold tkB bitS atN
  rw [show (8 * k + j + 1 - 1) / 8 = k from by omega, show (8 * k + j + 1 - 1) % 8 = j from by omega]
  simp only [Bool.and_eq_right_iff_imp, decide_eq_true_eq]
  intro _; omega

theorem tkL_len (s : ByteArray) (k : Nat) (hk : k ≤ 256) : (tkL s (8 * k)).length = cntN s k := by
  induction k with
  | zero => rfl
  | succ k ih =>
    have h := ih (by omega)
    rw [show 8 * (k + 1) = 8 * k + 7 + 1 from by omega, tkL_snoc, show 8 * k + 7 = 8 * k + 6 + 1 from rfl, tkL_snoc, show 8 * k + 6 = 8 * k + 5 + 1 from rfl, tkL_snoc, show 8 * k + 5 = 8 * k + 4 + 1 from rfl, tkL_snoc,
      show 8 * k + 4 = 8 * k + 3 + 1 from rfl, tkL_snoc, show 8 * k + 3 = 8 * k + 2 + 1 from rfl, tkL_snoc, show 8 * k + 2 = 8 * k + 1 + 1 from rfl, tkL_snoc, tkL_snoc]
    simp only [List.length_append, len_if, h]
    have e := ones8 ⟨bytN s k, bytN_lt s k⟩
    simp only at e
    simp only [cntN, e]
    rw [tk_in (j := 0) (by omega) (by omega), show 8 * k + 1 + 1 = 8 * k + 1 + 1 from rfl, tk_in (j := 1) (by omega) (by omega), tk_in (j := 2) (by omega) (by omega), tk_in (j := 3) (by omega) (by omega), tk_in (j := 4) (by omega) (by omega), tk_in (j := 5) (by omega) (by omega), tk_in (j := 6) (by omega) (by omega), tk_in (j := 7) (by omega) (by omega)]
    omega

/-- The least page from k + 1 on, of f more, that is free; 0: none. -/
def freeF (s : ByteArray) : Nat → Nat → Nat
  | 0, _ => 0
  | f + 1, k => if tkB s (k + 1) then freeF s f (k + 1) else k + 1

end Go.Proofs.Ytkknglcckjhngaa
