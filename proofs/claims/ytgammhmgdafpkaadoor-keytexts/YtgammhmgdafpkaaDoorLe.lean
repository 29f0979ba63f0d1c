/-
  Plain mathematics of numbers in bytes, the lowest byte first. No Go program is named here.
-/
import Derived.Test.YtgammhmgdafpkaaDoorCrc
namespace Go.Proofs.YtgammhmgdafpkaaDoor

/-- The number of bytes, the lowest first. -/
def le : List UInt8 → Nat
  | [] => 0
  | b :: l => b.toNat + 256 * le l

/-- Byte i of a number. -/
def byteAt (n i : Nat) : UInt8 := UInt8.ofNat (n / 2 ^ (8 * i))

/-- The lowest N bytes of a number. -/
def putL (n N : Nat) : List UInt8 := (List.range N).map (byteAt n)

/-- How many bytes 'long' asks for. -/
def longOf (x : Int) : Nat := min x.toNat 8

theorem putL_length (n N : Nat) : (putL n N).length = N := by simp [putL]

theorem byteAt_int (n i : Nat) : ((n : Int) / 2 ^ (8 * i) % 256) = (((byteAt n i).toNat : Nat) : Int) := by
  simp [byteAt]

theorem byteAt_toNat (n i : Nat) : (byteAt n i).toNat = n / 2 ^ (8 * i) % 256 := by simp [byteAt]

theorem le_lt (l : List UInt8) : le l < 2 ^ (8 * l.length) := by
  induction l with
  | nil => simp [le]
  | cons b l ih =>
    have hb := b.toNat_lt
    rw [List.length_cons, show 8 * (l.length + 1) = 8 + 8 * l.length from by omega, Nat.pow_add]
    simp only [le]
    omega

theorem le_lt_of {l : List UInt8} {n : Nat} (h : l.length ≤ n) : le l < 2 ^ (8 * n) :=
  Nat.lt_of_lt_of_le (le_lt l) (Nat.pow_le_pow_right (by omega) (by omega))

theorem le_lt_64 {l : List UInt8} (h : l.length ≤ 8) : le l < 18446744073709551616 := le_lt_of (n := 8) h

theorem le_append (l k : List UInt8) : le (l ++ k) = le l + 2 ^ (8 * l.length) * le k := by
  induction l with
  | nil => simp [le]
  | cons b l ih =>
    rw [List.length_cons, show 8 * (l.length + 1) = 8 + 8 * l.length from by omega, Nat.pow_add]
    simp only [List.cons_append, le, ih, Nat.mul_add, Nat.mul_assoc]
    omega

theorem le_inj : ∀ {l k : List UInt8}, l.length = k.length → le l = le k → l = k
  | [], [], _, _ => rfl
  | [], _ :: _, h, _ => by simp at h
  | _ :: _, [], h, _ => by simp at h
  | a :: l, b :: k, h, e => by
    simp only [le] at e
    have ha := a.toNat_lt
    have hb := b.toNat_lt
    have e1 : a.toNat = b.toNat := by omega
    have e2 : le l = le k := by omega
    rw [UInt8.toNat_inj.1 e1, le_inj (by simpa using h) e2]

theorem putL_succ (n N : Nat) : putL n (N + 1) = putL n N ++ [byteAt n N] := by
  simp [putL, List.range_succ]

theorem le_putL (n N : Nat) : le (putL n N) = n % 2 ^ (8 * N) := by
  induction N with
  | zero => simp [putL, le, Nat.mod_one]
  | succ N ih =>
    rw [putL_succ, le_append, ih, putL_length, show 8 * (N + 1) = 8 * N + 8 from by omega, Nat.pow_add, Nat.mod_mul]
    simp [le, byteAt_toNat]

/-- Reading from the highest byte down. -/
theorem le_drop (l : List UInt8) (k : Nat) (h : k < l.length) : le (l.drop k) = l[k].toNat + 256 * le (l.drop (k + 1)) := by
  rw [List.drop_eq_getElem_cons h]; rfl

/-- Reading from the lowest byte up, by 'or'. -/
theorem le_or (l : List UInt8) (b : UInt8) : le (l ++ [b]) = le l ||| (b.toNat * 2 ^ (8 * l.length)) := by
  rw [Nat.or_comm, Nat.mul_comm, ← Nat.two_pow_add_eq_or_of_lt (le_lt l), le_append]
  simp [le]
  omega

theorem bytes_add (l k : List UInt8) : (ByteArray.mk l.toArray ++ ByteArray.mk k.toArray) = ByteArray.mk (l ++ k).toArray := by
  apply ByteArray.ext
  rw [ByteArray.data_append]
  simp

end Go.Proofs.YtgammhmgdafpkaaDoor
