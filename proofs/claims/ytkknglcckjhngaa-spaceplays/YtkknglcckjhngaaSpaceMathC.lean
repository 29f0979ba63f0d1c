/-
  One bit of a map turned over, by a change.
-/
import Derived.Test.YtkknglcckjhngaaSpaceWalksC
import Derived.Test.YtkknglcckjhngaaBase4C
namespace Go.Proofs.Ytkknglcckjhngaa
open Go.RowKit Go.Sort
set_option linter.unusedVariables false

theorem putS_list {s : ByteArray} {i : Nat} (x : Nat) (h : i < s.size) : (putS s i (one x)).data.toList = s.data.toList.set i (UInt8.ofNat x) := by
  obtain ⟨A, M, Z, hA, hM, hs, _, hp⟩ := putS_parts (s := s) (S := one x) (i := i) (by rw [one_size]; omega)
  rw [hp]
  simp only [one_size] at hM
  obtain ⟨m, rfl⟩ : ∃ m, M = [m] := by
    match M, hM with
    | [m], _ => exact ⟨m, rfl⟩
  rw [hs]
  subst hA
  simp [one]

theorem putS_size {s : ByteArray} {i : Nat} (x : Nat) (h : i < s.size) : (putS s i (one x)).size = s.size := by
  have := congrArg List.length (putS_list x h)
  simpa using this

theorem putS_byt {s : ByteArray} {i : Nat} (x : Nat) (h : i < s.size) (hx : x < 256) (j : Nat) : bytN (putS s i (one x)) j = if j = i then x else bytN s j := by
  unfold bytN
  rw [putS_list x h, List.getD_eq_getElem?_getD, List.getElem?_set, List.getD_eq_getElem?_getD]
  by_cases e : j = i
  · subst e
    have h' : j < s.data.toList.length := by simpa using h
    rw [if_pos rfl, if_pos h', if_pos rfl]
    simp only [Option.getD_some]
    exact UInt8.toNat_ofNat_of_lt' (by simpa using hx)
  · rw [if_neg (fun q => e q.symm), if_neg e]

/-- A map whose bit of a page is turned over. -/
def flipS (s : ByteArray) (n : Nat) : ByteArray := putS s (atN n) (one (bytN s (atN n) ^^^ pwN n))

theorem xor_lt (s : ByteArray) (n : Nat) : bytN s (atN n) ^^^ pwN n < 256 := Nat.xor_lt_two_pow (n := 8) (bytN_lt _ _) (pwN_lt _)

theorem flip_size {s : ByteArray} {n : Nat} (h : s.size = 256) (hn : n ≤ 2048) : (flipS s n).size = 256 := by
  unfold flipS; rw [putS_size _ (by rw [h]; exact atN_lt hn), h]

theorem flip_bit {s : ByteArray} {n : Nat} (h : s.size = 256) (h1 : 1 ≤ n) (hn : n ≤ 2048) (m : Nat) (m1 : 1 ≤ m) : bitS (flipS s n) m = if m = n then !bitS s n else bitS s m := by
  unfold bitS flipS
  rw [putS_byt _ (by rw [h]; exact atN_lt hn) (xor_lt s n)]
  by_cases e : m = n
  · subst e
    rw [if_pos rfl, if_pos rfl, Nat.testBit_xor]
    unfold pwN
    rw [Nat.testBit_two_pow_self]
    simp
  · rw [if_neg e]
    by_cases e2 : atN m = atN n
    · rw [if_pos e2, Nat.testBit_xor]
      unfold pwN
      rw [Nat.testBit_two_pow_of_ne (by intro q; apply e; unfold atN at e2; omega), Bool.xor_false, e2]
    · rw [if_neg e2]

theorem flip_tk {s : ByteArray} {n : Nat} (h : s.size = 256) (h1 : 1 ≤ n) (hn : n ≤ 2048) (m : Nat) : tkB (flipS s n) m = if m = n then !tkB s n else tkB s m := by
  unfold tkB
  by_cases hm : 1 ≤ m ∧ m ≤ 2048
  · rw [flip_bit h h1 hn m hm.1]
    by_cases e : m = n
    · subst e; simp [hm.1, hm.2]
    · simp [e]
  · have e : m ≠ n := by omega
    simp [hm, e]

/-- The change that turns a page's bit over. -/
def turnO (s : ByteArray) (n : Nat) : OpV := ⟨6, (atN n : Nat), one (bytN s (atN n) ^^^ pwN n), one (bytN s (atN n))⟩

theorem turnO_ok (s : ByteArray) (n : Nat) (hn : n ≤ 2048) : (turnO s n).Ok := by
  have := atN_lt hn
  exact ⟨by show (-9223372036854775808 : Int) ≤ 6 ∧ (6 : Int) ≤ _; omega, by show (-9223372036854775808 : Int) ≤ ((atN n : Nat) : Int) ∧ ((atN n : Nat) : Int) ≤ _; omega, by show (1 : Nat) ≤ _; omega, by show (1 : Nat) ≤ _; omega⟩

theorem turnO_chk (s : ByteArray) (n : Nat) (hn : n ≤ 2048) : chkB (turnO s n) = true := by
  have := atN_lt hn
  refine chk_of (by show (1 : Nat) ≤ _; omega) (by show (1 : Nat) ≤ _; omega) ?_
  unfold mayP
  rw [show (turnO s n).kind = 6 from rfl, if_neg (by decide), if_neg (by decide), if_neg (by decide), if_neg (by decide), if_neg (by decide), if_pos rfl]
  refine ⟨⟨?_, ?_⟩, rfl, ?_⟩
  · show (0 : Int) ≤ ((atN n : Nat) : Int); omega
  · show ((atN n : Nat) : Int) ≤ 511; omega
  · show 0 < (one _).size; rw [one_size]; decide

theorem turnO_kind (s : ByteArray) (n : Nat) : (turnO s n).kind ≠ 1 := by show (6 : Int) ≠ 1; decide

theorem byte_cut {s : ByteArray} {i : Nat} (h : i < s.size) : s.extract i (i + 1) = one (bytN s i) := by
  rw [bytN_at h]
  apply ByteArray.ext
  apply Array.ext'
  rw [ByteArray.data_extract, Array.toList_extract, List.extract_eq_take_drop, List.drop_eq_getElem_cons (by simpa using h)]
  simp [one, ByteArray.getElem_eq_getElem_data]

theorem turnO_do {p : SheetV} {s : ByteArray} {n : Nat} (hp : p.slots = [s]) (hs : s.size = 256) (hn : n ≤ 2048) : doE p (turnO s n) = 0 ∧ doQ p (turnO s n) = { p with slots := [flipS s n] } := by
  have ha := atN_lt hn
  constructor
  · simp only [doE, turnO, show ((6 : Int) = 2) = False from by simp, show ((6 : Int) = 3) = False from by simp, show ((6 : Int) = 4) = False from by simp, show ((6 : Int) = 5) = False from by simp, if_false, if_true, putE, hp]
    simp only [List.length_cons, List.length_nil, List.getD_cons_zero, Int.toNat_natCast, one_size]
    rw [if_neg (by omega), if_neg (by rw [byte_cut (by omega)]; simp)]
  · simp only [doQ, turnO, show ((6 : Int) = 2) = False from by simp, show ((6 : Int) = 3) = False from by simp, show ((6 : Int) = 4) = False from by simp, show ((6 : Int) = 5) = False from by simp, if_false, if_true, hp]
    simp [flipS]

end Go.Proofs.Ytkknglcckjhngaa
