/-
  The walks of the sum: what raw.shiftByte, raw.More, raw.Sum and girderref01.More return, for every register and every text.
  Plain mathematics of values, rows and keys (chapter 11): what their bytes are, and in which order keys stand. No Go program is named here.
  The laying of a contract of the library's shelf at this program's numbers (plain text by the library's own command).
  Values in memory; the walks of key.named, key.Check, girderref11.May.
  Entries, items and children of a tree's pages as plain data: their bytes, what is read of a slot, their order, where one goes down, where a page is cut.
  Plain mathematics of a page's bytes, and the walks of page.putSlots and page.zeros.
  The walk of page.Encode.
  Rows of values that may be written; the walks of page.zeros and page.takeCount.
  The walk of page.takeSlots.
  The walk of page.parse.
-/
import Derived.Test.YtnljephojonilaaProg
import Derived.Test.YtnljephojonilaaBase1C
import Derived.WalkKit
import Derived.WalkSpells
import Derived.WalkLawsBesides
import Derived.Shelf.Lays
import Derived.Shelf.Strings.Repeat
import Derived.Test.YtnljephojonilaaWriterWalksC
import Derived.Test.YtnljephojonilaaReaderMoreC
import Derived.Lib.QuietBelow
import Derived.BigQuiet
import Derived.Deep.QuietTactic
import Derived.Test.YtnljephojonilaaGetWalksC
import Derived.Test.YtnljephojonilaaPageMemC
import Derived.Test.YtnljephojonilaaNewReaderC
namespace Go.Proofs.Ytnljephojonilaa
open Go.RowKit



theorem take_snoc (s : ByteArray) (k : Nat) (h : k < s.size) : s.data.toList.take (k + 1) = s.data.toList.take k ++ [s[k]] := by
  rw [List.take_succ_eq_append_getElem (by simpa using h)]; rfl






end Go.Proofs.Ytnljephojonilaa

namespace Go.Proofs.Ytnljephojonilaa
set_option linter.unusedVariables false

/-- A value as plain data. -/
structure ValV where
  kind : Int
  n : Int
  S : ByteArray

/-- The numbers of a value are numbers of 64 bits. -/
structure ValV.In (v : ValV) : Prop where
  k0 : -9223372036854775808 ≤ v.kind
  k1 : v.kind ≤ 9223372036854775807
  n0 : -9223372036854775808 ≤ v.n
  n1 : v.n ≤ 9223372036854775807

/-- A value that may be. -/
def ValV.may (v : ValV) : Bool := decide ((v.kind = 0 ∧ v.n = 0 ∧ v.S.size = 0) ∨ (v.kind = 1 ∧ v.S.size = 0) ∨ (v.kind = 2 ∧ v.n = 0 ∧ v.S.size ≤ 20))

theorem ValV.may_iff (v : ValV) : v.may = true ↔ ((v.kind = 0 ∧ v.n = 0 ∧ v.S.size = 0) ∨ (v.kind = 1 ∧ v.S.size = 0) ∨ (v.kind = 2 ∧ v.n = 0 ∧ v.S.size ≤ 20)) := by
  unfold ValV.may; simp

theorem ValV.may_kind {v : ValV} (h : v.may = true) : v.kind = 0 ∨ v.kind = 1 ∨ v.kind = 2 := by
  rcases v.may_iff.1 h with h | h | h
  · exact Or.inl h.1
  · exact Or.inr (Or.inl h.1)
  · exact Or.inr (Or.inr h.1)

/-- A number of 64 bits without its sign. -/
def toU (n : Int) : Nat := (n % 18446744073709551616).toNat

theorem u64_lt (n : Int) : toU n < 18446744073709551616 := by unfold toU; omega

/-- The bytes of a value in a row. -/
def ValV.rowL (v : ValV) : List UInt8 :=
  putL (toU v.kind) 1 ++ (if v.kind = 1 then putL (toU v.n) 8 else if v.kind = 2 then putL v.S.size 1 ++ v.S.data.toList else [])

/-- A text's bytes in a key: 255 behind each byte 0. -/
def escL : List UInt8 → List UInt8
  | [] => []
  | c :: l => if c = 0 then 0 :: 255 :: escL l else c :: escL l

/-- The bytes of a value in a key. -/
def ValV.keyL (v : ValV) : List UInt8 :=
  putL (toU v.kind) 1 ++ (if v.kind = 1 then (putL (toU (v.n + 9223372036854775808)) 8).reverse else if v.kind = 2 then escL v.S.data.toList ++ [0, 0] else [])

/-- The bytes of values in a row, behind one another. -/
def rowsL (l : List ValV) : List UInt8 := l.flatMap ValV.rowL

/-- The key of values. -/
def keysL (l : List ValV) : List UInt8 := l.flatMap ValV.keyL

theorem rowsL_nil : rowsL [] = [] := rfl
theorem rowsL_cons (v : ValV) (l : List ValV) : rowsL (v :: l) = v.rowL ++ rowsL l := by simp [rowsL]
theorem rowsL_append (l k : List ValV) : rowsL (l ++ k) = rowsL l ++ rowsL k := by simp [rowsL]
theorem rowsL_snoc (l : List ValV) (v : ValV) : rowsL (l ++ [v]) = rowsL l ++ v.rowL := by simp [rowsL]
theorem keysL_nil : keysL [] = [] := rfl
theorem keysL_cons (v : ValV) (l : List ValV) : keysL (v :: l) = v.keyL ++ keysL l := by simp [keysL]
theorem keysL_append (l k : List ValV) : keysL (l ++ k) = keysL l ++ keysL k := by simp [keysL]
theorem keysL_snoc (l : List ValV) (v : ValV) : keysL (l ++ [v]) = keysL l ++ v.keyL := by simp [keysL]

theorem escL_length (l : List UInt8) : (escL l).length ≤ 2 * l.length := by
  induction l with
  | nil => simp [escL]
  | cons c l ih => simp only [escL]; split <;> simp <;> omega

theorem escL_append (l k : List UInt8) : escL (l ++ k) = escL l ++ escL k := by
  induction l with
  | nil => rfl
  | cons c l ih => simp only [List.cons_append, escL, ih]; split <;> rfl

theorem may_rowL_length {v : ValV} (h : v.may = true) : v.rowL.length ≤ 9 + v.S.size := by
  unfold ValV.rowL
  rw [List.length_append, putL_length]
  split
  · rw [putL_length]; omega
  · split
    · rw [List.length_append, putL_length]; simp; omega
    · simp; omega

theorem may_keyL_length {v : ValV} (h : v.may = true) : v.keyL.length ≤ 9 + 2 * v.S.size := by
  unfold ValV.keyL
  rw [List.length_append, putL_length]
  split
  · rw [List.length_reverse, putL_length]; omega
  · split
    · rw [List.length_append]; have := escL_length v.S.data.toList; simp at this ⊢; omega
    · simp; omega

theorem may_size {v : ValV} (h : v.may = true) : v.S.size ≤ 20 := by
  rcases v.may_iff.1 h with h | h | h <;> omega

theorem rowL_pos (v : ValV) : 1 ≤ v.rowL.length := by unfold ValV.rowL; rw [List.length_append, putL_length]; omega
theorem keyL_pos (v : ValV) : 1 ≤ v.keyL.length := by unfold ValV.keyL; rw [List.length_append, putL_length]; omega

/-! ### The order of bytes -/

open Go.Op (bytesLess)

theorem bless_cons (a b : UInt8) (x y : List UInt8) : bytesLess (a :: x) (b :: y) = (decide (a < b) || (a == b && bytesLess x y)) := rfl

theorem bless_same (a : UInt8) (x y : List UInt8) : bytesLess (a :: x) (a :: y) = bytesLess x y := by
  rw [bless_cons]; simp

theorem bless_lt {a b : UInt8} (h : a < b) (x y : List UInt8) : bytesLess (a :: x) (b :: y) = true := by
  rw [bless_cons]; simp [h]

theorem bless_prefix (p x y : List UInt8) : bytesLess (p ++ x) (p ++ y) = bytesLess x y := by
  induction p with
  | nil => rfl
  | cons a p ih => simp only [List.cons_append, bless_same, ih]

theorem bless_irrefl (x : List UInt8) : bytesLess x x = false := by
  induction x with
  | nil => rfl
  | cons a x ih => rw [bless_same, ih]

theorem u8_lt_or (a b : UInt8) : a < b ∨ a = b ∨ b < a := by
  rcases Nat.lt_trichotomy a.toNat b.toNat with h | h | h
  · exact Or.inl (UInt8.lt_iff_toNat_lt.2 h)
  · exact Or.inr (Or.inl (UInt8.toNat_inj.1 h))
  · exact Or.inr (Or.inr (UInt8.lt_iff_toNat_lt.2 h))

theorem bless_asymm : ∀ {x y : List UInt8}, bytesLess x y = true → bytesLess y x = false ∧ x ≠ y
  | [], [], h => by simp [bytesLess] at h
  | [], _ :: _, _ => ⟨rfl, by simp⟩
  | _ :: _, [], h => by simp [bytesLess] at h
  | a :: x, b :: y, h => by
    rw [bless_cons] at h
    rcases u8_lt_or a b with e | e | e
    · have h1 : ¬ b < a := by rw [UInt8.lt_iff_toNat_lt] at e ⊢; omega
      have h2 : ¬ b = a := fun k => by rw [UInt8.lt_iff_toNat_lt] at e; rw [k] at e; omega
      refine ⟨by rw [bless_cons]; simp [h1, h2], fun k => ?_⟩
      exact h2 (List.cons.inj k).1.symm
    · subst e
      rw [show decide (a < a) = false from decide_eq_false (by rw [UInt8.lt_iff_toNat_lt]; omega)] at h
      simp at h
      have := bless_asymm h
      exact ⟨by rw [bless_same]; exact this.1, fun k => this.2 (List.cons.inj k).2⟩
    · have h1 : ¬ a < b := by rw [UInt8.lt_iff_toNat_lt] at e ⊢; omega
      have h2 : ¬ a = b := fun k => by rw [UInt8.lt_iff_toNat_lt] at e; rw [k] at e; omega
      simp [h1, h2] at h

/-- Which of two texts stands first. -/
theorem bless_total : ∀ (x y : List UInt8), bytesLess x y = true ∨ x = y ∨ bytesLess y x = true
  | [], [] => Or.inr (Or.inl rfl)
  | [], _ :: _ => Or.inl rfl
  | _ :: _, [] => Or.inr (Or.inr rfl)
  | a :: x, b :: y => by
    rcases u8_lt_or a b with e | e | e
    · exact Or.inl (bless_lt e _ _)
    · subst e
      rcases bless_total x y with h | h | h
      · exact Or.inl (by rw [bless_same]; exact h)
      · exact Or.inr (Or.inl (by rw [h]))
      · exact Or.inr (Or.inr (by rw [bless_same]; exact h))
    · exact Or.inr (Or.inr (bless_lt e _ _))

/-- Numbers of as many bytes, the highest byte first, stand as the numbers do. -/
theorem bless_be : ∀ (p q x y : List UInt8), p.length = q.length → le p.reverse < le q.reverse → bytesLess (p ++ x) (q ++ y) = true
  | [], [], _, _, _, h => by simp [le] at h
  | [], _ :: _, _, _, h, _ => by simp at h
  | _ :: _, [], _, _, h, _ => by simp at h
  | a :: p, b :: q, x, y, hl, h => by
    simp only [List.reverse_cons, le_append, List.length_reverse, le, Nat.mul_zero, Nat.add_zero] at h
    have hl' : p.length = q.length := by simpa using hl
    have h1 : le p.reverse < 2 ^ (8 * p.length) := by simpa using le_lt p.reverse
    have h2 : le q.reverse < 2 ^ (8 * q.length) := by simpa using le_lt q.reverse
    rw [hl'] at h h1
    generalize 2 ^ (8 * q.length) = M at h h1 h2
    rcases u8_lt_or a b with e | e | e
    · exact bless_lt e _ _
    · subst e
      simp only [List.cons_append, bless_same]
      exact bless_be p q x y hl' (by omega)
    · exfalso
      rw [UInt8.lt_iff_toNat_lt] at e
      have : M * (b.toNat + 1) ≤ M * a.toNat := Nat.mul_le_mul_left M e
      rw [Nat.mul_add] at this
      omega

/-- Texts in keys stand as the texts do, whatever stands behind. -/
theorem bless_esc : ∀ (s t x y : List UInt8), bytesLess s t = true → bytesLess (escL s ++ (0 :: 0 :: x)) (escL t ++ (0 :: 0 :: y)) = true
  | _, [], _, _, h => by cases ‹List UInt8› <;> simp [bytesLess] at h
  | [], b :: t, x, y, _ => by
    simp only [escL, List.nil_append]
    by_cases e : b = 0
    · rw [if_pos e, List.cons_append, List.cons_append, bless_same]; exact bless_lt (by decide) _ _
    · rw [if_neg e, List.cons_append]
      refine bless_lt ?_ _ _
      rw [UInt8.lt_iff_toNat_lt]
      have : b.toNat ≠ 0 := fun k => e (UInt8.toNat_inj.1 k)
      show (0 : Nat) < _
      omega
  | a :: s, b :: t, x, y, h => by
    rw [bless_cons] at h
    rcases u8_lt_or a b with e | e | e
    · have hb : b ≠ 0 := fun k => by rw [k, UInt8.lt_iff_toNat_lt] at e; exact absurd e (by show ¬ _ < 0; omega)
      simp only [escL]
      rw [if_neg hb]
      by_cases e0 : a = 0
      · rw [if_pos e0]; subst e0; exact bless_lt e _ _
      · rw [if_neg e0]; exact bless_lt e _ _
    · subst e
      rw [show decide (a < a) = false from decide_eq_false (by rw [UInt8.lt_iff_toNat_lt]; omega)] at h
      simp at h
      have ih := bless_esc s t x y h
      simp only [escL]
      by_cases e0 : a = 0
      · simp only [if_pos e0, List.cons_append, bless_same]; exact ih
      · simp only [if_neg e0, List.cons_append, bless_same]; exact ih
    · have h1 : ¬ a < b := by rw [UInt8.lt_iff_toNat_lt] at e ⊢; omega
      have h2 : ¬ a = b := fun k => by rw [UInt8.lt_iff_toNat_lt] at e; rw [k] at e; omega
      simp [h1, h2] at h

/-! ### The order of values -/

/-- a stands ahead of b. -/
def ltV (a b : ValV) : Bool := decide (a.kind < b.kind) || (decide (a.kind = b.kind) && (decide (a.n < b.n) || (decide (a.n = b.n) && bytesLess a.S.data.toList b.S.data.toList)))

/-- a and b are one value. -/
def eqV (a b : ValV) : Bool := decide (a.kind = b.kind ∧ a.n = b.n) && (a.S.data.toList == b.S.data.toList)

/-- How two values stand. -/
def cmpV (a b : ValV) : Int := if ltV a b then -1 else if eqV a b then 0 else 1

/-- How two lists of values stand. -/
def cmpL : List ValV → List ValV → Int
  | [], [] => 0
  | [], _ :: _ => -1
  | _ :: _, [] => 1
  | a :: A, b :: B => if cmpV a b = 0 then cmpL A B else cmpV a b

theorem eqV_iff (a b : ValV) : eqV a b = true ↔ a = b := by
  unfold eqV
  constructor
  · intro h
    simp at h
    obtain ⟨⟨h1, h2⟩, h3⟩ := h
    cases a; cases b
    simp only at h1 h2 h3
    subst h1 h2
    congr
    exact ByteArray.ext h3
  · intro h; subst h; simp

theorem ltV_iff (a b : ValV) : ltV a b = true ↔ (a.kind < b.kind ∨ (a.kind = b.kind ∧ (a.n < b.n ∨ (a.n = b.n ∧ bytesLess a.S.data.toList b.S.data.toList = true)))) := by
  unfold ltV; simp

theorem ltV_total (a b : ValV) : ltV a b = true ∨ a = b ∨ ltV b a = true := by
  rcases Int.lt_trichotomy a.kind b.kind with h | h | h
  · exact Or.inl ((ltV_iff _ _).2 (Or.inl h))
  · rcases Int.lt_trichotomy a.n b.n with k | k | k
    · exact Or.inl ((ltV_iff _ _).2 (Or.inr ⟨h, Or.inl k⟩))
    · rcases bless_total a.S.data.toList b.S.data.toList with m | m | m
      · exact Or.inl ((ltV_iff _ _).2 (Or.inr ⟨h, Or.inr ⟨k, m⟩⟩))
      · exact Or.inr (Or.inl ((eqV_iff _ _).1 (by unfold eqV; simp [h, k, m])))
      · exact Or.inr (Or.inr ((ltV_iff _ _).2 (Or.inr ⟨h.symm, Or.inr ⟨k.symm, m⟩⟩)))
    · exact Or.inr (Or.inr ((ltV_iff _ _).2 (Or.inr ⟨h.symm, Or.inl k⟩)))
  · exact Or.inr (Or.inr ((ltV_iff _ _).2 (Or.inl h)))

theorem kind_byte {v : ValV} (h : v.may = true) : ∃ k : Nat, v.kind = k ∧ k ≤ 2 ∧ putL (toU v.kind) 1 = [UInt8.ofNat k] := by
  rcases v.may_kind h with e | e | e
  · exact ⟨0, e, by omega, by rw [e]; decide⟩
  · exact ⟨1, e, by omega, by rw [e]; decide⟩
  · exact ⟨2, e, by omega, by rw [e]; decide⟩

/-- Keys of values stand as the values do, whatever stands behind. -/
theorem keyL_lt {a b : ValV} (ha : a.may = true) (hb : b.may = true) (ia : a.In) (ib : b.In) (h : ltV a b = true) (x y : List UInt8) : bytesLess (a.keyL ++ x) (b.keyL ++ y) = true := by
  obtain ⟨ka, ea, la, pa⟩ := kind_byte ha
  obtain ⟨kb, eb, lb, pb⟩ := kind_byte hb
  unfold ValV.keyL
  rw [pa, pb]
  rw [ltV_iff] at h
  rcases h with h | ⟨h, k⟩
  · simp only [List.cons_append, List.nil_append]
    refine bless_lt ?_ _ _
    rw [UInt8.lt_iff_toNat_lt]
    have h' : ka < kb := by omega
    simp only [UInt8.toNat_ofNat']
    omega
  · have hk : ka = kb := by omega
    subst hk
    simp only [List.cons_append, List.nil_append, bless_same]
    rcases a.may_iff.1 ha with c | c | c
    · exfalso
      rcases b.may_iff.1 hb with d | d | d
      · rcases k with k | ⟨_, k⟩
        · omega
        · have : b.S.data.toList = [] := by
            apply List.eq_nil_of_length_eq_zero
            have := d.2.2; simpa using this
          rw [this] at k
          cases hq : a.S.data.toList <;> simp [hq, bytesLess] at k
      · omega
      · omega
    · have hb1 : b.kind = 1 := by omega
      rw [if_pos c.1, if_pos hb1]
      rcases k with k | ⟨_, k⟩
      · refine bless_be _ _ x y (by simp [putL_length]) ?_
        rw [List.reverse_reverse, List.reverse_reverse, le_putL, le_putL, Nat.mod_eq_of_lt (u64_lt _), Nat.mod_eq_of_lt (u64_lt _)]
        have := ia.n0; have := ia.n1; have := ib.n0; have := ib.n1
        unfold toU
        omega
      · exfalso
        rcases b.may_iff.1 hb with d | d | d
        · omega
        · have : b.S.data.toList = [] := by
            apply List.eq_nil_of_length_eq_zero
            have := d.2; simpa using this
          rw [this] at k
          cases hq : a.S.data.toList <;> simp [hq, bytesLess] at k
        · omega
    · have hb2 : b.kind = 2 := by omega
      rw [if_neg (by omega), if_pos c.1, if_neg (by omega), if_pos hb2]
      rcases k with k | ⟨_, k⟩
      · rcases b.may_iff.1 hb with d | d | d <;> omega
      · rw [List.append_assoc, List.append_assoc]
        exact bless_esc _ _ x y k

theorem cmpV_cases (a b : ValV) : (ltV a b = true ∧ cmpV a b = -1) ∨ (a = b ∧ ltV a b = false ∧ cmpV a b = 0) ∨ (ltV b a = true ∧ ltV a b = false ∧ a ≠ b ∧ cmpV a b = 1) := by
  by_cases h : ltV a b = true
  · exact Or.inl ⟨h, by unfold cmpV; rw [if_pos h]⟩
  · by_cases e : a = b
    · exact Or.inr (Or.inl ⟨e, by simpa using h, by unfold cmpV; rw [if_neg h, if_pos ((eqV_iff _ _).2 e)]⟩)
    · rcases ltV_total a b with k | k | k
      · exact absurd k h
      · exact absurd k e
      · exact Or.inr (Or.inr ⟨k, by simpa using h, e, by unfold cmpV; rw [if_neg h, if_neg (fun q => e ((eqV_iff _ _).1 q))]⟩)

/-- 11.3: keys of two lists of as many values stand in the order of the values. -/
theorem keysL_order : ∀ (A B : List ValV), A.length = B.length → (∀ v ∈ A, v.may = true ∧ v.In) → (∀ v ∈ B, v.may = true ∧ v.In) →
    (bytesLess (keysL A) (keysL B) = decide (cmpL A B < 0)) ∧ ((keysL A = keysL B) ↔ cmpL A B = 0)
  | [], [], _, _, _ => ⟨rfl, by simp [cmpL]⟩
  | [], _ :: _, h, _, _ => by simp at h
  | _ :: _, [], h, _, _ => by simp at h
  | a :: A, b :: B, h, hA, hB => by
    obtain ⟨ma, ia⟩ := hA a (by simp)
    obtain ⟨mb, ib⟩ := hB b (by simp)
    rw [keysL_cons, keysL_cons]
    have hc : cmpL (a :: A) (b :: B) = if cmpV a b = 0 then cmpL A B else cmpV a b := rfl
    rcases cmpV_cases a b with ⟨k, e⟩ | ⟨k, _, e⟩ | ⟨k, _, k2, e⟩
    · have hl := keyL_lt ma mb ia ib k (keysL A) (keysL B)
      have hc1 : cmpL (a :: A) (b :: B) = -1 := by rw [hc, e, if_neg (by omega)]
      rw [hc1, hl]
      exact ⟨rfl, ⟨fun q => absurd q (bless_asymm hl).2, fun q => by omega⟩⟩
    · subst k
      have hc1 : cmpL (a :: A) (a :: B) = cmpL A B := by rw [hc, e, if_pos rfl]
      rw [hc1, bless_prefix]
      have ih := keysL_order A B (by simpa using h) (fun v hv => hA v (by simp [hv])) (fun v hv => hB v (by simp [hv]))
      refine ⟨ih.1, ?_⟩
      rw [List.append_cancel_left_eq]
      exact ih.2
    · have hl := keyL_lt mb ma ib ia k (keysL B) (keysL A)
      have ha := bless_asymm hl
      have hc1 : cmpL (a :: A) (b :: B) = 1 := by rw [hc, e, if_neg (by omega)]
      rw [hc1, ha.1]
      exact ⟨rfl, ⟨fun q => absurd q.symm ha.2, fun q => by omega⟩⟩

/-- A key is not above a beginning of it and a byte 255. -/
theorem keysL_begins (A B : List ValV) (hB : ∀ v ∈ B, v.may = true) :
    bytesLess (keysL (A ++ B)) (keysL A) = false ∧ (bytesLess (keysL (A ++ B)) (keysL A ++ [255]) = true) := by
  rw [keysL_append]
  constructor
  · have := bless_prefix (keysL A) (keysL B) []
    rw [List.append_nil] at this
    rw [this]
    cases keysL B <;> rfl
  · rw [bless_prefix]
    cases B with
    | nil => rfl
    | cons v B =>
      obtain ⟨k, e, l, p⟩ := kind_byte (hB v (by simp))
      rw [keysL_cons]
      unfold ValV.keyL
      rw [p]
      simp only [List.cons_append, List.nil_append]
      refine bless_lt ?_ _ _
      rw [UInt8.lt_iff_toNat_lt]
      simp only [UInt8.toNat_ofNat']
      show k % 2 ^ 8 < 255
      omega

end Go.Proofs.Ytnljephojonilaa

namespace Go.Proofs.Ytnljephojonilaa
open Go.Shelf Go.RowKit





theorem repeatL_one_zero (n : Nat) : Lib.repeatL [0] n = List.replicate n (0 : UInt8) := by
  induction n with
  | zero => rfl
  | succ n ih => rw [List.replicate_succ, ← ih]; rfl



end Go.Proofs.Ytnljephojonilaa

namespace Go.Proofs.Ytnljephojonilaa
open Go.RowKit Go.Sort
set_option linter.unusedVariables false
set_option linter.unusedSimpArgs false

theorem hidk {p : Prop} (h : p) : Hid p := h
theorem kstr_ne {a b : ByteArray} (h : a ≠ b) : (a.toList == b.toList) = false := by
  rw [beq_eq_false_iff_ne, ByteArray.toList_eq, ByteArray.toList_eq]
  exact fun e => h (Go.WideShapes.bytes_inj e)
theorem kstr_eq {a b : ByteArray} (h : a = b) : (a.toList == b.toList) = true := by rw [h]; simp
theorem kret_bool {a b : Bool} (h : a = b) : Ending.returned (.bool a) = .returned (.bool b) := by rw [h]
theorem kret_int {k : IntKind} {a b : Int} (h : a = b) : Ending.returned (.int k a) = .returned (.int k b) := by rw [h]
theorem ksize0 {s : ByteArray} (h : s.size = 0) : s = ByteArray.empty := by
  apply ByteArray.ext
  apply Array.eq_empty_of_size_eq_zero
  exact h
theorem kmixed : Try.prog.follows .mixedOrders = true := by kernel_rfl

theorem kempty_size (s : ByteArray) : s.toList.isEmpty = decide (s.size = 0) := by
  rw [ByteArray.toList_eq]
  have h : s.data.toList.length = s.size := by simp
  cases hl : s.data.toList with
  | nil => rw [hl] at h; simp [← h]
  | cons a l => rw [hl] at h; simp [← h]

/-- A value in memory. -/
structure VlAt (w : World) (b o : Nat) (v : ValV) : Prop where
  c0 : w.cell? ⟨b, o, none⟩ = some (.int .i64 v.kind)
  c1 : w.cell? ⟨b, o + 1, none⟩ = some (.int .i64 v.n)
  c2 : w.cell? ⟨b, o + 2, none⟩ = some (.string v.S)

/-- The values L lie one behind the other from a on. -/
def ValsAt (w : World) (a : Option Addr) (L : List ValV) : Prop :=
  L = [] ∨ ∃ b o, a = some ⟨b, o, none⟩ ∧ b < w.heap.size ∧ ∀ i (hi : i < L.length), VlAt w b (o + i * 3) L[i]

theorem VlAt.same {w w' : World} {b o : Nat} {t : ValV} (h : VlAt w b o t) (e : w'.heap[b]? = w.heap[b]?) : VlAt w' b o t :=
  ⟨(World.cell?_of_block (w := w) (a := ⟨b, o, none⟩) e).trans h.c0, (World.cell?_of_block (w := w) (a := ⟨b, o + 1, none⟩) e).trans h.c1, (World.cell?_of_block (w := w) (a := ⟨b, o + 2, none⟩) e).trans h.c2⟩

theorem ValsAt.below {w w' : World} {a : Option Addr} {L : List ValV} (h : ValsAt w a L) (k : Below w.heap.size w w') : ValsAt w' a L := by
  rcases h with h | ⟨b, o, e, hb, hc⟩
  · exact .inl h
  · exact .inr ⟨b, o, e, Nat.lt_of_lt_of_le hb k.size, fun i hi => (hc i hi).same (k.block b hb)⟩

/-- A value with the fields that its Kind names. -/
def ValV.named (v : ValV) : ValV := if v.kind = 1 then ⟨1, v.n, ByteArray.empty⟩ else if v.kind = 2 then ⟨2, 0, v.S⟩ else ⟨0, 0, ByteArray.empty⟩



/-- The error of Check. -/
def ValV.chk (v : ValV) : Int := if v.may then 0 else 110

theorem chk_ok {v : ValV} (h : v.may = true) : v.chk = 0 := by unfold ValV.chk; rw [if_pos h]
theorem chk_no {v : ValV} (h : v.may = false) : v.chk = 110 := by unfold ValV.chk; rw [h]; rfl





/-- The first error of values. -/
def chkAll (L : List ValV) : Int := if L.all ValV.may then 0 else 110

theorem chkAll_ok {L : List ValV} (h : chkAll L = 0) : ∀ v ∈ L, v.may = true := by
  unfold chkAll at h
  by_cases c : L.all ValV.may = true
  · exact fun v hv => List.all_eq_true.1 c v hv
  · rw [if_neg c] at h; omega

theorem take_all {L : List ValV} {k : Nat} (hk : k < L.length) : (L.take (k + 1)).all ValV.may = ((L.take k).all ValV.may && L[k].may) := by
  rw [List.take_succ_eq_append_getElem hk, List.all_append]; simp



end Go.Proofs.Ytnljephojonilaa

namespace Go.Proofs.Ytnljephojonilaa
open Go.RowKit
set_option linter.unusedVariables false
set_option linter.unusedSimpArgs false

theorem npart_at {s : ByteArray} {pre mid post : List UInt8} (h : s.data.toList = pre ++ (mid ++ post)) {a n : Nat} (ha : a = pre.length) (hn : n = mid.length) : part s a n = mid := by
  subst ha hn; unfold part; rw [h]; simp

/-- An entry. -/
structure EntV where
  key : ByteArray
  page : Nat
  slot : Int

/-- An item of a leaf. -/
structure ItemV where
  e : EntV
  live : Bool

/-- A child of an inner page. -/
structure ChildV where
  page : Nat
  e : EntV

theorem EntV.ext' {a b : EntV} (h1 : a.key = b.key) (h2 : a.page = b.page) (h3 : a.slot = b.slot) : a = b := by
  cases a; cases b; simp only at h1 h2 h3; subst h1; subst h2; subst h3; rfl

theorem ItemV.ext' {a b : ItemV} (h1 : a.e = b.e) (h2 : a.live = b.live) : a = b := by
  cases a; cases b; simp only at h1 h2; subst h1; subst h2; rfl

theorem ChildV.ext' {a b : ChildV} (h1 : a.page = b.page) (h2 : a.e = b.e) : a = b := by
  cases a; cases b; simp only at h1 h2; subst h1; subst h2; rfl

def EntV.val (e : EntV) : Value := .agg #[.string e.key, .int .u32 e.page, .int .i64 e.slot]
def ItemV.val (x : ItemV) : Value := .agg #[.string x.e.key, .int .u32 x.e.page, .int .i64 x.e.slot, .bool x.live]
def ChildV.val (x : ChildV) : Value := .agg #[.int .u32 x.page, .string x.e.key, .int .u32 x.e.page, .int .i64 x.e.slot]

/-- What is known of an entry that was handed in. -/
structure EntV.Ok (e : EntV) : Prop where
  page : e.page < 4294967296
  lo : -9223372036854775808 ≤ e.slot
  hi : e.slot ≤ 9223372036854775807
  key : e.key.size ≤ maxLen

/-- An entry that has its place in a slot. -/
structure EntV.May (e : EntV) : Prop where
  page : e.page < 4294967296
  lo : 0 ≤ e.slot
  hi : e.slot ≤ 65535

/-- The bytes of an entry, of an item, of a child. -/
def EntV.bytes (e : EntV) : List UInt8 := putL e.page 4 ++ (putL (toU e.slot) 2 ++ e.key.data.toList)
def ItemV.bytes (x : ItemV) : List UInt8 := (if x.live = true then 1 else 0) :: x.e.bytes
def ChildV.bytes (x : ChildV) : List UInt8 := putL x.page 4 ++ x.e.bytes

theorem EntV.bytes_length (e : EntV) : e.bytes.length = 6 + e.key.size := by
  unfold EntV.bytes; simp only [List.length_append, putL_length]; rw [Array.length_toList]; show 4 + (2 + e.key.size) = _; omega

theorem ItemV.bytes_length (x : ItemV) : x.bytes.length = 7 + x.e.key.size := by
  unfold ItemV.bytes; rw [List.length_cons, EntV.bytes_length]; omega

theorem ChildV.bytes_length (x : ChildV) : x.bytes.length = 10 + x.e.key.size := by
  unfold ChildV.bytes; rw [List.length_append, putL_length, EntV.bytes_length]; omega

def ItemV.bs (x : ItemV) : ByteArray := ⟨x.bytes.toArray⟩
def ChildV.bs (x : ChildV) : ByteArray := ⟨x.bytes.toArray⟩

theorem ItemV.bs_size (x : ItemV) : x.bs.size = 7 + x.e.key.size := by unfold ItemV.bs; rw [bytes_size, ItemV.bytes_length]
theorem ChildV.bs_size (x : ChildV) : x.bs.size = 10 + x.e.key.size := by unfold ChildV.bs; rw [bytes_size, ChildV.bytes_length]

/-- Is a slot an item, a child? -/
def itemB (s : ByteArray) : Bool := decide (7 ≤ s.size) && decide (le (part s 0 1) ≤ 1)
def childB (s : ByteArray) : Bool := decide (10 ≤ s.size)

/-- What a slot says. -/
def itemOf (s : ByteArray) : ItemV := ⟨⟨⟨(part s 7 (s.size - 7)).toArray⟩, le (part s 1 4), (le (part s 5 2) : Nat)⟩, le (part s 0 1) == 1⟩
def childOf (s : ByteArray) : ChildV := ⟨le (part s 0 4), ⟨⟨(part s 10 (s.size - 10)).toArray⟩, le (part s 4 4), (le (part s 8 2) : Nat)⟩⟩

theorem toU_small {n : Int} (h0 : 0 ≤ n) (h1 : n ≤ 65535) : toU n = n.toNat := by unfold toU; omega

theorem item_back (x : ItemV) (h : x.e.May) : itemB x.bs = true ∧ itemOf x.bs = x := by
  have hd : x.bs.data.toList = x.bytes := by unfold ItemV.bs; simp
  have hs := x.bs_size
  have hp := h.page
  have hlo := h.lo
  have hhi := h.hi
  obtain ⟨⟨k, p, s⟩, l⟩ := x
  simp only at hp hlo hhi hs
  have hb : (ItemV.mk ⟨k, p, s⟩ l).bs.data.toList = [if l = true then 1 else 0] ++ (putL p 4 ++ (putL (toU s) 2 ++ k.data.toList)) := by rw [hd]; rfl
  have e0 : part (ItemV.mk ⟨k, p, s⟩ l).bs 0 1 = [if l = true then 1 else 0] := npart_at (pre := []) (mid := [if l = true then 1 else 0]) (post := putL p 4 ++ (putL (toU s) 2 ++ k.data.toList)) hb rfl rfl
  have e1 : part (ItemV.mk ⟨k, p, s⟩ l).bs 1 4 = putL p 4 := npart_at hb rfl (by rw [putL_length])
  have hb2 : (ItemV.mk ⟨k, p, s⟩ l).bs.data.toList = ([if l = true then 1 else 0] ++ putL p 4) ++ (putL (toU s) 2 ++ k.data.toList) := by rw [hb]; simp
  have e2 : part (ItemV.mk ⟨k, p, s⟩ l).bs 5 2 = putL (toU s) 2 := npart_at hb2 (by simp [putL_length]) (by rw [putL_length])
  have hb3 : (ItemV.mk ⟨k, p, s⟩ l).bs.data.toList = ([if l = true then 1 else 0] ++ (putL p 4 ++ putL (toU s) 2)) ++ (k.data.toList ++ []) := by rw [hb]; simp
  have e3 : part (ItemV.mk ⟨k, p, s⟩ l).bs 7 ((ItemV.mk ⟨k, p, s⟩ l).bs.size - 7) = k.data.toList := npart_at hb3 (by simp [putL_length]) (by rw [hs]; show 7 + k.size - 7 = _; rw [Array.length_toList]; show _ = k.size; omega)
  have q0 : le [if l = true then (1 : UInt8) else 0] = if l = true then 1 else 0 := by cases l <;> rfl
  refine ⟨?_, ?_⟩
  · unfold itemB
    rw [e0, q0, hs]
    simp only [Bool.and_eq_true, decide_eq_true_eq]
    refine ⟨by omega, by split <;> omega⟩
  · unfold itemOf
    rw [e0, e1, e2, e3, q0, le_putL, le_putL, toU_small hlo hhi]
    refine ItemV.ext' (EntV.ext' (by simp) (by show p % 2 ^ (8 * 4) = p; omega) (by show ((s.toNat % 2 ^ (8 * 2) : Nat) : Int) = s; omega)) ?_
    cases l <;> rfl

theorem child_back (x : ChildV) (hx : x.page < 4294967296) (h : x.e.May) : childB x.bs = true ∧ childOf x.bs = x := by
  have hd : x.bs.data.toList = x.bytes := by unfold ChildV.bs; simp
  have hs := x.bs_size
  have hp := h.page
  have hlo := h.lo
  have hhi := h.hi
  obtain ⟨q, ⟨k, p, s⟩⟩ := x
  simp only at hp hlo hhi hs hx
  have hb : (ChildV.mk q ⟨k, p, s⟩).bs.data.toList = putL q 4 ++ (putL p 4 ++ (putL (toU s) 2 ++ k.data.toList)) := by rw [hd]; rfl
  have e0 : part (ChildV.mk q ⟨k, p, s⟩).bs 0 4 = putL q 4 := npart_at (pre := []) (mid := putL q 4) (post := putL p 4 ++ (putL (toU s) 2 ++ k.data.toList)) hb rfl (by rw [putL_length])
  have e1 : part (ChildV.mk q ⟨k, p, s⟩).bs 4 4 = putL p 4 := npart_at hb (by rw [putL_length]) (by rw [putL_length])
  have hb2 : (ChildV.mk q ⟨k, p, s⟩).bs.data.toList = (putL q 4 ++ putL p 4) ++ (putL (toU s) 2 ++ k.data.toList) := by rw [hb]; simp
  have e2 : part (ChildV.mk q ⟨k, p, s⟩).bs 8 2 = putL (toU s) 2 := npart_at hb2 (by simp [putL_length]) (by rw [putL_length])
  have hb3 : (ChildV.mk q ⟨k, p, s⟩).bs.data.toList = (putL q 4 ++ (putL p 4 ++ putL (toU s) 2)) ++ (k.data.toList ++ []) := by rw [hb]; simp
  have e3 : part (ChildV.mk q ⟨k, p, s⟩).bs 10 ((ChildV.mk q ⟨k, p, s⟩).bs.size - 10) = k.data.toList := npart_at hb3 (by simp [putL_length]) (by rw [hs]; show 10 + k.size - 10 = _; rw [Array.length_toList]; show _ = k.size; omega)
  refine ⟨?_, ?_⟩
  · unfold childB
    rw [hs, decide_eq_true_eq]; omega
  · unfold childOf
    rw [e0, e1, e2, e3, le_putL, le_putL, le_putL, toU_small hlo hhi]
    exact ChildV.ext' (by show q % 2 ^ (8 * 4) = q; omega) (EntV.ext' (by simp) (by show p % 2 ^ (8 * 4) = p; omega) (by show ((s.toNat % 2 ^ (8 * 2) : Nat) : Int) = s; omega))

/-- What is read is an entry that was handed in. -/
theorem itemOf_ok (s : ByteArray) (h : 7 ≤ s.size) (hs : s.size ≤ maxLen) : (itemOf s).e.Ok := by
  have l1 := le_lt_of (l := part s 1 4) (n := 4) (by rw [part_length (by omega)]; omega)
  have l2 := le_lt_of (l := part s 5 2) (n := 2) (by rw [part_length (by omega)]; omega)
  refine ⟨l1, ?_, ?_, ?_⟩
  · show (-9223372036854775808 : Int) ≤ ((le (part s 5 2) : Nat) : Int); omega
  · show ((le (part s 5 2) : Nat) : Int) ≤ _; omega
  · show (ByteArray.mk (part s 7 (s.size - 7)).toArray).size ≤ _
    rw [bytes_size, part_length (by omega)]; omega

theorem childOf_ok (s : ByteArray) (h : 10 ≤ s.size) (hs : s.size ≤ maxLen) : (childOf s).page < 4294967296 ∧ (childOf s).e.Ok := by
  have l0 := le_lt_of (l := part s 0 4) (n := 4) (by rw [part_length (by omega)]; omega)
  have l1 := le_lt_of (l := part s 4 4) (n := 4) (by rw [part_length (by omega)]; omega)
  have l2 := le_lt_of (l := part s 8 2) (n := 2) (by rw [part_length (by omega)]; omega)
  refine ⟨l0, l1, ?_, ?_, ?_⟩
  · show (-9223372036854775808 : Int) ≤ ((le (part s 8 2) : Nat) : Int); omega
  · show ((le (part s 8 2) : Nat) : Int) ≤ _; omega
  · show (ByteArray.mk (part s 10 (s.size - 10)).toArray).size ≤ _
    rw [bytes_size, part_length (by omega)]; omega

end Go.Proofs.Ytnljephojonilaa

namespace Go.Proofs.Ytnljephojonilaa
open Go.RowKit
set_option linter.unusedVariables false

/-- The lengths of slots. -/
def slotLens : List ByteArray → List UInt8
  | [] => []
  | s :: L => putL s.size 2 ++ slotLens L

/-- The bytes of slots. -/
def slotBytes : List ByteArray → List UInt8
  | [] => []
  | s :: L => s.data.toList ++ slotBytes L

theorem slotLens_append (L M : List ByteArray) : slotLens (L ++ M) = slotLens L ++ slotLens M := by
  induction L with
  | nil => rfl
  | cons s L ih => simp only [List.cons_append, slotLens, ih, List.append_assoc]

theorem slotBytes_append (L M : List ByteArray) : slotBytes (L ++ M) = slotBytes L ++ slotBytes M := by
  induction L with
  | nil => rfl
  | cons s L ih => simp only [List.cons_append, slotBytes, ih, List.append_assoc]

theorem slotLens_snoc (L : List ByteArray) (k : Nat) (h : k < L.length) : slotLens (L.take (k + 1)) = slotLens (L.take k) ++ putL L[k].size 2 := by
  rw [List.take_succ_eq_append_getElem h, slotLens_append]; simp [slotLens]

theorem slotBytes_snoc (L : List ByteArray) (k : Nat) (h : k < L.length) : slotBytes (L.take (k + 1)) = slotBytes (L.take k) ++ L[k].data.toList := by
  rw [List.take_succ_eq_append_getElem h, slotBytes_append]; simp [slotBytes]

theorem slotLens_length (L : List ByteArray) : (slotLens L).length = 2 * L.length := by
  induction L with
  | nil => rfl
  | cons s L ih => simp only [slotLens, List.length_append, putL_length, ih, List.length_cons]; omega

theorem slot_lengths (L : List ByteArray) : (slotLens L).length + (slotBytes L).length = slotSum L := by
  induction L with
  | nil => rfl
  | cons s L ih =>
    have : s.data.toList.length = s.size := by simp
    simp only [slotLens, slotBytes, slotSum, List.length_append, putL_length]; omega

theorem slotSum_take (L : List ByteArray) (k : Nat) : slotSum (L.take k) ≤ slotSum L := by
  conv => rhs; rw [← List.take_append_drop k L, slotSum_append]
  omega

theorem slotSum_at (L : List ByteArray) (k : Nat) (h : k < L.length) : 2 + L[k].size ≤ slotSum L := by
  have := slotSum_snoc L k h
  have := slotSum_take L (k + 1)
  omega

theorem slotSum_len (L : List ByteArray) : 2 * L.length ≤ slotSum L := by
  have := slotLens_length L
  have := slot_lengths L
  omega

/-- A page's bytes without the zeros, from the LSN on. -/
def bodyL (p : SheetV) : List UInt8 :=
  putL p.lsn 8 ++ putL p.num 4 ++ putL p.kind.toNat 1 ++ putL p.head.size 1 ++ p.head.data.toList ++ putL p.slots.length 1 ++ slotLens p.slots ++ slotBytes p.slots

/-- All but the sum. -/
def restL (p : SheetV) : List UInt8 := bodyL p ++ List.replicate (485 - p.head.size - slotSum p.slots) 0 ++ putL p.lsn 8

/-- A page's bytes. -/
def encL (p : SheetV) : List UInt8 := putL (crcSum 0 (restL p)) 4 ++ restL p

theorem bodyL_length (p : SheetV) : (bodyL p).length = 15 + p.head.size + slotSum p.slots := by
  have := slot_lengths p.slots
  have : p.head.data.toList.length = p.head.size := by simp
  simp only [bodyL, List.length_append, putL_length]; omega

theorem restL_length (p : SheetV) (h : p.head.size + slotSum p.slots ≤ 485) : (restL p).length = 508 := by
  simp only [restL, List.length_append, bodyL_length, putL_length, List.length_replicate]; omega

theorem encL_length (p : SheetV) (h : p.head.size + slotSum p.slots ≤ 485) : (encL p).length = 512 := by
  simp only [encL, List.length_append, restL_length p h, putL_length]

/-- The error of Encode. -/
def encE (p : SheetV) : Int := if p.kind < 0 ∨ 255 < p.kind ∨ 32 < p.head.size ∨ 64 < p.slots.length then 1 else if 485 < p.head.size + slotSum p.slots then 30 else 0

section
variable {w0 w : World} {b : Nat} {l : List UInt8} {a : Option Addr} {c : Nat}

theorem StrsAt.reach {L : List ByteArray} {s : Option Addr} (hm : StrsAt w0 s L) (h0 : Below w0.heap.size w0 w) {k : Nat} (hk : k < L.length) :
    ∃ bs o, s = some ⟨bs, o, none⟩ ∧ w.cell? ⟨bs, o + k, none⟩ = some (.string L[k]) := by
  rcases hm with hm | ⟨bs, o, rfl, hb, hc⟩
  · subst hm; simp at hk
  · exact ⟨bs, o, rfl, (h0.cell (p := ⟨bs, o + k, none⟩) hb).trans (hc k hk)⟩



end
end Go.Proofs.Ytnljephojonilaa

namespace Go.Proofs.Ytnljephojonilaa
open Go.RowKit
set_option linter.unusedVariables false

/-- What is known of a page that was handed in: its parts' sizes, its slots' place. -/
structure SheetV.Ok (p : SheetV) (w : World) (a : Option Addr) : Prop where
  num : p.num < 4294967296
  lsn : p.lsn < 18446744073709551616
  kind : -9223372036854775808 ≤ p.kind ∧ p.kind ≤ 9223372036854775807
  head : p.head.size ≤ 140737488351232
  len : p.slots.length ≤ 8796093021952
  slots : ∀ s ∈ p.slots, s.size ≤ 140737488351232
  mem : StrsAt w a p.slots

theorem SheetV.Ok.below {p : SheetV} {w w' : World} {a : Option Addr} (h : p.Ok w a) (k : Below w.heap.size w w') : p.Ok w' a :=
  ⟨h.num, h.lsn, h.kind, h.head, h.len, h.slots, h.mem.below k⟩

theorem SheetV.Ok.room {p : SheetV} {w : World} {a : Option Addr} (h : p.Ok w a) (c : Nat) :
    Calls Try.prog 30 #[p.val a c] w fun e w' => e = .returned (.int .i64 (roomF p)) ∧ Below w.heap.size w w' :=
  room_any p a c w (by have := h.len; unfold maxLen; omega) (fun s hs => by have := h.slots s hs; unfold maxLen; omega) (by have := h.head; unfold maxLen; omega) h.mem

theorem slotSum_le (L : List ByteArray) (hn : L.length ≤ 64) (hs : ∀ s ∈ L, s.size ≤ 140737488351232) : slotSum L ≤ 64 * 140737488351234 := by
  have : ∀ M : List ByteArray, (∀ s ∈ M, s.size ≤ 140737488351232) → slotSum M ≤ M.length * 140737488351234 := by
    intro M
    induction M with
    | nil => intro _; simp [slotSum]
    | cons s M ih =>
      intro h
      have h1 := h s (by simp)
      have h2 := ih (fun x hx => h x (by simp [hx]))
      simp only [slotSum, List.length_cons, Nat.add_mul]
      omega
  exact Nat.le_trans (this L hs) (Nat.mul_le_mul_right _ hn)

theorem roomF_eq {p : SheetV} {w : World} {a : Option Addr} (h : p.Ok w a) (hn : p.slots.length ≤ 64) : roomF p = 485 - (p.head.size : Int) - (slotSum p.slots : Int) := by
  have h1 := slotSum_le p.slots hn h.slots
  have h2 := h.head
  exact wrap_small (by omega) (by omega)





/-- A box of five cells is read as it was laid. -/
theorem box5 {w wX : World} {v0 v1 v2 v3 v4 : Value} {T : TypeId} (hb : Below (w.heap.size + 1) (w.alloc (.cells #[v0, v1, v2, v3, v4] T)) wX) :
    wX.cell? ⟨w.heap.size, 0, none⟩ = some v0 ∧ wX.cell? ⟨w.heap.size, 1, none⟩ = some v1 ∧ wX.cell? ⟨w.heap.size, 2, none⟩ = some v2 ∧ wX.cell? ⟨w.heap.size, 3, none⟩ = some v3 ∧ wX.cell? ⟨w.heap.size, 4, none⟩ = some v4 :=
  ⟨(hb.cell (p := ⟨w.heap.size, 0, none⟩) (by simp)).trans (by simp), (hb.cell (p := ⟨w.heap.size, 1, none⟩) (by simp)).trans (by simp), (hb.cell (p := ⟨w.heap.size, 2, none⟩) (by simp)).trans (by simp),
    (hb.cell (p := ⟨w.heap.size, 3, none⟩) (by simp)).trans (by simp), (hb.cell (p := ⟨w.heap.size, 4, none⟩) (by simp)).trans (by simp)⟩

theorem wnumber_is {w : World} {b : Nat} {l : List UInt8} {a : Option Addr} {c : Nat} (h : IsWriter w b l a c) (n k : Nat) (hn : n < 18446744073709551616) (hk : k ≤ 8) (hl : l.length + 8 ≤ 140737488355328) :
    Calls Try.prog 76 #[.pointer (some ⟨b, 0, none⟩), .int .u64 n, .int .i64 k] w fun y w' =>
      y = .returned (.tuple #[]) ∧ (∃ a' c', IsWriter w' b (l ++ putL n k) a' c') ∧ Below b w w' := by
  have := wnumber_any h n k hn hl
  rw [show longOf (k : Int) = k from by unfold longOf; omega] at this
  exact this

end Go.Proofs.Ytnljephojonilaa

namespace Go.Proofs.Ytnljephojonilaa
open Go.RowKit
set_option linter.unusedVariables false

/-- A row of N values that may be written: cell j holds f j. -/
def RowV (w : World) (b N : Nat) (f : Nat → Value) : Prop :=
  ∀ j, j < N → w.cell? ⟨b, j, none⟩ = some (f j) ∧ w.frozen? ⟨b, j, none⟩ = false

theorem RowV.congr {w : World} {b N : Nat} {f g : Nat → Value} (h : RowV w b N f) (e : ∀ j, j < N → f j = g j) : RowV w b N g :=
  fun j hj => by rw [← e j hj]; exact h j hj

theorem RowV.set {w : World} {b N : Nat} {f : Nat → Value} (h : RowV w b N f) {k : Nat} (hk : k < N) (v : Value) :
    RowV (w.setCell ⟨b, k, none⟩ v) b N (fun j => if j = k then v else f j) := by
  intro j hj
  refine ⟨?_, by rw [World.frozen?_setCell]; exact (h j hj).2⟩
  by_cases e : j = k
  · subst e; simp only [if_pos]; exact World.cell?_setCell_same _ _ _ (h j hj).1
  · simp only [if_neg e]; rw [World.cell?_setCell_other _ _ _ _ (by intro q; exact e (by simpa using q.symm))]; exact (h j hj).1

theorem RowV.set_other {w : World} {b N : Nat} {f : Nat → Value} (h : RowV w b N f) {b' k : Nat} (hk : b' ≠ b) (v : Value) : RowV (w.setCell ⟨b', k, none⟩ v) b N f := by
  intro j hj
  refine ⟨?_, by rw [World.frozen?_setCell]; exact (h j hj).2⟩
  rw [World.cell?_setCell_other _ _ _ _ (by intro q; exact hk (by simpa using congrArg Addr.block q))]; exact (h j hj).1

theorem RowV.made (w : World) (N : Nat) (z : Value) (hz : z.cells = #[z]) (t : TypeId) : RowV (w.alloc (.cells (madeCells #[z] N) t)) w.heap.size N (fun _ => z) := by
  intro j hj
  refine ⟨?_, by simp⟩
  rw [World.cell?_alloc_new]
  have h : (madeCells #[z] N).toList[j]? = some z := by
    rw [toList_madeCells_one]; simp [hj]
  simpa using h

theorem RowV.below {w w' : World} {b N : Nat} {f : Nat → Value} (h : RowV w b N f) {B : Nat} (k : Below B w w') (hb : b < B) : RowV w' b N f :=
  fun j hj => ⟨(k.cell (p := ⟨b, j, none⟩) hb).trans (h j hj).1, (k.frozen (p := ⟨b, j, none⟩) hb).trans (h j hj).2⟩

theorem Only.frozen {b : Nat} {w w' : World} (h : Only b w w') {p : Addr} (hp : p.block < w.heap.size) (hb : p.block ≠ b) : w'.frozen? p = w.frozen? p := World.frozen?_of_block (w := w) (h.block p.block hp hb)

theorem RowV.only {w w' : World} {b N : Nat} {f : Nat → Value} (h : RowV w b N f) {r : Nat} (k : Only r w w') (hb : b < w.heap.size) (hr : b ≠ r) : RowV w' b N f :=
  fun j hj => ⟨(k.cell (p := ⟨b, j, none⟩) hb hr).trans (h j hj).1, (k.frozen (p := ⟨b, j, none⟩) hb hr).trans (h j hj).2⟩

theorem Only.setNew {b : Nat} {w w' : World} (h : Only b w w') {k : Nat} (hk : w.heap.size ≤ k) (i : Nat) (v : Value) : Only b w (w'.setCell ⟨k, i, none⟩ v) :=
  ⟨h.os, h.tape, h.output, by simpa using h.size, fun j hj hb => (Below.heap_setCell _ _ _ _ (by simp; omega)).trans (h.block j hj hb)⟩

theorem IsReader.setOther {w : World} {b : Nat} {s : ByteArray} {p : Nat} {e : Int} (h : IsReader w b s p e) {k i : Nat} (hk : k ≠ b) (v : Value) : IsReader (w.setCell ⟨k, i, none⟩ v) b s p e := by
  have ne : ∀ o, (⟨k, i, none⟩ : Addr) ≠ ⟨b, o, none⟩ := fun o q => hk (congrArg Addr.block q)
  exact ⟨by rw [World.cell?_setCell_other _ _ _ _ (ne 0)]; exact h.c0, by rw [World.cell?_setCell_other _ _ _ _ (ne 1)]; exact h.c1, by rw [World.cell?_setCell_other _ _ _ _ (ne 2)]; exact h.c2,
    by rw [World.frozen?_setCell]; exact h.f1, by rw [World.frozen?_setCell]; exact h.f2, h.le, h.sz, by simpa using h.lt⟩

theorem infoInt : (Try.prog.info? 3).map (fun i => (i.zero, i.size, i.bytes)) = some (some (.int .i64 0), 1, 8) := by kernel_rfl
theorem infoStr : (Try.prog.info? 9).map (fun i => (i.zero, i.size, i.bytes)) = some (some (.string ⟨#[]⟩), 1, 16) := by kernel_rfl

/-- Are all bytes zeros? -/
def zerosB (l : List UInt8) : Bool := l.all fun x => x == 0

theorem zerosB_iff (l : List UInt8) : zerosB l = true ↔ l = List.replicate l.length 0 := by
  unfold zerosB
  induction l with
  | nil => simp
  | cons x l ih => simp only [List.all_cons, List.length_cons, List.replicate_succ, Bool.and_eq_true, beq_iff_eq, List.cons.injEq, ih]



section
variable {w : World} {b : Nat} {s : ByteArray} {p : Nat} {e : Int}

theorem number_err (h : IsReader w b s p e) (he : e ≠ 0) (n : Int) :
    Calls Try.prog 40 #[.pointer (some ⟨b, 0, none⟩), .int .i64 n] w fun x w' => x = .returned (.int .u64 0) ∧ IsReader w' b s p e ∧ Only b w w' := by
  have hn := number_any h n
  rw [numF_err he] at hn
  exact hn

theorem number_ok (h : IsReader w b s p 0) (n : Nat) (hn : n ≤ 8) (hc : p + n ≤ s.size) :
    Calls Try.prog 40 #[.pointer (some ⟨b, 0, none⟩), .int .i64 n] w fun x w' => x = .returned (.int .u64 (le (part s p n))) ∧ IsReader w' b s (p + n) 0 ∧ Only b w w' := by
  have hx := number_any h n
  rw [numF_ok n hn hc] at hx
  exact hx

theorem bytes_err (h : IsReader w b s p e) (he : e ≠ 0) (n : Nat) (hi : n ≤ 9223372036854775807) :
    Calls Try.prog 91 #[.pointer (some ⟨b, 0, none⟩), .int .i64 n] w fun x w' => x = .returned (.string ⟨#[]⟩) ∧ IsReader w' b s p e ∧ Only b w w' := by
  have hn := bytes_any h n (by omega)
  rw [bytesF_err he] at hn
  exact hn

theorem bytes_cut (h : IsReader w b s p 0) (n : Nat) (hi : n ≤ 9223372036854775807) (hc : s.size < p + n) :
    Calls Try.prog 91 #[.pointer (some ⟨b, 0, none⟩), .int .i64 n] w fun x w' => x = .returned (.string ⟨#[]⟩) ∧ IsReader w' b s p 4 ∧ Only b w w' := by
  have hn := bytes_any h n (by omega)
  rw [bytesF_cut n hc] at hn
  exact hn

theorem bytes_ok (h : IsReader w b s p 0) (n : Nat) (hc : p + n ≤ s.size) :
    Calls Try.prog 91 #[.pointer (some ⟨b, 0, none⟩), .int .i64 n] w fun x w' => x = .returned (.string ⟨(part s p n).toArray⟩) ∧ IsReader w' b s (p + n) 0 ∧ Only b w w' := by
  have hn := bytes_any h n (by have := h.sz; omega)
  rw [bytesF_ok n hc] at hn
  exact hn







end
end Go.Proofs.Ytnljephojonilaa

namespace Go.Proofs.Ytnljephojonilaa
open Go.RowKit
set_option linter.unusedVariables false

/-- The length of slot j, whose lengths stand at q. -/
def longAt (s : ByteArray) (q j : Nat) : Nat := le (part s (q + 2 * j) 2)

/-- Where slot k begins. -/
def offAt (s : ByteArray) (q n : Nat) : Nat → Nat
  | 0 => q + 2 * n
  | k + 1 => offAt s q n k + longAt s q k

theorem offAt_mono (s : ByteArray) (q n : Nat) {k m : Nat} (h : k ≤ m) : offAt s q n k ≤ offAt s q n m := by
  induction m with
  | zero => rw [show k = 0 from by omega]; exact Nat.le_refl _
  | succ m ih =>
    by_cases e : k = m + 1
    · rw [e]; exact Nat.le_refl _
    · have := ih (by omega); simp only [offAt]; omega

/-- The slots. -/
def slotAt (s : ByteArray) (q n j : Nat) : ByteArray := ⟨(part s (offAt s q n j) (longAt s q j)).toArray⟩
def slotsAt (s : ByteArray) (q n : Nat) : List ByteArray := (List.range n).map (slotAt s q n)

theorem slotsAt_length (s : ByteArray) (q n : Nat) : (slotsAt s q n).length = n := by simp [slotsAt]

theorem longAt_lt (s : ByteArray) (q j : Nat) (h : q + 2 * j + 2 ≤ s.size) : longAt s q j < 65536 := by
  have := le_lt_of (l := part s (q + 2 * j) 2) (n := 2) (by rw [part_length (by omega)]; omega)
  exact this

section
variable {w : World} {b : Nat} {s : ByteArray} {p : Nat} {e : Int}

theorem IsReader.alloc {w : World} (h : IsReader w b s p e) (o : Obj) : IsReader (w.alloc o) b s p e := h.below ((Below.refl _ _).alloc (Nat.le_refl _) _)



end
end Go.Proofs.Ytnljephojonilaa

namespace Go.Proofs.Ytnljephojonilaa
open Go.RowKit
set_option linter.unusedVariables false

theorem RowV.strs {w : World} {b : Nat} {L : List ByteArray} (hb : b < w.heap.size) (h : RowV w b L.length (fun j => .string (L.getD j ByteArray.empty))) : StrsAt w (some ⟨b, 0, none⟩) L :=
  .inr ⟨b, 0, rfl, hb, fun i hi => by have := (h i hi).1; simp only [Nat.zero_add]; rw [this]; show some (Value.string (L.getD i ByteArray.empty)) = _; rw [List.getD_eq_getElem?_getD, List.getElem?_eq_getElem hi]; rfl⟩

/-- The same, in a block from B on. -/
def StrsFrom (B : Nat) (w : World) (a : Option Addr) (L : List ByteArray) : Prop :=
  L = [] ∨ ∃ b o, a = some ⟨b, o, none⟩ ∧ B ≤ b ∧ b < w.heap.size ∧ ∀ i (hi : i < L.length), w.cell? ⟨b, o + i, none⟩ = some (.string L[i])

theorem StrsFrom.at {B : Nat} {w : World} {a : Option Addr} {L : List ByteArray} (h : StrsFrom B w a L) : StrsAt w a L := by
  rcases h with h | ⟨b, o, e, _, hb, hc⟩
  · exact .inl h
  · exact .inr ⟨b, o, e, hb, hc⟩

theorem StrsFrom.setOther {B : Nat} {w : World} {a : Option Addr} {L : List ByteArray} (h : StrsFrom B w a L) {k i : Nat} (hk : k < B) (v : Value) : StrsFrom B (w.setCell ⟨k, i, none⟩ v) a L := by
  rcases h with h | ⟨b, o, e, h1, hb, hc⟩
  · exact .inl h
  · refine .inr ⟨b, o, e, h1, by simpa using hb, fun j hj => ?_⟩
    rw [World.cell?_setCell_other _ _ _ _ (by intro q; have := congrArg Addr.block q; simp only at this; omega)]
    exact hc j hj

theorem StrsFrom.mono {B C : Nat} {w : World} {a : Option Addr} {L : List ByteArray} (h : StrsFrom B w a L) (hC : C ≤ B) : StrsFrom C w a L := by
  rcases h with h | ⟨b, o, e, h1, hb, hc⟩
  · exact .inl h
  · exact .inr ⟨b, o, e, by omega, hb, hc⟩

theorem StrsFrom.store5 {B : Nat} {w : World} {a : Option Addr} {L : List ByteArray} (h : StrsFrom B w a L) {b : Nat} (hb : b < B) (v0 v1 v2 v3 v4 : Value) :
    StrsFrom B (((((w.setCell ⟨b, 0, none⟩ v0).setCell ⟨b, 1, none⟩ v1).setCell ⟨b, 2, none⟩ v2).setCell ⟨b, 3, none⟩ v3).setCell ⟨b, 4, none⟩ v4) a L :=
  ((((h.setOther hb v0).setOther hb v1).setOther hb v2).setOther hb v3).setOther hb v4

theorem StrsFrom.below {B : Nat} {w w' : World} {a : Option Addr} {L : List ByteArray} (h : StrsFrom B w a L) (k : Below w.heap.size w w') : StrsFrom B w' a L := by
  rcases h with h | ⟨b, o, e, h1, hb, hc⟩
  · exact .inl h
  · exact .inr ⟨b, o, e, h1, Nat.lt_of_lt_of_le hb k.size, fun i hi => (k.cell (p := ⟨b, o + i, none⟩) hb).trans (hc i hi)⟩

theorem RowV.strsFrom {w : World} {b B : Nat} {L : List ByteArray} (hB : B ≤ b) (hb : b < w.heap.size) (h : RowV w b L.length (fun j => .string (L.getD j ByteArray.empty))) : StrsFrom B w (some ⟨b, 0, none⟩) L := by
  rcases h.strs hb with h | ⟨b', o, e, hb', hc⟩
  · exact .inl h
  · cases e; exact .inr ⟨b, 0, rfl, hB, hb, hc⟩

/-- Five values, by their places. -/
def five (v0 v1 v2 v3 v4 : Value) : Nat → Value
  | 0 => v0
  | 1 => v1
  | 2 => v2
  | 3 => v3
  | _ => v4

theorem RowV.five_new (w : World) (v0 v1 v2 v3 v4 : Value) (T : TypeId) : RowV (w.alloc (.cells #[v0, v1, v2, v3, v4] T)) w.heap.size 5 (five v0 v1 v2 v3 v4) := by
  intro j hj
  match j, hj with
  | 0, _ => exact ⟨by simp [five], by simp⟩
  | 1, _ => exact ⟨by simp [five], by simp⟩
  | 2, _ => exact ⟨by simp [five], by simp⟩
  | 3, _ => exact ⟨by simp [five], by simp⟩
  | 4, _ => exact ⟨by simp [five], by simp⟩

theorem RowV.set0 {w : World} {b : Nat} {v0 v1 v2 v3 v4 : Value} (h : RowV w b 5 (five v0 v1 v2 v3 v4)) (v : Value) : RowV (w.setCell ⟨b, 0, none⟩ v) b 5 (five v v1 v2 v3 v4) :=
  (h.set (k := 0) (by omega) v).congr fun j hj => by match j, hj with | 0, _ => rfl | 1, _ => rfl | 2, _ => rfl | 3, _ => rfl | 4, _ => rfl
theorem RowV.set1 {w : World} {b : Nat} {v0 v1 v2 v3 v4 : Value} (h : RowV w b 5 (five v0 v1 v2 v3 v4)) (v : Value) : RowV (w.setCell ⟨b, 1, none⟩ v) b 5 (five v0 v v2 v3 v4) :=
  (h.set (k := 1) (by omega) v).congr fun j hj => by match j, hj with | 0, _ => rfl | 1, _ => rfl | 2, _ => rfl | 3, _ => rfl | 4, _ => rfl
theorem RowV.set2 {w : World} {b : Nat} {v0 v1 v2 v3 v4 : Value} (h : RowV w b 5 (five v0 v1 v2 v3 v4)) (v : Value) : RowV (w.setCell ⟨b, 2, none⟩ v) b 5 (five v0 v1 v v3 v4) :=
  (h.set (k := 2) (by omega) v).congr fun j hj => by match j, hj with | 0, _ => rfl | 1, _ => rfl | 2, _ => rfl | 3, _ => rfl | 4, _ => rfl
theorem RowV.set3 {w : World} {b : Nat} {v0 v1 v2 v3 v4 : Value} (h : RowV w b 5 (five v0 v1 v2 v3 v4)) (v : Value) : RowV (w.setCell ⟨b, 3, none⟩ v) b 5 (five v0 v1 v2 v v4) :=
  (h.set (k := 3) (by omega) v).congr fun j hj => by match j, hj with | 0, _ => rfl | 1, _ => rfl | 2, _ => rfl | 3, _ => rfl | 4, _ => rfl
theorem RowV.set4 {w : World} {b : Nat} {v0 v1 v2 v3 v4 : Value} (h : RowV w b 5 (five v0 v1 v2 v3 v4)) (v : Value) : RowV (w.setCell ⟨b, 4, none⟩ v) b 5 (five v0 v1 v2 v3 v) :=
  (h.set (k := 4) (by omega) v).congr fun j hj => by match j, hj with | 0, _ => rfl | 1, _ => rfl | 2, _ => rfl | 3, _ => rfl | 4, _ => rfl

theorem RowV.cells5 {w : World} {b : Nat} {v0 v1 v2 v3 v4 : Value} (h : RowV w b 5 (five v0 v1 v2 v3 v4)) :
    w.cell? ⟨b, 0, none⟩ = some v0 ∧ w.cell? ⟨b, 1, none⟩ = some v1 ∧ w.cell? ⟨b, 2, none⟩ = some v2 ∧ w.cell? ⟨b, 3, none⟩ = some v3 ∧ w.cell? ⟨b, 4, none⟩ = some v4 :=
  ⟨(h 0 (by omega)).1, (h 1 (by omega)).1, (h 2 (by omega)).1, (h 3 (by omega)).1, (h 4 (by omega)).1⟩
theorem RowV.open5 {w : World} {b : Nat} {v0 v1 v2 v3 v4 : Value} (h : RowV w b 5 (five v0 v1 v2 v3 v4)) :
    w.frozen? ⟨b, 0, none⟩ = false ∧ w.frozen? ⟨b, 1, none⟩ = false ∧ w.frozen? ⟨b, 2, none⟩ = false ∧ w.frozen? ⟨b, 3, none⟩ = false ∧ w.frozen? ⟨b, 4, none⟩ = false :=
  ⟨(h 0 (by omega)).2, (h 1 (by omega)).2, (h 2 (by omega)).2, (h 3 (by omega)).2, (h 4 (by omega)).2⟩

/-- A whole page is stored into block b. -/
def store5 (w : World) (b : Nat) (v0 v1 v2 v3 v4 : Value) : World := ((((w.setCell ⟨b, 0, none⟩ v0).setCell ⟨b, 1, none⟩ v1).setCell ⟨b, 2, none⟩ v2).setCell ⟨b, 3, none⟩ v3).setCell ⟨b, 4, none⟩ v4

theorem RowV.set5 {w : World} {b : Nat} {u0 u1 u2 u3 u4 : Value} (h : RowV w b 5 (five u0 u1 u2 u3 u4)) (v0 v1 v2 v3 v4 : Value) : RowV (store5 w b v0 v1 v2 v3 v4) b 5 (five v0 v1 v2 v3 v4) :=
  ((((h.set0 v0).set1 v1).set2 v2).set3 v3).set4 v4

theorem RowV.set5_other {w : World} {b k N : Nat} {f : Nat → Value} (h : RowV w k N f) (hk : b ≠ k) (v0 v1 v2 v3 v4 : Value) : RowV (store5 w b v0 v1 v2 v3 v4) k N f :=
  ((((h.set_other hk v0).set_other hk v1).set_other hk v2).set_other hk v3).set_other hk v4

theorem below_set5 {B : Nat} {w w' : World} (h : Below B w w') {b : Nat} (hb : B ≤ b) (v0 v1 v2 v3 v4 : Value) : Below B w (store5 w' b v0 v1 v2 v3 v4) :=
  ((((h.setCell (p := ⟨b, 0, none⟩) hb v0).setCell (p := ⟨b, 1, none⟩) hb v1).setCell (p := ⟨b, 2, none⟩) hb v2).setCell (p := ⟨b, 3, none⟩) hb v3).setCell (p := ⟨b, 4, none⟩) hb v4

theorem store5_size (w : World) (b : Nat) (v0 v1 v2 v3 v4 : Value) : (store5 w b v0 v1 v2 v3 v4).heap.size = w.heap.size := by simp [store5]



theorem IsReader.new {s : ByteArray} {w : World} {t : TypeId} (hs : s.size ≤ 281474976710656) : IsReader (w.alloc (.cells #[.string s, .int .i64 0, .int .i64 0] t)) w.heap.size s 0 0 :=
  ⟨by simp, by simp, by simp, by simp, by simp, by omega, hs, by simp⟩



end Go.Proofs.Ytnljephojonilaa
