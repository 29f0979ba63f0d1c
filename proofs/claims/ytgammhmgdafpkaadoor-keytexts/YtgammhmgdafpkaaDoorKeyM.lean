/-
  Plain mathematics of values, rows and keys (chapter 11): what their bytes are, and in which order keys stand. No Go program is named here.
-/
import Derived.Test.YtgammhmgdafpkaaDoorLe
import Derived.WalkKit
namespace Go.Proofs.YtgammhmgdafpkaaDoor
set_option linter.unusedVariables false

/-- A value as plain data. -/
structure ValV where
  kind : Int
  n : Int
  S : ByteArray

/-- The numbers of a value are numbers of 64 bits. -/
structure ValV.In (v : ValV) : Prop where
  k0 : -9223372036854775808 ≤ v.kind
  k1 : v.kind ≤ 9223372036854775807
  n0 : -9223372036854775808 ≤ v.n
  n1 : v.n ≤ 9223372036854775807

/-- A value that may be. -/
def ValV.may (v : ValV) : Bool := decide ((v.kind = 0 ∧ v.n = 0 ∧ v.S.size = 0) ∨ (v.kind = 1 ∧ v.S.size = 0) ∨ (v.kind = 2 ∧ v.n = 0 ∧ v.S.size ≤ 20))

theorem ValV.may_iff (v : ValV) : v.may = true ↔ ((v.kind = 0 ∧ v.n = 0 ∧ v.S.size = 0) ∨ (v.kind = 1 ∧ v.S.size = 0) ∨ (v.kind = 2 ∧ v.n = 0 ∧ v.S.size ≤ 20)) := by
  unfold ValV.may; simp

theorem ValV.may_kind {v : ValV} (h : v.may = true) : v.kind = 0 ∨ v.kind = 1 ∨ v.kind = 2 := by
  rcases v.may_iff.1 h with h | h | h
  · exact Or.inl h.1
  · exact Or.inr (Or.inl h.1)
  · exact Or.inr (Or.inr h.1)

/-- A number of 64 bits without its sign. -/
def toU (n : Int) : Nat := (n % 18446744073709551616).toNat

theorem u64_lt (n : Int) : toU n < 18446744073709551616 := by unfold toU; omega

/-- The bytes of a value in a row. -/
def ValV.rowL (v : ValV) : List UInt8 :=
  putL (toU v.kind) 1 ++ (if v.kind = 1 then putL (toU v.n) 8 else if v.kind = 2 then putL v.S.size 1 ++ v.S.data.toList else [])

/-- A text's bytes in a key: 255 behind each byte 0. -/
def escL : List UInt8 → List UInt8
  | [] => []
  | c :: l => if c = 0 then 0 :: 255 :: escL l else c :: escL l

/-- The bytes of a value in a key. -/
def ValV.keyL (v : ValV) : List UInt8 :=
  putL (toU v.kind) 1 ++ (if v.kind = 1 then (putL (toU (v.n + 9223372036854775808)) 8).reverse else if v.kind = 2 then escL v.S.data.toList ++ [0, 0] else [])

/-- The bytes of values in a row, behind one another. -/
def rowsL (l : List ValV) : List UInt8 := l.flatMap ValV.rowL

/-- The key of values. -/
def keysL (l : List ValV) : List UInt8 := l.flatMap ValV.keyL

theorem rowsL_nil : rowsL [] = [] := rfl
theorem rowsL_cons (v : ValV) (l : List ValV) : rowsL (v :: l) = v.rowL ++ rowsL l := by simp [rowsL]
theorem rowsL_append (l k : List ValV) : rowsL (l ++ k) = rowsL l ++ rowsL k := by simp [rowsL]
theorem rowsL_snoc (l : List ValV) (v : ValV) : rowsL (l ++ [v]) = rowsL l ++ v.rowL := by simp [rowsL]
theorem keysL_nil : keysL [] = [] := rfl
theorem keysL_cons (v : ValV) (l : List ValV) : keysL (v :: l) = v.keyL ++ keysL l := by simp [keysL]
theorem keysL_append (l k : List ValV) : keysL (l ++ k) = keysL l ++ keysL k := by simp [keysL]
theorem keysL_snoc (l : List ValV) (v : ValV) : keysL (l ++ [v]) = keysL l ++ v.keyL := by simp [keysL]

theorem escL_length (l : List UInt8) : (escL l).length ≤ 2 * l.length := by
  induction l with
  | nil => simp [escL]
  | cons c l ih => simp only [escL]; split <;> simp <;> omega

theorem escL_append (l k : List UInt8) : escL (l ++ k) = escL l ++ escL k := by
  induction l with
  | nil => rfl
  | cons c l ih => simp only [List.cons_append, escL, ih]; split <;> rfl

theorem may_rowL_length {v : ValV} (h : v.may = true) : v.rowL.length ≤ 9 + v.S.size := by
  unfold ValV.rowL
  rw [List.length_append, putL_length]
  split
  · rw [putL_length]; omega
  · split
    · rw [List.length_append, putL_length]; simp; omega
    · simp; omega

theorem may_keyL_length {v : ValV} (h : v.may = true) : v.keyL.length ≤ 9 + 2 * v.S.size := by
  unfold ValV.keyL
  rw [List.length_append, putL_length]
  split
  · rw [List.length_reverse, putL_length]; omega
  · split
    · rw [List.length_append]; have := escL_length v.S.data.toList; simp at this ⊢; omega
    · simp; omega

theorem may_size {v : ValV} (h : v.may = true) : v.S.size ≤ 20 := by
  rcases v.may_iff.1 h with h | h | h <;> omega

theorem rowL_pos (v : ValV) : 1 ≤ v.rowL.length := by unfold ValV.rowL; rw [List.length_append, putL_length]; omega
theorem keyL_pos (v : ValV) : 1 ≤ v.keyL.length := by unfold ValV.keyL; rw [List.length_append, putL_length]; omega

/-! ### The order of bytes -/

open Go.Op (bytesLess)

theorem bless_cons (a b : UInt8) (x y : List UInt8) : bytesLess (a :: x) (b :: y) = (decide (a < b) || (a == b && bytesLess x y)) := rfl

theorem bless_same (a : UInt8) (x y : List UInt8) : bytesLess (a :: x) (a :: y) = bytesLess x y := by
  rw [bless_cons]; simp

theorem bless_lt {a b : UInt8} (h : a < b) (x y : List UInt8) : bytesLess (a :: x) (b :: y) = true := by
  rw [bless_cons]; simp [h]

theorem bless_prefix (p x y : List UInt8) : bytesLess (p ++ x) (p ++ y) = bytesLess x y := by
  induction p with
  | nil => rfl
  | cons a p ih => simp only [List.cons_append, bless_same, ih]

theorem bless_irrefl (x : List UInt8) : bytesLess x x = false := by
  induction x with
  | nil => rfl
  | cons a x ih => rw [bless_same, ih]

theorem u8_lt_or (a b : UInt8) : a < b ∨ a = b ∨ b < a := by
  rcases Nat.lt_trichotomy a.toNat b.toNat with h | h | h
  · exact Or.inl (UInt8.lt_iff_toNat_lt.2 h)
  · exact Or.inr (Or.inl (UInt8.toNat_inj.1 h))
  · exact Or.inr (Or.inr (UInt8.lt_iff_toNat_lt.2 h))

theorem bless_asymm : ∀ {x y : List UInt8}, bytesLess x y = true → bytesLess y x = false ∧ x ≠ y
  | [], [], h => by simp [bytesLess] at h
  | [], _ :: _, _ => ⟨rfl, by simp⟩
  | _ :: _, [], h => by simp [bytesLess] at h
  | a :: x, b :: y, h => by
    rw [bless_cons] at h
    rcases u8_lt_or a b with e | e | e
    · have h1 : ¬ b < a := by rw [UInt8.lt_iff_toNat_lt] at e ⊢; omega
      have h2 : ¬ b = a := fun k => by rw [UInt8.lt_iff_toNat_lt] at e; rw [k] at e; omega
      refine ⟨by rw [bless_cons]; simp [h1, h2], fun k => ?_⟩
      exact h2 (List.cons.inj k).1.symm
    · subst e
      rw [show decide (a < a) = false from decide_eq_false (by rw [UInt8.lt_iff_toNat_lt]; omega)] at h
      simp at h
      have := bless_asymm h
      exact ⟨by rw [bless_same]; exact this.1, fun k => this.2 (List.cons.inj k).2⟩
    · have h1 : ¬ a < b := by rw [UInt8.lt_iff_toNat_lt] at e ⊢; omega
      have h2 : ¬ a = b := fun k => by rw [UInt8.lt_iff_toNat_lt] at e; rw [k] at e; omega
      simp [h1, h2] at h

/-- Which of two texts stands first. -/
theorem bless_total : ∀ (x y : List UInt8), bytesLess x y = true ∨ x = y ∨ bytesLess y x = true
  | [], [] => Or.inr (Or.inl rfl)
  | [], _ :: _ => Or.inl rfl
  | _ :: _, [] => Or.inr (Or.inr rfl)
  | a :: x, b :: y => by
    rcases u8_lt_or a b with e | e | e
    · exact Or.inl (bless_lt e _ _)
    · subst e
      rcases bless_total x y with h | h | h
      · exact Or.inl (by rw [bless_same]; exact h)
      · exact Or.inr (Or.inl (by rw [h]))
      · exact Or.inr (Or.inr (by rw [bless_same]; exact h))
    · exact Or.inr (Or.inr (bless_lt e _ _))

/-- Numbers of as many bytes, the highest byte first, stand as the numbers do. -/
theorem bless_be : ∀ (p q x y : List UInt8), p.length = q.length → le p.reverse < le q.reverse → bytesLess (p ++ x) (q ++ y) = true
  | [], [], _, _, _, h => by simp [le] at h
  | [], _ :: _, _, _, h, _ => by simp at h
  | _ :: _, [], _, _, h, _ => by simp at h
  | a :: p, b :: q, x, y, hl, h => by
    simp only [List.reverse_cons, le_append, List.length_reverse, le, Nat.mul_zero, Nat.add_zero] at h
    have hl' : p.length = q.length := by simpa using hl
    have h1 : le p.reverse < 2 ^ (8 * p.length) := by simpa using le_lt p.reverse
    have h2 : le q.reverse < 2 ^ (8 * q.length) := by simpa using le_lt q.reverse
    rw [hl'] at h h1
    generalize 2 ^ (8 * q.length) = M at h h1 h2
    rcases u8_lt_or a b with e | e | e
    · exact bless_lt e _ _
    · subst e
      simp only [List.cons_append, bless_same]
      exact bless_be p q x y hl' (by omega)
    · exfalso
      rw [UInt8.lt_iff_toNat_lt] at e
      have : M * (b.toNat + 1) ≤ M * a.toNat := Nat.mul_le_mul_left M e
      rw [Nat.mul_add] at this
      omega

/-- Texts in keys stand as the texts do, whatever stands behind. -/
theorem bless_esc : ∀ (s t x y : List UInt8), bytesLess s t = true → bytesLess (escL s ++ (0 :: 0 :: x)) (escL t ++ (0 :: 0 :: y)) = true
  | _, [], _, _, h => by cases ‹List UInt8› <;> simp [bytesLess] at h
  | [], b :: t, x, y, _ => by
    simp only [escL, List.nil_append]
    by_cases e : b = 0
    · rw [if_pos e, List.cons_append, List.cons_append, bless_same]; exact bless_lt (by decide) _ _
    · rw [if_neg e, List.cons_append]
      refine bless_lt ?_ _ _
      rw [UInt8.lt_iff_toNat_lt]
      have : b.toNat ≠ 0 := fun k => e (UInt8.toNat_inj.1 k)
      show (0 : Nat) < _
      omega
  | a :: s, b :: t, x, y, h => by
    rw [bless_cons] at h
    rcases u8_lt_or a b with e | e | e
    · have hb : b ≠ 0 := fun k => by rw [k, UInt8.lt_iff_toNat_lt] at e; exact absurd e (by show ¬ _ < 0; omega)
      simp only [escL]
      rw [if_neg hb]
      by_cases e0 : a = 0
      · rw [if_pos e0]; subst e0; exact bless_lt e _ _
      · rw [if_neg e0]; exact bless_lt e _ _
    · subst e
      rw [show decide (a < a) = false from decide_eq_false (by rw [UInt8.lt_iff_toNat_lt]; omega)] at h
      simp at h
      have ih := bless_esc s t x y h
      simp only [escL]
      by_cases e0 : a = 0
      · simp only [if_pos e0, List.cons_append, bless_same]; exact ih
      · simp only [if_neg e0, List.cons_append, bless_same]; exact ih
    · have h1 : ¬ a < b := by rw [UInt8.lt_iff_toNat_lt] at e ⊢; omega
      have h2 : ¬ a = b := fun k => by rw [UInt8.lt_iff_toNat_lt] at e; rw [k] at e; omega
      simp [h1, h2] at h

/-! ### The order of values -/

/-- a stands ahead of b. -/
def ltV (a b : ValV) : Bool := decide (a.kind < b.kind) || (decide (a.kind = b.kind) && (decide (a.n < b.n) || (decide (a.n = b.n) && bytesLess a.S.data.toList b.S.data.toList)))

/-- a and b are one value. -/
def eqV (a b : ValV) : Bool := decide (a.kind = b.kind ∧ a.n = b.n) && (a.S.data.toList == b.S.data.toList)

/-- How two values stand. -/
def cmpV (a b : ValV) : Int := if ltV a b then -1 else if eqV a b then 0 else 1

/-- How two lists of values stand. -/
def cmpL : List ValV → List ValV → Int
  | [], [] => 0
  | [], _ :: _ => -1
  | _ :: _, [] => 1
  | a :: A, b :: B => if cmpV a b = 0 then cmpL A B else cmpV a b

theorem eqV_iff (a b : ValV) : eqV a b = true ↔ a = b := by
  unfold eqV
  constructor
  · intro h
    simp at h
    obtain ⟨⟨h1, h2⟩, h3⟩ := h
    cases a; cases b
    simp only at h1 h2 h3
    subst h1 h2
    congr
    exact ByteArray.ext h3
  · intro h; subst h; simp

theorem ltV_iff (a b : ValV) : ltV a b = true ↔ (a.kind < b.kind ∨ (a.kind = b.kind ∧ (a.n < b.n ∨ (a.n = b.n ∧ bytesLess a.S.data.toList b.S.data.toList = true)))) := by
  unfold ltV; simp

theorem ltV_total (a b : ValV) : ltV a b = true ∨ a = b ∨ ltV b a = true := by
  rcases Int.lt_trichotomy a.kind b.kind with h | h | h
  · exact Or.inl ((ltV_iff _ _).2 (Or.inl h))
  · rcases Int.lt_trichotomy a.n b.n with k | k | k
    · exact Or.inl ((ltV_iff _ _).2 (Or.inr ⟨h, Or.inl k⟩))
    · rcases bless_total a.S.data.toList b.S.data.toList with m | m | m
      · exact Or.inl ((ltV_iff _ _).2 (Or.inr ⟨h, Or.inr ⟨k, m⟩⟩))
      · exact Or.inr (Or.inl ((eqV_iff _ _).1 (by unfold eqV; simp [h, k, m])))
      · exact Or.inr (Or.inr ((ltV_iff _ _).2 (Or.inr ⟨h.symm, Or.inr ⟨k.symm, m⟩⟩)))
    · exact Or.inr (Or.inr ((ltV_iff _ _).2 (Or.inr ⟨h.symm, Or.inl k⟩)))
  · exact Or.inr (Or.inr ((ltV_iff _ _).2 (Or.inl h)))

theorem kind_byte {v : ValV} (h : v.may = true) : ∃ k : Nat, v.kind = k ∧ k ≤ 2 ∧ putL (toU v.kind) 1 = [UInt8.ofNat k] := by
  rcases v.may_kind h with e | e | e
  · exact ⟨0, e, by omega, by rw [e]; decide⟩
  · exact ⟨1, e, by omega, by rw [e]; decide⟩
  · exact ⟨2, e, by omega, by rw [e]; decide⟩

/-- Keys of values stand as the values do, whatever stands behind. -/
theorem keyL_lt {a b : ValV} (ha : a.may = true) (hb : b.may = true) (ia : a.In) (ib : b.In) (h : ltV a b = true) (x y : List UInt8) : bytesLess (a.keyL ++ x) (b.keyL ++ y) = true := by
  obtain ⟨ka, ea, la, pa⟩ := kind_byte ha
  obtain ⟨kb, eb, lb, pb⟩ := kind_byte hb
  unfold ValV.keyL
  rw [pa, pb]
  rw [ltV_iff] at h
  rcases h with h | ⟨h, k⟩
  · simp only [List.cons_append, List.nil_append]
    refine bless_lt ?_ _ _
    rw [UInt8.lt_iff_toNat_lt]
    have h' : ka < kb := by omega
    simp only [UInt8.toNat_ofNat']
    omega
  · have hk : ka = kb := by omega
    subst hk
    simp only [List.cons_append, List.nil_append, bless_same]
    rcases a.may_iff.1 ha with c | c | c
    · exfalso
      rcases b.may_iff.1 hb with d | d | d
      · rcases k with k | ⟨_, k⟩
        · omega
        · have : b.S.data.toList = [] := by
            apply List.eq_nil_of_length_eq_zero
            have := d.2.2; simpa using this
          rw [this] at k
          cases hq : a.S.data.toList <;> simp [hq, bytesLess] at k
      · omega
      · omega
    · have hb1 : b.kind = 1 := by omega
      rw [if_pos c.1, if_pos hb1]
      rcases k with k | ⟨_, k⟩
      · refine bless_be _ _ x y (by simp [putL_length]) ?_
        rw [List.reverse_reverse, List.reverse_reverse, le_putL, le_putL, Nat.mod_eq_of_lt (u64_lt _), Nat.mod_eq_of_lt (u64_lt _)]
        have := ia.n0; have := ia.n1; have := ib.n0; have := ib.n1
        unfold toU
        omega
      · exfalso
        rcases b.may_iff.1 hb with d | d | d
        · omega
        · have : b.S.data.toList = [] := by
            apply List.eq_nil_of_length_eq_zero
            have := d.2; simpa using this
          rw [this] at k
          cases hq : a.S.data.toList <;> simp [hq, bytesLess] at k
        · omega
    · have hb2 : b.kind = 2 := by omega
      rw [if_neg (by omega), if_pos c.1, if_neg (by omega), if_pos hb2]
      rcases k with k | ⟨_, k⟩
      · rcases b.may_iff.1 hb with d | d | d <;> omega
      · rw [List.append_assoc, List.append_assoc]
        exact bless_esc _ _ x y k

theorem cmpV_cases (a b : ValV) : (ltV a b = true ∧ cmpV a b = -1) ∨ (a = b ∧ ltV a b = false ∧ cmpV a b = 0) ∨ (ltV b a = true ∧ ltV a b = false ∧ a ≠ b ∧ cmpV a b = 1) := by
  by_cases h : ltV a b = true
  · exact Or.inl ⟨h, by unfold cmpV; rw [if_pos h]⟩
  · by_cases e : a = b
    · exact Or.inr (Or.inl ⟨e, by simpa using h, by unfold cmpV; rw [if_neg h, if_pos ((eqV_iff _ _).2 e)]⟩)
    · rcases ltV_total a b with k | k | k
      · exact absurd k h
      · exact absurd k e
      · exact Or.inr (Or.inr ⟨k, by simpa using h, e, by unfold cmpV; rw [if_neg h, if_neg (fun q => e ((eqV_iff _ _).1 q))]⟩)

/-- 11.3: keys of two lists of as many values stand in the order of the values. -/
theorem keysL_order : ∀ (A B : List ValV), A.length = B.length → (∀ v ∈ A, v.may = true ∧ v.In) → (∀ v ∈ B, v.may = true ∧ v.In) →
    (bytesLess (keysL A) (keysL B) = decide (cmpL A B < 0)) ∧ ((keysL A = keysL B) ↔ cmpL A B = 0)
  | [], [], _, _, _ => ⟨rfl, by simp [cmpL]⟩
  | [], _ :: _, h, _, _ => by simp at h
  | _ :: _, [], h, _, _ => by simp at h
  | a :: A, b :: B, h, hA, hB => by
    obtain ⟨ma, ia⟩ := hA a (by simp)
    obtain ⟨mb, ib⟩ := hB b (by simp)
    rw [keysL_cons, keysL_cons]
    have hc : cmpL (a :: A) (b :: B) = if cmpV a b = 0 then cmpL A B else cmpV a b := rfl
    rcases cmpV_cases a b with ⟨k, e⟩ | ⟨k, _, e⟩ | ⟨k, _, k2, e⟩
    · have hl := keyL_lt ma mb ia ib k (keysL A) (keysL B)
      have hc1 : cmpL (a :: A) (b :: B) = -1 := by rw [hc, e, if_neg (by omega)]
      rw [hc1, hl]
      exact ⟨rfl, ⟨fun q => absurd q (bless_asymm hl).2, fun q => by omega⟩⟩
    · subst k
      have hc1 : cmpL (a :: A) (a :: B) = cmpL A B := by rw [hc, e, if_pos rfl]
      rw [hc1, bless_prefix]
      have ih := keysL_order A B (by simpa using h) (fun v hv => hA v (by simp [hv])) (fun v hv => hB v (by simp [hv]))
      refine ⟨ih.1, ?_⟩
      rw [List.append_cancel_left_eq]
      exact ih.2
    · have hl := keyL_lt mb ma ib ia k (keysL B) (keysL A)
      have ha := bless_asymm hl
      have hc1 : cmpL (a :: A) (b :: B) = 1 := by rw [hc, e, if_neg (by omega)]
      rw [hc1, ha.1]
      exact ⟨rfl, ⟨fun q => absurd q.symm ha.2, fun q => by omega⟩⟩

/-- A key is not above a beginning of it and a byte 255. -/
theorem keysL_begins (A B : List ValV) (hB : ∀ v ∈ B, v.may = true) :
    bytesLess (keysL (A ++ B)) (keysL A) = false ∧ (bytesLess (keysL (A ++ B)) (keysL A ++ [255]) = true) := by
  rw [keysL_append]
  constructor
  · have := bless_prefix (keysL A) (keysL B) []
    rw [List.append_nil] at this
    rw [this]
    cases keysL B <;> rfl
  · rw [bless_prefix]
    cases B with
    | nil => rfl
    | cons v B =>
      obtain ⟨k, e, l, p⟩ := kind_byte (hB v (by simp))
      rw [keysL_cons]
      unfold ValV.keyL
      rw [p]
      simp only [List.cons_append, List.nil_append]
      refine bless_lt ?_ _ _
      rw [UInt8.lt_iff_toNat_lt]
      simp only [UInt8.toNat_ofNat']
      show k % 2 ^ 8 < 255
      omega

end Go.Proofs.YtgammhmgdafpkaaDoor
