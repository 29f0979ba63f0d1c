/-
  Plain mathematics of values told as texts (chapter 11): digits, and which value a text tells. No Go program is named here.
-/
import Derived.Test.YtgammhmgdafpkaaDoorKeyTake
import Derived.Lib.ItoaLen
import Derived.Lib.ParseIntBTie
namespace Go.Proofs.YtgammhmgdafpkaaDoor
set_option linter.unusedVariables false

/-- One more digit behind a. -/
@[irreducible] def stepD (a : Nat) (c : UInt8) : Nat := a * 10 + (c.toNat - 48)
theorem stepD_eq (a : Nat) (c : UInt8) : stepD a c = a * 10 + (c.toNat - 48) := by unfold stepD; exact Eq.refl _
theorem stepD_dig (a d : Nat) (h : d < 10) : stepD a (UInt8.ofNat (48 + d)) = a * 10 + d := by
  have h1 : (UInt8.ofNat (48 + d)).toNat = 48 + d := by rw [UInt8.toNat_ofNat']; exact Nat.mod_eq_of_lt (by omega)
  have h2 := stepD_eq a (UInt8.ofNat (48 + d))
  omega
theorem stepD_le (a : Nat) (c : UInt8) : a ≤ stepD a c := by have := stepD_eq a c; omega

/-- What digits spell behind a. -/
def dVal (a : Nat) (l : List UInt8) : Nat := l.foldl stepD a
theorem dVal_nil (a : Nat) : dVal a [] = a := rfl
theorem dVal_cons (a : Nat) (c : UInt8) (l : List UInt8) : dVal a (c :: l) = dVal (stepD a c) l := by unfold dVal; rw [List.foldl_cons]
theorem dVal_append (l k : List UInt8) (a : Nat) : dVal a (l ++ k) = dVal (dVal a l) k := List.foldl_append

theorem dVal_le (l : List UInt8) : ∀ a, a ≤ dVal a l := by
  induction l with
  | nil => exact fun a => Nat.le_refl _
  | cons c l ih => intro a; rw [dVal_cons]; exact Nat.le_trans (stepD_le a c) (ih _)

theorem dig_toNat {d : Nat} (h : d < 10) : (UInt8.ofNat (48 + d)).toNat = 48 + d := by
  rw [UInt8.toNat_ofNat']
  exact Nat.mod_eq_of_lt (by omega)

theorem decDigits_val (u : Nat) : dVal 0 (Lib.decDigits u) = u := by
  induction u using Nat.strongRecOn with
  | ind u ih =>
    rw [Lib.decDigits]
    split
    · rename_i h
      have h1 := stepD_dig 0 u h
      have h2 : dVal 0 [UInt8.ofNat (48 + u)] = stepD 0 (UInt8.ofNat (48 + u)) := (dVal_cons _ _ _).trans (dVal_nil _)
      omega
    · rename_i h
      rw [dVal_append, ih (u / 10) (by omega)]
      have h1 := stepD_dig (u / 10) (u % 10) (Nat.mod_lt u (by omega : 0 < 10))
      have h2 : dVal (u / 10) [UInt8.ofNat (48 + u % 10)] = stepD (u / 10) (UInt8.ofNat (48 + u % 10)) := (dVal_cons _ _ _).trans (dVal_nil _)
      omega

theorem decDigits_dig (u : Nat) : ∀ c ∈ Lib.decDigits u, 48 ≤ c.toNat ∧ c.toNat ≤ 57 := by
  induction u using Nat.strongRecOn with
  | ind u ih =>
    rw [Lib.decDigits]
    split
    · rename_i h
      intro c hc
      rw [List.mem_singleton] at hc
      subst hc
      rw [dig_toNat h]; omega
    · rename_i h
      intro c hc
      rcases List.mem_append.1 hc with hc | hc
      · exact ih _ (by omega) c hc
      · rw [List.mem_singleton] at hc
        subst hc
        rw [dig_toNat (Nat.mod_lt u (by omega : 0 < 10))]
        omega

theorem decDigits_ne (u : Nat) : Lib.decDigits u ≠ [] := by
  intro h
  have := Lib.decDigits_length u
  have := Lib.nDigits_pos u
  rw [h] at *
  simp at *
  omega

theorem parseUintM_dig (l : List UInt8) : ∀ a, (∀ c ∈ l, 48 ≤ c.toNat ∧ c.toNat ≤ 57) → dVal a l ≤ 9223372036854775808 → Lib.parseUintM 18446744073709551615 a l = .ok (dVal a l) := by
  induction l with
  | nil => intro a _ _; rfl
  | cons c l ih =>
    intro a hd hv
    have hc := hd c (List.mem_cons_self ..)
    rw [dVal_cons] at hv ⊢
    have := dVal_le l (stepD a c)
    have hst := stepD_eq a c
    rw [Lib.parseUintM, if_pos hc, if_neg (by omega), if_neg (by omega), ← hst]
    exact ih _ (fun c hc => hd c (List.mem_cons_of_mem _ hc)) hv

theorem parseUintB_dec (u : Nat) (h : u ≤ 9223372036854775808) : Lib.parseUintB 64 (Lib.decDigits u) = .ok u := by
  have e : (2 : Nat) ^ 64 - 1 = 18446744073709551615 := by decide
  rw [Lib.parseUintB, if_neg (decDigits_ne u), e, parseUintM_dig _ 0 (decDigits_dig u) (by rw [decDigits_val]; exact h), decDigits_val]

/-- Numbers of 64 bits. -/
def In64 (n : Int) : Prop := -9223372036854775808 ≤ n ∧ n ≤ 9223372036854775807

theorem parse_itoa (n : Int) (h : In64 n) : Lib.parseIntB 64 (Lib.itoa n) = .ok n := by
  have e : (2 : Nat) ^ (64 - 1) = 9223372036854775808 := by decide
  obtain ⟨h0, h1⟩ := h
  by_cases hneg : n < 0
  · obtain ⟨u, rfl⟩ : ∃ u : Nat, n = -(u : Int) := ⟨n.natAbs, by omega⟩
    rw [Lib.itoa_neg u (by omega), Lib.parseIntB_minus, parseUintB_dec u (by omega)]
    simp only [Lib.signedC, e]
    rw [if_neg (by omega)]
  · obtain ⟨u, rfl⟩ : ∃ u : Nat, n = u := ⟨n.toNat, by omega⟩
    rw [Lib.itoa_nonneg]
    cases hd : Lib.decDigits u with
    | nil => exact absurd hd (decDigits_ne u)
    | cons c r =>
      have hc := decDigits_dig u c (by rw [hd]; exact List.mem_cons_self ..)
      rw [Lib.parseIntB_plain _ _ _ (by omega) (by omega), ← hd, parseUintB_dec u (by omega)]
      simp only [Lib.signlessC, e]
      rw [if_neg (by omega)]

theorem nDigits_le19 (u : Nat) (h : u ≤ 9223372036854775808) : Lib.nDigits u ≤ 19 := by
  by_cases hu : u < 10 ^ 18
  · have := Lib.lt_pow_nDigits u
    by_cases h2 : Lib.nDigits u ≤ 19
    · exact h2
    · exfalso
      have h3 : ∀ k v, Lib.nDigits v = k + 1 → 1 ≤ v → 10 ^ k ≤ v := by
        intro k
        induction k with
        | zero => intro v _ hv; simpa using hv
        | succ k ih =>
          intro v hk hv
          by_cases h10 : v < 10
          · rw [Lib.nDigits_small h10] at hk; omega
          · rw [Lib.nDigits_big h10] at hk
            have := ih (v / 10) (by omega) (by omega)
            rw [Nat.pow_succ]; omega
      have h0 : 1 ≤ u := by
        rcases Nat.eq_zero_or_pos u with rfl | h
        · rw [Lib.nDigits_small (by omega)] at h2; omega
        · exact h
      have := h3 (Lib.nDigits u - 1) u (by omega) h0
      have h5 : (10 : Nat) ^ 19 ≤ 10 ^ (Lib.nDigits u - 1) := Nat.pow_le_pow_right (by omega) (by omega)
      have h6 : (10 : Nat) ^ 18 ≤ 10 ^ 19 := Nat.pow_le_pow_right (by omega) (by omega)
      omega
  · rw [Lib.nDigits_unique 18 u (by omega) (by have : (10 : Nat) ^ (18 + 1) = 10000000000000000000 := by decide
                                               omega)]
    omega

theorem itoa_le20 (n : Int) (h : In64 n) : (Lib.itoa n).length ≤ 20 := by
  obtain ⟨h0, h1⟩ := h
  by_cases hneg : n < 0
  · obtain ⟨u, rfl⟩ : ∃ u : Nat, n = -(u : Int) := ⟨n.natAbs, by omega⟩
    rw [Lib.itoa_neg u (by omega), List.length_cons, Lib.decDigits_length]
    have := nDigits_le19 u (by omega)
    omega
  · obtain ⟨u, rfl⟩ : ∃ u : Nat, n = u := ⟨n.toNat, by omega⟩
    rw [Lib.itoa_nonneg, Lib.decDigits_length]
    have := nDigits_le19 u (by omega)
    omega

/-- The number that ParseInt tells. -/
def numP (s : List UInt8) : Int :=
  match Lib.parseIntB 64 s with
  | .ok v => v
  | .syntax => 0
  | .range => Lib.intSat 64 s

theorem numP_itoa (n : Int) (h : In64 n) : numP (Lib.itoa n) = n := by
  unfold numP; rw [parse_itoa n h]

theorem numP_in (s : List UInt8) : In64 (numP s) := by
  have e : (2 : Nat) ^ (64 - 1) = 9223372036854775808 := by decide
  unfold numP
  split
  · rename_i v h
    have := Lib.parseIntB_bounds h
    rw [e] at this
    exact ⟨by omega, by omega⟩
  · exact ⟨by omega, by omega⟩
  · unfold Lib.intSat
    rw [e]
    split <;> constructor <;> omega

/-- A step of the reference's reading. -/
def nextD (neg : Bool) (n : Int) (c : UInt8) : Int :=
  IntKind.wrap .i64 (IntKind.wrap .i64 (n * 10) + (if neg then -((c.toNat : Int) - 48) else (c.toNat : Int) - 48))

/-- The reference's reading of digits: none where it refuses. -/
def refN (neg big : Bool) : Int → List UInt8 → Option Int
  | n, [] => some n
  | n, c :: r => if big = true ∨ c.toNat < 48 ∨ 57 < c.toNat then none else refN neg big (nextD neg n c) r

theorem wrap64_id {n : Int} (h : In64 n) : IntKind.wrap .i64 n = n := by
  obtain ⟨h0, h1⟩ := h
  simp only [IntKind.wrap, IntKind.signed, IntKind.bits]
  simp
  omega

theorem wrap64_in (n : Int) : In64 (IntKind.wrap .i64 n) := by
  simp only [IntKind.wrap, IntKind.signed, IntKind.bits, In64]
  simp
  omega

/-- A number with its sign. -/
def sgN (neg : Bool) (a : Nat) : Int := if neg then -(a : Int) else a

theorem nextD_sg (neg : Bool) (a : Nat) (c : UInt8) (hc : 48 ≤ c.toNat) (h : In64 (sgN neg (stepD a c))) : nextD neg (sgN neg a) c = sgN neg (stepD a c) := by
  have e := stepD_eq a c
  unfold nextD
  rw [e] at h ⊢
  generalize c.toNat = q at *
  obtain ⟨h0, h1⟩ := h
  cases neg
  · simp only [sgN, Bool.false_eq_true, if_false] at h0 h1 ⊢
    rw [wrap64_id (n := (a : Int) * 10) ⟨by omega, by omega⟩, wrap64_id ⟨by omega, by omega⟩]
    omega
  · simp only [sgN, if_true] at h0 h1 ⊢
    rw [wrap64_id (n := -(a : Int) * 10) ⟨by omega, by omega⟩, wrap64_id ⟨by omega, by omega⟩]
    omega

theorem sgN_in_le {neg : Bool} {a b : Nat} (h : a ≤ b) (hb : In64 (sgN neg b)) : In64 (sgN neg a) := by
  obtain ⟨h0, h1⟩ := hb
  cases neg
  · simp only [sgN, Bool.false_eq_true, if_false] at h0 h1 ⊢
    exact ⟨by omega, by omega⟩
  · simp only [sgN, if_true] at h0 h1 ⊢
    exact ⟨by omega, by omega⟩

theorem refN_dig (neg : Bool) (l : List UInt8) : ∀ a, (∀ c ∈ l, 48 ≤ c.toNat ∧ c.toNat ≤ 57) → In64 (sgN neg (dVal a l)) → refN neg false (sgN neg a) l = some (sgN neg (dVal a l)) := by
  induction l with
  | nil => intro a _ _; rw [dVal_nil]; rfl
  | cons c l ih =>
    intro a hd hv
    have hc := hd c (List.mem_cons_self ..)
    rw [dVal_cons] at hv ⊢
    rw [refN, if_neg (fun q => by rcases q with q | q | q <;> first | cases q; done | omega), nextD_sg neg a c hc.1 (sgN_in_le (dVal_le l _) hv)]
    exact ih _ (fun c hc => hd c (List.mem_cons_of_mem _ hc)) hv

theorem refN_in (neg big : Bool) (l : List UInt8) : ∀ n m, In64 n → refN neg big n l = some m → In64 m := by
  induction l with
  | nil => intro n m h e; obtain rfl := Option.some.inj e; exact h
  | cons c l ih =>
    intro n m h e
    rw [refN] at e
    split at e
    · cases e
    · exact ih _ m (wrap64_in _) e

def negS (s : List UInt8) : Bool := decide (s.head? = some 45)
def bodyS (s : List UInt8) : List UInt8 := if negS s then s.tail else s
def bigS (s : List UInt8) : Bool := decide (20 < s.length)

theorem ref_itoa (n : Int) (h : In64 n) : refN (negS (Lib.itoa n)) (bigS (Lib.itoa n)) 0 (bodyS (Lib.itoa n)) = some n := by
  have hb : bigS (Lib.itoa n) = false := by
    have := itoa_le20 n h
    unfold bigS
    exact decide_eq_false (by omega)
  rw [hb]
  by_cases hneg : n < 0
  · obtain ⟨u, rfl⟩ : ∃ u : Nat, n = -(u : Int) := ⟨n.natAbs, by omega⟩
    rw [Lib.itoa_neg u (by omega)]
    have e : negS (45 :: Lib.decDigits u) = true := by unfold negS; exact decide_eq_true rfl
    rw [bodyS, e, if_pos rfl, List.tail_cons]
    have := refN_dig true (Lib.decDigits u) 0 (decDigits_dig u) (by rw [decDigits_val]; exact h)
    rw [decDigits_val] at this
    exact this
  · obtain ⟨u, rfl⟩ : ∃ u : Nat, n = u := ⟨n.toNat, by omega⟩
    rw [Lib.itoa_nonneg]
    have e : negS (Lib.decDigits u) = false := by
      unfold negS
      apply decide_eq_false
      cases hd : Lib.decDigits u with
      | nil => simp
      | cons c r =>
        have hc := decDigits_dig u c (by rw [hd]; exact List.mem_cons_self ..)
        simp only [List.head?_cons, Option.some.injEq]
        intro q
        rw [q] at hc
        exact absurd hc.1 (by decide)
    rw [bodyS, e, if_neg (by decide)]
    have := refN_dig false (Lib.decDigits u) 0 (decDigits_dig u) (by rw [decDigits_val]; exact h)
    rw [decDigits_val] at this
    exact this

/-- The value of a number's text; otherwise ErrValue. -/
def pNum (s : List UInt8) : ValV × Int := if Lib.itoa (numP s) = s then (⟨1, numP s, ByteArray.empty⟩, 0) else (val0, 110)

/-- The same in the reference's way. -/
def pRef (s : List UInt8) (o : Option Int) : ValV × Int :=
  match o with
  | none => (val0, 110)
  | some n => if Lib.itoa n = s then (⟨1, n, ByteArray.empty⟩, 0) else (val0, 110)

theorem pNum_ref (s : List UInt8) : pRef s (refN (negS s) (bigS s) 0 (bodyS s)) = pNum s := by
  by_cases h : ∃ n, In64 n ∧ Lib.itoa n = s
  · obtain ⟨n, hn, rfl⟩ := h
    rw [ref_itoa n hn, pNum, numP_itoa n hn]
    rfl
  · rw [pNum, if_neg (fun e => h ⟨_, numP_in s, e⟩)]
    cases e : refN (negS s) (bigS s) 0 (bodyS s) with
    | none => rfl
    | some m =>
      rw [pRef, if_neg (fun q => h ⟨m, refN_in _ _ _ 0 m ⟨by omega, by omega⟩ e, q⟩)]

/-- The value that a text tells, and the error. -/
def parseV (s : ByteArray) : ValV × Int :=
  if s.data.toList = [45] then (val0, 0)
  else if s.data.toList.head? = some 39 then (if s.size ≤ 21 then (⟨2, 0, ⟨s.data.toList.tail.toArray⟩⟩, 0) else (val0, 110))
  else pNum s.data.toList

/-- A value as a text. -/
def textV (v : ValV) : ByteArray :=
  if v.kind = 1 then ⟨(Lib.itoa v.n).toArray⟩ else if v.kind = 2 then ⟨#[39]⟩ ++ v.S else ⟨#[45]⟩

theorem itoa_head (n : Int) : Lib.itoa n ≠ [45] ∧ (Lib.itoa n).head? ≠ some 39 := by
  by_cases hneg : n < 0
  · obtain ⟨u, rfl⟩ : ∃ u : Nat, n = -(u : Int) := ⟨n.natAbs, by omega⟩
    rw [Lib.itoa_neg u (by omega)]
    constructor
    · intro q
      exact decDigits_ne u (List.cons.inj q).2
    · rw [List.head?_cons]
      intro q
      exact absurd (Option.some.inj q) (by decide)
  · obtain ⟨u, rfl⟩ : ∃ u : Nat, n = u := ⟨n.toNat, by omega⟩
    rw [Lib.itoa_nonneg]
    constructor
    · intro q
      have := decDigits_dig u 45 (by rw [q]; exact List.mem_singleton.2 rfl)
      exact absurd this.1 (by decide)
    · intro q
      have := decDigits_dig u 39 (List.mem_of_head? q)
      exact absurd this.1 (by decide)

theorem parse_text (v : ValV) (hm : v.may = true) (hn : In64 v.n) : parseV (textV v) = (v, 0) := by
  obtain ⟨k, n, S⟩ := v
  rcases (ValV.may_iff _).1 hm with ⟨e0, e1, e2⟩ | ⟨e0, e2⟩ | ⟨e0, e1, e2⟩
  · simp only at e0 e1 e2
    subst e0 e1
    obtain rfl := ksize0 e2
    rw [textV, if_neg (by simp), if_neg (by simp), parseV, if_pos rfl]
    rfl
  · simp only at e0 e2 hn
    subst e0
    obtain rfl := ksize0 e2
    rw [textV, if_pos rfl, parseV]
    simp only
    rw [if_neg (itoa_head n).1, if_neg (itoa_head n).2, pNum, numP_itoa n hn, if_pos rfl]
  · simp only at e0 e1 e2
    subst e0 e1
    rw [textV, if_neg (by simp), if_pos rfl]
    have hd : (⟨#[39]⟩ ++ S : ByteArray).data.toList = 39 :: S.data.toList := by simp
    have hs : (⟨#[39]⟩ ++ S : ByteArray).size = 1 + S.size := by simp [ByteArray.size_append]; rfl
    simp only
    rw [parseV, hd, if_neg (by intro q; exact absurd (List.cons.inj q).1 (by decide)), List.head?_cons, if_pos (Eq.refl _), if_pos (by omega)]
    rfl

end Go.Proofs.YtgammhmgdafpkaaDoor
