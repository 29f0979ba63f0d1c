/-
  What a change does to a page that fits, as plain data; its inverse leads back.
  One bit of a map turned over, by a change.
  The walk of space.turn.
  The walks of space.Give, space.Claim.
-/
import Derived.Test.YtkknglcckjhngaaBase4C
import Derived.Test.YtkknglcckjhngaaBase1C
namespace Go.Proofs.Ytkknglcckjhngaa
open Go.RowKit Go.Sort
set_option linter.unusedVariables false

/-- The error of a change other than OpFormat. -/
def doE (p : SheetV) (o : OpV) : Int :=
  if o.kind = 2 then insE p o else if o.kind = 3 then standE p o else if o.kind = 4 then setE p o else if o.kind = 5 then headE p o else if o.kind = 6 then putE p o else turnE p o

/-- The page behind it. -/
def doQ (p : SheetV) (o : OpV) : SheetV :=
  if o.kind = 2 then { p with slots := insL p.slots o.at'.toNat o.S } else
  if o.kind = 3 then { p with slots := p.slots.eraseIdx o.at'.toNat } else
  if o.kind = 4 then { p with slots := p.slots.set o.at'.toNat o.S } else
  if o.kind = 5 then { p with head := o.S } else
  if o.kind = 6 then { p with slots := p.slots.set 0 (putS (p.slots.getD 0 ByteArray.empty) o.at'.toNat o.S) } else
  { p with kind := ((o.S.data.toList.getD 0 0).toNat : Int), head := o.S.extract 1 o.S.size }

/-- The inverse of a change. -/
def invO (o : OpV) : OpV :=
  if o.kind = 1 then ⟨1, 0, ⟨#[]⟩, ⟨#[]⟩⟩ else
  if o.kind = 2 then ⟨3, o.at', ⟨#[]⟩, o.S⟩ else
  if o.kind = 3 then ⟨2, o.at', o.old, ⟨#[]⟩⟩ else
  if 4 ≤ o.kind ∧ o.kind ≤ 7 then ⟨o.kind, o.at', o.old, o.S⟩ else o

/-- Two pages are the same in all but the LSN. -/
def SameS (p q : SheetV) : Prop := p.num = q.num ∧ p.kind = q.kind ∧ p.head = q.head ∧ p.slots = q.slots

theorem SameS.eq {p q : SheetV} (h : SameS p q) : p = { q with lsn := p.lsn } := by
  obtain ⟨n, l, k, hd, s⟩ := p
  obtain ⟨n', l', k', hd', s'⟩ := q
  obtain ⟨h1, h2, h3, h4⟩ := h
  simp only at h1 h2 h3 h4
  subst h1; subst h2; subst h3; subst h4
  rfl

theorem doE_lsn (p : SheetV) (o : OpV) (n : Nat) : doE { p with lsn := n } o = doE p o := rfl

theorem doQ_lsn (p : SheetV) (o : OpV) (n : Nat) : doQ { p with lsn := n } o = { doQ p o with lsn := n } := by
  unfold doQ
  split
  · rfl
  split
  · rfl
  split
  · rfl
  split
  · rfl
  split
  · rfl
  · rfl

theorem Fits.lsn {p : SheetV} (h : p.Fits) (n : Nat) (hn : n < 18446744073709551616) : ({ p with lsn := n } : SheetV).Fits := ⟨h.num, hn, h.kind0, h.kind1, h.head, h.len, h.fits⟩

theorem chk_parts {o : OpV} (h : chkB o = true) : o.S.size ≤ 512 ∧ o.old.size ≤ 512 ∧ mayP o := by
  unfold chkB at h
  simp only [Bool.and_eq_true, decide_eq_true_eq] at h
  exact ⟨h.1.1, h.1.2, (mayB_iff o).1 h.2⟩

theorem chk_of {o : OpV} (h1 : o.S.size ≤ 512) (h2 : o.old.size ≤ 512) (h3 : mayP o) : chkB o = true := by
  unfold chkB
  simp only [Bool.and_eq_true, decide_eq_true_eq]
  exact ⟨⟨h1, h2⟩, (mayB_iff o).2 h3⟩

theorem empty_size : (ByteArray.mk #[]).size = 0 := rfl

/-- The kinds of a change that may be. -/
theorem may_kinds {o : OpV} (h : mayP o) (h1 : o.kind ≠ 1) : o.kind = 2 ∨ o.kind = 3 ∨ o.kind = 4 ∨ o.kind = 5 ∨ o.kind = 6 ∨ o.kind = 7 := by
  unfold mayP at h
  rw [if_neg h1] at h
  by_cases k2 : o.kind = 2
  · exact .inl k2
  by_cases k3 : o.kind = 3
  · exact .inr (.inl k3)
  by_cases k4 : o.kind = 4
  · exact .inr (.inr (.inl k4))
  by_cases k5 : o.kind = 5
  · exact .inr (.inr (.inr (.inl k5)))
  by_cases k6 : o.kind = 6
  · exact .inr (.inr (.inr (.inr (.inl k6))))
  by_cases k7 : o.kind = 7
  · exact .inr (.inr (.inr (.inr (.inr k7))))
  rw [if_neg k2, if_neg k3, if_neg k4, if_neg k5, if_neg k6, if_neg k7] at h
  exact h.elim

theorem may2 {o : OpV} (h : mayP o) (k : o.kind = 2) : (0 ≤ o.at' ∧ o.at' ≤ 63) ∧ o.old.size = 0 := by simpa [mayP, k] using h
theorem may3 {o : OpV} (h : mayP o) (k : o.kind = 3) : (0 ≤ o.at' ∧ o.at' ≤ 63) ∧ o.S.size = 0 := by simpa [mayP, k] using h
theorem may4 {o : OpV} (h : mayP o) (k : o.kind = 4) : (0 ≤ o.at' ∧ o.at' ≤ 63) := by simpa [mayP, k] using h
theorem may5 {o : OpV} (h : mayP o) (k : o.kind = 5) : o.at' = 0 ∧ o.S.size ≤ 32 ∧ o.old.size ≤ 32 := by simpa [mayP, k] using h
theorem may6 {o : OpV} (h : mayP o) (k : o.kind = 6) : (0 ≤ o.at' ∧ o.at' ≤ 511) ∧ o.S.size = o.old.size ∧ 0 < o.S.size := by simpa [mayP, k] using h
theorem may7 {o : OpV} (h : mayP o) (k : o.kind = 7) : o.at' = 0 ∧ (1 ≤ o.S.size ∧ o.S.size ≤ 33) ∧ (1 ≤ o.old.size ∧ o.old.size ≤ 33) := by simpa [mayP, k] using h

theorem invO2 {o : OpV} (k : o.kind = 2) : invO o = ⟨3, o.at', ⟨#[]⟩, o.S⟩ := by simp [invO, k]
theorem invO3 {o : OpV} (k : o.kind = 3) : invO o = ⟨2, o.at', o.old, ⟨#[]⟩⟩ := by simp [invO, k]
theorem invO4 {o : OpV} (k : 4 ≤ o.kind ∧ o.kind ≤ 7) : invO o = ⟨o.kind, o.at', o.old, o.S⟩ := by
  unfold invO
  rw [if_neg (by omega), if_neg (by omega), if_neg (by omega), if_pos k]

theorem chk_inv {o : OpV} (h : chkB o = true) (h1 : o.kind ≠ 1) : chkB (invO o) = true ∧ (invO o).kind ≠ 1 := by
  obtain ⟨hS, hT, hm⟩ := chk_parts h
  rcases may_kinds hm h1 with k | k | k | k | k | k
  · rw [invO2 k]
    have := may2 hm k
    exact ⟨chk_of (by rw [empty_size]; omega) hS (by simp [mayP]; exact ⟨this.1, rfl⟩), by show ¬ _ = _; simp⟩
  · rw [invO3 k]
    have := may3 hm k
    exact ⟨chk_of hT (by rw [empty_size]; omega) (by simp [mayP]; exact ⟨this.1, rfl⟩), by show ¬ _ = _; simp⟩
  · rw [invO4 (by omega)]
    have := may4 hm k
    exact ⟨chk_of hT hS (by simp [mayP, k]; exact this), by simp only; omega⟩
  · rw [invO4 (by omega)]
    have := may5 hm k
    exact ⟨chk_of hT hS (by simp [mayP, k]; exact ⟨this.1, this.2.2, this.2.1⟩), by simp only; omega⟩
  · rw [invO4 (by omega)]
    have := may6 hm k
    exact ⟨chk_of hT hS (by simp [mayP, k]; omega), by simp only; omega⟩
  · rw [invO4 (by omega)]
    have := may7 hm k
    exact ⟨chk_of hT hS (by simp [mayP, k]; exact ⟨this.1, this.2.2, this.2.1⟩), by simp only; omega⟩

theorem inv_ok {o : OpV} (h : o.Ok) : (invO o).Ok := by
  unfold invO
  split
  · exact ⟨⟨by decide, by decide⟩, ⟨by decide, by decide⟩, by decide, by decide⟩
  split
  · exact ⟨⟨by show (_ : Int) ≤ 3; decide, by show (3 : Int) ≤ _; decide⟩, h.at', by show (ByteArray.mk #[]).size ≤ _; decide, h.S⟩
  split
  · exact ⟨⟨by show (_ : Int) ≤ 2; decide, by show (2 : Int) ≤ _; decide⟩, h.at', h.old, by show (ByteArray.mk #[]).size ≤ _; decide⟩
  split
  · exact ⟨h.kind, h.at', h.old, h.S⟩
  · exact h

theorem does {p : SheetV} {o : OpV} (f : p.Fits) (ho : o.Ok) (hc : chkB o = true) (h1 : o.kind ≠ 1) : ChangeDoes p o (doE p o) (doQ p o) := by
  obtain ⟨hS, hT, hm⟩ := chk_parts hc
  rcases may_kinds hm h1 with k | k | k | k | k | k
  · have := may2 hm k
    have h := change_ins f ho k this.1.1
    simpa [doE, doQ, k] using h
  · have := may3 hm k
    have h := change_rem f ho k this.1.1
    simpa [doE, doQ, k] using h
  · have := may4 hm k
    have h := change_set f ho k this.1
    simpa [doE, doQ, k] using h
  · have h := change_head f ho k
    simpa [doE, doQ, k] using h
  · have := may6 hm k
    have h := change_put f ho k this.1.1 this.1.2
    simpa [doE, doQ, k] using h
  · have := may7 hm k
    have h := change_turn f ho k this.2.1.1
    simpa [doE, doQ, k] using h

theorem insL_erase (L : List ByteArray) (i : Nat) (s : ByteArray) (hi : i ≤ L.length) : (insL L i s).eraseIdx i = L := by
  unfold insL
  have hl : (L.take i).length = i := by simp; omega
  rw [List.eraseIdx_append_of_length_le (by omega), hl, Nat.sub_self]
  simp

theorem insL_getD (L : List ByteArray) (i : Nat) (s : ByteArray) (hi : i ≤ L.length) : (insL L i s).getD i ByteArray.empty = s := by
  unfold insL
  have hl : (L.take i).length = i := by simp; omega
  rw [List.getD_eq_getElem?_getD, List.getElem?_append_right (by omega), hl, Nat.sub_self]
  rfl

theorem erase_ins (L : List ByteArray) (i : Nat) (hi : i < L.length) : insL (L.eraseIdx i) i (L.getD i ByteArray.empty) = L := by
  rw [getD_at hi, List.eraseIdx_eq_take_drop_succ]
  unfold insL
  have hl : (L.take i).length = i := by simp; omega
  rw [List.take_append_of_le_length (by omega), List.take_take, Nat.min_self, List.drop_append_of_le_length (by omega), List.drop_of_length_le (by omega), List.nil_append]
  rw [← List.drop_eq_getElem_cons hi, List.take_append_drop]

theorem slotSum_erase (L : List ByteArray) (i : Nat) (hi : i < L.length) : slotSum (L.eraseIdx i) + (2 + (L.getD i ByteArray.empty).size) = slotSum L := by
  have h := insL_sum (L.eraseIdx i) i (L.getD i ByteArray.empty)
  rw [erase_ins L i hi] at h
  omega

theorem set_as_ins (L : List ByteArray) (i : Nat) (s : ByteArray) (hi : i < L.length) : L.set i s = insL (L.eraseIdx i) i s := by
  rw [List.eraseIdx_eq_take_drop_succ]
  unfold insL
  have hl : (L.take i).length = i := by simp; omega
  rw [List.take_append_of_le_length (by omega), List.take_take, Nat.min_self, List.drop_append_of_le_length (by omega), List.drop_of_length_le (by omega), List.nil_append]
  rw [List.set_eq_take_append_cons_drop, if_pos hi]

theorem slotSum_set (L : List ByteArray) (i : Nat) (s : ByteArray) (hi : i < L.length) : slotSum (L.set i s) + (L.getD i ByteArray.empty).size = slotSum L + s.size := by
  have h := insL_sum (L.eraseIdx i) i s
  rw [← set_as_ins L i s hi] at h
  have h2 := slotSum_erase L i hi
  omega

theorem set_getD (L : List ByteArray) (i : Nat) (s : ByteArray) (hi : i < L.length) : (L.set i s).getD i ByteArray.empty = s := by
  rw [getD_at (by simpa using hi)]; simp

theorem set_back (L : List ByteArray) (i : Nat) (s : ByteArray) (hi : i < L.length) : (L.set i s).set i (L.getD i ByteArray.empty) = L := by
  rw [List.set_set, getD_at hi, List.set_getElem_self]

theorem putS_parts {s S : ByteArray} {i : Nat} (h : i + S.size ≤ s.size) : ∃ A M Z : List UInt8, A.length = i ∧ M.length = S.size ∧ s.data.toList = A ++ (M ++ Z) ∧ s.extract i (i + S.size) = ⟨M.toArray⟩ ∧ putS s i S = ⟨(A ++ (S.data.toList ++ Z)).toArray⟩ := by
  have hs : s.data.toList.length = s.size := by simp
  refine ⟨s.data.toList.take i, (s.data.toList.drop i).take S.size, s.data.toList.drop (i + S.size), by rw [List.length_take, hs]; omega, by rw [List.length_take, List.length_drop, hs]; omega, ?_, ?_, ?_⟩
  · rw [← List.drop_drop, List.take_append_drop, List.take_append_drop]
  · apply ByteArray.ext
    simp [ByteArray.data_extract]
    apply Array.ext'
    simp [List.extract_eq_take_drop]
  · unfold putS
    apply ByteArray.ext
    apply Array.ext'
    simp [ByteArray.data_append, ByteArray.data_extract, List.extract_eq_take_drop]
    exact List.take_of_length_le (by rw [List.length_drop, hs]; exact Nat.le_refl _)

theorem bytes_of_list (s : ByteArray) : s = ⟨s.data.toList.toArray⟩ := by cases s; simp

theorem put_back {s S T : ByteArray} {i : Nat} (h : i + S.size ≤ s.size) (hl : S.size = T.size) (ht : s.extract i (i + S.size) = T) :
    (putS s i S).size = s.size ∧ (putS s i S).extract i (i + T.size) = S ∧ putS (putS s i S) i T = s := by
  obtain ⟨A, M, Z, hA, hM, hd, he, hp⟩ := putS_parts h
  have hSl : S.data.toList.length = S.size := by simp
  have hsz : (putS s i S).size = s.size := by
    rw [hp, bytes_size]
    have : s.data.toList.length = s.size := by simp
    rw [← this, hd]
    simp only [List.length_append]
    omega
  obtain ⟨A', M', Z', hA', hM', hd', he', hp'⟩ := putS_parts (s := putS s i S) (S := T) (i := i) (by omega)
  rw [hp] at hd'
  have hd2 : A ++ (S.data.toList ++ Z) = A' ++ (M' ++ Z') := by simpa using hd'
  obtain ⟨rfl, h2⟩ := List.append_inj hd2 (by omega)
  obtain ⟨h3, rfl⟩ := List.append_inj h2 (by omega)
  refine ⟨hsz, ?_, ?_⟩
  · rw [he', ← h3]
  · rw [hp', ← ht, he]
    show ByteArray.mk (A ++ (M.toArray.toList ++ Z)).toArray = s
    rw [List.toList_toArray, ← hd]

theorem turn_there (S : ByteArray) (h : 1 ≤ S.size) : kindS ((S.data.toList.getD 0 0).toNat : Int) (S.extract 1 S.size) = S := by
  obtain ⟨⟨L⟩⟩ := S
  cases L with
  | nil => exact absurd h (by simp [ByteArray.size])
  | cons x L =>
    unfold kindS
    apply ByteArray.ext
    apply Array.ext'
    have hx : x.toNat < 256 := x.toNat_lt
    have e : (((x.toNat : Int) % 256)).toNat = x.toNat := by omega
    simp [ByteArray.data_append, ByteArray.data_extract, List.extract_eq_take_drop, e, ByteArray.size]

theorem turn_back (k : Int) (h : ByteArray) (h0 : 0 ≤ k) (h1 : k ≤ 255) : (((kindS k h).data.toList.getD 0 0).toNat : Int) = k ∧ (kindS k h).extract 1 (kindS k h).size = h := by
  have e : (k % 256).toNat = k.toNat := by omega
  have e2 : (UInt8.ofNat k.toNat).toNat = k.toNat := by rw [UInt8.toNat_ofNat']; omega
  constructor
  · unfold kindS
    simp only [ByteArray.data_append, Array.toList_append, e]
    show ((UInt8.ofNat k.toNat).toNat : Int) = k
    rw [e2]; omega
  · unfold kindS
    apply ByteArray.ext
    apply Array.ext'
    simp [ByteArray.data_append, ByteArray.data_extract, List.extract_eq_take_drop, ByteArray.size_append]
    exact List.take_of_length_le (by rw [show h.data.toList.length = h.size from by simp]; show _ ≤ 1 + h.size - 1; omega)

theorem SameS.refl (p : SheetV) : SameS p p := ⟨rfl, rfl, rfl, rfl⟩

/-- A change that is done leaves a page that fits, and its inverse leads back. -/
theorem do_back {p : SheetV} {o : OpV} (f : p.Fits) (hc : chkB o = true) (h1 : o.kind ≠ 1) (he : doE p o = 0) :
    (doQ p o).Fits ∧ doE (doQ p o) (invO o) = 0 ∧ doQ (doQ p o) (invO o) = p := by
  obtain ⟨hS, hT, hm⟩ := chk_parts hc
  have f1 := f.len
  have f2 := f.fits
  rcases may_kinds hm h1 with k | k | k | k | k | k
  · have m := may2 hm k
    have hE : insE p o = 0 := by simpa [doE, k] using he
    obtain ⟨z1, z2, z3⟩ := insE_zero hE
    have hi : o.at'.toNat ≤ p.slots.length := by omega
    have hq : doQ p o = { p with slots := insL p.slots o.at'.toNat o.S } := by simp [doQ, k]
    have hl := insL_length p.slots o.at'.toNat o.S hi
    have hs := insL_sum p.slots o.at'.toNat o.S
    rw [hq, invO2 k]
    refine ⟨⟨f.num, f.lsn, f.kind0, f.kind1, f.head, by show (insL _ _ _).length ≤ 64; omega, by show p.head.size + slotSum (insL _ _ _) ≤ 485; omega⟩, ?_, ?_⟩
    · show standE _ _ = 0
      unfold standE
      simp only [hl]
      rw [if_neg (by omega), if_neg (by rw [insL_getD _ _ _ hi]; simp)]
    · show ({ p with slots := (insL p.slots o.at'.toNat o.S).eraseIdx o.at'.toNat } : SheetV) = p
      rw [insL_erase _ _ _ hi]
  · have m := may3 hm k
    have hE : standE p o = 0 := by simpa [doE, k] using he
    obtain ⟨z1, z2⟩ := standE_zero hE
    have hi : o.at'.toNat < p.slots.length := by omega
    have hq : doQ p o = { p with slots := p.slots.eraseIdx o.at'.toNat } := by simp [doQ, k]
    have hl := List.length_eraseIdx_of_lt hi
    have hs := slotSum_erase p.slots o.at'.toNat hi
    rw [z2] at hs
    rw [hq, invO3 k]
    refine ⟨⟨f.num, f.lsn, f.kind0, f.kind1, f.head, by show (p.slots.eraseIdx _).length ≤ 64; omega, by show p.head.size + slotSum (p.slots.eraseIdx _) ≤ 485; omega⟩, ?_, ?_⟩
    · show insE _ _ = 0
      unfold insE
      simp only [hl]
      rw [if_neg (by omega), if_neg (by omega), if_neg (by omega)]
    · show ({ p with slots := insL (p.slots.eraseIdx o.at'.toNat) o.at'.toNat o.old } : SheetV) = p
      rw [← z2, erase_ins _ _ hi]
  · have m := may4 hm k
    have hE : setE p o = 0 := by simpa [doE, k] using he
    unfold setE at hE
    split at hE
    · rename_i hx; exact absurd hE hx
    rename_i hx
    split at hE
    · cases hE
    rename_i hy
    obtain ⟨z1, z2⟩ := standE_zero (Decidable.not_not.1 hx)
    have hi : o.at'.toNat < p.slots.length := by omega
    have hq : doQ p o = { p with slots := p.slots.set o.at'.toNat o.S } := by simp [doQ, k]
    have hs := slotSum_set p.slots o.at'.toNat o.S hi
    rw [z2] at hs
    rw [hq, invO4 (by omega)]
    refine ⟨⟨f.num, f.lsn, f.kind0, f.kind1, f.head, by show (p.slots.set _ _).length ≤ 64; simpa using f1, by show p.head.size + slotSum (p.slots.set _ _) ≤ 485; omega⟩, ?_, ?_⟩
    · have : standE { p with slots := p.slots.set o.at'.toNat o.S } ⟨o.kind, o.at', o.old, o.S⟩ = 0 := by
        unfold standE
        simp only [List.length_set]
        rw [if_neg (by omega), if_neg (by rw [set_getD _ _ _ hi]; simp)]
      simp only [doE, k]
      rw [if_neg (by decide), if_neg (by decide), if_pos trivial]
      rw [k] at this
      unfold setE
      rw [this, if_neg (by simp), if_neg]
      simp only
      omega
    · simp only [doQ, k]
      rw [if_neg (by decide), if_neg (by decide), if_pos trivial, ← z2, set_back _ _ _ hi]
  · have m := may5 hm k
    have hE : headE p o = 0 := by simpa [doE, k] using he
    unfold headE at hE
    split at hE
    · cases hE
    rename_i hx
    split at hE
    · cases hE
    rename_i hy
    have hx' : p.head = o.old := Decidable.not_not.1 hx
    have hq : doQ p o = { p with head := o.S } := by simp [doQ, k]
    rw [hq, invO4 (by omega)]
    refine ⟨⟨f.num, f.lsn, f.kind0, f.kind1, m.2.1, f.len, by show o.S.size + slotSum p.slots ≤ 485; omega⟩, ?_, ?_⟩
    · simp only [doE, k]
      rw [if_neg (by decide), if_neg (by decide), if_neg (by decide), if_pos trivial]
      unfold headE
      rw [if_neg (by simp), if_neg]
      simp only
      rw [← hx']
      omega
    · simp only [doQ, k]
      rw [if_neg (by decide), if_neg (by decide), if_neg (by decide), if_pos trivial, ← hx']
  · have m := may6 hm k
    have hE : putE p o = 0 := by simpa [doE, k] using he
    unfold putE at hE
    split at hE
    · cases hE
    rename_i hx
    split at hE
    · cases hE
    rename_i hy
    have hx1 : 0 < p.slots.length := by omega
    have hx2 : o.at'.toNat + o.S.size ≤ (p.slots.getD 0 ByteArray.empty).size := by omega
    have hy' := Decidable.not_not.1 hy
    obtain ⟨b1, b2, b3⟩ := put_back hx2 m.2.1 hy'
    have hq : doQ p o = { p with slots := p.slots.set 0 (putS (p.slots.getD 0 ByteArray.empty) o.at'.toNat o.S) } := by simp [doQ, k]
    have hs := slotSum_set p.slots 0 (putS (p.slots.getD 0 ByteArray.empty) o.at'.toNat o.S) hx1
    rw [hq, invO4 (by omega)]
    refine ⟨⟨f.num, f.lsn, f.kind0, f.kind1, f.head, by show (p.slots.set _ _).length ≤ 64; simpa using f1, by show p.head.size + slotSum (p.slots.set _ _) ≤ 485; omega⟩, ?_, ?_⟩
    · simp only [doE, k]
      rw [if_neg (by decide), if_neg (by decide), if_neg (by decide), if_neg (by decide), if_pos trivial]
      unfold putE
      simp only
      rw [set_getD _ _ _ hx1, List.length_set, if_neg (by omega), if_neg (by rw [b2]; simp)]
    · simp only [doQ, k]
      rw [if_neg (by decide), if_neg (by decide), if_neg (by decide), if_neg (by decide), if_pos trivial]
      rw [set_getD _ _ _ hx1, b3, set_back _ _ _ hx1]
  · have m := may7 hm k
    have hE : turnE p o = 0 := by simpa [doE, k] using he
    unfold turnE at hE
    split at hE
    · cases hE
    rename_i hx
    split at hE
    · cases hE
    rename_i hy
    have hx0 : p.slots = [] := by cases hp : p.slots with
      | nil => rfl
      | cons a b => rw [hp] at hx; simp at hx
    have hy' : kindS p.kind p.head = o.old := Decidable.not_not.1 hy
    have hq : doQ p o = { p with kind := ((o.S.data.toList.getD 0 0).toNat : Int), head := o.S.extract 1 o.S.size } := by simp [doQ, k]
    have hxs : (o.S.extract 1 o.S.size).size = o.S.size - 1 := by simp [ByteArray.size_extract]
    have hx2 : (o.S.data.toList.getD 0 0).toNat < 256 := (o.S.data.toList.getD 0 0).toNat_lt
    obtain ⟨t1, t2⟩ := turn_back p.kind p.head f.kind0 f.kind1
    rw [hq, invO4 (by omega)]
    refine ⟨⟨f.num, f.lsn, by show (0 : Int) ≤ ((o.S.data.toList.getD 0 0).toNat : Int); omega, by show ((o.S.data.toList.getD 0 0).toNat : Int) ≤ 255; omega, by show (o.S.extract 1 o.S.size).size ≤ 32; omega, f.len, by show (o.S.extract 1 o.S.size).size + slotSum p.slots ≤ 485; rw [hx0]; simp only [slotSum]; omega⟩, ?_, ?_⟩
    · simp only [doE, k]
      rw [if_neg (by decide), if_neg (by decide), if_neg (by decide), if_neg (by decide), if_neg (by decide)]
      unfold turnE
      simp only
      rw [if_neg hx, if_neg (by rw [turn_there _ m.2.1.1]; simp)]
    · simp only [doQ, k]
      rw [if_neg (by decide), if_neg (by decide), if_neg (by decide), if_neg (by decide), if_neg (by decide), ← hy', t1, t2]

end Go.Proofs.Ytkknglcckjhngaa

namespace Go.Proofs.Ytkknglcckjhngaa
open Go.RowKit Go.Sort
set_option linter.unusedVariables false

theorem putS_list {s : ByteArray} {i : Nat} (x : Nat) (h : i < s.size) : (putS s i (one x)).data.toList = s.data.toList.set i (UInt8.ofNat x) := by
  obtain ⟨A, M, Z, hA, hM, hs, _, hp⟩ := putS_parts (s := s) (S := one x) (i := i) (by rw [one_size]; omega)
  rw [hp]
  simp only [one_size] at hM
  obtain ⟨m, rfl⟩ : ∃ m, M = [m] := by
    match M, hM with
    | [m], _ => exact ⟨m, rfl⟩
  rw [hs]
  subst hA
  simp [one]

theorem putS_size {s : ByteArray} {i : Nat} (x : Nat) (h : i < s.size) : (putS s i (one x)).size = s.size := by
  have := congrArg List.length (putS_list x h)
  simpa using this

theorem putS_byt {s : ByteArray} {i : Nat} (x : Nat) (h : i < s.size) (hx : x < 256) (j : Nat) : bytN (putS s i (one x)) j = if j = i then x else bytN s j := by
  unfold bytN
  rw [putS_list x h, List.getD_eq_getElem?_getD, List.getElem?_set, List.getD_eq_getElem?_getD]
  by_cases e : j = i
  · subst e
    have h' : j < s.data.toList.length := by simpa using h
    rw [if_pos rfl, if_pos h', if_pos rfl]
    simp only [Option.getD_some]
    exact UInt8.toNat_ofNat_of_lt' (by simpa using hx)
  · rw [if_neg (fun q => e q.symm), if_neg e]

/-- A map whose bit of a page is turned over. -/
def flipS (s : ByteArray) (n : Nat) : ByteArray := putS s (atN n) (one (bytN s (atN n) ^^^ pwN n))

theorem xor_lt (s : ByteArray) (n : Nat) : bytN s (atN n) ^^^ pwN n < 256 := Nat.xor_lt_two_pow (n := 8) (bytN_lt _ _) (pwN_lt _)

theorem flip_size {s : ByteArray} {n : Nat} (h : s.size = 256) (hn : n ≤ 2048) : (flipS s n).size = 256 := by
  unfold flipS; rw [putS_size _ (by rw [h]; exact atN_lt hn), h]

theorem flip_bit {s : ByteArray} {n : Nat} (h : s.size = 256) (h1 : 1 ≤ n) (hn : n ≤ 2048) (m : Nat) (m1 : 1 ≤ m) : bitS (flipS s n) m = if m = n then !bitS s n else bitS s m := by
  unfold bitS flipS
  rw [putS_byt _ (by rw [h]; exact atN_lt hn) (xor_lt s n)]
  by_cases e : m = n
  · subst e
    rw [if_pos rfl, if_pos rfl, Nat.testBit_xor]
    unfold pwN
    rw [Nat.testBit_two_pow_self]
    simp
  · rw [if_neg e]
    by_cases e2 : atN m = atN n
    · rw [if_pos e2, Nat.testBit_xor]
      unfold pwN
      rw [Nat.testBit_two_pow_of_ne (by intro q; apply e; unfold atN at e2; omega), Bool.xor_false, e2]
    · rw [if_neg e2]

theorem flip_tk {s : ByteArray} {n : Nat} (h : s.size = 256) (h1 : 1 ≤ n) (hn : n ≤ 2048) (m : Nat) : tkB (flipS s n) m = if m = n then !tkB s n else tkB s m := by
  unfold tkB
  by_cases hm : 1 ≤ m ∧ m ≤ 2048
  · rw [flip_bit h h1 hn m hm.1]
    by_cases e : m = n
    · subst e; simp [hm.1, hm.2]
    · simp [e]
  · have e : m ≠ n := by omega
    simp [hm, e]

/-- The change that turns a page's bit over. -/
def turnO (s : ByteArray) (n : Nat) : OpV := ⟨6, (atN n : Nat), one (bytN s (atN n) ^^^ pwN n), one (bytN s (atN n))⟩

theorem turnO_ok (s : ByteArray) (n : Nat) (hn : n ≤ 2048) : (turnO s n).Ok := by
  have := atN_lt hn
  exact ⟨by show (-9223372036854775808 : Int) ≤ 6 ∧ (6 : Int) ≤ _; omega, by show (-9223372036854775808 : Int) ≤ ((atN n : Nat) : Int) ∧ ((atN n : Nat) : Int) ≤ _; omega, by show (1 : Nat) ≤ _; omega, by show (1 : Nat) ≤ _; omega⟩

theorem turnO_chk (s : ByteArray) (n : Nat) (hn : n ≤ 2048) : chkB (turnO s n) = true := by
  have := atN_lt hn
  refine chk_of (by show (1 : Nat) ≤ _; omega) (by show (1 : Nat) ≤ _; omega) ?_
  unfold mayP
  rw [show (turnO s n).kind = 6 from rfl, if_neg (by decide), if_neg (by decide), if_neg (by decide), if_neg (by decide), if_neg (by decide), if_pos rfl]
  refine ⟨⟨?_, ?_⟩, rfl, ?_⟩
  · show (0 : Int) ≤ ((atN n : Nat) : Int); omega
  · show ((atN n : Nat) : Int) ≤ 511; omega
  · show 0 < (one _).size; rw [one_size]; decide

theorem turnO_kind (s : ByteArray) (n : Nat) : (turnO s n).kind ≠ 1 := by show (6 : Int) ≠ 1; decide

theorem byte_cut {s : ByteArray} {i : Nat} (h : i < s.size) : s.extract i (i + 1) = one (bytN s i) := by
  rw [bytN_at h]
  apply ByteArray.ext
  apply Array.ext'
  rw [ByteArray.data_extract, Array.toList_extract, List.extract_eq_take_drop, List.drop_eq_getElem_cons (by simpa using h)]
  simp [one, ByteArray.getElem_eq_getElem_data]

theorem turnO_do {p : SheetV} {s : ByteArray} {n : Nat} (hp : p.slots = [s]) (hs : s.size = 256) (hn : n ≤ 2048) : doE p (turnO s n) = 0 ∧ doQ p (turnO s n) = { p with slots := [flipS s n] } := by
  have ha := atN_lt hn
  constructor
  · simp only [doE, turnO, show ((6 : Int) = 2) = False from by simp, show ((6 : Int) = 3) = False from by simp, show ((6 : Int) = 4) = False from by simp, show ((6 : Int) = 5) = False from by simp, if_false, if_true, putE, hp]
    simp only [List.length_cons, List.length_nil, List.getD_cons_zero, Int.toNat_natCast, one_size]
    rw [if_neg (by omega), if_neg (by rw [byte_cut (by omega)]; simp)]
  · simp only [doQ, turnO, show ((6 : Int) = 2) = False from by simp, show ((6 : Int) = 3) = False from by simp, show ((6 : Int) = 4) = False from by simp, show ((6 : Int) = 5) = False from by simp, if_false, if_true, hp]
    simp [flipS]

end Go.Proofs.Ytkknglcckjhngaa

namespace Go.Proofs.Ytkknglcckjhngaa
open Go.RowKit
set_option linter.unusedVariables false

/-- A change as a value. -/
def turnV (s : ByteArray) (n : Nat) : Value := .agg #[.int .i64 6, .int .i64 (atN n : Nat), .string (one (bytN s (atN n) ^^^ pwN n)), .string (one (bytN s (atN n)))]

section
variable {p : SheetV} {a : Option Addr} {c : Nat} {w : World}

theorem one_run (wx : World) (b : Nat) (x : Nat) (hx : x < 256) (hc : wx.cell? ⟨b, 0, none⟩ = some (.int .u8 (x : Int))) :
    (convert 61 9 (.slice (some ⟨b, 0, none⟩) 1 1)).run Try.prog wx = .ok (.string (one x)) wx := by
  have e : (UInt8.ofNat x).toNat = x := UInt8.toNat_ofNat_of_lt' (by simpa using hx)
  refine run_convert_bytes_back wx 61 9 5 ⟨b, 0, none⟩ 1 [UInt8.ofNat x] Try.underlying61 Try.underlying5 Try.underlying9 (fun j hj => ?_)
  obtain rfl : j = 0 := by simpa using hj
  rw [show (Addr.add ⟨b, 0, none⟩ 0) = ⟨b, 0, none⟩ from by simp [Addr.add], hc]
  simp [e]

set_option maxHeartbeats 800000 in
theorem turn_any' (h : p.Lies w a) (hm : isB p = true) (n : Nat) (h1 : 1 ≤ n) (h2 : n ≤ 2048) :
    Calls Try.prog 22 #[p.val a c, .int .u32 n] w fun e w' => e = .returned (turnV (slot0 p) n) ∧ Below w.heap.size w w' := by
  obtain ⟨k1, k2, k3⟩ := isB_true hm
  have K2 : Hid (p.slots.length = 1) := k2
  have k2' : 0 < p.slots.length := by omega
  clear k1 k2
  have HPL : Hid (∀ wx, Calls Try.prog 21 #[.int .u32 n] wx fun e w' => e = .returned (.tuple #[.int .i64 (atN n : Nat), .int .u8 (pwN n : Nat)]) ∧ ∃ k, w' = wx.drewN k) := fun wx => place_any n wx h1 (by omega)
  have ha := atN_lt h2
  have hp := pwN_lt n
  have hx := Nat.xor_lt_two_pow (n := 8) (bytN_lt (slot0 p) (atN n)) hp
  unfold turnV
  obtain ⟨s, HS⟩ : ∃ s, Hid (slot0 p = s) := ⟨_, rfl⟩
  obtain ⟨A, HA⟩ : ∃ A, Hid (atN n = A) := ⟨_, rfl⟩
  obtain ⟨Q, HQ⟩ : ∃ Q, Hid (pwN n = Q) := ⟨_, rfl⟩
  rw [HS.out] at k3 hx ⊢
  rw [HA.out] at HPL ha hx ⊢
  rw [HQ.out] at HPL hp hx ⊢
  have hAs : A < s.size := by omega
  rw [bytN_at hAs] at hx ⊢
  clear k3 ha
  have hxor : bits .xor .u8 ((s[A].toNat : Nat) : Int) (Q : Int) = ((s[A].toNat ^^^ Q : Nat) : Int) := u8_xor_nat _ _ (UInt8.toNat_lt _) hp
  obtain ⟨W, HW⟩ : ∃ W, Hid (W = (boxP p a c w).alloc (.cells #[.int .i64 0, .int .i64 0, .string ⟨#[]⟩, .string ⟨#[]⟩] 41)) := ⟨_, rfl⟩
  have hin : PageIn p a c w W := by rw [HW.out]; exact (PageIn.start p a c w).below ((Below.refl _ _).alloc (Nat.le_refl _) _)
  unfold boxP at HW
  unfold SheetV.val
  go_enter Try.func22, Try.ntmps22
  go_wp2_with fail
  rw [← HW.out]
  refine (HPL.out _).mono ?_
  rintro e w3 ⟨rfl, nk, rfl⟩
  have h3 : PageIn p a c w (W.drewN nk) := hin.below (below_drewN (Below.refl _ _) nk)
  obtain ⟨b, o, rfl, hb', hc, hz⟩ := (h.below h3.bel).first K2.out
  rw [HS.out] at hc hz
  have x4 := h3.c4
  have B3 := h3.bel
  have hsz : w.heap.size + 2 = W.heap.size := by rw [HW.out]; simp
  have y0 : (W.drewN nk).cell? ⟨w.heap.size + 1, 0, none⟩ = some (.int .i64 0) := by show W.cell? _ = _; rw [HW.out]; simp
  have y1 : (W.drewN nk).cell? ⟨w.heap.size + 1, 1, none⟩ = some (.int .i64 0) := by show W.cell? _ = _; rw [HW.out]; simp
  have y2 : (W.drewN nk).cell? ⟨w.heap.size + 1, 2, none⟩ = some (.string ⟨#[]⟩) := by show W.cell? _ = _; rw [HW.out]; simp
  have y3 : (W.drewN nk).cell? ⟨w.heap.size + 1, 3, none⟩ = some (.string ⟨#[]⟩) := by show W.cell? _ = _; rw [HW.out]; simp
  have g0 : (W.drewN nk).frozen? ⟨w.heap.size + 1, 0, none⟩ = false := by show W.frozen? _ = _; rw [HW.out]; simp
  have g1 : (W.drewN nk).frozen? ⟨w.heap.size + 1, 1, none⟩ = false := by show W.frozen? _ = _; rw [HW.out]; simp
  have g2 : (W.drewN nk).frozen? ⟨w.heap.size + 1, 2, none⟩ = false := by show W.frozen? _ = _; rw [HW.out]; simp
  have g3 : (W.drewN nk).frozen? ⟨w.heap.size + 1, 3, none⟩ = false := by show W.frozen? _ = _; rw [HW.out]; simp
  have hsz3 : w.heap.size + 1 < (W.drewN nk).heap.size := by show _ < W.heap.size; omega
  obtain ⟨V, HV⟩ : ∃ V, Hid (V = W.drewN nk) := ⟨_, rfl⟩
  rw [← HV.out] at h3 hb' hc x4 B3 y0 y1 y2 y3 g0 g1 g2 g3 hsz3 ⊢
  clear HV HW hin h hsz
  have hcv1 := one_run (V.alloc (.cells #[.int .u8 ((s[A].toNat ^^^ Q : Nat) : Int)] 5)) V.heap.size (s[A].toNat ^^^ Q) hx (by simp)
  have hcv2 := one_run ((V.alloc (.cells #[.int .u8 ((s[A].toNat ^^^ Q : Nat) : Int)] 5)).alloc (.cells #[.int .u8 ((s[A].toNat : Nat) : Int)] 5)) (V.heap.size + 1) s[A].toNat (UInt8.toNat_lt _) (by simp)
  have bb : Below V.heap.size V ((V.alloc (.cells #[.int .u8 ((s[A].toNat ^^^ Q : Nat) : Int)] 5)).alloc (.cells #[.int .u8 ((s[A].toNat : Nat) : Int)] 5)) := ((Below.refl _ _).alloc (Nat.le_refl _) _).alloc (by simp) _
  have z0 := (bb.cell (p := ⟨w.heap.size + 1, 0, none⟩) hsz3).trans y0
  have z1 := (bb.cell (p := ⟨w.heap.size + 1, 1, none⟩) hsz3).trans y1
  have z2 := (bb.cell (p := ⟨w.heap.size + 1, 2, none⟩) hsz3).trans y2
  have z3 := (bb.cell (p := ⟨w.heap.size + 1, 3, none⟩) hsz3).trans y3
  have e0 := (bb.frozen (p := ⟨w.heap.size + 1, 0, none⟩) hsz3).trans g0
  have e1 := (bb.frozen (p := ⟨w.heap.size + 1, 1, none⟩) hsz3).trans g1
  have e2 := (bb.frozen (p := ⟨w.heap.size + 1, 2, none⟩) hsz3).trans g2
  have e3 := (bb.frozen (p := ⟨w.heap.size + 1, 3, none⟩) hsz3).trans g3
  clear y0 y1 y2 y3 g0 g1 g2 g3
  go_wp2
  refine bodyPost_ret (v := .agg #[.int .i64 6, .int .i64 A, .string (one (s[A].toNat ^^^ Q)), .string (one s[A].toNat)]) (by simp [results, Try.results22, go_sem, z0, z1, z2, z3]) rfl ⟨rfl, ?_⟩
  have q := ((B3.alloc (by omega) (.cells #[.int .u8 ((s[A].toNat ^^^ Q : Nat) : Int)] 5)).alloc (by simp; omega) (.cells #[.int .u8 ((s[A].toNat : Nat) : Int)] 5))
  exact (((q.setCell (by simp) _).setCell (by simp) _).setCell (by simp) _).setCell (by simp) _

end
end Go.Proofs.Ytkknglcckjhngaa

namespace Go.Proofs.Ytkknglcckjhngaa
open Go.RowKit
set_option linter.unusedVariables false

/-- No change. -/
def opZ : Value := .agg #[.int .i64 0, .int .i64 0, .string ⟨#[]⟩, .string ⟨#[]⟩]

/-- A change that is nothing lies at block B. -/
structure OpIn (B : Nat) (wx : World) : Prop where
  lt : B < wx.heap.size
  c0 : wx.cell? ⟨B, 0, none⟩ = some (.int .i64 0)
  c1 : wx.cell? ⟨B, 1, none⟩ = some (.int .i64 0)
  c2 : wx.cell? ⟨B, 2, none⟩ = some (.string ⟨#[]⟩)
  c3 : wx.cell? ⟨B, 3, none⟩ = some (.string ⟨#[]⟩)
  f0 : wx.frozen? ⟨B, 0, none⟩ = false
  f1 : wx.frozen? ⟨B, 1, none⟩ = false
  f2 : wx.frozen? ⟨B, 2, none⟩ = false
  f3 : wx.frozen? ⟨B, 3, none⟩ = false

theorem OpIn.below {B : Nat} {wx wy : World} (h : OpIn B wx) (k : Below wx.heap.size wx wy) : OpIn B wy :=
  have e := fun i => k.cell (p := ⟨B, i, none⟩) h.lt
  have f := fun i => k.frozen (p := ⟨B, i, none⟩) h.lt
  ⟨Nat.lt_of_lt_of_le h.lt k.size, (e 0).trans h.c0, (e 1).trans h.c1, (e 2).trans h.c2, (e 3).trans h.c3, (f 0).trans h.f0, (f 1).trans h.f1, (f 2).trans h.f2, (f 3).trans h.f3⟩

/-- The boxes of a page and of a change that is told. -/
def boxPO (p : SheetV) (a : Option Addr) (c : Nat) (w : World) : World := (boxP p a c w).alloc (.cells #[.int .i64 0, .int .i64 0, .string ⟨#[]⟩, .string ⟨#[]⟩] 41)

theorem boxPO_in (p : SheetV) (a : Option Addr) (c : Nat) (w : World) : PageIn p a c w (boxPO p a c w) := (PageIn.start p a c w).below ((Below.refl _ _).alloc (Nat.le_refl _) _)

theorem boxPO_op (p : SheetV) (a : Option Addr) (c : Nat) (w : World) : OpIn (w.heap.size + 1) (boxPO p a c w) :=
  ⟨by simp [boxPO, boxP], by simp [boxPO, boxP], by simp [boxPO, boxP], by simp [boxPO, boxP], by simp [boxPO, boxP], by simp [boxPO, boxP], by simp [boxPO, boxP], by simp [boxPO, boxP], by simp [boxPO, boxP]⟩

/-- Behind four stores into the told change nothing old has turned. -/
theorem below_op {w wx : World} (h : Below w.heap.size w wx) (v0 v1 v2 v3 : Value) :
    Below w.heap.size w ((((wx.setCell ⟨w.heap.size + 1, 0, none⟩ v0).setCell ⟨w.heap.size + 1, 1, none⟩ v1).setCell ⟨w.heap.size + 1, 2, none⟩ v2).setCell ⟨w.heap.size + 1, 3, none⟩ v3) :=
  (((h.setCell (by simp) _).setCell (by simp) _).setCell (by simp) _).setCell (by simp) _

section
variable {p : SheetV} {a : Option Addr} {c : Nat} {w : World}

/-- The error of Give, of Claim; what they tell. -/
def giveE (p : SheetV) (n : Nat) : Int := if isB p then (if tkB (slot0 p) n then 0 else 2) else 70
def claimE (p : SheetV) (n : Nat) : Int := if isB p then (if pgB n && !tkB (slot0 p) n then 0 else 2) else 70
def toldO (e : Int) (p : SheetV) (n : Nat) : Value := if e = 0 then turnV (slot0 p) n else opZ

theorem tk_page {s : ByteArray} {n : Nat} (h : tkB s n = true) : 1 ≤ n ∧ n ≤ 2048 := by
  unfold tkB at h
  simp only [Bool.and_eq_true, decide_eq_true_eq] at h
  exact h.1

set_option maxHeartbeats 800000 in
theorem give_any (h : p.Lies w a) (n : Nat) (hn : n < 4294967296) :
    Calls Try.prog 9 #[p.val a c, .int .u32 n] w fun e w' => e = .returned (.tuple #[toldO (giveE p n) p n, .int .i64 (giveE p n)]) ∧ Below w.heap.size w w' := by
  have HIS : Hid (∀ wx, Below w.heap.size w wx → Calls Try.prog 14 #[p.val a c] wx fun e w' => e = .returned (.bool (isB p)) ∧ Below wx.heap.size wx w') := fun wx k => is_any (h.below k)
  have HIP : Hid (∀ wx, Calls Try.prog 23 #[.int .u32 n] wx fun e w' => e = .returned (.bool (pgB n)) ∧ w' = wx) := fun wx => isPage_any n wx hn
  have HTK : Hid (∀ wx, Below w.heap.size w wx → Calls Try.prog 15 #[p.val a c, .int .u32 n] wx fun e w' => e = .returned (.bool (tkP p n)) ∧ Below wx.heap.size wx w') := fun wx k => taken_any (h.below k) n hn
  have HTU : Hid (isB p = true → 1 ≤ n → n ≤ 2048 → ∀ wx, Below w.heap.size w wx → Calls Try.prog 22 #[p.val a c, .int .u32 n] wx fun e w' => e = .returned (turnV (slot0 p) n) ∧ Below wx.heap.size wx w') := fun hm h1 h2 wx k => turn_any' (h.below k) hm n h1 h2
  obtain ⟨W, HW⟩ : ∃ W, Hid (W = boxPO p a c w) := ⟨_, rfl⟩
  have hin : PageIn p a c w W := by rw [HW.out]; exact boxPO_in p a c w
  have hop : OpIn (w.heap.size + 1) W := by rw [HW.out]; exact boxPO_op p a c w
  unfold boxPO boxP at HW
  clear h
  by_cases c1 : isB p = true
  · have HE : Hid (giveE p n = (if tkB (slot0 p) n then 0 else 2)) := by show _ = _; unfold giveE; rw [c1]; rfl
    have HTP : Hid (tkP p n = tkB (slot0 p) n) := by show _ = _; unfold tkP; rw [c1]; rfl
    rw [c1] at HIS
    rw [HTP.out] at HTK
    clear HTP
    by_cases c2 : tkB (slot0 p) n = true
    · have hpg := tk_page c2
      rw [c2] at HE HTK
      rw [HE.out]
      simp only [if_true]
      obtain ⟨A, HA⟩ : ∃ A, Hid (((atN n : Nat) : Int) = A) := ⟨_, rfl⟩
      obtain ⟨S1, HS1⟩ : ∃ S1, Hid (one (bytN (slot0 p) (atN n) ^^^ pwN n) = S1) := ⟨_, rfl⟩
      obtain ⟨S2, HS2⟩ : ∃ S2, Hid (one (bytN (slot0 p) (atN n)) = S2) := ⟨_, rfl⟩
      have HR : Hid (toldO 0 p n = .agg #[.int .i64 6, .int .i64 A, .string S1, .string S2]) := by show _ = _; unfold toldO; rw [if_pos rfl]; unfold turnV; rw [HA.out, HS1.out, HS2.out]
      have HTV : Hid (turnV (slot0 p) n = .agg #[.int .i64 6, .int .i64 A, .string S1, .string S2]) := by show _ = _; unfold turnV; rw [HA.out, HS1.out, HS2.out]
      rw [HR.out]
      rw [HTV.out] at HTU
      clear HR HTV
      unfold SheetV.val at HIS HTK HTU ⊢
      go_enter Try.func9, Try.ntmps9
      go_wp2_with fail
      rw [← HW.out]
      clear HW
      refine (HIS.out _ hin.bel).mono ?_
      rintro e w1 ⟨rfl, b1⟩
      have h1 := hin.below b1
      have o1 := hop.below b1
      clear b1 hin hop HIS
      obtain ⟨x0, x1, x2, x3, x4⟩ : _ ∧ _ ∧ _ ∧ _ ∧ _ := ⟨h1.c0, h1.c1, h1.c2, h1.c3, h1.c4⟩
      go_wp2_with fail
      refine (HTK.out _ h1.bel).mono ?_
      rintro e w2 ⟨rfl, b⟩
      have h2 := h1.below b
      have o2 := o1.below b
      clear b h1 o1 x0 x1 x2 x3 x4
      obtain ⟨x0, x1, x2, x3, x4⟩ : _ ∧ _ ∧ _ ∧ _ ∧ _ := ⟨h2.c0, h2.c1, h2.c2, h2.c3, h2.c4⟩
      go_wp2_with fail
      refine (HTU.out c1 hpg.1 hpg.2 _ h2.bel).mono ?_
      rintro e w3 ⟨rfl, b⟩
      have h3 := h2.below b
      have o3 := o2.below b
      clear b h2 o2 x0 x1 x2 x3 x4
      obtain ⟨x0, x1, x2, x3, x4⟩ : _ ∧ _ ∧ _ ∧ _ ∧ _ := ⟨h3.c0, h3.c1, h3.c2, h3.c3, h3.c4⟩
      obtain ⟨y0, y1, y2, y3, g0, g1, g2, g3⟩ : _ ∧ _ ∧ _ ∧ _ ∧ _ ∧ _ ∧ _ ∧ _ := ⟨o3.c0, o3.c1, o3.c2, o3.c3, o3.f0, o3.f1, o3.f2, o3.f3⟩
      go_wp2
      refine bodyPost_ret (v := .tuple #[.agg #[.int .i64 6, .int .i64 A, .string S1, .string S2], .int .i64 0]) (by simp [results, Try.results9, go_sem, y0, y1, y2, y3]) rfl ⟨rfl, below_op h3.bel _ _ _ _⟩
    · have c2' : tkB (slot0 p) n = false := by simpa using c2
      rw [c2'] at HE HTK
      rw [HE.out, show toldO (if false = true then 0 else 2) p n = opZ from rfl]
      unfold opZ
      simp only [Bool.false_eq_true, if_false]
      unfold SheetV.val at HIS HTK HTU ⊢
      go_enter Try.func9, Try.ntmps9
      go_wp2_with fail
      rw [← HW.out]
      clear HW
      refine (HIS.out _ hin.bel).mono ?_
      rintro e w1 ⟨rfl, b1⟩
      have h1 := hin.below b1
      have o1 := hop.below b1
      clear b1 hin hop HIS
      obtain ⟨x0, x1, x2, x3, x4⟩ : _ ∧ _ ∧ _ ∧ _ ∧ _ := ⟨h1.c0, h1.c1, h1.c2, h1.c3, h1.c4⟩
      go_wp2_with fail
      refine (HTK.out _ h1.bel).mono ?_
      rintro e w2 ⟨rfl, b⟩
      have h2 := h1.below b
      have o2 := o1.below b
      clear b h1 o1 x0 x1 x2 x3 x4
      obtain ⟨x0, x1, x2, x3, x4⟩ : _ ∧ _ ∧ _ ∧ _ ∧ _ := ⟨h2.c0, h2.c1, h2.c2, h2.c3, h2.c4⟩
      obtain ⟨y0, y1, y2, y3, g0, g1, g2, g3⟩ : _ ∧ _ ∧ _ ∧ _ ∧ _ ∧ _ ∧ _ ∧ _ := ⟨o2.c0, o2.c1, o2.c2, o2.c3, o2.f0, o2.f1, o2.f2, o2.f3⟩
      go_wp2
      refine bodyPost_ret (v := .tuple #[.agg #[.int .i64 0, .int .i64 0, .string ⟨#[]⟩, .string ⟨#[]⟩], .int .i64 2]) (by simp [results, Try.results9, go_sem, y0, y1, y2, y3]) rfl ⟨rfl, below_op h2.bel _ _ _ _⟩
  · have c1' : isB p = false := by simpa using c1
    have HE : giveE p n = 70 := by unfold giveE; rw [c1']; rfl
    rw [HE, show toldO 70 p n = opZ from rfl]
    unfold opZ
    rw [c1'] at HIS
    unfold SheetV.val at HIS HTK HTU ⊢
    go_enter Try.func9, Try.ntmps9
    go_wp2_with fail
    rw [← HW.out]
    clear HW
    refine (HIS.out _ hin.bel).mono ?_
    rintro e w1 ⟨rfl, b1⟩
    have h1 := hin.below b1
    have o1 := hop.below b1
    clear b1 hin hop HIS
    obtain ⟨x0, x1, x2, x3, x4⟩ : _ ∧ _ ∧ _ ∧ _ ∧ _ := ⟨h1.c0, h1.c1, h1.c2, h1.c3, h1.c4⟩
    obtain ⟨y0, y1, y2, y3, g0, g1, g2, g3⟩ : _ ∧ _ ∧ _ ∧ _ ∧ _ ∧ _ ∧ _ ∧ _ := ⟨o1.c0, o1.c1, o1.c2, o1.c3, o1.f0, o1.f1, o1.f2, o1.f3⟩
    go_wp2
    refine bodyPost_ret (v := .tuple #[.agg #[.int .i64 0, .int .i64 0, .string ⟨#[]⟩, .string ⟨#[]⟩], .int .i64 70]) (by simp [results, Try.results9, go_sem, y0, y1, y2, y3]) rfl ⟨rfl, below_op h1.bel _ _ _ _⟩

set_option maxHeartbeats 800000 in
theorem claim_any (h : p.Lies w a) (n : Nat) (hn : n < 4294967296) :
    Calls Try.prog 10 #[p.val a c, .int .u32 n] w fun e w' => e = .returned (.tuple #[toldO (claimE p n) p n, .int .i64 (claimE p n)]) ∧ Below w.heap.size w w' := by
  have HIS : Hid (∀ wx, Below w.heap.size w wx → Calls Try.prog 14 #[p.val a c] wx fun e w' => e = .returned (.bool (isB p)) ∧ Below wx.heap.size wx w') := fun wx k => is_any (h.below k)
  have HIP : Hid (∀ wx, Calls Try.prog 23 #[.int .u32 n] wx fun e w' => e = .returned (.bool (pgB n)) ∧ w' = wx) := fun wx => isPage_any n wx hn
  have HTK : Hid (∀ wx, Below w.heap.size w wx → Calls Try.prog 15 #[p.val a c, .int .u32 n] wx fun e w' => e = .returned (.bool (tkP p n)) ∧ Below wx.heap.size wx w') := fun wx k => taken_any (h.below k) n hn
  have HTU : Hid (isB p = true → 1 ≤ n → n ≤ 2048 → ∀ wx, Below w.heap.size w wx → Calls Try.prog 22 #[p.val a c, .int .u32 n] wx fun e w' => e = .returned (turnV (slot0 p) n) ∧ Below wx.heap.size wx w') := fun hm h1 h2 wx k => turn_any' (h.below k) hm n h1 h2
  obtain ⟨W, HW⟩ : ∃ W, Hid (W = boxPO p a c w) := ⟨_, rfl⟩
  have hin : PageIn p a c w W := by rw [HW.out]; exact boxPO_in p a c w
  have hop : OpIn (w.heap.size + 1) W := by rw [HW.out]; exact boxPO_op p a c w
  unfold boxPO boxP at HW
  clear h
  by_cases c1 : isB p = true
  · have HE : Hid (claimE p n = (if pgB n && !tkB (slot0 p) n then 0 else 2)) := by show _ = _; unfold claimE; rw [c1]; rfl
    have HTP : Hid (tkP p n = tkB (slot0 p) n) := by show _ = _; unfold tkP; rw [c1]; rfl
    rw [c1] at HIS
    rw [HTP.out] at HTK
    clear HTP
    by_cases c3 : pgB n = true
    · have hpg : 1 ≤ n ∧ n ≤ 2048 := by simpa [pgB] using c3
      rw [c3] at HE HIP
      by_cases c2 : tkB (slot0 p) n = true
      · rw [c2] at HE HTK
        rw [HE.out, show toldO (if (true && !true) = true then 0 else 2) p n = opZ from rfl]
        unfold opZ
        simp only [Bool.not_true, Bool.and_false, Bool.false_eq_true, if_false]
        unfold SheetV.val at HIS HTK HTU ⊢
        go_enter Try.func10, Try.ntmps10
        go_wp2_with fail
        rw [← HW.out]
        clear HW
        refine (HIS.out _ hin.bel).mono ?_
        rintro e w1 ⟨rfl, b1⟩
        have h1 := hin.below b1
        have o1 := hop.below b1
        clear b1 hin hop HIS
        obtain ⟨x0, x1, x2, x3, x4⟩ : _ ∧ _ ∧ _ ∧ _ ∧ _ := ⟨h1.c0, h1.c1, h1.c2, h1.c3, h1.c4⟩
        go_wp2_with fail
        refine (HIP.out _).mono ?_
        rintro e w1' ⟨rfl, rfl⟩
        go_wp2_with fail
        refine (HTK.out _ h1.bel).mono ?_
        rintro e w2 ⟨rfl, b⟩
        have h2 := h1.below b
        have o2 := o1.below b
        clear b h1 o1 x0 x1 x2 x3 x4
        obtain ⟨x0, x1, x2, x3, x4⟩ : _ ∧ _ ∧ _ ∧ _ ∧ _ := ⟨h2.c0, h2.c1, h2.c2, h2.c3, h2.c4⟩
        obtain ⟨y0, y1, y2, y3, g0, g1, g2, g3⟩ : _ ∧ _ ∧ _ ∧ _ ∧ _ ∧ _ ∧ _ ∧ _ := ⟨o2.c0, o2.c1, o2.c2, o2.c3, o2.f0, o2.f1, o2.f2, o2.f3⟩
        go_wp2
        refine bodyPost_ret (v := .tuple #[.agg #[.int .i64 0, .int .i64 0, .string ⟨#[]⟩, .string ⟨#[]⟩], .int .i64 2]) (by simp [results, Try.results10, go_sem, y0, y1, y2, y3]) rfl ⟨rfl, below_op h2.bel _ _ _ _⟩
      · have c2' : tkB (slot0 p) n = false := by simpa using c2
        rw [c2'] at HE HTK
        rw [HE.out]
        simp only [Bool.not_false, Bool.and_true, if_true]
        obtain ⟨A, HA⟩ : ∃ A, Hid (((atN n : Nat) : Int) = A) := ⟨_, rfl⟩
        obtain ⟨S1, HS1⟩ : ∃ S1, Hid (one (bytN (slot0 p) (atN n) ^^^ pwN n) = S1) := ⟨_, rfl⟩
        obtain ⟨S2, HS2⟩ : ∃ S2, Hid (one (bytN (slot0 p) (atN n)) = S2) := ⟨_, rfl⟩
        have HR : Hid (toldO 0 p n = .agg #[.int .i64 6, .int .i64 A, .string S1, .string S2]) := by show _ = _; unfold toldO; rw [if_pos rfl]; unfold turnV; rw [HA.out, HS1.out, HS2.out]
        have HTV : Hid (turnV (slot0 p) n = .agg #[.int .i64 6, .int .i64 A, .string S1, .string S2]) := by show _ = _; unfold turnV; rw [HA.out, HS1.out, HS2.out]
        rw [HR.out]
        rw [HTV.out] at HTU
        clear HR HTV
        unfold SheetV.val at HIS HTK HTU ⊢
        go_enter Try.func10, Try.ntmps10
        go_wp2_with fail
        rw [← HW.out]
        clear HW
        refine (HIS.out _ hin.bel).mono ?_
        rintro e w1 ⟨rfl, b1⟩
        have h1 := hin.below b1
        have o1 := hop.below b1
        clear b1 hin hop HIS
        obtain ⟨x0, x1, x2, x3, x4⟩ : _ ∧ _ ∧ _ ∧ _ ∧ _ := ⟨h1.c0, h1.c1, h1.c2, h1.c3, h1.c4⟩
        go_wp2_with fail
        refine (HIP.out _).mono ?_
        rintro e w1' ⟨rfl, rfl⟩
        go_wp2_with fail
        refine (HTK.out _ h1.bel).mono ?_
        rintro e w2 ⟨rfl, b⟩
        have h2 := h1.below b
        have o2 := o1.below b
        clear b h1 o1 x0 x1 x2 x3 x4
        obtain ⟨x0, x1, x2, x3, x4⟩ : _ ∧ _ ∧ _ ∧ _ ∧ _ := ⟨h2.c0, h2.c1, h2.c2, h2.c3, h2.c4⟩
        go_wp2_with fail
        refine (HTU.out c1 hpg.1 hpg.2 _ h2.bel).mono ?_
        rintro e w3 ⟨rfl, b⟩
        have h3 := h2.below b
        have o3 := o2.below b
        clear b h2 o2 x0 x1 x2 x3 x4
        obtain ⟨x0, x1, x2, x3, x4⟩ : _ ∧ _ ∧ _ ∧ _ ∧ _ := ⟨h3.c0, h3.c1, h3.c2, h3.c3, h3.c4⟩
        obtain ⟨y0, y1, y2, y3, g0, g1, g2, g3⟩ : _ ∧ _ ∧ _ ∧ _ ∧ _ ∧ _ ∧ _ ∧ _ := ⟨o3.c0, o3.c1, o3.c2, o3.c3, o3.f0, o3.f1, o3.f2, o3.f3⟩
        go_wp2
        refine bodyPost_ret (v := .tuple #[.agg #[.int .i64 6, .int .i64 A, .string S1, .string S2], .int .i64 0]) (by simp [results, Try.results10, go_sem, y0, y1, y2, y3]) rfl ⟨rfl, below_op h3.bel _ _ _ _⟩
    · have c3' : pgB n = false := by simpa using c3
      rw [c3'] at HE HIP
      rw [HE.out, show toldO (if (false && !tkB (slot0 p) n) = true then 0 else 2) p n = opZ from rfl]
      unfold opZ
      simp only [Bool.false_and, Bool.false_eq_true, if_false]
      unfold SheetV.val at HIS HTK HTU ⊢
      go_enter Try.func10, Try.ntmps10
      go_wp2_with fail
      rw [← HW.out]
      clear HW
      refine (HIS.out _ hin.bel).mono ?_
      rintro e w1 ⟨rfl, b1⟩
      have h1 := hin.below b1
      have o1 := hop.below b1
      clear b1 hin hop HIS
      obtain ⟨x0, x1, x2, x3, x4⟩ : _ ∧ _ ∧ _ ∧ _ ∧ _ := ⟨h1.c0, h1.c1, h1.c2, h1.c3, h1.c4⟩
      go_wp2_with fail
      refine (HIP.out _).mono ?_
      rintro e w1' ⟨rfl, rfl⟩
      obtain ⟨y0, y1, y2, y3, g0, g1, g2, g3⟩ : _ ∧ _ ∧ _ ∧ _ ∧ _ ∧ _ ∧ _ ∧ _ := ⟨o1.c0, o1.c1, o1.c2, o1.c3, o1.f0, o1.f1, o1.f2, o1.f3⟩
      go_wp2
      refine bodyPost_ret (v := .tuple #[.agg #[.int .i64 0, .int .i64 0, .string ⟨#[]⟩, .string ⟨#[]⟩], .int .i64 2]) (by simp [results, Try.results10, go_sem, y0, y1, y2, y3]) rfl ⟨rfl, below_op h1.bel _ _ _ _⟩
  · have c1' : isB p = false := by simpa using c1
    have HE : claimE p n = 70 := by unfold claimE; rw [c1']; rfl
    rw [HE, show toldO 70 p n = opZ from rfl]
    unfold opZ
    rw [c1'] at HIS
    unfold SheetV.val at HIS HTK HTU ⊢
    go_enter Try.func10, Try.ntmps10
    go_wp2_with fail
    rw [← HW.out]
    clear HW
    refine (HIS.out _ hin.bel).mono ?_
    rintro e w1 ⟨rfl, b1⟩
    have h1 := hin.below b1
    have o1 := hop.below b1
    clear b1 hin hop HIS
    obtain ⟨x0, x1, x2, x3, x4⟩ : _ ∧ _ ∧ _ ∧ _ ∧ _ := ⟨h1.c0, h1.c1, h1.c2, h1.c3, h1.c4⟩
    obtain ⟨y0, y1, y2, y3, g0, g1, g2, g3⟩ : _ ∧ _ ∧ _ ∧ _ ∧ _ ∧ _ ∧ _ ∧ _ := ⟨o1.c0, o1.c1, o1.c2, o1.c3, o1.f0, o1.f1, o1.f2, o1.f3⟩
    go_wp2
    refine bodyPost_ret (v := .tuple #[.agg #[.int .i64 0, .int .i64 0, .string ⟨#[]⟩, .string ⟨#[]⟩], .int .i64 70]) (by simp [results, Try.results10, go_sem, y0, y1, y2, y3]) rfl ⟨rfl, below_op h1.bel _ _ _ _⟩

end
end Go.Proofs.Ytkknglcckjhngaa
