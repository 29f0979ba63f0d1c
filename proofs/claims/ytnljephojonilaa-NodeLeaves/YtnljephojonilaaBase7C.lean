/-
  What a change does to a page that fits, as plain data; its inverse leads back.
  The walk of PageRoom.
  The walk of PageRoom.
-/
import Derived.Test.YtnljephojonilaaPageChange4C
import Derived.Test.YtnljephojonilaaPageChangeC
namespace Go.Proofs.Ytnljephojonilaa
open Go.RowKit Go.Sort
set_option linter.unusedVariables false

/-- The error of a change other than OpFormat. -/
def doE (p : SheetV) (o : OpV) : Int :=
  if o.kind = 2 then insE p o else if o.kind = 3 then standE p o else if o.kind = 4 then setE p o else if o.kind = 5 then headE p o else if o.kind = 6 then putE p o else turnE p o

/-- The page behind it. -/
def doQ (p : SheetV) (o : OpV) : SheetV :=
  if o.kind = 2 then { p with slots := insL p.slots o.at'.toNat o.S } else
  if o.kind = 3 then { p with slots := p.slots.eraseIdx o.at'.toNat } else
  if o.kind = 4 then { p with slots := p.slots.set o.at'.toNat o.S } else
  if o.kind = 5 then { p with head := o.S } else
  if o.kind = 6 then { p with slots := p.slots.set 0 (putS (p.slots.getD 0 ByteArray.empty) o.at'.toNat o.S) } else
  { p with kind := ((o.S.data.toList.getD 0 0).toNat : Int), head := o.S.extract 1 o.S.size }

/-- The inverse of a change. -/
def invO (o : OpV) : OpV :=
  if o.kind = 1 then ⟨1, 0, ⟨#[]⟩, ⟨#[]⟩⟩ else
  if o.kind = 2 then ⟨3, o.at', ⟨#[]⟩, o.S⟩ else
  if o.kind = 3 then ⟨2, o.at', o.old, ⟨#[]⟩⟩ else
  if 4 ≤ o.kind ∧ o.kind ≤ 7 then ⟨o.kind, o.at', o.old, o.S⟩ else o

/-- Two pages are the same in all but the LSN. -/
def SameS (p q : SheetV) : Prop := p.num = q.num ∧ p.kind = q.kind ∧ p.head = q.head ∧ p.slots = q.slots

theorem SameS.eq {p q : SheetV} (h : SameS p q) : p = { q with lsn := p.lsn } := by
  obtain ⟨n, l, k, hd, s⟩ := p
  obtain ⟨n', l', k', hd', s'⟩ := q
  obtain ⟨h1, h2, h3, h4⟩ := h
  simp only at h1 h2 h3 h4
  subst h1; subst h2; subst h3; subst h4
  rfl

theorem doE_lsn (p : SheetV) (o : OpV) (n : Nat) : doE { p with lsn := n } o = doE p o := rfl

theorem doQ_lsn (p : SheetV) (o : OpV) (n : Nat) : doQ { p with lsn := n } o = { doQ p o with lsn := n } := by
  unfold doQ
  split
  · rfl
  split
  · rfl
  split
  · rfl
  split
  · rfl
  split
  · rfl
  · rfl

theorem Fits.lsn {p : SheetV} (h : p.Fits) (n : Nat) (hn : n < 18446744073709551616) : ({ p with lsn := n } : SheetV).Fits := ⟨h.num, hn, h.kind0, h.kind1, h.head, h.len, h.fits⟩

theorem chk_parts {o : OpV} (h : chkB o = true) : o.S.size ≤ 512 ∧ o.old.size ≤ 512 ∧ mayP o := by
  unfold chkB at h
  simp only [Bool.and_eq_true, decide_eq_true_eq] at h
  exact ⟨h.1.1, h.1.2, (mayB_iff o).1 h.2⟩

theorem chk_of {o : OpV} (h1 : o.S.size ≤ 512) (h2 : o.old.size ≤ 512) (h3 : mayP o) : chkB o = true := by
  unfold chkB
  simp only [Bool.and_eq_true, decide_eq_true_eq]
  exact ⟨⟨h1, h2⟩, (mayB_iff o).2 h3⟩

theorem empty_size : (ByteArray.mk #[]).size = 0 := rfl

/-- The kinds of a change that may be. -/
theorem may_kinds {o : OpV} (h : mayP o) (h1 : o.kind ≠ 1) : o.kind = 2 ∨ o.kind = 3 ∨ o.kind = 4 ∨ o.kind = 5 ∨ o.kind = 6 ∨ o.kind = 7 := by
  unfold mayP at h
  rw [if_neg h1] at h
  by_cases k2 : o.kind = 2
  · exact .inl k2
  by_cases k3 : o.kind = 3
  · exact .inr (.inl k3)
  by_cases k4 : o.kind = 4
  · exact .inr (.inr (.inl k4))
  by_cases k5 : o.kind = 5
  · exact .inr (.inr (.inr (.inl k5)))
  by_cases k6 : o.kind = 6
  · exact .inr (.inr (.inr (.inr (.inl k6))))
  by_cases k7 : o.kind = 7
  · exact .inr (.inr (.inr (.inr (.inr k7))))
  rw [if_neg k2, if_neg k3, if_neg k4, if_neg k5, if_neg k6, if_neg k7] at h
  exact h.elim

theorem may2 {o : OpV} (h : mayP o) (k : o.kind = 2) : (0 ≤ o.at' ∧ o.at' ≤ 63) ∧ o.old.size = 0 := by simpa [mayP, k] using h
theorem may3 {o : OpV} (h : mayP o) (k : o.kind = 3) : (0 ≤ o.at' ∧ o.at' ≤ 63) ∧ o.S.size = 0 := by simpa [mayP, k] using h
theorem may4 {o : OpV} (h : mayP o) (k : o.kind = 4) : (0 ≤ o.at' ∧ o.at' ≤ 63) := by simpa [mayP, k] using h
theorem may5 {o : OpV} (h : mayP o) (k : o.kind = 5) : o.at' = 0 ∧ o.S.size ≤ 32 ∧ o.old.size ≤ 32 := by simpa [mayP, k] using h
theorem may6 {o : OpV} (h : mayP o) (k : o.kind = 6) : (0 ≤ o.at' ∧ o.at' ≤ 511) ∧ o.S.size = o.old.size ∧ 0 < o.S.size := by simpa [mayP, k] using h
theorem may7 {o : OpV} (h : mayP o) (k : o.kind = 7) : o.at' = 0 ∧ (1 ≤ o.S.size ∧ o.S.size ≤ 33) ∧ (1 ≤ o.old.size ∧ o.old.size ≤ 33) := by simpa [mayP, k] using h

theorem invO2 {o : OpV} (k : o.kind = 2) : invO o = ⟨3, o.at', ⟨#[]⟩, o.S⟩ := by simp [invO, k]
theorem invO3 {o : OpV} (k : o.kind = 3) : invO o = ⟨2, o.at', o.old, ⟨#[]⟩⟩ := by simp [invO, k]
theorem invO4 {o : OpV} (k : 4 ≤ o.kind ∧ o.kind ≤ 7) : invO o = ⟨o.kind, o.at', o.old, o.S⟩ := by
  unfold invO
  rw [if_neg (by omega), if_neg (by omega), if_neg (by omega), if_pos k]

theorem chk_inv {o : OpV} (h : chkB o = true) (h1 : o.kind ≠ 1) : chkB (invO o) = true ∧ (invO o).kind ≠ 1 := by
  obtain ⟨hS, hT, hm⟩ := chk_parts h
  rcases may_kinds hm h1 with k | k | k | k | k | k
  · rw [invO2 k]
    have := may2 hm k
    exact ⟨chk_of (by rw [empty_size]; omega) hS (by simp [mayP]; exact ⟨this.1, rfl⟩), by show ¬ _ = _; simp⟩
  · rw [invO3 k]
    have := may3 hm k
    exact ⟨chk_of hT (by rw [empty_size]; omega) (by simp [mayP]; exact ⟨this.1, rfl⟩), by show ¬ _ = _; simp⟩
  · rw [invO4 (by omega)]
    have := may4 hm k
    exact ⟨chk_of hT hS (by simp [mayP, k]; exact this), by simp only; omega⟩
  · rw [invO4 (by omega)]
    have := may5 hm k
    exact ⟨chk_of hT hS (by simp [mayP, k]; exact ⟨this.1, this.2.2, this.2.1⟩), by simp only; omega⟩
  · rw [invO4 (by omega)]
    have := may6 hm k
    exact ⟨chk_of hT hS (by simp [mayP, k]; omega), by simp only; omega⟩
  · rw [invO4 (by omega)]
    have := may7 hm k
    exact ⟨chk_of hT hS (by simp [mayP, k]; exact ⟨this.1, this.2.2, this.2.1⟩), by simp only; omega⟩

theorem inv_ok {o : OpV} (h : o.Ok) : (invO o).Ok := by
  unfold invO
  split
  · exact ⟨⟨by decide, by decide⟩, ⟨by decide, by decide⟩, by decide, by decide⟩
  split
  · exact ⟨⟨by show (_ : Int) ≤ 3; decide, by show (3 : Int) ≤ _; decide⟩, h.at', by show (ByteArray.mk #[]).size ≤ _; decide, h.S⟩
  split
  · exact ⟨⟨by show (_ : Int) ≤ 2; decide, by show (2 : Int) ≤ _; decide⟩, h.at', h.old, by show (ByteArray.mk #[]).size ≤ _; decide⟩
  split
  · exact ⟨h.kind, h.at', h.old, h.S⟩
  · exact h

theorem does {p : SheetV} {o : OpV} (f : p.Fits) (ho : o.Ok) (hc : chkB o = true) (h1 : o.kind ≠ 1) : ChangeDoes p o (doE p o) (doQ p o) := by
  obtain ⟨hS, hT, hm⟩ := chk_parts hc
  rcases may_kinds hm h1 with k | k | k | k | k | k
  · have := may2 hm k
    have h := change_ins f ho k this.1.1
    simpa [doE, doQ, k] using h
  · have := may3 hm k
    have h := change_rem f ho k this.1.1
    simpa [doE, doQ, k] using h
  · have := may4 hm k
    have h := change_set f ho k this.1
    simpa [doE, doQ, k] using h
  · have h := change_head f ho k
    simpa [doE, doQ, k] using h
  · have := may6 hm k
    have h := change_put f ho k this.1.1 this.1.2
    simpa [doE, doQ, k] using h
  · have := may7 hm k
    have h := change_turn f ho k this.2.1.1
    simpa [doE, doQ, k] using h

theorem insL_erase (L : List ByteArray) (i : Nat) (s : ByteArray) (hi : i ≤ L.length) : (insL L i s).eraseIdx i = L := by
  unfold insL
  have hl : (L.take i).length = i := by simp; omega
  rw [List.eraseIdx_append_of_length_le (by omega), hl, Nat.sub_self]
  simp

theorem insL_getD (L : List ByteArray) (i : Nat) (s : ByteArray) (hi : i ≤ L.length) : (insL L i s).getD i ByteArray.empty = s := by
  unfold insL
  have hl : (L.take i).length = i := by simp; omega
  rw [List.getD_eq_getElem?_getD, List.getElem?_append_right (by omega), hl, Nat.sub_self]
  rfl

theorem erase_ins (L : List ByteArray) (i : Nat) (hi : i < L.length) : insL (L.eraseIdx i) i (L.getD i ByteArray.empty) = L := by
  rw [getD_at hi, List.eraseIdx_eq_take_drop_succ]
  unfold insL
  have hl : (L.take i).length = i := by simp; omega
  rw [List.take_append_of_le_length (by omega), List.take_take, Nat.min_self, List.drop_append_of_le_length (by omega), List.drop_of_length_le (by omega), List.nil_append]
  rw [← List.drop_eq_getElem_cons hi, List.take_append_drop]

theorem slotSum_erase (L : List ByteArray) (i : Nat) (hi : i < L.length) : slotSum (L.eraseIdx i) + (2 + (L.getD i ByteArray.empty).size) = slotSum L := by
  have h := insL_sum (L.eraseIdx i) i (L.getD i ByteArray.empty)
  rw [erase_ins L i hi] at h
  omega

theorem set_as_ins (L : List ByteArray) (i : Nat) (s : ByteArray) (hi : i < L.length) : L.set i s = insL (L.eraseIdx i) i s := by
  rw [List.eraseIdx_eq_take_drop_succ]
  unfold insL
  have hl : (L.take i).length = i := by simp; omega
  rw [List.take_append_of_le_length (by omega), List.take_take, Nat.min_self, List.drop_append_of_le_length (by omega), List.drop_of_length_le (by omega), List.nil_append]
  rw [List.set_eq_take_append_cons_drop, if_pos hi]

theorem slotSum_set (L : List ByteArray) (i : Nat) (s : ByteArray) (hi : i < L.length) : slotSum (L.set i s) + (L.getD i ByteArray.empty).size = slotSum L + s.size := by
  have h := insL_sum (L.eraseIdx i) i s
  rw [← set_as_ins L i s hi] at h
  have h2 := slotSum_erase L i hi
  omega

theorem set_getD (L : List ByteArray) (i : Nat) (s : ByteArray) (hi : i < L.length) : (L.set i s).getD i ByteArray.empty = s := by
  rw [getD_at (by simpa using hi)]; simp

theorem set_back (L : List ByteArray) (i : Nat) (s : ByteArray) (hi : i < L.length) : (L.set i s).set i (L.getD i ByteArray.empty) = L := by
  rw [List.set_set, getD_at hi, List.set_getElem_self]

theorem putS_parts {s S : ByteArray} {i : Nat} (h : i + S.size ≤ s.size) : ∃ A M Z : List UInt8, A.length = i ∧ M.length = S.size ∧ s.data.toList = A ++ (M ++ Z) ∧ s.extract i (i + S.size) = ⟨M.toArray⟩ ∧ putS s i S = ⟨(A ++ (S.data.toList ++ Z)).toArray⟩ := by
  have hs : s.data.toList.length = s.size := by simp
  refine ⟨s.data.toList.take i, (s.data.toList.drop i).take S.size, s.data.toList.drop (i + S.size), by rw [List.length_take, hs]; omega, by rw [List.length_take, List.length_drop, hs]; omega, ?_, ?_, ?_⟩
  · rw [← List.drop_drop, List.take_append_drop, List.take_append_drop]
  · apply ByteArray.ext
    simp [ByteArray.data_extract]
    apply Array.ext'
    simp [List.extract_eq_take_drop]
  · unfold putS
    apply ByteArray.ext
    apply Array.ext'
    simp [ByteArray.data_append, ByteArray.data_extract, List.extract_eq_take_drop]
    exact List.take_of_length_le (by rw [List.length_drop, hs]; exact Nat.le_refl _)

theorem bytes_of_list (s : ByteArray) : s = ⟨s.data.toList.toArray⟩ := by cases s; simp

theorem put_back {s S T : ByteArray} {i : Nat} (h : i + S.size ≤ s.size) (hl : S.size = T.size) (ht : s.extract i (i + S.size) = T) :
    (putS s i S).size = s.size ∧ (putS s i S).extract i (i + T.size) = S ∧ putS (putS s i S) i T = s := by
  obtain ⟨A, M, Z, hA, hM, hd, he, hp⟩ := putS_parts h
  have hSl : S.data.toList.length = S.size := by simp
  have hsz : (putS s i S).size = s.size := by
    rw [hp, bytes_size]
    have : s.data.toList.length = s.size := by simp
    rw [← this, hd]
    simp only [List.length_append]
    omega
  obtain ⟨A', M', Z', hA', hM', hd', he', hp'⟩ := putS_parts (s := putS s i S) (S := T) (i := i) (by omega)
  rw [hp] at hd'
  have hd2 : A ++ (S.data.toList ++ Z) = A' ++ (M' ++ Z') := by simpa using hd'
  obtain ⟨rfl, h2⟩ := List.append_inj hd2 (by omega)
  obtain ⟨h3, rfl⟩ := List.append_inj h2 (by omega)
  refine ⟨hsz, ?_, ?_⟩
  · rw [he', ← h3]
  · rw [hp', ← ht, he]
    show ByteArray.mk (A ++ (M.toArray.toList ++ Z)).toArray = s
    rw [List.toList_toArray, ← hd]

theorem turn_there (S : ByteArray) (h : 1 ≤ S.size) : kindS ((S.data.toList.getD 0 0).toNat : Int) (S.extract 1 S.size) = S := by
  obtain ⟨⟨L⟩⟩ := S
  cases L with
  | nil => exact absurd h (by simp [ByteArray.size])
  | cons x L =>
    unfold kindS
    apply ByteArray.ext
    apply Array.ext'
    have hx : x.toNat < 256 := x.toNat_lt
    have e : (((x.toNat : Int) % 256)).toNat = x.toNat := by omega
    simp [ByteArray.data_append, ByteArray.data_extract, List.extract_eq_take_drop, e, ByteArray.size]

theorem turn_back (k : Int) (h : ByteArray) (h0 : 0 ≤ k) (h1 : k ≤ 255) : (((kindS k h).data.toList.getD 0 0).toNat : Int) = k ∧ (kindS k h).extract 1 (kindS k h).size = h := by
  have e : (k % 256).toNat = k.toNat := by omega
  have e2 : (UInt8.ofNat k.toNat).toNat = k.toNat := by rw [UInt8.toNat_ofNat']; omega
  constructor
  · unfold kindS
    simp only [ByteArray.data_append, Array.toList_append, e]
    show ((UInt8.ofNat k.toNat).toNat : Int) = k
    rw [e2]; omega
  · unfold kindS
    apply ByteArray.ext
    apply Array.ext'
    simp [ByteArray.data_append, ByteArray.data_extract, List.extract_eq_take_drop, ByteArray.size_append]
    exact List.take_of_length_le (by rw [show h.data.toList.length = h.size from by simp]; show _ ≤ 1 + h.size - 1; omega)

theorem SameS.refl (p : SheetV) : SameS p p := ⟨rfl, rfl, rfl, rfl⟩

/-- A change that is done leaves a page that fits, and its inverse leads back. -/
theorem do_back {p : SheetV} {o : OpV} (f : p.Fits) (hc : chkB o = true) (h1 : o.kind ≠ 1) (he : doE p o = 0) :
    (doQ p o).Fits ∧ doE (doQ p o) (invO o) = 0 ∧ doQ (doQ p o) (invO o) = p := by
  obtain ⟨hS, hT, hm⟩ := chk_parts hc
  have f1 := f.len
  have f2 := f.fits
  rcases may_kinds hm h1 with k | k | k | k | k | k
  · have m := may2 hm k
    have hE : insE p o = 0 := by simpa [doE, k] using he
    obtain ⟨z1, z2, z3⟩ := insE_zero hE
    have hi : o.at'.toNat ≤ p.slots.length := by omega
    have hq : doQ p o = { p with slots := insL p.slots o.at'.toNat o.S } := by simp [doQ, k]
    have hl := insL_length p.slots o.at'.toNat o.S hi
    have hs := insL_sum p.slots o.at'.toNat o.S
    rw [hq, invO2 k]
    refine ⟨⟨f.num, f.lsn, f.kind0, f.kind1, f.head, by show (insL _ _ _).length ≤ 64; omega, by show p.head.size + slotSum (insL _ _ _) ≤ 485; omega⟩, ?_, ?_⟩
    · show standE _ _ = 0
      unfold standE
      simp only [hl]
      rw [if_neg (by omega), if_neg (by rw [insL_getD _ _ _ hi]; simp)]
    · show ({ p with slots := (insL p.slots o.at'.toNat o.S).eraseIdx o.at'.toNat } : SheetV) = p
      rw [insL_erase _ _ _ hi]
  · have m := may3 hm k
    have hE : standE p o = 0 := by simpa [doE, k] using he
    obtain ⟨z1, z2⟩ := standE_zero hE
    have hi : o.at'.toNat < p.slots.length := by omega
    have hq : doQ p o = { p with slots := p.slots.eraseIdx o.at'.toNat } := by simp [doQ, k]
    have hl := List.length_eraseIdx_of_lt hi
    have hs := slotSum_erase p.slots o.at'.toNat hi
    rw [z2] at hs
    rw [hq, invO3 k]
    refine ⟨⟨f.num, f.lsn, f.kind0, f.kind1, f.head, by show (p.slots.eraseIdx _).length ≤ 64; omega, by show p.head.size + slotSum (p.slots.eraseIdx _) ≤ 485; omega⟩, ?_, ?_⟩
    · show insE _ _ = 0
      unfold insE
      simp only [hl]
      rw [if_neg (by omega), if_neg (by omega), if_neg (by omega)]
    · show ({ p with slots := insL (p.slots.eraseIdx o.at'.toNat) o.at'.toNat o.old } : SheetV) = p
      rw [← z2, erase_ins _ _ hi]
  · have m := may4 hm k
    have hE : setE p o = 0 := by simpa [doE, k] using he
    unfold setE at hE
    split at hE
    · rename_i hx; exact absurd hE hx
    rename_i hx
    split at hE
    · cases hE
    rename_i hy
    obtain ⟨z1, z2⟩ := standE_zero (Decidable.not_not.1 hx)
    have hi : o.at'.toNat < p.slots.length := by omega
    have hq : doQ p o = { p with slots := p.slots.set o.at'.toNat o.S } := by simp [doQ, k]
    have hs := slotSum_set p.slots o.at'.toNat o.S hi
    rw [z2] at hs
    rw [hq, invO4 (by omega)]
    refine ⟨⟨f.num, f.lsn, f.kind0, f.kind1, f.head, by show (p.slots.set _ _).length ≤ 64; simpa using f1, by show p.head.size + slotSum (p.slots.set _ _) ≤ 485; omega⟩, ?_, ?_⟩
    · have : standE { p with slots := p.slots.set o.at'.toNat o.S } ⟨o.kind, o.at', o.old, o.S⟩ = 0 := by
        unfold standE
        simp only [List.length_set]
        rw [if_neg (by omega), if_neg (by rw [set_getD _ _ _ hi]; simp)]
      simp only [doE, k]
      rw [if_neg (by decide), if_neg (by decide), if_pos trivial]
      rw [k] at this
      unfold setE
      rw [this, if_neg (by simp), if_neg]
      simp only
      omega
    · simp only [doQ, k]
      rw [if_neg (by decide), if_neg (by decide), if_pos trivial, ← z2, set_back _ _ _ hi]
  · have m := may5 hm k
    have hE : headE p o = 0 := by simpa [doE, k] using he
    unfold headE at hE
    split at hE
    · cases hE
    rename_i hx
    split at hE
    · cases hE
    rename_i hy
    have hx' : p.head = o.old := Decidable.not_not.1 hx
    have hq : doQ p o = { p with head := o.S } := by simp [doQ, k]
    rw [hq, invO4 (by omega)]
    refine ⟨⟨f.num, f.lsn, f.kind0, f.kind1, m.2.1, f.len, by show o.S.size + slotSum p.slots ≤ 485; omega⟩, ?_, ?_⟩
    · simp only [doE, k]
      rw [if_neg (by decide), if_neg (by decide), if_neg (by decide), if_pos trivial]
      unfold headE
      rw [if_neg (by simp), if_neg]
      simp only
      rw [← hx']
      omega
    · simp only [doQ, k]
      rw [if_neg (by decide), if_neg (by decide), if_neg (by decide), if_pos trivial, ← hx']
  · have m := may6 hm k
    have hE : putE p o = 0 := by simpa [doE, k] using he
    unfold putE at hE
    split at hE
    · cases hE
    rename_i hx
    split at hE
    · cases hE
    rename_i hy
    have hx1 : 0 < p.slots.length := by omega
    have hx2 : o.at'.toNat + o.S.size ≤ (p.slots.getD 0 ByteArray.empty).size := by omega
    have hy' := Decidable.not_not.1 hy
    obtain ⟨b1, b2, b3⟩ := put_back hx2 m.2.1 hy'
    have hq : doQ p o = { p with slots := p.slots.set 0 (putS (p.slots.getD 0 ByteArray.empty) o.at'.toNat o.S) } := by simp [doQ, k]
    have hs := slotSum_set p.slots 0 (putS (p.slots.getD 0 ByteArray.empty) o.at'.toNat o.S) hx1
    rw [hq, invO4 (by omega)]
    refine ⟨⟨f.num, f.lsn, f.kind0, f.kind1, f.head, by show (p.slots.set _ _).length ≤ 64; simpa using f1, by show p.head.size + slotSum (p.slots.set _ _) ≤ 485; omega⟩, ?_, ?_⟩
    · simp only [doE, k]
      rw [if_neg (by decide), if_neg (by decide), if_neg (by decide), if_neg (by decide), if_pos trivial]
      unfold putE
      simp only
      rw [set_getD _ _ _ hx1, List.length_set, if_neg (by omega), if_neg (by rw [b2]; simp)]
    · simp only [doQ, k]
      rw [if_neg (by decide), if_neg (by decide), if_neg (by decide), if_neg (by decide), if_pos trivial]
      rw [set_getD _ _ _ hx1, b3, set_back _ _ _ hx1]
  · have m := may7 hm k
    have hE : turnE p o = 0 := by simpa [doE, k] using he
    unfold turnE at hE
    split at hE
    · cases hE
    rename_i hx
    split at hE
    · cases hE
    rename_i hy
    have hx0 : p.slots = [] := by cases hp : p.slots with
      | nil => rfl
      | cons a b => rw [hp] at hx; simp at hx
    have hy' : kindS p.kind p.head = o.old := Decidable.not_not.1 hy
    have hq : doQ p o = { p with kind := ((o.S.data.toList.getD 0 0).toNat : Int), head := o.S.extract 1 o.S.size } := by simp [doQ, k]
    have hxs : (o.S.extract 1 o.S.size).size = o.S.size - 1 := by simp [ByteArray.size_extract]
    have hx2 : (o.S.data.toList.getD 0 0).toNat < 256 := (o.S.data.toList.getD 0 0).toNat_lt
    obtain ⟨t1, t2⟩ := turn_back p.kind p.head f.kind0 f.kind1
    rw [hq, invO4 (by omega)]
    refine ⟨⟨f.num, f.lsn, by show (0 : Int) ≤ ((o.S.data.toList.getD 0 0).toNat : Int); omega, by show ((o.S.data.toList.getD 0 0).toNat : Int) ≤ 255; omega, by show (o.S.extract 1 o.S.size).size ≤ 32; omega, f.len, by show (o.S.extract 1 o.S.size).size + slotSum p.slots ≤ 485; rw [hx0]; simp only [slotSum]; omega⟩, ?_, ?_⟩
    · simp only [doE, k]
      rw [if_neg (by decide), if_neg (by decide), if_neg (by decide), if_neg (by decide), if_neg (by decide)]
      unfold turnE
      simp only
      rw [if_neg hx, if_neg (by rw [turn_there _ m.2.1.1]; simp)]
    · simp only [doQ, k]
      rw [if_neg (by decide), if_neg (by decide), if_neg (by decide), if_neg (by decide), if_neg (by decide), ← hy', t1, t2]

end Go.Proofs.Ytnljephojonilaa

namespace Go.Proofs.Ytnljephojonilaa
open Go.RowKit Go.Sort
set_option linter.unusedVariables false

/-- An OpInsert of S at k. -/
def opIns (k : Nat) (S : ByteArray) : OpV := ⟨2, k, S, ⟨#[]⟩⟩

theorem opIns_ok (k : Nat) (S : ByteArray) (hk : k ≤ 63) (hS : S.size ≤ 512) : (opIns k S).Ok := ⟨by show (-9223372036854775808 : Int) ≤ 2 ∧ (2 : Int) ≤ _; omega, by show (-9223372036854775808 : Int) ≤ (k : Int) ∧ (k : Int) ≤ _; omega, by show S.size ≤ _; omega, by show (0 : Nat) ≤ _; omega⟩

theorem opIns_chk (k : Nat) (S : ByteArray) (hk : k ≤ 63) (hS : S.size ≤ 512) : chkB (opIns k S) = true := by
  have h0 : (ByteArray.mk #[]).size = 0 := rfl
  simp [chkB, mayB, opIns, hS, h0]; omega

theorem apply_ins {p : SheetV} {w : World} {a : Option Addr} {c : Nat} (lsn k : Nat) (S : ByteArray) (h : p.Ok w a) (f : p.Fits) (hk : k ≤ 63) (hS : S.size ≤ 512) :
    Calls Try.prog 8 #[p.val a c, .agg #[.int .i64 2, .int .i64 k, .string S, .string ⟨#[]⟩], .int .u64 lsn] w fun e w' => ∃ X, e = .returned (.tuple #[X, .int .i64 (insE p (opIns k S))]) ∧ Below w.heap.size w w' ∧
      (insE p (opIns k S) = 0 → ∃ a' c', X = ({ p with slots := insL p.slots k S, lsn := lsn } : SheetV).val a' c' ∧ StrsFrom w.heap.size w' a' (insL p.slots k S)) ∧ (insE p (opIns k S) ≠ 0 → X = sheet0.val none 0) := by
  have hd := change_ins f (opIns_ok k S hk hS) rfl (by show (0 : Int) ≤ (k : Int); omega)
  have := apply_of (w := w) (c := c) lsn h f (opIns_ok k S hk hS) (opIns_chk k S hk hS) hd
  exact this



/-- '(at%(n+1) + n + 1) % (n+1)'. -/
def placeAt (at' : Int) (n : Nat) : Nat := ((at'.tmod ((n : Int) + 1) + (n : Int) + 1).tmod ((n : Int) + 1)).toNat

theorem place_bounds (at' : Int) (n : Nat) : -((n : Int) + 1) < at'.tmod ((n : Int) + 1) ∧ at'.tmod ((n : Int) + 1) < (n : Int) + 1 :=
  ⟨Int.lt_tmod_of_pos at' (by omega), Int.tmod_lt_of_pos at' (by omega)⟩

theorem placeAt_le (at' : Int) (n : Nat) : placeAt at' n ≤ n := by
  unfold placeAt
  have := Int.tmod_lt_of_pos (at'.tmod ((n : Int) + 1) + (n : Int) + 1) (show (0 : Int) < (n : Int) + 1 by omega)
  omega

theorem placeAt_cast (at' : Int) (n : Nat) : (at'.tmod ((n : Int) + 1) + (n : Int) + 1).tmod ((n : Int) + 1) = ((placeAt at' n : Nat) : Int) := by
  unfold placeAt
  have := place_bounds at' n
  have h3 := Int.tmod_nonneg ((n : Int) + 1) (show (0 : Int) ≤ at'.tmod ((n : Int) + 1) + (n : Int) + 1 by omega)
  omega

end Go.Proofs.Ytnljephojonilaa

namespace Go.Proofs.Ytnljephojonilaa
open Go.RowKit Go.Sort
set_option linter.unusedVariables false

theorem SheetV.Fits.ok {q : SheetV} {w : World} {a : Option Addr} (f : q.Fits) (h : StrsAt w a q.slots) : q.Ok w a := by
  have hf := f.fits
  refine ⟨f.num, f.lsn, ⟨by have := f.kind0; omega, by have := f.kind1; omega⟩, by have := f.head; omega, by have := f.len; omega, fun s hs => ?_, h⟩
  obtain ⟨j, hj, rfl⟩ := List.mem_iff_getElem.1 hs
  have := slotSum_at q.slots j hj
  omega



end Go.Proofs.Ytnljephojonilaa
