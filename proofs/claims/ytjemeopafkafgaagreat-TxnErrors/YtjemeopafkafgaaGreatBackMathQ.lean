/-
  What a change does to a page that fits, as plain data; its inverse leads back.
  The walks of girderlaw03.op, girderref03.Inverse, page.Inverse.
  The walk of the closure of girderlaw09.back.
-/
import Derived.Test.YtjemeopafkafgaaGreatPageSetQ
import Derived.Test.YtjemeopafkafgaaGreatTxCompV
namespace Go.Proofs.YtjemeopafkafgaaGreat
open Go.RowKit Go.Sort
set_option linter.unusedVariables false

/-- The error of a change other than OpFormat. -/
def doE (p : SheetV) (o : OpV) : Int :=
  if o.kind = 2 then insE p o else if o.kind = 3 then standE p o else if o.kind = 4 then setE p o else if o.kind = 5 then headE p o else if o.kind = 6 then putE p o else turnE p o

/-- The page behind it. -/
def doQ (p : SheetV) (o : OpV) : SheetV :=
  if o.kind = 2 then { p with slots := insL p.slots o.at'.toNat o.S } else
  if o.kind = 3 then { p with slots := p.slots.eraseIdx o.at'.toNat } else
  if o.kind = 4 then { p with slots := p.slots.set o.at'.toNat o.S } else
  if o.kind = 5 then { p with head := o.S } else
  if o.kind = 6 then { p with slots := p.slots.set 0 (putS (p.slots.getD 0 ByteArray.empty) o.at'.toNat o.S) } else
  { p with kind := ((o.S.data.toList.getD 0 0).toNat : Int), head := o.S.extract 1 o.S.size }

/-- The inverse of a change. -/
def invO (o : OpV) : OpV :=
  if o.kind = 1 then ⟨1, 0, ⟨#[]⟩, ⟨#[]⟩⟩ else
  if o.kind = 2 then ⟨3, o.at', ⟨#[]⟩, o.S⟩ else
  if o.kind = 3 then ⟨2, o.at', o.old, ⟨#[]⟩⟩ else
  if 4 ≤ o.kind ∧ o.kind ≤ 7 then ⟨o.kind, o.at', o.old, o.S⟩ else o

theorem chk_parts {o : OpV} (h : chkB o = true) : o.S.size ≤ 512 ∧ o.old.size ≤ 512 ∧ mayP o := by
  unfold chkB at h
  simp only [Bool.and_eq_true, decide_eq_true_eq] at h
  exact ⟨h.1.1, h.1.2, (mayB_iff o).1 h.2⟩

/-- The kinds of a change that may be. -/
theorem may_kinds {o : OpV} (h : mayP o) (h1 : o.kind ≠ 1) : o.kind = 2 ∨ o.kind = 3 ∨ o.kind = 4 ∨ o.kind = 5 ∨ o.kind = 6 ∨ o.kind = 7 := by
  unfold mayP at h
  rw [if_neg h1] at h
  by_cases k2 : o.kind = 2
  · exact .inl k2
  by_cases k3 : o.kind = 3
  · exact .inr (.inl k3)
  by_cases k4 : o.kind = 4
  · exact .inr (.inr (.inl k4))
  by_cases k5 : o.kind = 5
  · exact .inr (.inr (.inr (.inl k5)))
  by_cases k6 : o.kind = 6
  · exact .inr (.inr (.inr (.inr (.inl k6))))
  by_cases k7 : o.kind = 7
  · exact .inr (.inr (.inr (.inr (.inr k7))))
  rw [if_neg k2, if_neg k3, if_neg k4, if_neg k5, if_neg k6, if_neg k7] at h
  exact h.elim

theorem may2 {o : OpV} (h : mayP o) (k : o.kind = 2) : (0 ≤ o.at' ∧ o.at' ≤ 63) ∧ o.old.size = 0 := by simpa [mayP, k] using h
theorem may3 {o : OpV} (h : mayP o) (k : o.kind = 3) : (0 ≤ o.at' ∧ o.at' ≤ 63) ∧ o.S.size = 0 := by simpa [mayP, k] using h
theorem may4 {o : OpV} (h : mayP o) (k : o.kind = 4) : (0 ≤ o.at' ∧ o.at' ≤ 63) := by simpa [mayP, k] using h
theorem may5 {o : OpV} (h : mayP o) (k : o.kind = 5) : o.at' = 0 ∧ o.S.size ≤ 32 ∧ o.old.size ≤ 32 := by simpa [mayP, k] using h
theorem may6 {o : OpV} (h : mayP o) (k : o.kind = 6) : (0 ≤ o.at' ∧ o.at' ≤ 511) ∧ o.S.size = o.old.size ∧ 0 < o.S.size := by simpa [mayP, k] using h
theorem may7 {o : OpV} (h : mayP o) (k : o.kind = 7) : o.at' = 0 ∧ (1 ≤ o.S.size ∧ o.S.size ≤ 33) ∧ (1 ≤ o.old.size ∧ o.old.size ≤ 33) := by simpa [mayP, k] using h

theorem invO2 {o : OpV} (k : o.kind = 2) : invO o = ⟨3, o.at', ⟨#[]⟩, o.S⟩ := by simp [invO, k]
theorem invO3 {o : OpV} (k : o.kind = 3) : invO o = ⟨2, o.at', o.old, ⟨#[]⟩⟩ := by simp [invO, k]
theorem invO4 {o : OpV} (k : 4 ≤ o.kind ∧ o.kind ≤ 7) : invO o = ⟨o.kind, o.at', o.old, o.S⟩ := by
  unfold invO
  rw [if_neg (by omega), if_neg (by omega), if_neg (by omega), if_pos k]

theorem does {p : SheetV} {o : OpV} (f : p.Fits) (ho : o.Ok) (hc : chkB o = true) (h1 : o.kind ≠ 1) : ChangeDoes p o (doE p o) (doQ p o) := by
  obtain ⟨hS, hT, hm⟩ := chk_parts hc
  rcases may_kinds hm h1 with k | k | k | k | k | k
  · have := may2 hm k
    have h := change_ins f ho k this.1.1
    simpa [doE, doQ, k] using h
  · have := may3 hm k
    have h := change_rem f ho k this.1.1
    simpa [doE, doQ, k] using h
  · have := may4 hm k
    have h := change_set f ho k this.1
    simpa [doE, doQ, k] using h
  · have h := change_head f ho k
    simpa [doE, doQ, k] using h
  · have := may6 hm k
    have h := change_put f ho k this.1.1 this.1.2
    simpa [doE, doQ, k] using h
  · have := may7 hm k
    have h := change_turn f ho k this.2.1.1
    simpa [doE, doQ, k] using h

theorem insL_erase (L : List ByteArray) (i : Nat) (s : ByteArray) (hi : i ≤ L.length) : (insL L i s).eraseIdx i = L := by
  unfold insL
  have hl : (L.take i).length = i := by simp; omega
  rw [List.eraseIdx_append_of_length_le (by omega), hl, Nat.sub_self]
  simp

theorem insL_getD (L : List ByteArray) (i : Nat) (s : ByteArray) (hi : i ≤ L.length) : (insL L i s).getD i ByteArray.empty = s := by
  unfold insL
  have hl : (L.take i).length = i := by simp; omega
  rw [List.getD_eq_getElem?_getD, List.getElem?_append_right (by omega), hl, Nat.sub_self]
  rfl

theorem erase_ins (L : List ByteArray) (i : Nat) (hi : i < L.length) : insL (L.eraseIdx i) i (L.getD i ByteArray.empty) = L := by
  rw [getD_at hi, List.eraseIdx_eq_take_drop_succ]
  unfold insL
  have hl : (L.take i).length = i := by simp; omega
  rw [List.take_append_of_le_length (by omega), List.take_take, Nat.min_self, List.drop_append_of_le_length (by omega), List.drop_of_length_le (by omega), List.nil_append]
  rw [← List.drop_eq_getElem_cons hi, List.take_append_drop]

theorem slotSum_erase (L : List ByteArray) (i : Nat) (hi : i < L.length) : slotSum (L.eraseIdx i) + (2 + (L.getD i ByteArray.empty).size) = slotSum L := by
  have h := insL_sum (L.eraseIdx i) i (L.getD i ByteArray.empty)
  rw [erase_ins L i hi] at h
  omega

theorem set_as_ins (L : List ByteArray) (i : Nat) (s : ByteArray) (hi : i < L.length) : L.set i s = insL (L.eraseIdx i) i s := by
  rw [List.eraseIdx_eq_take_drop_succ]
  unfold insL
  have hl : (L.take i).length = i := by simp; omega
  rw [List.take_append_of_le_length (by omega), List.take_take, Nat.min_self, List.drop_append_of_le_length (by omega), List.drop_of_length_le (by omega), List.nil_append]
  rw [List.set_eq_take_append_cons_drop, if_pos hi]

theorem slotSum_set (L : List ByteArray) (i : Nat) (s : ByteArray) (hi : i < L.length) : slotSum (L.set i s) + (L.getD i ByteArray.empty).size = slotSum L + s.size := by
  have h := insL_sum (L.eraseIdx i) i s
  rw [← set_as_ins L i s hi] at h
  have h2 := slotSum_erase L i hi
  omega

theorem set_getD (L : List ByteArray) (i : Nat) (s : ByteArray) (hi : i < L.length) : (L.set i s).getD i ByteArray.empty = s := by
  rw [getD_at (by simpa using hi)]; simp

theorem set_back (L : List ByteArray) (i : Nat) (s : ByteArray) (hi : i < L.length) : (L.set i s).set i (L.getD i ByteArray.empty) = L := by
  rw [List.set_set, getD_at hi, List.set_getElem_self]

theorem putS_parts {s S : ByteArray} {i : Nat} (h : i + S.size ≤ s.size) : ∃ A M Z : List UInt8, A.length = i ∧ M.length = S.size ∧ s.data.toList = A ++ (M ++ Z) ∧ s.extract i (i + S.size) = ⟨M.toArray⟩ ∧ putS s i S = ⟨(A ++ (S.data.toList ++ Z)).toArray⟩ := by
  have hs : s.data.toList.length = s.size := by simp
  refine ⟨s.data.toList.take i, (s.data.toList.drop i).take S.size, s.data.toList.drop (i + S.size), by rw [List.length_take, hs]; omega, by rw [List.length_take, List.length_drop, hs]; omega, ?_, ?_, ?_⟩
  · rw [← List.drop_drop, List.take_append_drop, List.take_append_drop]
  · apply ByteArray.ext
    simp [ByteArray.data_extract]
    apply Array.ext'
    simp [List.extract_eq_take_drop]
  · unfold putS
    apply ByteArray.ext
    apply Array.ext'
    simp [ByteArray.data_append, ByteArray.data_extract, List.extract_eq_take_drop]
    exact List.take_of_length_le (by rw [List.length_drop, hs]; exact Nat.le_refl _)

theorem put_back {s S T : ByteArray} {i : Nat} (h : i + S.size ≤ s.size) (hl : S.size = T.size) (ht : s.extract i (i + S.size) = T) :
    (putS s i S).size = s.size ∧ (putS s i S).extract i (i + T.size) = S ∧ putS (putS s i S) i T = s := by
  obtain ⟨A, M, Z, hA, hM, hd, he, hp⟩ := putS_parts h
  have hSl : S.data.toList.length = S.size := by simp
  have hsz : (putS s i S).size = s.size := by
    rw [hp, bytes_size]
    have : s.data.toList.length = s.size := by simp
    rw [← this, hd]
    simp only [List.length_append]
    omega
  obtain ⟨A', M', Z', hA', hM', hd', he', hp'⟩ := putS_parts (s := putS s i S) (S := T) (i := i) (by omega)
  rw [hp] at hd'
  have hd2 : A ++ (S.data.toList ++ Z) = A' ++ (M' ++ Z') := by simpa using hd'
  obtain ⟨rfl, h2⟩ := List.append_inj hd2 (by omega)
  obtain ⟨h3, rfl⟩ := List.append_inj h2 (by omega)
  refine ⟨hsz, ?_, ?_⟩
  · rw [he', ← h3]
  · rw [hp', ← ht, he]
    show ByteArray.mk (A ++ (M.toArray.toList ++ Z)).toArray = s
    rw [List.toList_toArray, ← hd]

theorem turn_there (S : ByteArray) (h : 1 ≤ S.size) : kindS ((S.data.toList.getD 0 0).toNat : Int) (S.extract 1 S.size) = S := by
  obtain ⟨⟨L⟩⟩ := S
  cases L with
  | nil => exact absurd h (by simp [ByteArray.size])
  | cons x L =>
    unfold kindS
    apply ByteArray.ext
    apply Array.ext'
    have hx : x.toNat < 256 := x.toNat_lt
    have e : (((x.toNat : Int) % 256)).toNat = x.toNat := by omega
    simp [ByteArray.data_append, ByteArray.data_extract, List.extract_eq_take_drop, e, ByteArray.size]

theorem turn_back (k : Int) (h : ByteArray) (h0 : 0 ≤ k) (h1 : k ≤ 255) : (((kindS k h).data.toList.getD 0 0).toNat : Int) = k ∧ (kindS k h).extract 1 (kindS k h).size = h := by
  have e : (k % 256).toNat = k.toNat := by omega
  have e2 : (UInt8.ofNat k.toNat).toNat = k.toNat := by rw [UInt8.toNat_ofNat']; omega
  constructor
  · unfold kindS
    simp only [ByteArray.data_append, Array.toList_append, e]
    show ((UInt8.ofNat k.toNat).toNat : Int) = k
    rw [e2]; omega
  · unfold kindS
    apply ByteArray.ext
    apply Array.ext'
    simp [ByteArray.data_append, ByteArray.data_extract, List.extract_eq_take_drop, ByteArray.size_append]
    exact List.take_of_length_le (by rw [show h.data.toList.length = h.size from by simp]; show _ ≤ 1 + h.size - 1; omega)

/-- A change that is done leaves a page that fits, and its inverse leads back. -/
theorem do_back {p : SheetV} {o : OpV} (f : p.Fits) (hc : chkB o = true) (h1 : o.kind ≠ 1) (he : doE p o = 0) :
    (doQ p o).Fits ∧ doE (doQ p o) (invO o) = 0 ∧ doQ (doQ p o) (invO o) = p := by
  obtain ⟨hS, hT, hm⟩ := chk_parts hc
  have f1 := f.len
  have f2 := f.fits
  rcases may_kinds hm h1 with k | k | k | k | k | k
  · have m := may2 hm k
    have hE : insE p o = 0 := by simpa [doE, k] using he
    obtain ⟨z1, z2, z3⟩ := insE_zero hE
    have hi : o.at'.toNat ≤ p.slots.length := by omega
    have hq : doQ p o = { p with slots := insL p.slots o.at'.toNat o.S } := by simp [doQ, k]
    have hl := insL_length p.slots o.at'.toNat o.S hi
    have hs := insL_sum p.slots o.at'.toNat o.S
    rw [hq, invO2 k]
    refine ⟨⟨f.num, f.lsn, f.kind0, f.kind1, f.head, by show (insL _ _ _).length ≤ 64; omega, by show p.head.size + slotSum (insL _ _ _) ≤ 485; omega⟩, ?_, ?_⟩
    · show standE _ _ = 0
      unfold standE
      simp only [hl]
      rw [if_neg (by omega), if_neg (by rw [insL_getD _ _ _ hi]; simp)]
    · show ({ p with slots := (insL p.slots o.at'.toNat o.S).eraseIdx o.at'.toNat } : SheetV) = p
      rw [insL_erase _ _ _ hi]
  · have m := may3 hm k
    have hE : standE p o = 0 := by simpa [doE, k] using he
    obtain ⟨z1, z2⟩ := standE_zero hE
    have hi : o.at'.toNat < p.slots.length := by omega
    have hq : doQ p o = { p with slots := p.slots.eraseIdx o.at'.toNat } := by simp [doQ, k]
    have hl := List.length_eraseIdx_of_lt hi
    have hs := slotSum_erase p.slots o.at'.toNat hi
    rw [z2] at hs
    rw [hq, invO3 k]
    refine ⟨⟨f.num, f.lsn, f.kind0, f.kind1, f.head, by show (p.slots.eraseIdx _).length ≤ 64; omega, by show p.head.size + slotSum (p.slots.eraseIdx _) ≤ 485; omega⟩, ?_, ?_⟩
    · show insE _ _ = 0
      unfold insE
      simp only [hl]
      rw [if_neg (by omega), if_neg (by omega), if_neg (by omega)]
    · show ({ p with slots := insL (p.slots.eraseIdx o.at'.toNat) o.at'.toNat o.old } : SheetV) = p
      rw [← z2, erase_ins _ _ hi]
  · have m := may4 hm k
    have hE : setE p o = 0 := by simpa [doE, k] using he
    unfold setE at hE
    split at hE
    · rename_i hx; exact absurd hE hx
    rename_i hx
    split at hE
    · cases hE
    rename_i hy
    obtain ⟨z1, z2⟩ := standE_zero (Decidable.not_not.1 hx)
    have hi : o.at'.toNat < p.slots.length := by omega
    have hq : doQ p o = { p with slots := p.slots.set o.at'.toNat o.S } := by simp [doQ, k]
    have hs := slotSum_set p.slots o.at'.toNat o.S hi
    rw [z2] at hs
    rw [hq, invO4 (by omega)]
    refine ⟨⟨f.num, f.lsn, f.kind0, f.kind1, f.head, by show (p.slots.set _ _).length ≤ 64; simpa using f1, by show p.head.size + slotSum (p.slots.set _ _) ≤ 485; omega⟩, ?_, ?_⟩
    · have : standE { p with slots := p.slots.set o.at'.toNat o.S } ⟨o.kind, o.at', o.old, o.S⟩ = 0 := by
        unfold standE
        simp only [List.length_set]
        rw [if_neg (by omega), if_neg (by rw [set_getD _ _ _ hi]; simp)]
      simp only [doE, k]
      rw [if_neg (by decide), if_neg (by decide), if_pos trivial]
      rw [k] at this
      unfold setE
      rw [this, if_neg (by simp), if_neg]
      simp only
      omega
    · simp only [doQ, k]
      rw [if_neg (by decide), if_neg (by decide), if_pos trivial, ← z2, set_back _ _ _ hi]
  · have m := may5 hm k
    have hE : headE p o = 0 := by simpa [doE, k] using he
    unfold headE at hE
    split at hE
    · cases hE
    rename_i hx
    split at hE
    · cases hE
    rename_i hy
    have hx' : p.head = o.old := Decidable.not_not.1 hx
    have hq : doQ p o = { p with head := o.S } := by simp [doQ, k]
    rw [hq, invO4 (by omega)]
    refine ⟨⟨f.num, f.lsn, f.kind0, f.kind1, m.2.1, f.len, by show o.S.size + slotSum p.slots ≤ 485; omega⟩, ?_, ?_⟩
    · simp only [doE, k]
      rw [if_neg (by decide), if_neg (by decide), if_neg (by decide), if_pos trivial]
      unfold headE
      rw [if_neg (by simp), if_neg]
      simp only
      rw [← hx']
      omega
    · simp only [doQ, k]
      rw [if_neg (by decide), if_neg (by decide), if_neg (by decide), if_pos trivial, ← hx']
  · have m := may6 hm k
    have hE : putE p o = 0 := by simpa [doE, k] using he
    unfold putE at hE
    split at hE
    · cases hE
    rename_i hx
    split at hE
    · cases hE
    rename_i hy
    have hx1 : 0 < p.slots.length := by omega
    have hx2 : o.at'.toNat + o.S.size ≤ (p.slots.getD 0 ByteArray.empty).size := by omega
    have hy' := Decidable.not_not.1 hy
    obtain ⟨b1, b2, b3⟩ := put_back hx2 m.2.1 hy'
    have hq : doQ p o = { p with slots := p.slots.set 0 (putS (p.slots.getD 0 ByteArray.empty) o.at'.toNat o.S) } := by simp [doQ, k]
    have hs := slotSum_set p.slots 0 (putS (p.slots.getD 0 ByteArray.empty) o.at'.toNat o.S) hx1
    rw [hq, invO4 (by omega)]
    refine ⟨⟨f.num, f.lsn, f.kind0, f.kind1, f.head, by show (p.slots.set _ _).length ≤ 64; simpa using f1, by show p.head.size + slotSum (p.slots.set _ _) ≤ 485; omega⟩, ?_, ?_⟩
    · simp only [doE, k]
      rw [if_neg (by decide), if_neg (by decide), if_neg (by decide), if_neg (by decide), if_pos trivial]
      unfold putE
      simp only
      rw [set_getD _ _ _ hx1, List.length_set, if_neg (by omega), if_neg (by rw [b2]; simp)]
    · simp only [doQ, k]
      rw [if_neg (by decide), if_neg (by decide), if_neg (by decide), if_neg (by decide), if_pos trivial]
      rw [set_getD _ _ _ hx1, b3, set_back _ _ _ hx1]
  · have m := may7 hm k
    have hE : turnE p o = 0 := by simpa [doE, k] using he
    unfold turnE at hE
    split at hE
    · cases hE
    rename_i hx
    split at hE
    · cases hE
    rename_i hy
    have hx0 : p.slots = [] := by cases hp : p.slots with
      | nil => rfl
      | cons a b => rw [hp] at hx; simp at hx
    have hy' : kindS p.kind p.head = o.old := Decidable.not_not.1 hy
    have hq : doQ p o = { p with kind := ((o.S.data.toList.getD 0 0).toNat : Int), head := o.S.extract 1 o.S.size } := by simp [doQ, k]
    have hxs : (o.S.extract 1 o.S.size).size = o.S.size - 1 := by simp [ByteArray.size_extract]
    have hx2 : (o.S.data.toList.getD 0 0).toNat < 256 := (o.S.data.toList.getD 0 0).toNat_lt
    obtain ⟨t1, t2⟩ := turn_back p.kind p.head f.kind0 f.kind1
    rw [hq, invO4 (by omega)]
    refine ⟨⟨f.num, f.lsn, by show (0 : Int) ≤ ((o.S.data.toList.getD 0 0).toNat : Int); omega, by show ((o.S.data.toList.getD 0 0).toNat : Int) ≤ 255; omega, by show (o.S.extract 1 o.S.size).size ≤ 32; omega, f.len, by show (o.S.extract 1 o.S.size).size + slotSum p.slots ≤ 485; rw [hx0]; simp only [slotSum]; omega⟩, ?_, ?_⟩
    · simp only [doE, k]
      rw [if_neg (by decide), if_neg (by decide), if_neg (by decide), if_neg (by decide), if_neg (by decide)]
      unfold turnE
      simp only
      rw [if_neg hx, if_neg (by rw [turn_there _ m.2.1.1]; simp)]
    · simp only [doQ, k]
      rw [if_neg (by decide), if_neg (by decide), if_neg (by decide), if_neg (by decide), if_neg (by decide), ← hy', t1, t2]

end Go.Proofs.YtjemeopafkafgaaGreat

namespace Go.Proofs.YtjemeopafkafgaaGreat
open Go.RowKit Go.Sort
set_option linter.unusedVariables false

/-- Four cells are written. -/
def store4 (w : World) (b : Nat) (v0 v1 v2 v3 : Value) : World := (((w.setCell ⟨b, 0, none⟩ v0).setCell ⟨b, 1, none⟩ v1).setCell ⟨b, 2, none⟩ v2).setCell ⟨b, 3, none⟩ v3

theorem RowV.put4 {w : World} {b : Nat} {u0 u1 u2 u3 : Value} (h : RowV w b 4 (four u0 u1 u2 u3)) (v0 v1 v2 v3 : Value) : RowV (store4 w b v0 v1 v2 v3) b 4 (four v0 v1 v2 v3) :=
  (((h.set0_4 v0).set1_4 v1).set2_4 v2).set3_4 v3

theorem below_set4 {B : Nat} {w wx : World} {b : Nat} (h : Below B w wx) (hb : B ≤ b) (v0 v1 v2 v3 : Value) : Below B w (store4 wx b v0 v1 v2 v3) :=
  (((h.setCell (p := ⟨b, 0, none⟩) hb v0).setCell (p := ⟨b, 1, none⟩) hb v1).setCell (p := ⟨b, 2, none⟩) hb v2).setCell (p := ⟨b, 3, none⟩) hb v3

theorem CopyAt.put {w wx : World} {K A : Int} {S T : ByteArray} (h : CopyAt w wx K A S T) (K' A' : Int) (S' T' : ByteArray) : CopyAt w (store4 wx w.heap.size (.int .i64 K') (.int .i64 A') (.string S') (.string T')) K' A' S' T' :=
  ⟨h.own.put4 _ _ _ _, (((h.res.set_other (by omega) _).set_other (by omega) _).set_other (by omega) _).set_other (by omega) _, below_set4 h.bel (Nat.le_refl _) _ _ _ _, by unfold store4; simpa using h.lt⟩

set_option maxHeartbeats 1600000 in
set_option maxRecDepth 60000 in
theorem inverse_any (o : OpV) (w : World) (h : o.Ok) :
    Calls Tryz.prog 77 #[o.val] w fun e w' => e = .returned (invO o).val ∧ Below w.heap.size w w' := by
  have HC : Hid (∀ wx, Calls Tryz.prog 126 #[o.val] wx fun e w' => e = .returned o.val ∧ Below wx.heap.size wx w') := fun wx => copyOfOp_any o wx h
  obtain ⟨R, HR⟩ : ∃ R, Hid (invO o = R) := ⟨_, rfl⟩
  rw [HR.out]
  have HR2 := HR.out
  unfold invO at HR2
  clear h
  obtain ⟨K, A, S, T⟩ := o
  simp only [OpV.val] at *
  obtain ⟨W, HW⟩ : ∃ W, Hid (W = (w.alloc (.cells #[.int .i64 K, .int .i64 A, .string S, .string T] 48)).alloc (.cells #[.int .i64 0, .int .i64 0, .string ⟨#[]⟩, .string ⟨#[]⟩] 48)) := ⟨_, rfl⟩
  have hp : CopyAt w W K A S T := by
    rw [HW.out]
    refine ⟨(RowV.four_new w _ _ _ _ _).below ((Below.refl _ _).alloc (Nat.le_refl _) _) (by simp), ?_, ((Below.refl _ _).alloc (Nat.le_refl _) _).alloc (by simp) _, by simp⟩
    have := RowV.four_new (w.alloc (.cells #[.int .i64 K, .int .i64 A, .string S, .string T] 48)) (.int .i64 0) (.int .i64 0) (.string ⟨#[]⟩) (.string ⟨#[]⟩) 48
    simpa using this
  go_enter Tryz.func77, Tryz.ntmps77
  go_wp2_with fail
  rw [← HW.out]
  clear HW
  refine (HC.out _).mono ?_
  rintro e w1 ⟨rfl, b1⟩
  have h1 := hp.below b1
  clear hp b1 HC
  obtain ⟨e0, e1, e2, e3⟩ := h1.own.cells4
  obtain ⟨f0, f1, f2, f3⟩ := h1.own.open4
  obtain ⟨y0, y1, y2, y3⟩ := h1.res.cells4
  obtain ⟨g0, g1, g2, g3⟩ := h1.res.open4
  have h2 := h1.put K A S T
  have hz2 : w.heap.size + 1 < w1.heap.size := h1.lt
  by_cases k1 : K = 1
  · subst k1
    rw [if_pos rfl] at HR2
    subst HR2
    clear HR
    go_wp2
    have hr := h2.res.put4 (.int .i64 1) (.int .i64 0) (.string ⟨#[]⟩) (.string ⟨#[]⟩)
    have br := below_set4 h2.bel (b := w.heap.size + 1) (by omega) (.int .i64 1) (.int .i64 0) (.string ⟨#[]⟩) (.string ⟨#[]⟩)
    obtain ⟨WX, HWX⟩ : ∃ WX, Hid (WX = store4 (store4 w1 w.heap.size (.int .i64 1) (.int .i64 A) (.string S) (.string T)) (w.heap.size + 1) (.int .i64 1) (.int .i64 0) (.string ⟨#[]⟩) (.string ⟨#[]⟩)) := ⟨_, rfl⟩
    rw [← HWX.out] at hr br
    obtain ⟨r0, r1, r2, r3⟩ := hr.cells4
    show bodyPost _ _ _ _ _ (store4 (store4 w1 w.heap.size (.int .i64 1) (.int .i64 A) (.string S) (.string T)) (w.heap.size + 1) (.int .i64 1) (.int .i64 0) (.string ⟨#[]⟩) (.string ⟨#[]⟩))
    rw [← HWX.out]
    refine bodyPost_ret (v := .agg #[.int .i64 1, .int .i64 0, .string ⟨#[]⟩, .string ⟨#[]⟩]) (by simp [results, Tryz.results77, go_sem, r0, r1, r2, r3]) rfl ?_
    exact ⟨rfl, br⟩
  by_cases k2 : K = 2
  · subst k2
    simp at HR2
    subst HR2
    clear HR k1
    go_wp2
    have hr := h2.res.put4 (.int .i64 3) (.int .i64 A) (.string ⟨#[]⟩) (.string S)
    have br := below_set4 h2.bel (b := w.heap.size + 1) (by omega) (.int .i64 3) (.int .i64 A) (.string ⟨#[]⟩) (.string S)
    obtain ⟨WX, HWX⟩ : ∃ WX, Hid (WX = store4 (store4 w1 w.heap.size (.int .i64 2) (.int .i64 A) (.string S) (.string T)) (w.heap.size + 1) (.int .i64 3) (.int .i64 A) (.string ⟨#[]⟩) (.string S)) := ⟨_, rfl⟩
    rw [← HWX.out] at hr br
    obtain ⟨r0, r1, r2, r3⟩ := hr.cells4
    show bodyPost _ _ _ _ _ (store4 (store4 w1 w.heap.size (.int .i64 2) (.int .i64 A) (.string S) (.string T)) (w.heap.size + 1) (.int .i64 3) (.int .i64 A) (.string ⟨#[]⟩) (.string S))
    rw [← HWX.out]
    refine bodyPost_ret (v := .agg #[.int .i64 3, .int .i64 A, .string ⟨#[]⟩, .string S]) (by simp [results, Tryz.results77, go_sem, r0, r1, r2, r3]) rfl ?_
    exact ⟨rfl, br⟩
  by_cases k3 : K = 3
  · subst k3
    simp at HR2
    subst HR2
    clear HR k1 k2
    go_wp2
    have hr := h2.res.put4 (.int .i64 2) (.int .i64 A) (.string T) (.string ⟨#[]⟩)
    have br := below_set4 h2.bel (b := w.heap.size + 1) (by omega) (.int .i64 2) (.int .i64 A) (.string T) (.string ⟨#[]⟩)
    obtain ⟨WX, HWX⟩ : ∃ WX, Hid (WX = store4 (store4 w1 w.heap.size (.int .i64 3) (.int .i64 A) (.string S) (.string T)) (w.heap.size + 1) (.int .i64 2) (.int .i64 A) (.string T) (.string ⟨#[]⟩)) := ⟨_, rfl⟩
    rw [← HWX.out] at hr br
    obtain ⟨r0, r1, r2, r3⟩ := hr.cells4
    show bodyPost _ _ _ _ _ (store4 (store4 w1 w.heap.size (.int .i64 3) (.int .i64 A) (.string S) (.string T)) (w.heap.size + 1) (.int .i64 2) (.int .i64 A) (.string T) (.string ⟨#[]⟩))
    rw [← HWX.out]
    refine bodyPost_ret (v := .agg #[.int .i64 2, .int .i64 A, .string T, .string ⟨#[]⟩]) (by simp [results, Tryz.results77, go_sem, r0, r1, r2, r3]) rfl ?_
    exact ⟨rfl, br⟩
  rw [if_neg k1, if_neg k2, if_neg k3] at HR2
  by_cases k4 : 4 ≤ K ∧ K ≤ 7
  · rw [if_pos k4] at HR2
    subst HR2
    clear HR
    have hk : K = 4 ∨ K = 5 ∨ K = 6 ∨ K = 7 := by omega
    have j1 : (K == 1) = false := by rw [beq_eq_false_iff_ne]; exact k1
    have j2 : (K == 2) = false := by rw [beq_eq_false_iff_ne]; exact k2
    have j3 : (K == 3) = false := by rw [beq_eq_false_iff_ne]; exact k3
    rcases hk with hk | hk | hk | hk
    · have j4 : (K == 4) = true := by rw [beq_iff_eq]; exact hk
      clear hk
      have h3 := (h2.own.set2_4 (.string T)).set3_4 (.string S)
      have h3r := (h2.res.set_other (b' := w.heap.size) (k := 2) (by omega) (.string T)).set_other (b' := w.heap.size) (k := 3) (by omega) (.string S)
      have h3b := (h2.bel.setCell (p := ⟨w.heap.size, 2, none⟩) (Nat.le_refl _) (.string T)).setCell (p := ⟨w.heap.size, 3, none⟩) (Nat.le_refl _) (.string S)
      unfold store4 at h3 h3r h3b
      have hr := h3r.put4 (.int .i64 K) (.int .i64 A) (.string T) (.string S)
      have br := below_set4 h3b (b := w.heap.size + 1) (by omega) (.int .i64 K) (.int .i64 A) (.string T) (.string S)
      obtain ⟨WX, HWX⟩ : ∃ WX, Hid (WX = store4 ((((((w1.setCell ⟨w.heap.size, 0, none⟩ (.int .i64 K)).setCell ⟨w.heap.size, 1, none⟩ (.int .i64 A)).setCell ⟨w.heap.size, 2, none⟩ (.string S)).setCell ⟨w.heap.size, 3, none⟩ (.string T)).setCell ⟨w.heap.size, 2, none⟩ (.string T)).setCell ⟨w.heap.size, 3, none⟩ (.string S)) (w.heap.size + 1) (.int .i64 K) (.int .i64 A) (.string T) (.string S)) := ⟨_, rfl⟩
      rw [← HWX.out] at hr br
      clear h1 h2 k1 k2 k3 k4
      obtain ⟨x0, x1, x2, x3⟩ := h3.cells4
      obtain ⟨u0, u1, u2, u3⟩ := h3r.cells4
      obtain ⟨v0, v1, v2, v3⟩ := h3r.open4
      clear h3 h3r h3b
      obtain ⟨r0, r1, r2, r3⟩ := hr.cells4
      clear hr
      go_wp2_with fail
      show bodyPost _ _ _ _ _ (store4 ((((((w1.setCell ⟨w.heap.size, 0, none⟩ (.int .i64 K)).setCell ⟨w.heap.size, 1, none⟩ (.int .i64 A)).setCell ⟨w.heap.size, 2, none⟩ (.string S)).setCell ⟨w.heap.size, 3, none⟩ (.string T)).setCell ⟨w.heap.size, 2, none⟩ (.string T)).setCell ⟨w.heap.size, 3, none⟩ (.string S)) (w.heap.size + 1) (.int .i64 K) (.int .i64 A) (.string T) (.string S))
      rw [← HWX.out]
      refine bodyPost_ret (v := .agg #[.int .i64 K, .int .i64 A, .string T, .string S]) (by simp [results, Tryz.results77, go_sem, r0, r1, r2, r3]) rfl ?_
      exact ⟨rfl, br⟩
    · have j4 : (K == 4) = false := by rw [beq_eq_false_iff_ne]; omega
      have j5 : (K == 5) = true := by rw [beq_iff_eq]; exact hk
      clear hk
      have h3 := (h2.own.set2_4 (.string T)).set3_4 (.string S)
      have h3r := (h2.res.set_other (b' := w.heap.size) (k := 2) (by omega) (.string T)).set_other (b' := w.heap.size) (k := 3) (by omega) (.string S)
      have h3b := (h2.bel.setCell (p := ⟨w.heap.size, 2, none⟩) (Nat.le_refl _) (.string T)).setCell (p := ⟨w.heap.size, 3, none⟩) (Nat.le_refl _) (.string S)
      unfold store4 at h3 h3r h3b
      have hr := h3r.put4 (.int .i64 K) (.int .i64 A) (.string T) (.string S)
      have br := below_set4 h3b (b := w.heap.size + 1) (by omega) (.int .i64 K) (.int .i64 A) (.string T) (.string S)
      obtain ⟨WX, HWX⟩ : ∃ WX, Hid (WX = store4 ((((((w1.setCell ⟨w.heap.size, 0, none⟩ (.int .i64 K)).setCell ⟨w.heap.size, 1, none⟩ (.int .i64 A)).setCell ⟨w.heap.size, 2, none⟩ (.string S)).setCell ⟨w.heap.size, 3, none⟩ (.string T)).setCell ⟨w.heap.size, 2, none⟩ (.string T)).setCell ⟨w.heap.size, 3, none⟩ (.string S)) (w.heap.size + 1) (.int .i64 K) (.int .i64 A) (.string T) (.string S)) := ⟨_, rfl⟩
      rw [← HWX.out] at hr br
      clear h1 h2 k1 k2 k3 k4
      obtain ⟨x0, x1, x2, x3⟩ := h3.cells4
      obtain ⟨u0, u1, u2, u3⟩ := h3r.cells4
      obtain ⟨v0, v1, v2, v3⟩ := h3r.open4
      clear h3 h3r h3b
      obtain ⟨r0, r1, r2, r3⟩ := hr.cells4
      clear hr
      go_wp2_with fail
      show bodyPost _ _ _ _ _ (store4 ((((((w1.setCell ⟨w.heap.size, 0, none⟩ (.int .i64 K)).setCell ⟨w.heap.size, 1, none⟩ (.int .i64 A)).setCell ⟨w.heap.size, 2, none⟩ (.string S)).setCell ⟨w.heap.size, 3, none⟩ (.string T)).setCell ⟨w.heap.size, 2, none⟩ (.string T)).setCell ⟨w.heap.size, 3, none⟩ (.string S)) (w.heap.size + 1) (.int .i64 K) (.int .i64 A) (.string T) (.string S))
      rw [← HWX.out]
      refine bodyPost_ret (v := .agg #[.int .i64 K, .int .i64 A, .string T, .string S]) (by simp [results, Tryz.results77, go_sem, r0, r1, r2, r3]) rfl ?_
      exact ⟨rfl, br⟩
    · have j4 : (K == 4) = false := by rw [beq_eq_false_iff_ne]; omega
      have j5 : (K == 5) = false := by rw [beq_eq_false_iff_ne]; omega
      have j6 : (K == 6) = true := by rw [beq_iff_eq]; exact hk
      clear hk
      have h3 := (h2.own.set2_4 (.string T)).set3_4 (.string S)
      have h3r := (h2.res.set_other (b' := w.heap.size) (k := 2) (by omega) (.string T)).set_other (b' := w.heap.size) (k := 3) (by omega) (.string S)
      have h3b := (h2.bel.setCell (p := ⟨w.heap.size, 2, none⟩) (Nat.le_refl _) (.string T)).setCell (p := ⟨w.heap.size, 3, none⟩) (Nat.le_refl _) (.string S)
      unfold store4 at h3 h3r h3b
      have hr := h3r.put4 (.int .i64 K) (.int .i64 A) (.string T) (.string S)
      have br := below_set4 h3b (b := w.heap.size + 1) (by omega) (.int .i64 K) (.int .i64 A) (.string T) (.string S)
      obtain ⟨WX, HWX⟩ : ∃ WX, Hid (WX = store4 ((((((w1.setCell ⟨w.heap.size, 0, none⟩ (.int .i64 K)).setCell ⟨w.heap.size, 1, none⟩ (.int .i64 A)).setCell ⟨w.heap.size, 2, none⟩ (.string S)).setCell ⟨w.heap.size, 3, none⟩ (.string T)).setCell ⟨w.heap.size, 2, none⟩ (.string T)).setCell ⟨w.heap.size, 3, none⟩ (.string S)) (w.heap.size + 1) (.int .i64 K) (.int .i64 A) (.string T) (.string S)) := ⟨_, rfl⟩
      rw [← HWX.out] at hr br
      clear h1 h2 k1 k2 k3 k4
      obtain ⟨x0, x1, x2, x3⟩ := h3.cells4
      obtain ⟨u0, u1, u2, u3⟩ := h3r.cells4
      obtain ⟨v0, v1, v2, v3⟩ := h3r.open4
      clear h3 h3r h3b
      obtain ⟨r0, r1, r2, r3⟩ := hr.cells4
      clear hr
      go_wp2_with fail
      show bodyPost _ _ _ _ _ (store4 ((((((w1.setCell ⟨w.heap.size, 0, none⟩ (.int .i64 K)).setCell ⟨w.heap.size, 1, none⟩ (.int .i64 A)).setCell ⟨w.heap.size, 2, none⟩ (.string S)).setCell ⟨w.heap.size, 3, none⟩ (.string T)).setCell ⟨w.heap.size, 2, none⟩ (.string T)).setCell ⟨w.heap.size, 3, none⟩ (.string S)) (w.heap.size + 1) (.int .i64 K) (.int .i64 A) (.string T) (.string S))
      rw [← HWX.out]
      refine bodyPost_ret (v := .agg #[.int .i64 K, .int .i64 A, .string T, .string S]) (by simp [results, Tryz.results77, go_sem, r0, r1, r2, r3]) rfl ?_
      exact ⟨rfl, br⟩
    · have j4 : (K == 4) = false := by rw [beq_eq_false_iff_ne]; omega
      have j5 : (K == 5) = false := by rw [beq_eq_false_iff_ne]; omega
      have j6 : (K == 6) = false := by rw [beq_eq_false_iff_ne]; omega
      have j7 : (K == 7) = true := by rw [beq_iff_eq]; exact hk
      clear hk
      have h3 := (h2.own.set2_4 (.string T)).set3_4 (.string S)
      have h3r := (h2.res.set_other (b' := w.heap.size) (k := 2) (by omega) (.string T)).set_other (b' := w.heap.size) (k := 3) (by omega) (.string S)
      have h3b := (h2.bel.setCell (p := ⟨w.heap.size, 2, none⟩) (Nat.le_refl _) (.string T)).setCell (p := ⟨w.heap.size, 3, none⟩) (Nat.le_refl _) (.string S)
      unfold store4 at h3 h3r h3b
      have hr := h3r.put4 (.int .i64 K) (.int .i64 A) (.string T) (.string S)
      have br := below_set4 h3b (b := w.heap.size + 1) (by omega) (.int .i64 K) (.int .i64 A) (.string T) (.string S)
      obtain ⟨WX, HWX⟩ : ∃ WX, Hid (WX = store4 ((((((w1.setCell ⟨w.heap.size, 0, none⟩ (.int .i64 K)).setCell ⟨w.heap.size, 1, none⟩ (.int .i64 A)).setCell ⟨w.heap.size, 2, none⟩ (.string S)).setCell ⟨w.heap.size, 3, none⟩ (.string T)).setCell ⟨w.heap.size, 2, none⟩ (.string T)).setCell ⟨w.heap.size, 3, none⟩ (.string S)) (w.heap.size + 1) (.int .i64 K) (.int .i64 A) (.string T) (.string S)) := ⟨_, rfl⟩
      rw [← HWX.out] at hr br
      clear h1 h2 k1 k2 k3 k4
      obtain ⟨x0, x1, x2, x3⟩ := h3.cells4
      obtain ⟨u0, u1, u2, u3⟩ := h3r.cells4
      obtain ⟨v0, v1, v2, v3⟩ := h3r.open4
      clear h3 h3r h3b
      obtain ⟨r0, r1, r2, r3⟩ := hr.cells4
      clear hr
      go_wp2_with fail
      show bodyPost _ _ _ _ _ (store4 ((((((w1.setCell ⟨w.heap.size, 0, none⟩ (.int .i64 K)).setCell ⟨w.heap.size, 1, none⟩ (.int .i64 A)).setCell ⟨w.heap.size, 2, none⟩ (.string S)).setCell ⟨w.heap.size, 3, none⟩ (.string T)).setCell ⟨w.heap.size, 2, none⟩ (.string T)).setCell ⟨w.heap.size, 3, none⟩ (.string S)) (w.heap.size + 1) (.int .i64 K) (.int .i64 A) (.string T) (.string S))
      rw [← HWX.out]
      refine bodyPost_ret (v := .agg #[.int .i64 K, .int .i64 A, .string T, .string S]) (by simp [results, Tryz.results77, go_sem, r0, r1, r2, r3]) rfl ?_
      exact ⟨rfl, br⟩
  · rw [if_neg k4] at HR2
    subst HR2
    clear HR
    have j1 : (K == 1) = false := by rw [beq_eq_false_iff_ne]; exact k1
    have j2 : (K == 2) = false := by rw [beq_eq_false_iff_ne]; exact k2
    have j3 : (K == 3) = false := by rw [beq_eq_false_iff_ne]; exact k3
    have j4 : (K == 4) = false := by rw [beq_eq_false_iff_ne]; omega
    have j5 : (K == 5) = false := by rw [beq_eq_false_iff_ne]; omega
    have j6 : (K == 6) = false := by rw [beq_eq_false_iff_ne]; omega
    have j7 : (K == 7) = false := by rw [beq_eq_false_iff_ne]; omega
    go_wp2
    have hr := h2.res.put4 (.int .i64 K) (.int .i64 A) (.string S) (.string T)
    have br := below_set4 h2.bel (b := w.heap.size + 1) (by omega) (.int .i64 K) (.int .i64 A) (.string S) (.string T)
    obtain ⟨WX, HWX⟩ : ∃ WX, Hid (WX = store4 (store4 w1 w.heap.size (.int .i64 K) (.int .i64 A) (.string S) (.string T)) (w.heap.size + 1) (.int .i64 K) (.int .i64 A) (.string S) (.string T)) := ⟨_, rfl⟩
    rw [← HWX.out] at hr br
    obtain ⟨r0, r1, r2, r3⟩ := hr.cells4
    show bodyPost _ _ _ _ _ (store4 (store4 w1 w.heap.size (.int .i64 K) (.int .i64 A) (.string S) (.string T)) (w.heap.size + 1) (.int .i64 K) (.int .i64 A) (.string S) (.string T))
    rw [← HWX.out]
    refine bodyPost_ret (v := .agg #[.int .i64 K, .int .i64 A, .string S, .string T]) (by simp [results, Tryz.results77, go_sem, r0, r1, r2, r3]) rfl ?_
    exact ⟨rfl, br⟩

end Go.Proofs.YtjemeopafkafgaaGreat

namespace Go.Proofs.YtjemeopafkafgaaGreat
open Go.RowKit Go.Sort
set_option linter.unusedVariables false
set_option linter.unusedSimpArgs false

section
variable {w : World} {m p : Nat} {X : Int → Nat} {A : Nat → Prop} {P : PG} {l : LG} {d : DG} {M : MgG}

set_option maxHeartbeats 6400000 in
set_option maxRecDepth 20000 in
theorem back1_any (h : MSys w m p X A P l d M) (mb : Nat) (hmb : w.cell? ⟨mb, 0, none⟩ = some (.pointer (some ⟨m, 0, none⟩))) (hnA : ¬ A mb) (n : Int) (r : RecV) (ta da : Option Addr) (tc dc : Nat) (at' : Nat) (P' : PG) (l' : LG) (M' : MgG) (hin : ∀ wx, Calls Tryz.prog 77 #[r.op.val] wx fun e w' => e = .returned (invO r.op).val ∧ Below wx.heap.size wx w')
    (hcomp : ∀ wx, Below w.heap.size w wx → Calls Tryz.prog 76 #[.pointer (some ⟨m, 0, none⟩), .int .i64 n, .int .u32 r.page, (invO r.op).val, .int .u64 r.prev] wx fun e w' => e = .returned (.tuple #[.int .u64 at', .int .i64 0]) ∧ ∃ A', MSys w' m p X A' P' l' d M' ∧ Moves A A' wx w') :
    Calls Tryz.prog 75 #[.int .i64 n, .agg (r.cells ta da tc dc), .pointer (some ⟨mb, 0, none⟩)] w fun e w' => e = .returned (.int .i64 0) ∧ ∃ A', MSys w' m p X A' P' l' d M' ∧ Moves A A' w w' := by
  obtain ⟨W, HW⟩ : ∃ W, Hid (W = w.alloc (.cells (r.cells ta da tc dc) 56)) := ⟨_, rfl⟩
  have bW : Below w.heap.size w W := by rw [HW.out]; exact (Below.refl _ _).alloc (Nat.le_refl _) _
  have xW : Blk W w.heap.size (r.cells ta da tc dc) 56 := by rw [HW.out]; exact Blk.made _ _ _
  have hmW : W.cell? ⟨mb, 0, none⟩ = some (.pointer (some ⟨m, 0, none⟩)) := (bW.cell (p := ⟨mb, 0, none⟩) (World.block_lt_of_cell? _ _ hmb)).trans hmb
  have hnR : ¬ A w.heap.size := fun x => by have := h.lt _ x; omega
  have HPAR : Hid (r.cells ta da tc dc = #[.int .i64 r.kind, .int .i64 r.tx, .int .u64 r.prev, .int .u64 r.next, .int .u32 r.page, .int .i64 r.op.kind, .int .i64 r.op.at', .string r.op.S, .string r.op.old, .int .i64 r.undo, .int .i64 r.index, .string r.key, .int .u32 r.rpage, .int .i64 r.rslot, .bool r.live, .slice ta r.txs.length tc, .slice da r.dirty.length dc]) := rfl
  have HS : Hid (∀ wy : World, wy.heap[w.heap.size]? = W.heap[w.heap.size]? → wy.heap[mb]? = W.heap[mb]? → wy.cell? ⟨mb, 0, none⟩ = some (.pointer (some ⟨m, 0, none⟩)) ∧ wy.cell? ⟨w.heap.size, 2, none⟩ = some (.int .u64 r.prev) ∧ wy.cell? ⟨w.heap.size, 4, none⟩ = some (.int .u32 r.page) ∧ wy.cell? ⟨w.heap.size, 5, none⟩ = some (.int .i64 r.op.kind) ∧ wy.cell? ⟨w.heap.size, 6, none⟩ = some (.int .i64 r.op.at') ∧ wy.cell? ⟨w.heap.size, 7, none⟩ = some (.string r.op.S) ∧ wy.cell? ⟨w.heap.size, 8, none⟩ = some (.string r.op.old)) := fun wy e1 e2 => by
    have x := xW.same e1
    exact ⟨(World.cell?_of_block (w := W) (a := ⟨mb, 0, none⟩) e2).trans hmW, x.cell 2, x.cell 4, x.cell 5, x.cell 6, x.cell 7, x.cell 8⟩
  have hml : mb < W.heap.size := World.block_lt_of_cell? _ _ hmW
  have HIN : Hid (Calls Tryz.prog 77 #[.agg #[.int .i64 r.op.kind, .int .i64 r.op.at', .string r.op.S, .string r.op.old]] W.drew fun e w' => e = .returned (.agg #[.int .i64 (invO r.op).kind, .int .i64 (invO r.op).at', .string (invO r.op).S, .string (invO r.op).old]) ∧ (w'.heap[w.heap.size]? = W.heap[w.heap.size]? ∧ w'.heap[mb]? = W.heap[mb]?) ∧ Hid (Below W.heap.size W w')) := by
    refine (hin W.drew).mono ?_
    rintro e w' ⟨rfl, b⟩
    have b' : Below W.heap.size W w' := ((Below.refl _ _).drew).trans b
    exact ⟨rfl, ⟨b'.block _ xW.lt, b'.block _ hml⟩, hidx b'⟩
  have HCM : Hid (∀ wx, Hid (Below W.heap.size W wx) → Calls Tryz.prog 76 #[.pointer (some ⟨m, 0, none⟩), .int .i64 n, .int .u32 r.page, .agg #[.int .i64 (invO r.op).kind, .int .i64 (invO r.op).at', .string (invO r.op).S, .string (invO r.op).old], .int .u64 r.prev] wx fun e w' => e = .returned (.tuple #[.int .u64 at', .int .i64 0]) ∧ (w'.heap[w.heap.size]? = W.heap[w.heap.size]? ∧ w'.heap[mb]? = W.heap[mb]?) ∧ Hid (∃ A', MSys w' m p X A' P' l' d M' ∧ Moves A A' w w')) := fun wx bx => by
    refine (hcomp wx (below_chain bW bx.out)).mono ?_
    rintro e w' ⟨rfl, A', k1, k2⟩
    have hz := bx.out.size
    have := xW.lt
    exact ⟨rfl, ⟨(k2.off (by omega) hnR).1.trans (bx.out.block _ xW.lt), (k2.off (by omega) hnA).1.trans (bx.out.block _ hml)⟩, hidx ⟨A', k1, (Moves.of_kept (Kept.of_below (below_chain bW bx.out))).trans k2⟩⟩
  generalize invO r.op = io at *
  clear h hmb hnA bW xW hmW hnR hml hin hcomp
  rw [HPAR.out]
  go_enter Tryz.func75, Tryz.ntmps75
  go_upto_region 1 with fail
  rw [← HPAR.out, ← HW.out]
  clear HW HPAR
  go_region_held3 (fun wy => wy.cell? ⟨mb, 0, none⟩ = some (.pointer (some ⟨m, 0, none⟩)) ∧ wy.cell? ⟨w.heap.size, 2, none⟩ = some (.int .u64 r.prev) ∧ wy.cell? ⟨w.heap.size, 4, none⟩ = some (.int .u32 r.page) ∧ wy.cell? ⟨w.heap.size, 5, none⟩ = some (.int .i64 r.op.kind) ∧ wy.cell? ⟨w.heap.size, 6, none⟩ = some (.int .i64 r.op.at') ∧ wy.cell? ⟨w.heap.size, 7, none⟩ = some (.string r.op.S) ∧ wy.cell? ⟨w.heap.size, 8, none⟩ = some (.string r.op.old)) (first | exact HS.out W.drew rfl rfl | exact HS.out _ q6.1 q6.2 | exact HS.out _ q5.1 q5.2)
    (first
      | (go_at_call 77; refine HIN.out.mono ?_; rintro e w5 ⟨rfl, q5, b5⟩)
      | (go_at_call 76; refine (HCM.out _ b5).mono ?_; rintro e w6 ⟨rfl, q6, HF⟩))
  go_wp2
  go_ret
  exact ⟨rfl, HF.out⟩

end

end Go.Proofs.YtjemeopafkafgaaGreat
