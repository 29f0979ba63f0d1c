/-
  A full leaf that is cut in two leaves room in both halves: the numbers.
  The mathematics of NodeLeaves: entries in their order, a list of items that rises, the place of an entry in it.
  page.Apply of the changes of NodeLeaves.
-/
import Derived.Test.YtnljephojonilaaNodeHalfC
import Derived.Test.YtnljephojonilaaNodeLawC
import Derived.Test.YtnljephojonilaaPageChange4C
namespace Go.Proofs.Ytnljephojonilaa
open Go.RowKit Go.Sort
set_option linter.unusedVariables false
set_option linter.unusedSimpArgs false

theorem slotSum_sz (L : List ByteArray) : slotSum L = szN L + 2 * L.length := by
  induction L with
  | nil => simp [slotSum, szN]
  | cons s L ih => simp only [slotSum, szN, List.length_cons, ih]; omega

theorem szN_le {L : List ByteArray} {n : Nat} (h : ∀ s ∈ L, s.size ≤ n) : szN L ≤ n * L.length := by
  induction L with
  | nil => simp [szN]
  | cons s L ih =>
    have h1 := h s (by simp)
    have h2 := ih (fun x hx => h x (by simp [hx]))
    simp only [szN, List.length_cons, Nat.mul_add, Nat.mul_one]; omega

theorem szN_take_drop (L : List ByteArray) (k : Nat) : szN (L.take k) + szN (L.drop k) = szN L := by
  rw [← szN_append, List.take_append_drop]

theorem szN_take_succ (L : List ByteArray) (k : Nat) (h : k < L.length) : szN (L.take (k + 1)) = szN (L.take k) + L[k].size := by
  rw [← List.take_append_getElem h, szN_append]; simp [szN]

/-- The place where a page is cut. -/
theorem half_place (L : List ByteArray) (hs : ∀ s ∈ L, s.size ≤ 71) (hl : L.length ≤ 64) (h0 : 0 < L.length) :
    ∃ k : Nat, hIdx L = k ∧ k < L.length ∧ szN L ≤ 2 * szN (L.take (k + 1)) ∧ (0 < k → 2 * szN (L.take k) < szN L) := by
  have hsz := szN_le hs
  have hacc : ∀ k, accF L k = szN (L.take k) := fun k => by
    have h1 := szN_take_drop L k
    unfold accF wrap64; omega
  have hhit : ∀ k, hitF L k = decide (szN L ≤ 2 * szN (L.take (k + 1))) := fun k => by
    have h1 := szN_take_drop L (k + 1)
    unfold hitF
    rw [hacc, hacc, List.take_length]
    unfold wrap64
    rw [decide_eq_decide]
    omega
  have hlast : hitF L (L.length - 1) = true := by
    rw [hhit, show L.length - 1 + 1 = L.length from by omega, List.take_length, decide_eq_true_eq]; omega
  have hex : ∃ x ∈ List.range L.length, hitF L x = true := ⟨L.length - 1, by simp; omega, hlast⟩
  have hlt := List.findIdx_lt_length.2 hex
  refine ⟨(List.range L.length).findIdx (hitF L), by unfold hIdx idxF; rw [if_pos hlt], by simpa using hlt, ?_, ?_⟩
  · have := List.findIdx_getElem (w := hlt)
    rw [List.getElem_range, hhit, decide_eq_true_eq] at this
    exact this
  · intro hk
    have := List.not_of_lt_findIdx (p := hitF L) (xs := List.range L.length) (i := (List.range L.length).findIdx (hitF L) - 1) (by omega)
    simp only [List.getElem_range] at this
    rw [hhit, decide_eq_false_iff_not, show (List.range L.length).findIdx (hitF L) - 1 + 1 = (List.range L.length).findIdx (hitF L) from by omega] at this
    omega

theorem halves (L : List ByteArray) (hs : ∀ s ∈ L, s.size ≤ 71) (hl : L.length ≤ 64) (hsum : slotSum L ≤ 481) (hfull : 64 ≤ L.length ∨ 408 < slotSum L) :
    ∃ h : Nat, halfF L = h ∧ 1 ≤ h ∧ h < L.length ∧ 4 ≤ L.length ∧ slotSum (L.take h) ≤ 408 ∧ slotSum (L.drop h) ≤ 408 := by
  rw [slotSum_sz] at hsum hfull
  have hsz := szN_le hs
  have h4 : 4 ≤ L.length := by omega
  obtain ⟨k, hk, hkl, hk1, hk2⟩ := half_place L hs hl (by omega)
  have hsk := hs L[k] (List.getElem_mem hkl)
  have hts := szN_take_succ L k hkl
  by_cases k0 : k = 0
  · subst k0
    have ht0 : szN (L.take 0) = 0 := by simp [szN]
    have htd := szN_take_drop L 1
    refine ⟨1, ?_, by omega, by omega, h4, ?_, ?_⟩
    · unfold halfF; rw [hk]; omega
    · rw [slotSum_sz, List.length_take]; simp only [Nat.zero_add] at hts hk1; omega
    · rw [slotSum_sz, List.length_drop]; simp only [Nat.zero_add] at hts hk1; omega
  · have hk3 := hk2 (by omega)
    have htd := szN_take_drop L k
    refine ⟨k, ?_, by omega, hkl, h4, ?_, ?_⟩
    · unfold halfF; rw [hk]; omega
    · rw [slotSum_sz, List.length_take]; omega
    · rw [slotSum_sz, List.length_drop]; omega

/-- Is a leaf with these slots full? -/
theorem full_leaf (lsn next : Nat) (L : List ByteArray) (h : slotSum L ≤ 1000000) : fullB ⟨3, lsn, 3, num4 next, L⟩ = (decide (64 ≤ L.length) || decide (408 < slotSum L)) := by
  unfold fullB mostN roomF
  simp only [num4_size]
  rw [wrap_small (by omega) (by omega)]
  congr 1
  rw [decide_eq_decide]
  simp only [show ¬ ((3 : Int) = 4) by omega, if_false]
  omega

/-- What the leaf of NodeHalves keeps. -/
structure HInv (M : List ItemV) : Prop where
  len : M.length ≤ 64
  sum : slotSum (M.map ItemV.bs) ≤ 481
  may : ∀ x ∈ M, x.e.May
  key : ∀ x ∈ M, x.e.key.size ≤ 64

theorem HInv.sizes {M : List ItemV} (h : HInv M) : ∀ s ∈ M.map ItemV.bs, s.size ≤ 71 := by
  intro s hs
  obtain ⟨x, hx, rfl⟩ := List.mem_map.1 hs
  rw [ItemV.bs_size]
  have := h.key x hx
  omega

theorem HInv.fits {M : List ItemV} (h : HInv M) {lsn next : Nat} (hl : lsn < 18446744073709551616) : (leafV lsn next M).Fits := leafV_fits hl h.len (by have := h.sum; omega)

theorem HInv.nil : HInv [] := ⟨by simp, by simp [slotSum], by simp, by simp⟩

theorem HInv.ins {M : List ItemV} (h : HInv M) (k : Nat) {x : ItemV} (hx : x.e.May) (hk : x.e.key.size ≤ 64) (hl : M.length < 64) (hs : slotSum (M.map ItemV.bs) ≤ 408) : HInv (insN M k x) := by
  refine ⟨by rw [insN_length]; omega, ?_, fun y hy => ?_, fun y hy => ?_⟩
  · rw [insN_map, slotSum_ins, ItemV.bs_size]; omega
  · rcases insN_mem hy with rfl | hy
    · exact hx
    · exact h.may y hy
  · rcases insN_mem hy with rfl | hy
    · exact hk
    · exact h.key y hy

end Go.Proofs.Ytnljephojonilaa

namespace Go.Proofs.Ytnljephojonilaa
set_option linter.unusedVariables false

theorem bless_trans {x y z : List UInt8} (h : Go.Op.bytesLess x y = true) (k : Go.Op.bytesLess y z = true) : Go.Op.bytesLess x z = true := by
  induction x generalizing y z with
  | nil => cases y with
    | nil => simp [Go.Op.bytesLess] at h
    | cons b y => cases z with
      | nil => simp [Go.Op.bytesLess] at k
      | cons c z => rfl
  | cons a x ih => cases y with
    | nil => simp [Go.Op.bytesLess] at h
    | cons b y => cases z with
      | nil => simp [Go.Op.bytesLess] at k
      | cons c z =>
        rw [bless_cons] at h k ⊢
        simp only [Bool.or_eq_true, decide_eq_true_eq, Bool.and_eq_true, beq_iff_eq] at h k ⊢
        rcases h with h | ⟨rfl, h⟩ <;> rcases k with k | ⟨rfl, k⟩
        · exact Or.inl (UInt8.lt_trans h k)
        · exact Or.inl h
        · exact Or.inl k
        · exact Or.inr ⟨rfl, ih h k⟩

theorem ltE_irrefl (a : EntV) : ltE a a = false := by simp [ltE]

theorem ltE_iff (a b : EntV) : ltE a b = true ↔ Go.Op.bytesLess a.key.toList b.key.toList = true ∨ (a.key.toList = b.key.toList ∧ (a.page < b.page ∨ (a.page = b.page ∧ a.slot < b.slot))) := by
  unfold ltE
  by_cases hk : a.key.toList = b.key.toList
  · have hi : Go.Op.bytesLess a.key.toList b.key.toList = false := by rw [hk]; exact bless_irrefl _
    rw [if_pos hk, hi]
    by_cases hp : (a.page : Int) = b.page
    · rw [if_pos hp]; simp only [decide_eq_true_eq, Bool.false_eq_true, false_or]
      constructor
      · intro h; exact ⟨hk, Or.inr ⟨by omega, h⟩⟩
      · rintro ⟨_, h | h⟩ <;> omega
    · rw [if_neg hp]; simp only [decide_eq_true_eq, Bool.false_eq_true, false_or]
      constructor
      · intro h; exact ⟨hk, Or.inl (by omega)⟩
      · rintro ⟨_, h | h⟩ <;> omega
  · rw [if_neg hk]
    constructor
    · exact Or.inl
    · rintro (h | h)
      · exact h
      · exact absurd h.1 hk

theorem ltE_trans {a b c : EntV} (h : ltE a b = true) (k : ltE b c = true) : ltE a c = true := by
  rw [ltE_iff] at h k ⊢
  rcases h with h | ⟨e, h⟩ <;> rcases k with k | ⟨f, k⟩
  · exact Or.inl (bless_trans h k)
  · rw [f] at h; exact Or.inl h
  · rw [← e] at k; exact Or.inl k
  · exact Or.inr ⟨e.trans f, by omega⟩

theorem ltE_total (a b : EntV) : ltE a b = true ∨ a = b ∨ ltE b a = true := by
  rw [ltE_iff, ltE_iff]
  rcases bless_total a.key.toList b.key.toList with h | h | h
  · exact Or.inl (Or.inl h)
  · by_cases h1 : a.page < b.page
    · exact Or.inl (Or.inr ⟨h, Or.inl h1⟩)
    · by_cases h2 : b.page < a.page
      · exact Or.inr (Or.inr (Or.inr ⟨h.symm, Or.inl h2⟩))
      · have hp : a.page = b.page := by omega
        by_cases h3 : a.slot < b.slot
        · exact Or.inl (Or.inr ⟨h, Or.inr ⟨hp, h3⟩⟩)
        · by_cases h4 : b.slot < a.slot
          · exact Or.inr (Or.inr (Or.inr ⟨h.symm, Or.inr ⟨hp.symm, h4⟩⟩))
          · refine Or.inr (Or.inl ((eqE_iff a b).1 ?_))
            unfold eqE
            simp only [Bool.and_eq_true, decide_eq_true_eq]
            exact ⟨⟨h, by omega⟩, by omega⟩
  · exact Or.inr (Or.inr (Or.inl h))

theorem ltE_asymm {a b : EntV} (h : ltE a b = true) : ltE b a = false ∧ a ≠ b := by
  refine ⟨?_, fun k => by rw [k, ltE_irrefl] at h; cases h⟩
  cases k : ltE b a with
  | false => rfl
  | true => have := ltE_trans h k; rw [ltE_irrefl] at this; cases this

/-- A list of items that rises. -/
def Rises (M : List ItemV) : Prop := M.Pairwise fun x y => ltE x.e y.e = true

/-- The place of an entry: all ahead of it are less, the one there is not. -/
structure IsPlace (M : List ItemV) (e : EntV) (k : Nat) : Prop where
  le : k ≤ M.length
  less : ∀ j (h : j < M.length), j < k → ltE M[j].e e = true
  stop : ∀ h : k < M.length, ltE M[k].e e = false

/-- Does the entry stand at its place? -/
def thereF (M : List ItemV) (e : EntV) (k : Nat) : Bool := if h : k < M.length then eqE M[k].e e else false

theorem Rises.lt {M : List ItemV} (h : Rises M) {i j : Nat} (hi : i < M.length) (hj : j < M.length) (hij : i < j) : ltE M[i].e M[j].e = true := List.pairwise_iff_getElem.1 h i j hi hj hij

theorem findF_rises {M : List ItemV} {e : EntV} {k : Nat} (h : Rises M) (p : IsPlace M e k) : findF M e = ((k : Int), thereF M e k) := by
  unfold findF thereF
  by_cases hk : k < M.length
  · rw [dif_pos hk]
    cases he : eqE M[k].e e with
    | true =>
      have : idxF (fun x => eqE x.e e) M = k := idxF_hit hk he fun j hj hjk => by
        cases hq : eqE M[j].e e with
        | false => rfl
        | true => have := p.less j hj hjk; rw [(eqE_iff _ _).1 hq, ltE_irrefl] at this; cases this
      rw [this, if_pos (by omega)]
    | false =>
      have gt : ltE e M[k].e = true := by
        rcases ltE_total M[k].e e with q | q | q
        · rw [p.stop hk] at q; cases q
        · rw [(eqE_iff _ _).2 q] at he; cases he
        · exact q
      have hm : idxF (fun x => eqE x.e e) M = -1 := idxF_miss fun j hj => by
        cases hq : eqE M[j].e e with
        | false => rfl
        | true =>
          have hq' := (eqE_iff _ _).1 hq
          by_cases hjk : j < k
          · have := p.less j hj hjk; rw [hq', ltE_irrefl] at this; cases this
          · by_cases hjk' : j = k
            · subst hjk'; rw [hq] at he; cases he
            · have := ltE_trans gt (h.lt hk hj (by omega)); rw [hq', ltE_irrefl] at this; cases this
      have hg : idxF (fun x => gtE x.e e) M = k := idxF_hit hk (by rw [gtE_iff]; exact gt) fun j hj hjk => by
        rw [gtE_iff]; exact (ltE_asymm (p.less j hj hjk)).1
      rw [hm, hg, if_neg (by omega), if_pos (by omega)]
  · rw [dif_neg hk]
    have hl : k = M.length := by have := p.le; omega
    have hm : idxF (fun x => eqE x.e e) M = -1 := idxF_miss fun j hj => by
      cases hq : eqE M[j].e e with
      | false => rfl
      | true => have := p.less j hj (by omega); rw [(eqE_iff _ _).1 hq, ltE_irrefl] at this; cases this
    have hg : idxF (fun x => gtE x.e e) M = -1 := idxF_miss fun j hj => by
      rw [gtE_iff]; exact (ltE_asymm (p.less j hj (by omega))).1
    rw [hm, hg, if_neg (by omega), if_neg (by omega), hl]

theorem Rises.nil : Rises [] := List.Pairwise.nil

/-- One is put in at its place. -/
theorem Rises.ins {M : List ItemV} {x : ItemV} {k : Nat} (h : Rises M) (p : IsPlace M x.e k) (ht : thereF M x.e k = false) : Rises (insN M k x) := by
  have gt : ∀ j (hj : j < M.length), k ≤ j → ltE x.e M[j].e = true := by
    intro j hj hkj
    have hk : k < M.length := by omega
    have g0 : ltE x.e M[k].e = true := by
      rcases ltE_total M[k].e x.e with q | q | q
      · rw [p.stop hk] at q; cases q
      · unfold thereF at ht; rw [dif_pos hk, (eqE_iff _ _).2 q] at ht; cases ht
      · exact q
    by_cases hjk : j = k
    · subst hjk; exact g0
    · exact ltE_trans g0 (h.lt hk hj (by omega))
  unfold Rises insN
  rw [List.pairwise_append, List.pairwise_cons]
  refine ⟨h.sublist (List.take_sublist _ _), ⟨?_, h.sublist (List.drop_sublist _ _)⟩, ?_⟩
  · intro y hy
    obtain ⟨i, hi, rfl⟩ := List.getElem_of_mem hy
    rw [List.getElem_drop]
    exact gt _ _ (by omega)
  · intro y hy z hz
    obtain ⟨i, hi, rfl⟩ := List.getElem_of_mem hy
    have hi' : i < k ∧ i < M.length := by rw [List.length_take] at hi; omega
    rw [List.getElem_take]
    have l1 := p.less i hi'.2 hi'.1
    rcases List.mem_cons.1 hz with rfl | hz
    · exact l1
    · obtain ⟨j, hj, rfl⟩ := List.getElem_of_mem hz
      rw [List.getElem_drop]
      exact ltE_trans l1 (gt _ _ (by omega))

/-- One is taken out. -/
theorem Rises.del {M : List ItemV} (h : Rises M) (k : Nat) : Rises (M.eraseIdx k) := h.sublist (List.eraseIdx_sublist ..)

/-- One is turned. -/
theorem Rises.turn {M : List ItemV} (h : Rises M) (k : Nat) (hk : k < M.length) (x : ItemV) (he : x.e = M[k].e) : Rises (M.set k x) := by
  refine List.pairwise_iff_getElem.2 fun i j hi hj hij => ?_
  have hi' : i < M.length := by simpa using hi
  have hj' : j < M.length := by simpa using hj
  have := h.lt hi' hj' hij
  rw [List.getElem_set, List.getElem_set]
  by_cases h1 : k = i <;> by_cases h2 : k = j
  · omega
  · subst h1; rw [if_pos rfl, if_neg h2, he]; exact this
  · subst h2; rw [if_neg h1, if_pos rfl, he]; exact this
  · rw [if_neg h1, if_neg h2]; exact this

end Go.Proofs.Ytnljephojonilaa

namespace Go.Proofs.Ytnljephojonilaa
open Go.RowKit Go.Sort
set_option linter.unusedVariables false
set_option linter.unusedSimpArgs false

theorem item_get {M : List ItemV} {i : Nat} (hi : i < M.length) : (M.map ItemV.bs).getD i ByteArray.empty = (M[i]).bs := by
  rw [List.getD_eq_getElem?_getD, List.getElem?_eq_getElem (by rw [List.length_map]; exact hi)]; simp

theorem HInv.size {M : List ItemV} (h : HInv M) {i : Nat} (hi : i < M.length) : (M[i]).bs.size ≤ 71 := by
  rw [ItemV.bs_size]; have := h.key M[i] (List.getElem_mem hi); omega

/-- Does one more item fit? -/
def fitB (M : List ItemV) (x : ItemV) : Bool := decide (4 + slotSum (M.map ItemV.bs) + (2 + x.bs.size) ≤ 485)

theorem HInv.ins' {M : List ItemV} (h : HInv M) (k : Nat) {x : ItemV} (hx : x.e.May) (hk : x.e.key.size ≤ 64) (hl : M.length < 64) (hf : fitB M x = true) : HInv (insN M k x) := by
  unfold fitB at hf
  rw [decide_eq_true_eq] at hf
  refine ⟨by rw [insN_length]; omega, ?_, fun y hy => ?_, fun y hy => ?_⟩
  · rw [insN_map, slotSum_ins]; omega
  · rcases insN_mem hy with rfl | hy
    · exact hx
    · exact h.may y hy
  · rcases insN_mem hy with rfl | hy
    · exact hk
    · exact h.key y hy

theorem lvSum_erase (L : List ByteArray) (i : Nat) (hi : i < L.length) : slotSum (L.eraseIdx i) + (2 + L[i].size) = slotSum L := by
  induction L generalizing i with
  | nil => simp at hi
  | cons s L ih => cases i with
    | zero => simp [slotSum]; omega
    | succ i =>
      have := ih i (by simpa using hi)
      simp only [List.eraseIdx_cons_succ, slotSum, List.getElem_cons_succ] at this ⊢
      omega

theorem lvSum_set (L : List ByteArray) (i : Nat) (hi : i < L.length) (s : ByteArray) : slotSum (L.set i s) + L[i].size = slotSum L + s.size := by
  induction L generalizing i with
  | nil => simp at hi
  | cons t L ih => cases i with
    | zero => simp [slotSum]; omega
    | succ i =>
      have := ih i (by simpa using hi)
      simp only [List.set_cons_succ, slotSum, List.getElem_cons_succ] at this ⊢
      omega

theorem erase_map (M : List ItemV) (i : Nat) : (M.map ItemV.bs).eraseIdx i = (M.eraseIdx i).map ItemV.bs := by
  induction M generalizing i with
  | nil => simp
  | cons x M ih => cases i with
    | zero => simp
    | succ i => simp [ih]

theorem HInv.del {M : List ItemV} (h : HInv M) (i : Nat) (hi : i < M.length) : HInv (M.eraseIdx i) := by
  refine ⟨by have := h.len; rw [List.length_eraseIdx]; split <;> omega, ?_, fun y hy => h.may y (List.mem_of_mem_eraseIdx hy), fun y hy => h.key y (List.mem_of_mem_eraseIdx hy)⟩
  have := lvSum_erase (M.map ItemV.bs) i (by rw [List.length_map]; exact hi)
  rw [erase_map] at this
  have := h.sum
  omega

theorem HInv.turn {M : List ItemV} (h : HInv M) (i : Nat) (hi : i < M.length) {y : ItemV} (he : y.e = M[i].e) : HInv (M.set i y) := by
  have hs := lvSum_set (M.map ItemV.bs) i (by rw [List.length_map]; exact hi) y.bs
  rw [List.getElem_map, ItemV.bs_size, ItemV.bs_size, he] at hs
  refine ⟨by rw [List.length_set]; exact h.len, ?_, fun z hz => ?_, fun z hz => ?_⟩
  · have := h.sum
    rw [List.map_set]; omega
  · rcases List.mem_or_eq_of_mem_set hz with hz | rfl
    · exact h.may z hz
    · rw [he]; exact h.may _ (List.getElem_mem hi)
  · rcases List.mem_or_eq_of_mem_set hz with hz | rfl
    · exact h.key z hz
    · rw [he]; exact h.key _ (List.getElem_mem hi)

theorem apply_linsN {lsn next : Nat} {M : List ItemV} {w : World} {a : Option Addr} {c : Nat} (k : Nat) (x : ItemV) (h : HInv M) (hl : lsn < 18446744073709551616) (hk : k ≤ M.length) (hM : M.length < 63) (hx : x.e.key.size ≤ 64) (hs : StrsAt w a (M.map ItemV.bs)) (hf : fitB M x = true) :
    Calls Try.prog 8 #[(leafV lsn next M).val a c, (OpV.mk 2 k x.bs ⟨#[]⟩).val, .int .u64 2] w fun e w' => ∃ a' c', e = .returned (.tuple #[(leafV 2 next (insN M k x)).val a' c', .int .i64 0]) ∧ Below w.heap.size w w' ∧ StrsFrom w.heap.size w' a' ((insN M k x).map ItemV.bs) := by
  have hxs : x.bs.size ≤ 71 := by rw [ItemV.bs_size]; omega
  have hE : insE (leafV lsn next M) (OpV.mk 2 k x.bs ⟨#[]⟩) = 0 := by
    unfold fitB at hf
    rw [decide_eq_true_eq] at hf
    unfold insE
    rw [if_neg (by show ¬ ((M.map ItemV.bs).length : Int) < (k : Int); rw [List.length_map]; omega), if_neg (by show ¬ 64 ≤ (M.map ItemV.bs).length; rw [List.length_map]; omega), if_neg (by show ¬ 485 < (num4 next).size + slotSum (M.map ItemV.bs) + (2 + x.bs.size); rw [num4_size]; omega)]
  have hd := change_ins (h.fits hl (next := next)) (opIns_ok k x.bs (by omega) (by omega)) rfl (show (0 : Int) ≤ (k : Int) by omega)
  rw [show insE (leafV lsn next M) (opIns k x.bs) = 0 from hE] at hd
  refine (applyN (c := c) 2 (SheetV.Fits.ok (h.fits hl) hs) (h.fits hl) (opIns_ok k x.bs (by omega) (by omega)) (opIns_chk k x.bs (by omega) (by omega)) hd).mono ?_
  rintro e w' ⟨a', c', rfl, b, hq⟩
  have hm : insL (leafV lsn next M).slots ((opIns k x.bs).at').toNat (opIns k x.bs).S = (insN M k x).map ItemV.bs := by
    show insL (M.map ItemV.bs) ((k : Int)).toNat x.bs = _
    rw [show ((k : Int)).toNat = k from by omega, insN_map]
  rw [hm] at hq
  refine ⟨a', c', ?_, b, hq⟩
  rw [hm]
  rfl

theorem apply_linsE {lsn next : Nat} {M : List ItemV} {w : World} {a : Option Addr} {c : Nat} (k : Nat) (x : ItemV) (h : HInv M) (hl : lsn < 18446744073709551616) (hk : k ≤ M.length) (hM : M.length < 63) (hx : x.e.key.size ≤ 64) (hs : StrsAt w a (M.map ItemV.bs)) (hf : fitB M x = false) :
    Calls Try.prog 8 #[(leafV lsn next M).val a c, (OpV.mk 2 k x.bs ⟨#[]⟩).val, .int .u64 2] w fun e w' => e = .returned (.tuple #[sheet0.val none 0, .int .i64 30]) ∧ Below w.heap.size w w' := by
  have hxs : x.bs.size ≤ 71 := by rw [ItemV.bs_size]; omega
  have hE : insE (leafV lsn next M) (OpV.mk 2 k x.bs ⟨#[]⟩) = 30 := by
    unfold fitB at hf
    rw [decide_eq_false_iff_not] at hf
    unfold insE
    rw [if_neg (by show ¬ ((M.map ItemV.bs).length : Int) < (k : Int); rw [List.length_map]; omega), if_neg (by show ¬ 64 ≤ (M.map ItemV.bs).length; rw [List.length_map]; omega), if_pos (by show 485 < (num4 next).size + slotSum (M.map ItemV.bs) + (2 + x.bs.size); rw [num4_size]; omega)]
  have hd := change_ins (h.fits hl (next := next)) (opIns_ok k x.bs (by omega) (by omega)) rfl (show (0 : Int) ≤ (k : Int) by omega)
  rw [show insE (leafV lsn next M) (opIns k x.bs) = 30 from hE] at hd
  exact applyE (c := c) 2 (SheetV.Fits.ok (h.fits hl) hs) (h.fits hl) (opIns_ok k x.bs (by omega) (by omega)) (opIns_chk k x.bs (by omega) (by omega)) hd (by omega)

theorem apply_lset {lsn next : Nat} {M : List ItemV} {w : World} {a : Option Addr} {c : Nat} (i : Nat) (y : ItemV) (h : HInv M) (hl : lsn < 18446744073709551616) (hi : i < M.length) (he : y.e = M[i].e) (hs : StrsAt w a (M.map ItemV.bs)) :
    Calls Try.prog 8 #[(leafV lsn next M).val a c, (opSetN (leafV lsn next M) i y.bs).val, .int .u64 2] w fun e w' => ∃ a' c', e = .returned (.tuple #[(leafV 2 next (M.set i y)).val a' c', .int .i64 0]) ∧ Below w.heap.size w w' ∧ StrsFrom w.heap.size w' a' ((M.set i y).map ItemV.bs) := by
  have hsum := h.sum
  have hlen := h.len
  have hsz := h.size hi
  have hys : y.bs.size = (M[i]).bs.size := by rw [ItemV.bs_size, ItemV.bs_size, he]
  have hget := item_get hi
  have hok : (opSetN (leafV lsn next M) i y.bs).Ok := by
    refine ⟨by show (-9223372036854775808 : Int) ≤ 4 ∧ (4 : Int) ≤ _; omega, by show (-9223372036854775808 : Int) ≤ (i : Int) ∧ (i : Int) ≤ _; omega, by show y.bs.size ≤ _; omega, ?_⟩
    show ((M.map ItemV.bs).getD i ByteArray.empty).size ≤ _
    rw [hget]; omega
  have hch : chkB (opSetN (leafV lsn next M) i y.bs) = true := by
    refine chk_of ?_ ?_ ?_
    · show y.bs.size ≤ 512; omega
    · show ((M.map ItemV.bs).getD i ByteArray.empty).size ≤ 512
      rw [hget]; omega
    · show mayP (opSetN (leafV lsn next M) i y.bs)
      unfold mayP
      rw [if_neg (show ¬ (opSetN (leafV lsn next M) i y.bs).kind = 1 by show ¬ ((4 : Int) = 1); omega), if_neg (show ¬ (opSetN (leafV lsn next M) i y.bs).kind = 2 by show ¬ ((4 : Int) = 2); omega), if_neg (show ¬ (opSetN (leafV lsn next M) i y.bs).kind = 3 by show ¬ ((4 : Int) = 3); omega), if_pos (show (opSetN (leafV lsn next M) i y.bs).kind = 4 from rfl)]
      show (0 : Int) ≤ (i : Int) ∧ (i : Int) ≤ 63
      omega
  have hE : setE (leafV lsn next M) (opSetN (leafV lsn next M) i y.bs) = 0 := by
    have hst : standE (leafV lsn next M) (opSetN (leafV lsn next M) i y.bs) = 0 := by
      unfold standE
      rw [if_neg (by show ¬ ((M.map ItemV.bs).length : Int) ≤ (i : Int); rw [List.length_map]; omega), if_neg (by
        show ¬ (M.map ItemV.bs).getD ((i : Int)).toNat ByteArray.empty ≠ (M.map ItemV.bs).getD i ByteArray.empty
        rw [show ((i : Int)).toNat = i from by omega]; simp)]
    unfold setE
    rw [hst, if_neg (by simp), if_neg (by show ¬ 485 + ((M.map ItemV.bs).getD i ByteArray.empty).size < (num4 next).size + slotSum (M.map ItemV.bs) + y.bs.size; rw [num4_size, hget]; omega)]
  have hd := change_set (p := leafV lsn next M) (h.fits hl) hok rfl (show (0 : Int) ≤ (i : Int) by omega)
  rw [hE] at hd
  refine (applyN (c := c) 2 (SheetV.Fits.ok (h.fits hl) hs) (h.fits hl) hok hch hd).mono ?_
  rintro e w' ⟨a', c', rfl, b, hq⟩
  have hm : (leafV lsn next M).slots.set ((opSetN (leafV lsn next M) i y.bs).at').toNat (opSetN (leafV lsn next M) i y.bs).S = (M.set i y).map ItemV.bs := by
    show (M.map ItemV.bs).set ((i : Int)).toNat y.bs = _
    rw [show ((i : Int)).toNat = i from by omega, List.map_set]
  rw [hm] at hq
  refine ⟨a', c', ?_, b, hq⟩
  rw [hm]
  rfl

theorem apply_ltake {lsn next : Nat} {M : List ItemV} {w : World} {a : Option Addr} {c : Nat} (i : Nat) (h : HInv M) (hl : lsn < 18446744073709551616) (hi : i < M.length) (hs : StrsAt w a (M.map ItemV.bs)) :
    Calls Try.prog 8 #[(leafV lsn next M).val a c, (opTake (leafV lsn next M) i).val, .int .u64 2] w fun e w' => ∃ a' c', e = .returned (.tuple #[(leafV 2 next (M.eraseIdx i)).val a' c', .int .i64 0]) ∧ Below w.heap.size w w' ∧ StrsFrom w.heap.size w' a' ((M.eraseIdx i).map ItemV.bs) := by
  have hlen := h.len
  have hsz := h.size hi
  have hget := item_get hi
  have hok : (opTake (leafV lsn next M) i).Ok := by
    refine ⟨by show (-9223372036854775808 : Int) ≤ 3 ∧ (3 : Int) ≤ _; omega, by show (-9223372036854775808 : Int) ≤ (i : Int) ∧ (i : Int) ≤ _; omega, by show (0 : Nat) ≤ _; omega, ?_⟩
    show ((M.map ItemV.bs).getD i ByteArray.empty).size ≤ _
    rw [hget]; omega
  have hch : chkB (opTake (leafV lsn next M) i) = true := by
    refine chk_of ?_ ?_ ?_
    · show (0 : Nat) ≤ 512; omega
    · show ((M.map ItemV.bs).getD i ByteArray.empty).size ≤ 512
      rw [hget]; omega
    · show mayP (opTake (leafV lsn next M) i)
      unfold mayP
      rw [if_neg (show ¬ (opTake (leafV lsn next M) i).kind = 1 by show ¬ ((3 : Int) = 1); omega), if_neg (show ¬ (opTake (leafV lsn next M) i).kind = 2 by show ¬ ((3 : Int) = 2); omega), if_pos (show (opTake (leafV lsn next M) i).kind = 3 from rfl)]
      exact ⟨⟨by show (0 : Int) ≤ (i : Int); omega, by show (i : Int) ≤ 63; omega⟩, rfl⟩
  have hst : standE (leafV lsn next M) (opTake (leafV lsn next M) i) = 0 := by
    unfold standE
    rw [if_neg (by show ¬ ((M.map ItemV.bs).length : Int) ≤ (i : Int); rw [List.length_map]; omega), if_neg (by
      show ¬ (M.map ItemV.bs).getD ((i : Int)).toNat ByteArray.empty ≠ (M.map ItemV.bs).getD i ByteArray.empty
      rw [show ((i : Int)).toNat = i from by omega]; simp)]
  have hd := change_rem (p := leafV lsn next M) (h.fits hl) hok rfl (show (0 : Int) ≤ (i : Int) by omega)
  rw [hst] at hd
  refine (applyN (c := c) 2 (SheetV.Fits.ok (h.fits hl) hs) (h.fits hl) hok hch hd).mono ?_
  rintro e w' ⟨a', c', rfl, b, hq⟩
  have hm : (leafV lsn next M).slots.eraseIdx ((opTake (leafV lsn next M) i).at').toNat = (M.eraseIdx i).map ItemV.bs := by
    show (M.map ItemV.bs).eraseIdx ((i : Int)).toNat = _
    rw [show ((i : Int)).toNat = i from by omega, erase_map]
  rw [hm] at hq
  refine ⟨a', c', ?_, b, hq⟩
  rw [hm]
  rfl

theorem apply_llink {lsn next : Nat} {M : List ItemV} {w : World} {a : Option Addr} {c : Nat} (n : Nat) (h : HInv M) (hl : lsn < 18446744073709551616) (hs : StrsAt w a (M.map ItemV.bs)) :
    Calls Try.prog 8 #[(leafV lsn next M).val a c, (opLink (leafV lsn next M) n).val, .int .u64 2] w fun e w' => ∃ a' c', e = .returned (.tuple #[(leafV 2 n M).val a' c', .int .i64 0]) ∧ Below w.heap.size w w' ∧ StrsFrom w.heap.size w' a' (M.map ItemV.bs) := by
  have hsum := h.sum
  have hok : (opLink (leafV lsn next M) n).Ok := by
    refine ⟨by show (-9223372036854775808 : Int) ≤ 5 ∧ (5 : Int) ≤ _; omega, by show (-9223372036854775808 : Int) ≤ 0 ∧ (0 : Int) ≤ _; omega, by show (num4 n).size ≤ _; rw [num4_size]; omega, by show (num4 next).size ≤ _; rw [num4_size]; omega⟩
  have hch : chkB (opLink (leafV lsn next M) n) = true := by
    refine chk_of ?_ ?_ ?_
    · show (num4 n).size ≤ 512; rw [num4_size]; omega
    · show (num4 next).size ≤ 512; rw [num4_size]; omega
    · show mayP (opLink (leafV lsn next M) n)
      unfold mayP
      rw [if_neg (show ¬ (opLink (leafV lsn next M) n).kind = 1 by show ¬ ((5 : Int) = 1); omega), if_neg (show ¬ (opLink (leafV lsn next M) n).kind = 2 by show ¬ ((5 : Int) = 2); omega), if_neg (show ¬ (opLink (leafV lsn next M) n).kind = 3 by show ¬ ((5 : Int) = 3); omega), if_neg (show ¬ (opLink (leafV lsn next M) n).kind = 4 by show ¬ ((5 : Int) = 4); omega), if_pos (show (opLink (leafV lsn next M) n).kind = 5 from rfl)]
      first
        | (refine ⟨?_, ?_, ?_⟩ <;> first | rfl | (show (num4 _).size ≤ 32; rw [num4_size]; omega))
        | (refine ⟨?_, ?_⟩ <;> first | rfl | (show (num4 _).size ≤ 32; rw [num4_size]; omega))
  have hE : headE (leafV lsn next M) (opLink (leafV lsn next M) n) = 0 := by
    unfold headE
    rw [if_neg (by show ¬ (num4 next ≠ num4 next); simp), if_neg (by show ¬ 485 < (num4 n).size + slotSum (M.map ItemV.bs); rw [num4_size]; omega)]
  have hd := change_head (p := leafV lsn next M) (h.fits hl) hok rfl
  rw [hE] at hd
  refine (applyN (c := c) 2 (SheetV.Fits.ok (h.fits hl) hs) (h.fits hl) hok hch hd).mono ?_
  rintro e w' ⟨a', c', rfl, b, hq⟩
  exact ⟨a', c', rfl, b, hq⟩

end Go.Proofs.Ytnljephojonilaa
