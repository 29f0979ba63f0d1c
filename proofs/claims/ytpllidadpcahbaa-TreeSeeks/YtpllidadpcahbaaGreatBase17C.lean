/-
  The mathematics of TreeSeeks: how many entries stand ahead of one, and what Seek, Behind and Find find.
  What Seek, Behind and Find tell of a tree that laid made, by how many entries stand ahead.
-/
import Derived.Test.YtpllidadpcahbaaGreatBase16C
import Derived.Test.YtpllidadpcahbaaGreatBase12C
namespace Go.Proofs.YtpllidadpcahbaaGreat
open Go.RowKit Go.Sort
set_option linter.unusedVariables false
set_option linter.unusedSimpArgs false

/-- How many stand ahead of e. -/
def cntB (L : List EntV) (e : EntV) : Nat := (L.filter fun x => ltE x e).length

theorem cntB_spec {e : EntV} : ∀ {L : List EntV}, (L.Pairwise fun x y => ltE x y = true) → cntB L e ≤ L.length ∧ (∀ j (h : j < L.length), j < cntB L e → ltE L[j] e = true) ∧ ∀ j (h : j < L.length), cntB L e ≤ j → ltE L[j] e = false
  | [], _ => ⟨Nat.zero_le _, fun j h => by simp at h, fun j h => by simp at h⟩
  | x :: L, hp => by
    rw [List.pairwise_cons] at hp
    obtain ⟨i1, i2, i3⟩ := cntB_spec (e := e) hp.2
    unfold cntB at *
    cases hx : ltE x e with
    | true =>
      rw [List.filter_cons, if_pos hx, List.length_cons]
      refine ⟨by rw [List.length_cons]; omega, fun j h hj => ?_, fun j h hj => ?_⟩
      · cases j with
        | zero => exact hx
        | succ j => exact i2 j (by simpa using h) (by omega)
      · cases j with
        | zero => omega
        | succ j => exact i3 j (by simpa using h) (by omega)
    | false =>
      have hall : ∀ y ∈ L, ltE y e = false := fun y hy => by
        cases hye : ltE y e with
        | false => rfl
        | true => rw [ltE_trans (hp.1 y hy) hye] at hx; cases hx
      have hnil : L.filter (fun y => ltE y e) = [] := List.filter_eq_nil_iff.2 fun y hy => by rw [hall y hy]; simp
      rw [List.filter_cons, if_neg (by rw [hx]; simp), hnil]
      refine ⟨Nat.zero_le _, fun j h hj => by simp at hj, fun j h hj => ?_⟩
      cases j with
      | zero => exact hx
      | succ j => exact hall _ (List.getElem_mem (by simpa using h))

/-- The items of all leaves from D on. -/
theorem from_chunks {L : List EntV} {k : Nat} : ∀ (n D : Nat), L.length ≤ (D + n) * k → fromL (fun i => live (chunk L k i)) D n = live (L.drop (D * k))
  | 0, D, h => by
    rw [List.drop_eq_nil_of_le (by simpa using h)]; rfl
  | n + 1, D, h => by
    show live (chunk L k D) ++ fromL (fun i => live (chunk L k i)) (D + 1) n = _
    rw [from_chunks n (D + 1) (by rw [show D + 1 + n = D + (n + 1) by omega]; exact h)]
    unfold live chunk
    rw [← List.map_append]
    congr 1
    rw [Nat.add_mul, Nat.one_mul, ← List.drop_drop, List.take_append_drop]

theorem find_drop {L : List EntV} {q : EntV → Bool} {c : Nat} (h1 : ∀ j (h : j < L.length), j < c → q L[j] = false) (h2 : ∀ h : c < L.length, q L[c] = true) (hc : c ≤ L.length) {m : Nat} (hm : m ≤ c) : (live (L.drop m)).find? (fun x => q x.e) = (L[c]?).map fun e => ⟨e, true⟩ := by
  unfold live
  rw [List.find?_map]
  have : (L.drop m).find? ((fun x : ItemV => q x.e) ∘ fun e => (⟨e, true⟩ : ItemV)) = L[c]? := by
    show (L.drop m).find? q = L[c]?
    by_cases hcl : c < L.length
    · rw [List.getElem?_eq_getElem hcl, List.find?_eq_some_iff_getElem]
      refine ⟨h2 hcl, c - m, by rw [List.length_drop]; omega, ?_, fun j hj => ?_⟩
      · rw [List.getElem_drop]; congr 1; omega
      · rw [List.getElem_drop, h1 (m + j) (by omega) (by omega)]; rfl
    · rw [List.getElem?_eq_none (by omega), List.find?_eq_none]
      intro x hx
      obtain ⟨j, hj, rfl⟩ := List.getElem_of_mem hx
      rw [List.length_drop] at hj
      rw [List.getElem_drop, h1 (m + j) (by omega) (by omega)]; simp
  rw [this]

end Go.Proofs.YtpllidadpcahbaaGreat

namespace Go.Proofs.YtpllidadpcahbaaGreat
open Go.RowKit Go.Sort
set_option linter.unusedVariables false
set_option linter.unusedSimpArgs false

section
variable {L : List EntV} {k N : Nat} {e : EntV} {D : Nat}

theorem kid_plain (i : Nat) (h : 0 < i) : kidE L k 0 false i = L.getD (i * k) zeroE := by
  unfold kidE
  rw [if_neg (by simp), if_neg (by simp), if_pos h]

theorem down_lo (hL : SortedE L) (hk : 1 ≤ k) (hc : IsCnt L.length k N) (hD : DownIs (kids L k N 0 false) e D) (hDN : D < N) : D * k ≤ cntB L e := by
  obtain ⟨c1, c2, c3⟩ := cntB_spec (e := e) hL.rise
  by_cases h0 : D = 0
  · subst h0; simp
  · have hin := hc.in hDN (.inr (by omega))
    rcases hD.1 with q | ⟨hl, hg⟩
    · exact absurd q h0
    · have e1 : (kids L k N 0 false)[D].e = L.getD (D * k) zeroE := by
        have := kids_at (L := L) (k := k) (N := N) (odd := 0) (sp := false) hDN
        rw [List.getElem?_eq_getElem hl] at this
        rw [Option.some.inj this]
        exact kid_plain D (by omega)
      rw [e1, gtE_iff] at hg
      rcases Nat.lt_or_ge (cntB L e) (D * k) with r | r
      · have hb := c3 (cntB L e) (by omega) (Nat.le_refl _)
        have hlt := hL.lt r hin
        rw [List.getD_eq_getElem?_getD, List.getElem?_eq_getElem (by omega : cntB L e < L.length)] at hlt
        have : ltE L[cntB L e] e = true := by
          rcases ltE_total (L.getD (D * k) zeroE) e with t | t | t
          · exact ltE_trans hlt t
          · rw [t] at hlt; exact hlt
          · rw [hg] at t; cases t
        rw [hb] at this; cases this
      · exact r

theorem down_hi (hL : SortedE L) (hD : DownIs (kids L k N 0 false) e D) (hDN : D + 1 < N) : ltE e (L.getD ((D + 1) * k) zeroE) = true := by
  have hl : D + 1 < (kids L k N 0 false).length := by rw [kids_length]; exact hDN
  have := hD.2 (D + 1) hl (by omega)
  have e1 : (kids L k N 0 false)[D + 1].e = L.getD ((D + 1) * k) zeroE := by
    have h2 := kids_at (L := L) (k := k) (N := N) (odd := 0) (sp := false) hDN
    rw [List.getElem?_eq_getElem hl] at h2
    rw [Option.some.inj h2]
    exact kid_plain (D + 1) (by omega)
  rw [e1, gtE_iff] at this
  exact this

/-- Whether e is there. -/
def thereB (L : List EntV) (e : EntV) : Bool := match L[cntB L e]? with | some x => eqE x e | none => false

theorem there_iff : thereB L e = true ↔ L[cntB L e]? = some e := by
  unfold thereB
  cases h : L[cntB L e]? with
  | none => simp
  | some x => simp only [Option.some.injEq]; exact eqE_iff x e

theorem lvs_zero (i : Nat) : lvs L k N 0 i = chunk L k i := by unfold lvs; rw [if_neg (by omega), if_neg (by omega)]

theorem from_zero (hc : IsCnt L.length k N) (hk : 1 ≤ k) (hDN : D < N) : fromL (fun i => live (lvs L k N 0 i)) D (N - D) = live (L.drop (D * k)) := by
  have e : (fun i => live (lvs L k N 0 i)) = fun i => live (chunk L k i) := by funext i; rw [lvs_zero]
  rw [e]
  refine from_chunks _ _ ?_
  rw [show D + (N - D) = N by omega]
  rcases hc with ⟨h1, _⟩ | ⟨_, _, _, h⟩
  · omega
  · exact h

/-- What Seek finds. -/
theorem seek_at (hL : SortedE L) (hk : 1 ≤ k) (hc : IsCnt L.length k N) (hD : DownIs (kids L k N 0 false) e D) (hDN : D < N) :
    (fromL (fun i => live (lvs L k N 0 i)) D (N - D)).find? (fun x => !ltE x.e e) = (L[cntB L e]?).map fun x => ⟨x, true⟩ := by
  obtain ⟨c1, c2, c3⟩ := cntB_spec (e := e) hL.rise
  rw [from_zero hc hk hDN]
  exact find_drop (q := fun x => !ltE x e) (fun j h hj => by rw [c2 j h hj]; rfl) (fun h => by rw [c3 _ h (Nat.le_refl _)]; rfl) c1 (down_lo hL hk hc hD hDN)

/-- What Behind finds. -/
theorem behind_at (hL : SortedE L) (hk : 1 ≤ k) (hc : IsCnt L.length k N) (hD : DownIs (kids L k N 0 false) e D) (hDN : D < N) :
    (fromL (fun i => live (lvs L k N 0 i)) D (N - D)).find? (fun x => ltE e x.e) = (L[if thereB L e = true then cntB L e + 1 else cntB L e]?).map fun x => ⟨x, true⟩ := by
  obtain ⟨c1, c2, c3⟩ := cntB_spec (e := e) hL.rise
  have hlo := down_lo hL hk hc hD hDN
  have hget : ∀ j (h : j < L.length), L.getD j zeroE = L[j] := fun j h => by rw [List.getD_eq_getElem?_getD, List.getElem?_eq_getElem h]; rfl
  rw [from_zero hc hk hDN]
  by_cases ht : thereB L e = true
  · rw [if_pos ht]
    have h1 := there_iff.1 ht
    obtain ⟨hlt, he⟩ := List.getElem?_eq_some_iff.1 h1
    refine find_drop (q := fun x => ltE e x) (fun j h hj => ?_) (fun h => ?_) (by omega) (by omega)
    · rcases Nat.lt_or_ge j (cntB L e) with r | r
      · exact (ltE_asymm (c2 j h r)).1
      · obtain rfl : j = cntB L e := by omega
        rw [he]; exact ltE_irrefl e
    · have := hL.lt (Nat.lt_succ_self (cntB L e)) h
      rw [hget _ hlt, hget _ h, he] at this
      exact this
  · rw [if_neg ht]
    refine find_drop (q := fun x => ltE e x) (fun j h hj => (ltE_asymm (c2 j h hj)).1) (fun h => ?_) c1 hlo
    have h3 := c3 _ h (Nat.le_refl _)
    rcases ltE_total e L[cntB L e] with t | t | t
    · exact t
    · exact absurd (there_iff.2 (by rw [List.getElem?_eq_getElem h, ← t])) ht
    · rw [h3] at t; cases t

/-- What Find finds. -/
theorem find_at (hL : SortedE L) (hk : 1 ≤ k) (hc : IsCnt L.length k N) (hD : DownIs (kids L k N 0 false) e D) (hDN : D < N) {y : ItemV} {fd : Bool} (h : (fd = true ∧ y ∈ live (lvs L k N 0 D) ∧ y.e = e) ∨ (fd = false ∧ ∀ x ∈ live (lvs L k N 0 D), x.e ≠ e)) : fd = thereB L e := by
  obtain ⟨c1, c2, c3⟩ := cntB_spec (e := e) hL.rise
  have hlo := down_lo hL hk hc hD hDN
  rw [lvs_zero] at h
  rcases h with ⟨rfl, hy, he⟩ | ⟨rfl, hn⟩
  · symm
    rw [there_iff]
    unfold live at hy
    obtain ⟨x, hx, rfl⟩ := List.mem_map.1 hy
    have hx2 : x = e := he
    subst hx2
    obtain ⟨j, hj, hjl, ej⟩ := mem_chunk hx
    have hg : L[D * k + j] = x := by rw [ej, List.getD_eq_getElem?_getD, List.getElem?_eq_getElem hjl]; rfl
    have : cntB L x = D * k + j := by
      rcases Nat.lt_trichotomy (cntB L x) (D * k + j) with r | r | r
      · have h3 := c3 _ (by omega) (Nat.le_refl _)
        have := hL.lt r hjl
        rw [← ej, List.getD_eq_getElem?_getD, List.getElem?_eq_getElem (by omega : cntB L x < L.length)] at this
        rw [show (some L[cntB L x]).getD zeroE = L[cntB L x] from rfl, h3] at this
        cases this
      · exact r
      · have := c2 _ hjl r
        rw [hg, ltE_irrefl] at this; cases this
    rw [this, List.getElem?_eq_getElem hjl, hg]
  · symm
    cases ht : thereB L e with
    | false => rfl
    | true =>
      exfalso
      have h1 := there_iff.1 ht
      obtain ⟨hlt, he⟩ := List.getElem?_eq_some_iff.1 h1
      have hub : cntB L e < D * k + k := by
        by_cases hN : D + 1 < N
        · rcases Nat.lt_or_ge (cntB L e) (D * k + k) with r | r
          · exact r
          · have hhi := down_hi hL hD hN
            have hin := hc.in hN (.inr (by omega))
            rw [Nat.add_mul, Nat.one_mul] at hhi hin
            have : L.getD (cntB L e) zeroE = e := by rw [List.getD_eq_getElem?_getD, h1]; rfl
            rcases Nat.lt_or_ge (D * k + k) (cntB L e) with s | s
            · have := hL.lt s hlt
              rw [‹L.getD (cntB L e) zeroE = e›, (ltE_asymm hhi).1] at this
              cases this
            · have e2 : cntB L e = D * k + k := by omega
              rw [← e2, this, ltE_irrefl] at hhi; cases hhi
        · rcases hc with ⟨h1, _⟩ | ⟨_, _, _, h⟩
          · omega
          · have : N = D + 1 := by omega
            rw [this, Nat.add_mul, Nat.one_mul] at h
            omega
      have hjc : cntB L e - D * k < (chunk L k D).length := by rw [chunk_length]; omega
      refine hn ⟨e, true⟩ ?_ rfl
      unfold live
      refine List.mem_map.2 ⟨e, ?_, rfl⟩
      have hg := chunk_get L k D _ hjc
      rw [show D * k + (cntB L e - D * k) = cntB L e by omega, List.getD_eq_getElem?_getD, h1] at hg
      have := List.getElem_mem hjc
      rw [hg] at this
      exact this

end

end Go.Proofs.YtpllidadpcahbaaGreat
