/-
  A full leaf that is cut in two leaves room in both halves: the numbers.
  The call of slices.Insert at texts, with what is known of the capacity.
-/
import Derived.Test.YtplcojfogfikfaaNodeHalfC
import Derived.Test.YtplcojfogfikfaaNodeLawC
import Derived.Test.YtplcojfogfikfaaBase5C
namespace Go.Proofs.Ytplcojfogfikfaa
open Go.RowKit Go.Sort
set_option linter.unusedVariables false
set_option linter.unusedSimpArgs false

theorem slotSum_sz (L : List ByteArray) : slotSum L = szN L + 2 * L.length := by
  induction L with
  | nil => simp [slotSum, szN]
  | cons s L ih => simp only [slotSum, szN, List.length_cons, ih]; omega

theorem szN_le {L : List ByteArray} {n : Nat} (h : ∀ s ∈ L, s.size ≤ n) : szN L ≤ n * L.length := by
  induction L with
  | nil => simp [szN]
  | cons s L ih =>
    have h1 := h s (by simp)
    have h2 := ih (fun x hx => h x (by simp [hx]))
    simp only [szN, List.length_cons, Nat.mul_add, Nat.mul_one]; omega

theorem szN_take_drop (L : List ByteArray) (k : Nat) : szN (L.take k) + szN (L.drop k) = szN L := by
  rw [← szN_append, List.take_append_drop]

theorem szN_take_succ (L : List ByteArray) (k : Nat) (h : k < L.length) : szN (L.take (k + 1)) = szN (L.take k) + L[k].size := by
  rw [← List.take_append_getElem h, szN_append]; simp [szN]

/-- The place where a page is cut. -/
theorem half_place (L : List ByteArray) (hs : ∀ s ∈ L, s.size ≤ 71) (hl : L.length ≤ 64) (h0 : 0 < L.length) :
    ∃ k : Nat, hIdx L = k ∧ k < L.length ∧ szN L ≤ 2 * szN (L.take (k + 1)) ∧ (0 < k → 2 * szN (L.take k) < szN L) := by
  have hsz := szN_le hs
  have hacc : ∀ k, accF L k = szN (L.take k) := fun k => by
    have h1 := szN_take_drop L k
    unfold accF wrap64; omega
  have hhit : ∀ k, hitF L k = decide (szN L ≤ 2 * szN (L.take (k + 1))) := fun k => by
    have h1 := szN_take_drop L (k + 1)
    unfold hitF
    rw [hacc, hacc, List.take_length]
    unfold wrap64
    rw [decide_eq_decide]
    omega
  have hlast : hitF L (L.length - 1) = true := by
    rw [hhit, show L.length - 1 + 1 = L.length from by omega, List.take_length, decide_eq_true_eq]; omega
  have hex : ∃ x ∈ List.range L.length, hitF L x = true := ⟨L.length - 1, by simp; omega, hlast⟩
  have hlt := List.findIdx_lt_length.2 hex
  refine ⟨(List.range L.length).findIdx (hitF L), by unfold hIdx idxF; rw [if_pos hlt], by simpa using hlt, ?_, ?_⟩
  · have := List.findIdx_getElem (w := hlt)
    rw [List.getElem_range, hhit, decide_eq_true_eq] at this
    exact this
  · intro hk
    have := List.not_of_lt_findIdx (p := hitF L) (xs := List.range L.length) (i := (List.range L.length).findIdx (hitF L) - 1) (by omega)
    simp only [List.getElem_range] at this
    rw [hhit, decide_eq_false_iff_not, show (List.range L.length).findIdx (hitF L) - 1 + 1 = (List.range L.length).findIdx (hitF L) from by omega] at this
    omega

theorem halves (L : List ByteArray) (hs : ∀ s ∈ L, s.size ≤ 71) (hl : L.length ≤ 64) (hsum : slotSum L ≤ 481) (hfull : 64 ≤ L.length ∨ 408 < slotSum L) :
    ∃ h : Nat, halfF L = h ∧ 1 ≤ h ∧ h < L.length ∧ 4 ≤ L.length ∧ slotSum (L.take h) ≤ 408 ∧ slotSum (L.drop h) ≤ 408 := by
  rw [slotSum_sz] at hsum hfull
  have hsz := szN_le hs
  have h4 : 4 ≤ L.length := by omega
  obtain ⟨k, hk, hkl, hk1, hk2⟩ := half_place L hs hl (by omega)
  have hsk := hs L[k] (List.getElem_mem hkl)
  have hts := szN_take_succ L k hkl
  by_cases k0 : k = 0
  · subst k0
    have ht0 : szN (L.take 0) = 0 := by simp [szN]
    have htd := szN_take_drop L 1
    refine ⟨1, ?_, by omega, by omega, h4, ?_, ?_⟩
    · unfold halfF; rw [hk]; omega
    · rw [slotSum_sz, List.length_take]; simp only [Nat.zero_add] at hts hk1; omega
    · rw [slotSum_sz, List.length_drop]; simp only [Nat.zero_add] at hts hk1; omega
  · have hk3 := hk2 (by omega)
    have htd := szN_take_drop L k
    refine ⟨k, ?_, by omega, hkl, h4, ?_, ?_⟩
    · unfold halfF; rw [hk]; omega
    · rw [slotSum_sz, List.length_take]; omega
    · rw [slotSum_sz, List.length_drop]; omega

/-- Is a leaf with these slots full? -/
theorem full_leaf (lsn next : Nat) (L : List ByteArray) (h : slotSum L ≤ 1000000) : fullB ⟨3, lsn, 3, num4 next, L⟩ = (decide (64 ≤ L.length) || decide (408 < slotSum L)) := by
  unfold fullB mostN roomF
  simp only [num4_size]
  rw [wrap_small (by omega) (by omega)]
  congr 1
  rw [decide_eq_decide]
  simp only [show ¬ ((3 : Int) = 4) by omega, if_false]
  omega

/-- What the leaf of NodeHalves keeps. -/
structure HInv (M : List ItemV) : Prop where
  len : M.length ≤ 64
  sum : slotSum (M.map ItemV.bs) ≤ 481
  may : ∀ x ∈ M, x.e.May
  key : ∀ x ∈ M, x.e.key.size ≤ 64

theorem HInv.sizes {M : List ItemV} (h : HInv M) : ∀ s ∈ M.map ItemV.bs, s.size ≤ 71 := by
  intro s hs
  obtain ⟨x, hx, rfl⟩ := List.mem_map.1 hs
  rw [ItemV.bs_size]
  have := h.key x hx
  omega

theorem HInv.fits {M : List ItemV} (h : HInv M) {lsn next : Nat} (hl : lsn < 18446744073709551616) : (leafV lsn next M).Fits := leafV_fits hl h.len (by have := h.sum; omega)

theorem HInv.nil : HInv [] := ⟨by simp, by simp [slotSum], by simp, by simp⟩

theorem HInv.ins {M : List ItemV} (h : HInv M) (k : Nat) {x : ItemV} (hx : x.e.May) (hk : x.e.key.size ≤ 64) (hl : M.length < 64) (hs : slotSum (M.map ItemV.bs) ≤ 408) : HInv (insN M k x) := by
  refine ⟨by rw [insN_length]; omega, ?_, fun y hy => ?_, fun y hy => ?_⟩
  · rw [insN_map, slotSum_ins, ItemV.bs_size]; omega
  · rcases insN_mem hy with rfl | hy
    · exact hx
    · exact h.may y hy
  · rcases insN_mem hy with rfl | hy
    · exact hk
    · exact h.key y hy

end Go.Proofs.Ytplcojfogfikfaa

namespace Go.Proofs.Ytplcojfogfikfaa
open Go.RowKit Go.Sort
set_option linter.unusedVariables false

set_option maxHeartbeats 800000 in
theorem insert_callC (L : List ByteArray) (bs vb : Nat) (s : ByteArray) (i : Nat) (w : World) (hr : StrRow w bs L) (hi : i ≤ L.length) (hv : w.cell? ⟨vb, 0, none⟩ = some (.string s)) (hL : L.length ≤ 64) (hbs : bs < w.heap.size) :
    Calls Try.prog 81 #[.slice (some ⟨bs, 0, none⟩) L.length L.length, .int .i64 i, .slice (some ⟨vb, 0, none⟩) 1 1] w fun e w' =>
      ∃ c, e = .returned (.slice (some ⟨w.heap.size, 0, none⟩) (L.length + 1) c) ∧ StrRow w' w.heap.size (insL L i s) ∧ Below w.heap.size w w' ∧ w.heap.size < w'.heap.size ∧ L.length + 1 ≤ c := by
  have hcl : (strV L).length = L.length := by simp [strV]
  have h1c : ∀ v ∈ strV L, v.oneCell' = true := fun v hv => by
    unfold strV at hv
    obtain ⟨x, _, rfl⟩ := List.mem_map.1 hv
    rfl
  have h1v : ∀ v ∈ ([.string s] : List Value), v.oneCell' = true := fun v hv => by
    rw [List.mem_singleton.1 hv]; rfl
  have hvs : ∀ j v, ([.string s] : List Value)[j]? = some v → w.cell? ⟨vb, 0 + j, none⟩ = some v := fun j v h => by
    match j, h with
    | 0, h => simp at h; subst h; exact hv
  have hcs : ∀ j v, (strV L)[j]? = some v → w.cell? ⟨bs, 0 + j, none⟩ = some v := fun j v h => by
    obtain ⟨hj, rfl⟩ := strV_get h
    rw [Nat.zero_add]; exact hr.cell hj
  have hil := insL_length L i s hi
  by_cases hlt : i < L.length
  · refine (Any2.slices_Insert_string_grow insertLays bs 0 L.length L.length i vb 0 1 1 (strV L) [.string s] w hlt (by omega) (by omega) (by omega) (by omega) hcl rfl hcs hvs h1c h1v).mono ?_
    rintro e w' ⟨rfl, rfl⟩
    refine ⟨_, rfl, StrRow.of fun j hj => ?_, ?_, ?_, by first | exact grownCap_ge _ _ _ _ | (have := grownCap_ge w (L.length + 1) L.length 9; omega)⟩
    · refine ⟨?_, ?_⟩
      · have hg := insL_get L i s hi j hj
        rw [List.getElem?_eq_getElem hj] at hg
        have hlt' : (strV (L.drop i)).length = L.length - i := by simp [strV]
        have hdr : (strV L).drop i = strV (L.drop i) := by simp [strV]
        rw [hdr]
        by_cases h1 : j < i
        · rw [if_pos h1] at hg
          rw [World.cell?_setCells_out w.heap.size _ _ _ _ (fun _ _ => .inl (by show j < i + 1; omega))]
          show (World.setCells _ _ _ _).cell? _ = _
          rw [World.cell?_setCells_out w.heap.size _ _ _ _ (fun _ _ => .inl (by show j < i; omega))]
          show (w.alloc _).cell? _ = _
          rw [World.cell?_alloc_new, Array.append_assoc, Array.getElem?_append_left (by simp [strV]; omega)]
          simp only [List.getElem?_toArray, List.getElem?_take, if_pos h1, strV, List.getElem?_map, ← hg, Option.map_some]
        · rw [if_neg h1] at hg
          by_cases h2 : j = i
          · subst h2
            rw [if_pos rfl] at hg
            rw [World.cell?_setCells_out w.heap.size _ _ _ _ (fun _ _ => .inl (by show j < j + 1; omega))]
            show (World.setCells _ _ _ _).cell? _ = _
            have := World.cell?_setCells_in w.heap.size [.string s] j (w.alloc (.cells (((strV L).take j).toArray ++ Builtin.zeroCells (Value.string ⟨#[]⟩).cells (L.length + 1 - j) ++ Builtin.zeroCells (Value.string ⟨#[]⟩).cells (grownCap w (L.length + 1) L.length (insertLays_ren.t 9) - (L.length + 1))) (insertLays_ren.t 9))).drew (fun k hk => by
              obtain rfl : k = 0 := by simpa using hk
              show ((w.alloc _).cell? _).isSome = true
              rw [World.cell?_alloc_new]
              simp [zeroCells_size, strV]; omega) 0 (by simp)
            rw [Nat.add_zero] at this
            refine this.trans ?_
            rw [Option.some.inj hg]; rfl
          · rw [if_neg h2] at hg
            have hj' : j < L.length + 1 := by omega
            have := World.cell?_setCells_in w.heap.size (strV (L.drop i)) (i + 1) (((w.alloc (.cells (((strV L).take i).toArray ++ Builtin.zeroCells (Value.string ⟨#[]⟩).cells (L.length + 1 - i) ++ Builtin.zeroCells (Value.string ⟨#[]⟩).cells (grownCap w (L.length + 1) L.length (insertLays_ren.t 9) - (L.length + 1))) (insertLays_ren.t 9))).drew.setCells w.heap.size i [.string s]).drew) (fun k hk => by
              show ((World.setCells _ _ _ _).cell? _).isSome = true
              rw [World.cell?_setCells_out w.heap.size _ _ _ _ (fun _ _ => .inr (by show i + 1 ≤ i + 1 + k; omega))]
              show ((w.alloc _).cell? _).isSome = true
              rw [World.cell?_alloc_new]
              simp [zeroCells_size, strV]; omega) (j - (i + 1)) (by omega)
            rw [show i + 1 + (j - (i + 1)) = j from by omega] at this
            rw [this]
            rw [List.getElem?_eq_getElem (by omega)] at hg
            rw [← Option.some.inj hg.symm]
            simp only [strV, List.getElem_map, List.getElem_drop]
            congr 3; omega
      · rw [World.frozen?_setCells]
        show (World.setCells _ _ _ _).frozen? _ = _
        rw [World.frozen?_setCells]
        show (w.alloc _).frozen? _ = _
        simp
    · refine below_setCells _ (Nat.le_refl _) _ _ _ ?_
      exact Below.drew (below_setCells _ (Nat.le_refl _) _ _ _ (((Below.refl _ _).alloc (Nat.le_refl _) _).drew))
    · rw [setCells_heap]
      show w.heap.size < (World.setCells _ _ _ _).heap.size
      rw [setCells_heap]
      show w.heap.size < (w.alloc _).heap.size
      simp
  · obtain rfl : i = L.length := by omega
    refine (Any2.slices_Insert_string_end_grow insertLays (some ⟨bs, 0, none⟩) L.length L.length vb 0 1 1 (strV L) [.string s] w (by omega) (by omega) (by omega) (by omega) hcl rfl (fun h => by cases h) (fun a ha j v h => by
      cases ha
      have := hcs j v h
      rw [Addr.add_lit]; exact this) hvs h1v).mono ?_
    rintro e w' ⟨rfl, rfl⟩
    refine ⟨_, rfl, StrRow.of fun j hj => ?_, ((Below.refl _ _).drew).alloc (Nat.le_refl _) _, ?_, by first | exact grownCap_ge _ _ _ _ | (have := grownCap_ge w (L.length + 1) L.length 9; omega)⟩
    · refine ⟨?_, ?_⟩
      · show (w.drew.alloc _).cell? ⟨w.drew.heap.size, j, none⟩ = _
        have hg := insL_get L L.length s hi j hj
        rw [List.getElem?_eq_getElem hj] at hg
        rw [World.cell?_alloc_new, Array.getElem?_append_left (by simp [strV]; omega)]
        simp only [List.getElem?_toArray, strV]
        rw [List.getElem?_append, List.length_map]
        by_cases h1 : j < L.length
        · rw [if_pos h1] at hg
          rw [if_pos h1, List.getElem?_map, ← hg]; rfl
        · obtain rfl : j = L.length := by omega
          rw [if_neg h1, if_pos rfl] at hg
          rw [if_neg h1, Nat.sub_self]
          rw [← Option.some.inj hg.symm]; rfl
      · exact World.frozen?_alloc_new w.drew _ _ _
    · show w.heap.size < (w.drew.alloc _).heap.size
      simp

end Go.Proofs.Ytplcojfogfikfaa
