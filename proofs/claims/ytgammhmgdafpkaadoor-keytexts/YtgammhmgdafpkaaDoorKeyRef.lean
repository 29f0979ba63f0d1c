/-
  The walks of girderlaw11.ref and girderlaw11.same.
-/
import Derived.Test.YtgammhmgdafpkaaDoorKeyReadM
import Derived.Maps.AppendAt
import Derived.BigRegion
import Derived.Deep.RegionHeld3
import Derived.Deep.AppendLies
import Derived.Deep.RegionLaw
namespace Go.Proofs.YtgammhmgdafpkaaDoor
open Go.RowKit Go.Sort
set_option linter.unusedVariables false
set_option linter.unusedSimpArgs false

theorem infoRV : (Tryd.prog.info? 38).map (fun i => (i.zero, i.size, i.bytes)) = some (some (.agg #[.int .i64 0, .int .i64 0, .string ⟨#[]⟩]), 3, 32) := by kernel_rfl

/-- The cells of a value. -/
def ValV.cells (v : ValV) : List Value := [.int .i64 v.kind, .int .i64 v.n, .string v.S]

theorem vcells_length : ∀ (L : List ValV), (L.flatMap ValV.cells).length = L.length * 3
  | [] => rfl
  | v :: L => by rw [List.flatMap_cons, List.length_append, vcells_length L]; simp [ValV.cells]; omega

theorem vcells_at : ∀ (L : List ValV) (i : Nat) (hi : i < L.length), (L.flatMap ValV.cells)[i * 3]? = some (.int .i64 L[i].kind) ∧ (L.flatMap ValV.cells)[i * 3 + 1]? = some (.int .i64 L[i].n) ∧ (L.flatMap ValV.cells)[i * 3 + 2]? = some (.string L[i].S)
  | [], i, hi => by simp at hi
  | v :: L, 0, _ => by simp [ValV.cells]
  | v :: L, i + 1, hi => by
    have ih := vcells_at L i (by simpa using hi)
    rw [List.flatMap_cons]
    have hl : v.cells.length = 3 := rfl
    have e0 : (v.cells ++ L.flatMap ValV.cells)[(i + 1) * 3]? = (L.flatMap ValV.cells)[i * 3]? := by
      rw [List.getElem?_append_right (by omega)]; congr 1; omega
    have e1 : (v.cells ++ L.flatMap ValV.cells)[(i + 1) * 3 + 1]? = (L.flatMap ValV.cells)[i * 3 + 1]? := by
      rw [List.getElem?_append_right (by omega)]; congr 1; omega
    have e2 : (v.cells ++ L.flatMap ValV.cells)[(i + 1) * 3 + 2]? = (L.flatMap ValV.cells)[i * 3 + 2]? := by
      rw [List.getElem?_append_right (by omega)]; congr 1; omega
    rw [e0, e1, e2]
    simpa using ih

/-- A row of values that one owns. -/
theorem owns_vals {B : Nat} {w : World} {e : TypeId} {v : Value} {L : List ValV} (h : w.ownsRow B e 3 v L.length (L.flatMap ValV.cells)) : ∃ a c, v = .slice a L.length c ∧ ValsAt w a L := by
  rcases h.2 with ⟨e1, e2⟩ | ⟨g, cap, cur, e1, _⟩
  · have hl : L = [] := List.eq_nil_of_length_eq_zero e2
    exact ⟨none, 0, by rw [e1, e2], .inl hl⟩
  · subst e1
    refine ⟨_, _, rfl, ?_⟩
    by_cases h0 : L = []
    · exact .inl h0
    · have hlt := (h.lt g rfl).2
      refine .inr ⟨g, 0, rfl, hlt, fun i hi => ?_⟩
      obtain ⟨k0, k1, k2⟩ := vcells_at L i hi
      have q0 := h.cellAt (i * 3) (by omega)
      have q1 := h.cellAt (i * 3 + 1) (by omega)
      have q2 := h.cellAt (i * 3 + 2) (by omega)
      exact ⟨by rw [Nat.zero_add]; exact q0.trans k0, by rw [Nat.zero_add]; exact q1.trans k1, by rw [Nat.zero_add]; exact q2.trans k2⟩

set_option maxHeartbeats 3200000 in
theorem ref_any (a : Option Addr) (c : Nat) (L : List ValV) (w : World) (hL : ValsAt w a L) (hl : L.length ≤ 4398046511103) :
    Calls Tryd.prog 8 #[.slice a L.length c] w fun e w' =>
      ∃ a' c', e = .returned (.slice a' L.length c') ∧ Hid (ValsAt w' a' L) ∧ Below w.heap.size w w' := by
  obtain ⟨i0, hi, hz0, hz1, hz2⟩ := info_parts infoRV
  go_enter Tryd.func8, Tryd.ntmps8
  go_wp2_with fail
  go_loopw [3, 4] (fun s3 i wr => ∃ (k : Nat), k ≤ L.length ∧ i = .int .i64 k ∧ Hid (wr.ownsRow w.heap.size 38 3 s3 k ((L.take k).flatMap ValV.cells)) ∧ Hid (Below w.heap.size w wr)) (fun _ i _ => L.length - (intOf i).toNat)
  case atStart => exact ⟨0, by omega, rfl, World.ownsRow_lit w #[] 0 (Nat.le_refl _) (by unfold maxLen; omega) rfl, (Below.refl _ _).alloc (Nat.le_refl _) _⟩
  case round =>
    obtain ⟨k, hk, rfl, HO, HB⟩ := hrel
    by_cases hlt : k < L.length
    · have hL' := hL.below HB.out
      rcases hL' with hL' | ⟨b, o, rfl, hb, g⟩
      · rw [hL'] at hlt; simp at hlt
      have g := g k hlt
      have hi0 : (0 : Int) ≤ (k : Int) := by omega
      have hi1 : (k : Int) < (L.length : Int) := by omega
      have HT1 : Hid ((L.take (k + 1)).flatMap ValV.cells = (L.take k).flatMap ValV.cells ++ L[k].cells) := by show _ = _; rw [List.take_succ_eq_append_getElem hlt, List.flatMap_append]; simp
      obtain ⟨v, Hv⟩ : ∃ v, Hid (L[k] = v) := ⟨L[k], rfl⟩
      rw [Hv.out] at g HT1
      clear Hv
      obtain ⟨vk, vn, vS⟩ := v
      obtain ⟨c0, c1, c2⟩ := g
      simp only at c0 c1 c2
      have hz : w.heap.size ≤ wr.heap.size := HB.out.size
      have HO1 : Hid ((wr.alloc (.cells #[.int .i64 vk, .int .i64 vn, .string vS] 38)).drew.ownsRow w.heap.size 38 3 _ k ((L.take k).flatMap ValV.cells)) := (HO.out.alloc (.cells #[.int .i64 vk, .int .i64 vn, .string vS] 38)).drew
      have HN1 : Hid (∀ j x, ([.int .i64 vk, .int .i64 vn, .string vS] : List Value)[j]? = some x → (wr.alloc (.cells #[.int .i64 vk, .int .i64 vn, .string vS] 38)).drew.cell? ((⟨wr.heap.size, 0, none⟩ : Addr).add j) = some x) :=
        World.news_of_block (w := (wr.alloc (.cells #[.int .i64 vk, .int .i64 vn, .string vS] 38)).drew) (heap_alloc_new wr _)
      have H1C : Hid (∀ u ∈ ([.int .i64 vk, .int .i64 vn, .string vS] : List Value), u.oneCell' = true) := by
        intro u hu
        simp at hu
        rcases hu with rfl | rfl | rfl <;> rfl
      have HBA : Hid (Below w.heap.size w (wr.alloc (.cells #[.int .i64 vk, .int .i64 vn, .string vS] 38)).drew) := (HB.out.alloc hz _).drew
      have hzz : w.heap.size ≤ (wr.alloc (.cells #[.int .i64 vk, .int .i64 vn, .string vS] 38)).drew.heap.size := by simp; omega
      go_wp2_with fail
      go_region_law (refine step_append_lies _ (by rfl) _ _ 28 (by rfl) w.heap.size 38 i0 _ 3 32 Tryd.underlying28 hi hz0 hz1 hz2 (by rfl) (by decide) _ k ((L.take k).flatMap ValV.cells) (by rfl) HO1.out ⟨wr.heap.size, 0, none⟩ 1 1 [.int .i64 vk, .int .i64 vn, .string vS] (by rfl) (by rfl) HN1.out H1C.out (by decide) (by unfold maxLen; omega) (by omega) hzz _ (by rfl) ?_; intro g8 cap8 w8 hown8 hgrow8 hloc8 hlt8)
      all_goals
        have HB8 : Hid (Below w.heap.size w w8) := HBA.out.grown hgrow8 hzz (fun z hz => (HO1.out.lt z hz).1)
        have HO8 : Hid (w8.ownsRow w.heap.size 38 3 (.slice (some ⟨g8, 0, none⟩) (k + 1) cap8) (k + 1) ((L.take (k + 1)).flatMap ValV.cells)) := by show World.ownsRow _ _ _ _ _ _ _; rw [HT1.out]; exact hown8
        clear hown8 hgrow8 hloc8 HO1 HN1 H1C HBA
        go_wp2_with fail
        go_roundw
        case rel => exact ⟨k + 1, by omega, by go_num, HO8, HB8⟩
        case measure => simp [intOf]; omega
    · have hkl : k = L.length := by omega
      subst hkl
      rw [List.take_length] at HO
      obtain ⟨a', c', hv, hV⟩ := owns_vals HO.out
      subst hv
      have HV := hidk hV
      clear hV HO
      go_wp2
      go_ret
      exact ⟨a', c', rfl, HV, HB.out⟩

end Go.Proofs.YtgammhmgdafpkaaDoor
