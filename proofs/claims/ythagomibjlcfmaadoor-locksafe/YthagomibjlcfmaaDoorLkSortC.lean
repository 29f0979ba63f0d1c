/-
  slices.Sort of numbers in a row of their own, off the library's shelf.
-/
import Derived.Test.YthagomibjlcfmaaDoorLkBlockC
import Derived.Test.YthagomibjlcfmaaDoorShSortC
import Derived.Shelf.Slices.In.SortNone
import Derived.Sort.OwnSortedInts
namespace Go.Proofs.YthagomibjlcfmaaDoor
open Go.RowKit Go.Sort Go.Shelf
set_option linter.unusedVariables false

theorem sorts_all (n : Nat) (hn : n ≤ 1000000) : Sorts n := by
  intro B zs w v hl h
  have h0 := h
  unfold IntsAt at h0
  rcases h0.2 with ⟨rfl, hz⟩ | ⟨g, cap, cur, rfl, hb0, hb, hn, hm, hs, ht⟩
  · have hz' : zs = [] := List.eq_nil_of_length_eq_zero hz
    subst hz'
    refine (Any.slices_Sort_int_none sortLays none 0 w).mono ?_
    rintro e w' ⟨rfl, rfl⟩
    exact ⟨rfl, by rw [show sortI [] = [] from by unfold sortI; simp]; exact h, ⟨rfl, rfl, rfl, Nat.le_refl _, fun _ _ _ => rfl⟩⟩
  · rw [Nat.mul_one] at ht
    refine (Any.slices_Sort_int sortLays g 0 cap zs w (holds_of_blockI hb ht) (Array.getElem?_eq_some_iff.1 hb).1 (by omega)).mono ?_
    rintro e w' ⟨rfl, q, os, rfl⟩
    refine ⟨rfl, ?_, ?_⟩
    · have := ownsRow_sortedI (n := q) (os := os) (ts := sortI zs) (sortI_len zs) hb0 hb hn hm hs
      unfold IntsAt
      rw [sortI_len]
      exact this
    · exact grownBy_sortedI _

end Go.Proofs.YthagomibjlcfmaaDoor
