/-
  slices.SortFunc with byName of any number of names, off the library's shelf.
-/
import Derived.Test.YthagomibjlcfmaaDoorLkSort2C
import Derived.Shelf.SlSortCmp.WholeK
namespace Go.Proofs.YthagomibjlcfmaaDoor
open Go.RowKit Go.Shelf Go.Lib Go.Sort
set_option linter.unusedVariables false

set_option maxHeartbeats 800000 in
set_option maxRecDepth 60000 in
theorem nsorts_all (m : Nat) (hm : m ≤ 1000000) : NSorts m := by
  intro B NL w v hl h
  have h0 := h
  unfold NamesAt at h0
  rcases h0.2 with ⟨rfl, hz⟩ | ⟨g, cap, cur, rfl, hb0, hb, hn, hmx, hs, ht⟩
  · exact nsorts_one B NL w _ (by omega) h
  · have eg : ∀ args w, (callFunc 47 args).run Tryd.prog w = .ok (.enter 47 args) w := enters_of Tryd.func47 (by kernel_rfl) rfl
    have hF : (flatK ncells 4 NL.toArray).toList = NL.flatMap ncells := flatK_list NL.toArray
    have hH : HoldsK ncells 4 w g 0 NL.toArray := holds_of_blockV hb (by rw [size_flatK, hF]; exact ht)
    have hc : CmpLays Tryd.prog 47 #[] ncells 4 nmF g 0 NL.toArray.size w := fun _ _ _ _ x y => byName_any x y _
    refine (AnyQ.slices_SortFunc nsortLays 4 Tryd.isAgg33 Tryd.sizeOf33 ncells (fun _ => rfl) (fun x v hv => by simp [ncells] at hv; rcases hv with rfl | rfl | rfl | rfl <;> rfl) nmF nm_swo 47 #[] g 0 cap NL.toArray w eg hc hH (Array.getElem?_eq_some_iff.1 hb).1 (by simp; omega)).mono ?_
    rintro e w' ⟨rfl, d', q, os, hp, hso, rfl⟩
    have hsz : d'.size = NL.length := by have := hp.1; simpa using this
    have hperm : d'.toList.Perm NL := by
      have := hp.2.2
      have e1 : d'.extract 0 NL.toArray.size = d' := by rw [show NL.toArray.size = d'.size by rw [hsz]; rfl]; simp
      have e2 : NL.toArray.extract 0 NL.toArray.size = NL.toArray := by simp
      rw [e1, e2] at this
      exact this
    refine ⟨rfl, d'.toList, hperm, ?_, ?_⟩
    · unfold NamesAt
      have hl' : d'.toList.length = NL.length := by simpa using hsz
      rw [hl']
      refine ⟨by rw [nflat_len, hl'], .inr ⟨g, cap, _, rfl, hb0, heap_sortedV _ hb, hn, hmx, by simp [putCells, hs], ?_⟩⟩
      have e3 := take_putCellsV cur (flatK ncells 4 d') (by rw [size_flatK, hsz, hs]; exact Nat.mul_le_mul_right _ hn)
      rw [size_flatK, hsz, flatK_list] at e3
      exact e3
    · exact grownBy_sortedV _

end Go.Proofs.YthagomibjlcfmaaDoor
