/-
  slices.SortFunc with byName of up to twelve names, off the library's shelf.
-/
import Derived.Test.YthagomibjlcfmaaDoorLkCmpC
import Derived.Test.YthagomibjlcfmaaDoorLkSort1C
import Derived.Test.YthagomibjlcfmaaDoorShNSortC
import Derived.Sort.OwnSortedInts
namespace Go.Proofs.YthagomibjlcfmaaDoor
open Go.RowKit Go.Shelf Go.Lib Go.Sort
set_option linter.unusedVariables false
set_option linter.unusedSimpArgs false

theorem cmpF_lt (a b : Int) : cmpF a b < 0 ↔ a < b := by
  unfold cmpF; split
  · omega
  · split <;> omega
theorem cmpF_eq (a b : Int) : cmpF a b = 0 ↔ a = b := by
  unfold cmpF; split
  · omega
  · split <;> omega
theorem orF_lt (a b c d : Int) : orF a b c d < 0 ↔ a < 0 ∨ a = 0 ∧ (b < 0 ∨ b = 0 ∧ (c < 0 ∨ c = 0 ∧ d < 0)) := by
  unfold orF; split
  · omega
  · split
    · omega
    · split <;> omega

theorem nmF_lt (x y : NameV) : nmF x y < 0 ↔ x.1 < y.1 ∨ x.1 = y.1 ∧ (x.2.1 < y.2.1 ∨ x.2.1 = y.2.1 ∧ ((x.2.2.1 : Int) < y.2.2.1 ∨ (x.2.2.1 : Int) = y.2.2.1 ∧ x.2.2.2 < y.2.2.2)) := by
  unfold nmF
  rw [orF_lt]
  simp only [cmpF_lt, cmpF_eq]

theorem nm_swo : SWO (ltOf nmF) := by
  refine ⟨fun x => ?_, fun x y z => ?_, fun x y z => ?_⟩
  · unfold ltOf
    rw [decide_eq_false_iff_not, nmF_lt]
    omega
  · unfold ltOf
    rw [decide_eq_true_iff, decide_eq_true_iff, decide_eq_true_iff, nmF_lt, nmF_lt, nmF_lt]
    omega
  · unfold ltOf
    rw [decide_eq_false_iff_not, decide_eq_false_iff_not, decide_eq_false_iff_not, nmF_lt, nmF_lt, nmF_lt]
    omega

theorem holds_of_blockV {w : World} {g : Nat} {cur : Array Value} {e : TypeId} {F : Array Value} (hb : w.heap[g]? = some (.cells cur e (0, 0))) (ht : cur.toList.take F.size = F.toList) : Holds id w g 0 F := by
  intro j hj
  refine ⟨?_, by simp [World.frozen?, hb]⟩
  have h1 : (cur.toList.take F.size)[j]? = F.toList[j]? := by rw [ht]
  rw [List.getElem?_take_of_lt hj] at h1
  simp only [World.cell?, hb, Nat.zero_add]
  simp only [Option.isSome_none, Bool.false_eq_true, if_false]
  rw [← Array.getElem?_toList, h1]
  simp [hj]

theorem heap_sortedV {w : World} {g n : Nat} {os : Array Obj} {cur : Array Value} {e : TypeId} {fr : Nat × Nat} (d : Array Value) (hb : w.heap[g]? = some (.cells cur e fr)) :
    (grow (putRow id (Sort.ahead w n) g 0 d) os).heap[g]? = some (.cells (putCells id 0 d cur) e fr) := by
  have hg : g < w.heap.size := (Array.getElem?_eq_some_iff.1 hb).1
  rw [heap_grow_old _ _ (by simpa using hg)]
  simp [putRow, mapBlock, Sort.ahead, Array.getElem?_modify, hb, onCells]

theorem grownBy_sortedV {w : World} {g n : Nat} {os : Array Obj} (d : Array Value) : w.grownBy (grow (putRow id (Sort.ahead w n) g 0 d) os) (some g) := by
  refine ⟨rfl, rfl, rfl, by simp, fun k hk hne => ?_⟩
  rw [heap_grow_old _ _ (by simpa using hk)]
  have : g ≠ k := fun e => hne (by rw [e])
  simp [putRow, mapBlock, Sort.ahead, Array.getElem?_modify, this]

theorem take_putCellsV (cur F : Array Value) (h : F.size ≤ cur.size) : (putCells id 0 F cur).toList.take F.size = F.toList := by
  apply List.ext_getElem?
  intro j
  by_cases hj : j < F.size
  · rw [List.getElem?_take_of_lt hj, Array.getElem?_toList]
    simp [putCells, hj, show j < cur.size by omega]
  · rw [List.getElem?_take_eq_none (by omega), List.getElem?_eq_none (by simp; omega)]

theorem nflat_len (L : List NameV) : (L.flatMap ncells).length = L.length * 4 := by
  induction L with
  | nil => rfl
  | cons p L ih =>
    rw [List.flatMap_cons, List.length_append, ih]
    show 4 + _ = _
    simp
    omega

theorem flatK_list (d : Array NameV) : (flatK ncells 4 d).toList = d.toList.flatMap ncells := by
  apply List.ext_getElem?
  intro t
  by_cases ht : t < d.size * 4
  · have hi : t / 4 < d.toList.length := by simp; omega
    have hj : t % 4 < 4 := Nat.mod_lt _ (by omega)
    have e := nflat_get d.toList (t / 4) (t % 4) hi hj
    rw [show t / 4 * 4 + t % 4 = t by omega] at e
    rw [e]
    have hs : t < (flatK ncells 4 d).size := by rw [size_flatK]; exact ht
    have e2 := get_flatK ncells 4 d t ht
    rw [getElem!_pos _ t hs, getElem!_pos d (t / 4) (by simpa using hi)] at e2
    rw [Array.getElem?_toList, Array.getElem?_eq_getElem hs, e2]
    have hl : t % 4 < (ncells d[t / 4]).length := hj
    rw [getElem!_pos (ncells d[t / 4]) (t % 4) hl]
    exact (List.getElem?_eq_getElem hl).symm
  · rw [List.getElem?_eq_none (by simp; omega), List.getElem?_eq_none (by rw [nflat_len]; simp; omega)]

set_option maxHeartbeats 800000 in
set_option maxRecDepth 60000 in
theorem nsorts_small (m : Nat) (hm : m ≤ 12) : NSorts m := by
  intro B NL w v hl h
  have h0 := h
  unfold NamesAt at h0
  rcases h0.2 with ⟨rfl, hz⟩ | ⟨g, cap, cur, rfl, hb0, hb, hn, hmx, hs, ht⟩
  · exact nsorts_one B NL w _ (by omega) h
  · have eg : ∀ args w, (callFunc 47 args).run Tryd.prog w = .ok (.enter 47 args) w := enters_of Tryd.func47 (by kernel_rfl) rfl
    have hF : (flatK ncells 4 NL.toArray).toList = NL.flatMap ncells := flatK_list NL.toArray
    have hH : HoldsK ncells 4 w g 0 NL.toArray := holds_of_blockV hb (by rw [size_flatK, hF]; exact ht)
    have hc : CmpLays Tryd.prog 47 #[] ncells 4 nmF g 0 NL.toArray.size w := fun _ _ _ _ x y => byName_any x y _
    have hlen : ∀ (n : Nat) (W : World), n ≤ 12 → Calls Tryd.prog 52 #[.int .u64 n] W fun e w' => (∃ l : Int, e = .returned (.int .i64 l)) ∧ w' = W := fun n W hn =>
      (Any.bits_Len lenLays n W (by omega) (by omega)).mono fun _ _ ⟨he, hw⟩ => ⟨⟨_, he⟩, hw⟩
    refine (AnyQ.slices_SortFunc_small_sorted nsortLays 4 Tryd.isAgg33 Tryd.sizeOf33 ncells (fun _ => rfl) (fun x v hv => by simp [ncells] at hv; rcases hv with rfl | rfl | rfl | rfl <;> rfl) nmF 47 #[] nm_swo g 0 cap NL.toArray w eg hc hH (Array.getElem?_eq_some_iff.1 hb).1 (by simp; omega) hlen).mono ?_
    rintro e w' ⟨rfl, d', q, os, hp, hso, rfl⟩
    have hsz : d'.size = NL.length := by have := hp.1; simpa using this
    have hperm : d'.toList.Perm NL := by
      have := hp.2.2
      have e1 : d'.extract 0 NL.toArray.size = d' := by rw [show NL.toArray.size = d'.size by rw [hsz]; rfl]; simp
      have e2 : NL.toArray.extract 0 NL.toArray.size = NL.toArray := by simp
      rw [e1, e2] at this
      exact this
    refine ⟨rfl, d'.toList, hperm, ?_, ?_⟩
    · unfold NamesAt
      have hl' : d'.toList.length = NL.length := by simpa using hsz
      rw [hl']
      refine ⟨by rw [nflat_len, hl'], .inr ⟨g, cap, _, rfl, hb0, heap_sortedV _ hb, hn, hmx, by simp [putCells, hs], ?_⟩⟩
      have e3 := take_putCellsV cur (flatK ncells 4 d') (by rw [size_flatK, hsz, hs]; exact Nat.mul_le_mul_right _ hn)
      rw [size_flatK, hsz, flatK_list] at e3
      exact e3
    · exact grownBy_sortedV _

end Go.Proofs.YthagomibjlcfmaaDoor
