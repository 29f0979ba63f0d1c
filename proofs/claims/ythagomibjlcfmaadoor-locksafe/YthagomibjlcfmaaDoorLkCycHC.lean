/-
  The map of those to which one has been, made and grown; a way cut.
-/
import Derived.Test.YthagomibjlcfmaaDoorLkCycMC
namespace Go.Proofs.YthagomibjlcfmaaDoor
open Go.RowKit
set_option linter.unusedVariables false

theorem BeenAt.made (w : World) : BeenAt (w.alloc (.map #[] 0)) w.heap.size 0 (.map []) (fun _ => false) :=
  ⟨MapV.made _ w, fun t ht => rfl, fun t ht => rfl⟩

theorem BeenAt.put {w W' : World} {bm sz : Nat} {D : DataW Value} {bn : Int → Bool} {t : Int} (h : BeenAt w bm sz D bn) (hm : MapV 3 W' bm (Maps.size (D.put (tkey t) (.held (.agg #[])))) (D.put (tkey t) (.held (.agg #[])))) :
    BeenAt W' bm (Maps.size (D.put (tkey t) (.held (.agg #[])))) (D.put (tkey t) (.held (.agg #[]))) (fun u => if u = t then true else bn u) := by
  have hI := (h.map.tidy txKeyed).isMap
  refine ⟨hm, fun x hx => ?_, fun x hx => ?_⟩
  · by_cases e : x = t
    · subst e
      rw [Maps.has_put_same hI (tkey_lit x), if_pos rfl]
    · rw [Maps.has_put_other (tkey_ne e), h.has x hx, if_neg e]
  · by_cases e : x = t
    · subst e
      rw [getV_put_same hI (tkey_lit x)]
    · rw [getV_put_other (tkey_ne e)]
      exact h.val x hx

theorem BeenAt.size_put {w : World} {bm sz : Nat} {D : DataW Value} {bn : Int → Bool} {t : Int} (h : BeenAt w bm sz D bn) : Maps.size (D.put (tkey t) (.held (.agg #[]))) ≤ sz + 1 := by
  rw [Maps.size_put (h.map.tidy txKeyed)]
  have := h.map.2
  split <;> omega

/-- The last one of a row is cut off. -/
theorem IntsAt.pop {B g n c : Nat} {w : World} {zs : List Int} {y : Int} (h : IntsAt B w (.slice (some ⟨g, 0, none⟩) n c) (zs ++ [y])) : IntsAt B w (.slice (some ⟨g, 0, none⟩) zs.length c) zs := by
  have h0 := h
  unfold IntsAt at h0 ⊢
  refine ⟨by simp, ?_⟩
  rcases h0.2 with ⟨e, hn⟩ | ⟨g', cap, cur, e, hB, hb, hn, hm, hs, ht⟩
  · cases e
  · have e1 := Value.slice.inj e
    obtain ⟨e2, e3, e4⟩ := e1
    have hgg : g = g' := by simpa using e2
    subst hgg
    subst e4
    refine .inr ⟨g, c, cur, rfl, hB, hb, by simp at hn; omega, hm, hs, ?_⟩
    have hl : (zs ++ [y]).length * 1 = zs.length * 1 + 1 := by simp
    rw [hl] at ht
    have ht2 : (cur.toList.take (zs.length * 1 + 1)).take (zs.length * 1) = ((zs ++ [y]).map (Value.int .i64)).take (zs.length * 1) := by rw [ht]
    rw [List.take_take, Nat.min_eq_left (by omega)] at ht2
    rw [ht2]
    simp

end Go.Proofs.YthagomibjlcfmaaDoor
