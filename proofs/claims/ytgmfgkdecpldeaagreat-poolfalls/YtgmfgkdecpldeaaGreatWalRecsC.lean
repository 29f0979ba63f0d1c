/-
  A log by its records: where they stand, what they are; and the walks of Get and Back over such a log.
-/
import Derived.Test.YtgmfgkdecpldeaaGreatBase5C
namespace Go.Proofs.YtgmfgkdecpldeaaGreat
open Go.RowKit
set_option linter.unusedVariables false

/-- Where record i of a log stands. -/
def placeOf (rs : List ByteArray) : Nat → Nat
  | 0 => 1
  | i + 1 => placeOf rs i + ((rs.getD i ⟨#[]⟩).size + 12)

/-- A log whose records are rs. -/
structure RecsAt (l : LG) (rs : List ByteArray) : Prop where
  starts : l.starts = (List.range rs.length).map (placeOf rs)
  long : l.bytes.length + 1 = placeOf rs rs.length
  text : ∀ i, i < rs.length → (l.bytes.drop (placeOf rs i + 7)).take (rs.getD i ⟨#[]⟩).size = (rs.getD i ⟨#[]⟩).data.toList

theorem placeOf_snoc (rs : List ByteArray) (r : ByteArray) : ∀ i, i ≤ rs.length → placeOf (rs ++ [r]) i = placeOf rs i
  | 0, _ => rfl
  | i + 1, h => by
    have e : (rs ++ [r]).getD i ⟨#[]⟩ = rs.getD i ⟨#[]⟩ := by
      rw [List.getD_eq_getElem?_getD, List.getD_eq_getElem?_getD, List.getElem?_append_left (by omega)]
    show placeOf (rs ++ [r]) i + _ = placeOf rs i + _
    rw [placeOf_snoc rs r i (by omega), e]

theorem getD_last (rs : List ByteArray) (r : ByteArray) : (rs ++ [r]).getD rs.length ⟨#[]⟩ = r := by
  rw [List.getD_eq_getElem?_getD, List.getElem?_append_right (Nat.le_refl _)]
  simp

theorem placeOf_pos (rs : List ByteArray) : ∀ i, 1 ≤ placeOf rs i
  | 0 => Nat.le_refl _
  | i + 1 => by
    have := placeOf_pos rs i
    show 1 ≤ placeOf rs i + _
    omega

theorem placeOf_mono (rs : List ByteArray) {i j : Nat} (h : i ≤ j) : placeOf rs i + 12 * (j - i) ≤ placeOf rs j := by
  induction h with
  | refl => simp
  | step h ih =>
    rename_i m
    have h' : i ≤ m := h
    show _ ≤ placeOf rs m + (_ + 12)
    omega

theorem RecsAt.nil (p : Nat) : RecsAt (log0 p) [] := ⟨rfl, rfl, fun i h => absurd h (Nat.not_lt_zero _)⟩

/-- A record's bytes in its frame. -/
theorem frame_text (a : Nat) (r : List UInt8) : ((frameL a r).drop 8).take r.length = r := by
  have e : frameL a r = (putL r.length 4 ++ putL (crcSum 0 (putL a 8 ++ r)) 4) ++ (r ++ putL r.length 4) := by simp [frameL]
  rw [e]
  have e8 : (putL r.length 4 ++ putL (crcSum 0 (putL a 8 ++ r)) 4).length = 8 := by simp [putL_length]
  generalize putL r.length 4 ++ putL (crcSum 0 (putL a 8 ++ r)) 4 = X at e8 ⊢
  rw [← e8, List.drop_left, List.take_left]

theorem RecsAt.snoc {l : LG} {rs : List ByteArray} (h : RecsAt l rs) (r : ByteArray) : RecsAt (putG l r) (rs ++ [r]) := by
  have hl := h.long
  refine ⟨?_, ?_, ?_⟩
  · show l.starts ++ [l.bytes.length + 1] = _
    rw [List.length_append, List.length_singleton, List.range_succ, List.map_append, List.map_singleton, placeOf_snoc rs r _ (Nat.le_refl _), hl, h.starts]
    congr 1
    apply List.map_congr_left
    intro i hi
    rw [placeOf_snoc rs r i (Nat.le_of_lt (List.mem_range.1 hi))]
  · show (l.bytes ++ frameL _ _).length + 1 = placeOf (rs ++ [r]) (rs ++ [r]).length
    rw [List.length_append, List.length_append, List.length_singleton, frameL_length]
    show _ = placeOf (rs ++ [r]) rs.length + (((rs ++ [r]).getD rs.length ⟨#[]⟩).size + 12)
    rw [placeOf_snoc rs r _ (Nat.le_refl _), getD_last, ← hl]
    simp
    omega
  · intro i hi
    rw [List.length_append, List.length_singleton] at hi
    show ((l.bytes ++ frameL (l.bytes.length + 1) r.data.toList).drop _).take _ = _
    by_cases hn : i = rs.length
    · subst hn
      rw [getD_last, placeOf_snoc rs r _ (Nat.le_refl _), ← hl, show l.bytes.length + 1 + 7 = l.bytes.length + 8 by omega, List.drop_append, List.drop_of_length_le (by omega), List.nil_append, show l.bytes.length + 8 - l.bytes.length = 8 by omega]
      have := frame_text (l.bytes.length + 1) r.data.toList
      simpa using this
    · have hi' : i < rs.length := by omega
      have e : (rs ++ [r]).getD i ⟨#[]⟩ = rs.getD i ⟨#[]⟩ := by
        rw [List.getD_eq_getElem?_getD, List.getD_eq_getElem?_getD, List.getElem?_append_left hi']
      have hm := placeOf_mono rs (i := i + 1) (j := rs.length) (by omega)
      have hs : placeOf rs (i + 1) = placeOf rs i + ((rs.getD i ⟨#[]⟩).size + 12) := rfl
      have hp := placeOf_pos rs i
      rw [e, placeOf_snoc rs r i (by omega), List.drop_append_of_le_length (by omega), List.take_append_of_le_length (by rw [List.length_drop]; omega)]
      exact h.text i hi'

theorem RecsAt.len {l : LG} {rs : List ByteArray} (h : RecsAt l rs) : l.starts.length = rs.length := by rw [h.starts]; simp

theorem RecsAt.at {l : LG} {rs : List ByteArray} (h : RecsAt l rs) {i : Nat} (hi : i < rs.length) : l.starts.getD i 0 = placeOf rs i := by
  rw [h.starts, List.getD_eq_getElem?_getD]
  simp [hi]

theorem RecsAt.rising {l : LG} {rs : List ByteArray} (h : RecsAt l rs) : Rising l.starts := by
  intro a b hab hb
  rw [h.len] at hb
  rw [h.at hb, h.at (by omega)]
  have := placeOf_mono rs (Nat.le_of_lt hab)
  omega

end Go.Proofs.YtgmfgkdecpldeaaGreat
