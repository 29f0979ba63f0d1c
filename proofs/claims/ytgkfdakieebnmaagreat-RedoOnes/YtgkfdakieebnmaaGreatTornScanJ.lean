/-
  Frames behind one another: what a scan finds of them, and of what is behind them.
-/
import Derived.Test.YtgkfdakieebnmaaGreatWalRecsJ
import Derived.Test.YtgkfdakieebnmaaGreatProg
import Derived.WalkKit
import Derived.WalkSpells
import Derived.SliceStrings
import Derived.ChangeOld
import Derived.SizedLaws
import Derived.Deep.RegionLaw
import Derived.Deep.AppendLies
set_option linter.unusedVariables false
set_option linter.unusedSimpArgs false
namespace Go.Proofs.YtgkfdakieebnmaaGreat
open Go.RowKit

theorem snoc_ind {α : Type} {P : List α → Prop} (h0 : P []) (h1 : ∀ l a, P l → P (l ++ [a])) (l : List α) : P l := by
  have key : ∀ (n : Nat) (l : List α), l.length = n → P l := by
    intro n
    induction n with
    | zero => intro l h; rw [List.length_eq_zero_iff.1 h]; exact h0
    | succ n ih =>
      intro l h
      have hne : l ≠ [] := by intro e; rw [e] at h; simp at h
      rw [← List.dropLast_concat_getLast hne]
      exact h1 _ _ (ih _ (by rw [List.length_dropLast]; omega))
  exact key _ l rfl

def allL (rs : List ByteArray) : List UInt8 := rs.foldl (fun acc r => acc ++ frameL (acc.length + 1) r.data.toList) []

theorem allL_snoc (rs : List ByteArray) (r : ByteArray) : allL (rs ++ [r]) = allL rs ++ frameL ((allL rs).length + 1) r.data.toList := by
  simp [allL, List.foldl_append]

theorem fold_pre : ∀ (b : List ByteArray) (acc : List UInt8), ∃ B, b.foldl (fun acc r => acc ++ frameL (acc.length + 1) r.data.toList) acc = acc ++ B
  | [], acc => ⟨[], by simp⟩
  | r :: b, acc => by
    obtain ⟨B, h⟩ := fold_pre b (acc ++ frameL (acc.length + 1) r.data.toList)
    exact ⟨frameL (acc.length + 1) r.data.toList ++ B, by rw [List.foldl_cons, h, List.append_assoc]⟩

theorem allL_append (a b : List ByteArray) : ∃ B, allL (a ++ b) = allL a ++ B := by
  unfold allL
  rw [List.foldl_append]
  exact fold_pre b _

theorem allL_len (rs : List ByteArray) : (allL rs).length + 1 = placeOf rs rs.length := by
  induction rs using snoc_ind with
  | h0 => rfl
  | h1 l a ih =>
    rw [allL_snoc, List.length_append, frameL_length, List.length_append, List.length_singleton]
    show _ = placeOf (l ++ [a]) l.length + (((l ++ [a]).getD l.length ⟨#[]⟩).size + 12)
    rw [placeOf_snoc l a _ (Nat.le_refl _), getD_last, ← ih]
    simp
    omega

theorem recs_of {l : LG} {rs : List ByteArray} (hb : l.bytes = allL rs) (hs : l.starts = (List.range rs.length).map (placeOf rs)) : RecsAt l rs := by
  have key : ∀ rs : List ByteArray, ∃ l : LG, RecsAt l rs ∧ l.bytes = allL rs := by
    intro rs
    induction rs using snoc_ind with
    | h0 => exact ⟨log0 0, RecsAt.nil 0, rfl⟩
    | h1 rs r ih =>
      obtain ⟨l, h, e⟩ := ih
      refine ⟨putG l r, h.snoc r, ?_⟩
      rw [allL_snoc, ← e]
      rfl
  obtain ⟨l', h, e⟩ := key rs
  refine ⟨hs, ?_, ?_⟩
  · rw [hb]; exact allL_len rs
  · intro i hi
    rw [hb, ← e]
    exact h.text i hi

theorem scan_frames {all : ByteArray} {tail : List UInt8} : ∀ (suf pre : List ByteArray) (n : Nat), all.data.toList = allL (pre ++ suf) ++ tail → (∀ r ∈ suf, 1 ≤ r.size ∧ r.size ≤ 8192) → frameN all (allL (pre ++ suf)).length = 0 → suf.length < n →
    scan all n (allL pre).length = ((List.range suf.length).map (fun i => placeOf (pre ++ suf) (pre.length + i)), (allL (pre ++ suf)).length)
  | [], pre, n + 1, hall, hsz, h0, hn => by
    rw [List.append_nil] at h0 ⊢
    show (if _ then _ else _) = _
    rw [if_pos h0]
    rfl
  | r :: suf, pre, n + 1, hall, hsz, h0, hn => by
    have e : pre ++ r :: suf = (pre ++ [r]) ++ suf := by simp
    rw [e] at hall h0 ⊢
    obtain ⟨B, hB⟩ := allL_append (pre ++ [r]) suf
    have hr := hsz r (List.mem_cons_self)
    have hrl : r.data.toList.length = r.size := by simp
    have hf : frameN all (allL pre).length = r.data.toList.length + 12 :=
      frameN_here (A := allL pre) (r := r.data.toList) (B := B ++ tail) (by rw [hall, hB, allL_snoc]; simp only [List.append_assoc]) (by omega) (by omega)
    have ih := scan_frames suf (pre ++ [r]) n hall (fun x hx => hsz x (List.mem_cons_of_mem _ hx)) h0 (by simp at hn; omega)
    have hlen : (allL pre).length + (r.data.toList.length + 12) = (allL (pre ++ [r])).length := by rw [allL_snoc, List.length_append, frameL_length]
    show (if _ then _ else _) = _
    rw [if_neg (by rw [hf]; omega), hf, hlen, ih]
    have hp : placeOf ((pre ++ [r]) ++ suf) pre.length = (allL pre).length + 1 := by
      rw [allL_len]
      have key : ∀ (a b : List ByteArray) (i : Nat), i ≤ a.length → placeOf (a ++ b) i = placeOf a i := by
        intro a b i
        induction i with
        | zero => intro _; rfl
        | succ i ih =>
          intro h
          show placeOf (a ++ b) i + (((a ++ b).getD i ⟨#[]⟩).size + 12) = placeOf a i + ((a.getD i ⟨#[]⟩).size + 12)
          rw [ih (by omega), List.getD_eq_getElem?_getD, List.getD_eq_getElem?_getD, List.getElem?_append_left (by omega)]
      rw [key (pre ++ [r]) suf _ (by simp), key pre [r] _ (Nat.le_refl _)]
    refine Prod.ext ?_ rfl
    simp only [List.length_cons]
    rw [List.range_succ_eq_map, List.map_cons, List.map_map]
    congr 1
    · exact hp.symm
    · apply List.map_congr_left
      intro i _
      simp only [Function.comp, List.length_append, List.length_singleton]
      congr 1
      omega

theorem open_recs (p : Nat) (d : DG) (rs : List ByteArray) (tail : List UInt8) (hd : d.log = allL rs ++ tail) (hsz : ∀ r ∈ rs, 1 ≤ r.size ∧ r.size ≤ 8192) (h0 : frameN ⟨d.log.toArray⟩ (allL rs).length = 0) :
    RecsAt (openL p d) rs ∧ (openL p d).bytes = allL rs ∧ (openL p d).flushed = (allL rs).length ∧ (scan ⟨d.log.toArray⟩ (d.log.length + 1) 0).2 = (allL rs).length := by
  have hl := allL_len rs
  have hm := placeOf_mono rs (Nat.zero_le rs.length)
  have hm0 : placeOf rs 0 = 1 := rfl
  have hs := scan_frames (all := ⟨d.log.toArray⟩) (tail := tail) rs [] (d.log.length + 1) (by simpa using hd) hsz (by simpa using h0) (by rw [hd, List.length_append]; omega)
  have hz : (allL []).length = 0 := rfl
  rw [hz, List.nil_append] at hs
  have hb : (openL p d).bytes = allL rs := by
    show d.log.take (scan _ _ _).2 = _
    rw [hs]
    show d.log.take (allL rs).length = _
    rw [hd, List.take_left]
  refine ⟨recs_of hb ?_, hb, ?_, ?_⟩
  · show (scan _ _ _).1 = _
    rw [hs]
    apply List.map_congr_left
    intro i _
    simp
  · show (scan _ _ _).2 = _
    rw [hs]
  · rw [hs]

end Go.Proofs.YtgkfdakieebnmaaGreat

namespace Go.Proofs.YtgkfdakieebnmaaGreat
open Go.RowKit

def Sized (rs : List ByteArray) : Prop := placeOf rs rs.length ≤ 4194305

end Go.Proofs.YtgkfdakieebnmaaGreat
