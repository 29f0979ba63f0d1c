/-
  A log by its records: where they stand, what they are; and the walks of Get and Back over such a log.
-/
import Derived.Test.YtgkfdakieebnmaaGreatWalFrameJ
set_option linter.unusedVariables false
set_option linter.unusedSimpArgs false
namespace Go.Proofs.YtgkfdakieebnmaaGreat
open Go.RowKit

def placeOf (rs : List ByteArray) : Nat → Nat
  | 0 => 1
  | i + 1 => placeOf rs i + ((rs.getD i ⟨#[]⟩).size + 12)

structure RecsAt (l : LG) (rs : List ByteArray) : Prop where
  starts : l.starts = (List.range rs.length).map (placeOf rs)
  long : l.bytes.length + 1 = placeOf rs rs.length
  text : ∀ i, i < rs.length → (l.bytes.drop (placeOf rs i + 7)).take (rs.getD i ⟨#[]⟩).size = (rs.getD i ⟨#[]⟩).data.toList

theorem placeOf_snoc (rs : List ByteArray) (r : ByteArray) : ∀ i, i ≤ rs.length → placeOf (rs ++ [r]) i = placeOf rs i
  | 0, _ => rfl
  | i + 1, h => by
    have e : (rs ++ [r]).getD i ⟨#[]⟩ = rs.getD i ⟨#[]⟩ := by
      rw [List.getD_eq_getElem?_getD, List.getD_eq_getElem?_getD, List.getElem?_append_left (by omega)]
    show placeOf (rs ++ [r]) i + _ = placeOf rs i + _
    rw [placeOf_snoc rs r i (by omega), e]

theorem getD_last (rs : List ByteArray) (r : ByteArray) : (rs ++ [r]).getD rs.length ⟨#[]⟩ = r := by
  rw [List.getD_eq_getElem?_getD, List.getElem?_append_right (Nat.le_refl _)]
  simp

theorem placeOf_pos (rs : List ByteArray) : ∀ i, 1 ≤ placeOf rs i
  | 0 => Nat.le_refl _
  | i + 1 => by
    have := placeOf_pos rs i
    show 1 ≤ placeOf rs i + _
    omega

theorem placeOf_mono (rs : List ByteArray) {i j : Nat} (h : i ≤ j) : placeOf rs i + 12 * (j - i) ≤ placeOf rs j := by
  induction h with
  | refl => simp
  | step h ih =>
    rename_i m
    have h' : i ≤ m := h
    show _ ≤ placeOf rs m + (_ + 12)
    omega

theorem RecsAt.nil (p : Nat) : RecsAt (log0 p) [] := ⟨rfl, rfl, fun i h => absurd h (Nat.not_lt_zero _)⟩

theorem frame_text (a : Nat) (r : List UInt8) : ((frameL a r).drop 8).take r.length = r := by
  have e : frameL a r = (putL r.length 4 ++ putL (crcSum 0 (putL a 8 ++ r)) 4) ++ (r ++ putL r.length 4) := by simp [frameL]
  rw [e]
  have e8 : (putL r.length 4 ++ putL (crcSum 0 (putL a 8 ++ r)) 4).length = 8 := by simp [putL_length]
  generalize putL r.length 4 ++ putL (crcSum 0 (putL a 8 ++ r)) 4 = X at e8 ⊢
  rw [← e8, List.drop_left, List.take_left]

theorem RecsAt.snoc {l : LG} {rs : List ByteArray} (h : RecsAt l rs) (r : ByteArray) : RecsAt (putG l r) (rs ++ [r]) := by
  have hl := h.long
  refine ⟨?_, ?_, ?_⟩
  · show l.starts ++ [l.bytes.length + 1] = _
    rw [List.length_append, List.length_singleton, List.range_succ, List.map_append, List.map_singleton, placeOf_snoc rs r _ (Nat.le_refl _), hl, h.starts]
    congr 1
    apply List.map_congr_left
    intro i hi
    rw [placeOf_snoc rs r i (Nat.le_of_lt (List.mem_range.1 hi))]
  · show (l.bytes ++ frameL _ _).length + 1 = placeOf (rs ++ [r]) (rs ++ [r]).length
    rw [List.length_append, List.length_append, List.length_singleton, frameL_length]
    show _ = placeOf (rs ++ [r]) rs.length + (((rs ++ [r]).getD rs.length ⟨#[]⟩).size + 12)
    rw [placeOf_snoc rs r _ (Nat.le_refl _), getD_last, ← hl]
    simp
    omega
  · intro i hi
    rw [List.length_append, List.length_singleton] at hi
    show ((l.bytes ++ frameL (l.bytes.length + 1) r.data.toList).drop _).take _ = _
    by_cases hn : i = rs.length
    · subst hn
      rw [getD_last, placeOf_snoc rs r _ (Nat.le_refl _), ← hl, show l.bytes.length + 1 + 7 = l.bytes.length + 8 by omega, List.drop_append, List.drop_of_length_le (by omega), List.nil_append, show l.bytes.length + 8 - l.bytes.length = 8 by omega]
      have := frame_text (l.bytes.length + 1) r.data.toList
      simpa using this
    · have hi' : i < rs.length := by omega
      have e : (rs ++ [r]).getD i ⟨#[]⟩ = rs.getD i ⟨#[]⟩ := by
        rw [List.getD_eq_getElem?_getD, List.getD_eq_getElem?_getD, List.getElem?_append_left hi']
      have hm := placeOf_mono rs (i := i + 1) (j := rs.length) (by omega)
      have hs : placeOf rs (i + 1) = placeOf rs i + ((rs.getD i ⟨#[]⟩).size + 12) := rfl
      have hp := placeOf_pos rs i
      rw [e, placeOf_snoc rs r i (by omega), List.drop_append_of_le_length (by omega), List.take_append_of_le_length (by rw [List.length_drop]; omega)]
      exact h.text i hi'

theorem RecsAt.len {l : LG} {rs : List ByteArray} (h : RecsAt l rs) : l.starts.length = rs.length := by rw [h.starts]; simp

theorem RecsAt.at {l : LG} {rs : List ByteArray} (h : RecsAt l rs) {i : Nat} (hi : i < rs.length) : l.starts.getD i 0 = placeOf rs i := by
  rw [h.starts, List.getD_eq_getElem?_getD]
  simp [hi]

theorem RecsAt.rising {l : LG} {rs : List ByteArray} (h : RecsAt l rs) : Rising l.starts := by
  intro a b hab hb
  rw [h.len] at hb
  rw [h.at hb, h.at (by omega)]
  have := placeOf_mono rs (Nat.le_of_lt hab)
  omega

end Go.Proofs.YtgkfdakieebnmaaGreat

namespace Go.Proofs.YtgkfdakieebnmaaGreat
open Go.RowKit

section
variable {w : World} {p : Nat} {S : Nat → Prop} {l : LG} {rs : List ByteArray}

theorem IsLog.lastStart (h : IsLog w p S l) : ∃ sa sc, w.cell? ⟨p, 2, none⟩ = some (.slice sa l.starts.length sc) ∧ (∀ j, j < l.starts.length → ∃ g, sa = some ⟨g, 0, none⟩ ∧ w.cell? ⟨g, j, none⟩ = some (.int .u64 (l.starts.getD j 0 : Nat))) := by
  obtain ⟨bv, sv, hL, _⟩ := h
  have ho := hL.starts
  rcases ho.2 with ⟨e1, e2⟩ | ⟨g, cap, cur, e1, _⟩
  · refine ⟨none, 0, by rw [e2]; rw [← e1]; exact hL.cells.c2, fun j hj => by omega⟩
  · refine ⟨some ⟨g, 0, none⟩, cap, by rw [← e1]; exact hL.cells.c2, fun j hj => ⟨g, rfl, ?_⟩⟩
    rw [e1] at ho
    have := owns_cells ho j (.int .u64 (l.starts.getD j 0 : Nat)) (by simp [lsnCells, hj])
    simpa [Addr.add_lit] using this

set_option maxHeartbeats 400000 in
set_option maxRecDepth 8000 in
theorem get_mid (h : IsLog w p S l) (hr : Rising l.starts) (hn : l.starts.length ≤ 10000000) (hb : l.bytes.length ≤ 4194304) (i x B : Nat) (hi : i + 1 < l.starts.length) (hx : l.starts.getD i 0 = x) (h1 : 1 ≤ x) (h2 : x + 12 ≤ B) (h3 : B = l.starts.getD (i + 1) 0) (h4 : B ≤ l.bytes.length + 1) :
    Calls Tryz.prog 36 #[.pointer (some ⟨p, 0, none⟩), .int .u64 x] w fun e w' => e = .returned (.tuple #[.string (recB l x B), .int .u64 (B : Nat), .bool true]) ∧ ∃ q, w' = w.drewN q := by
  obtain ⟨sa, sc, c2, hst⟩ := h.lastStart
  obtain ⟨sg, hsa, hcell⟩ := hst (i + 1) hi
  rw [← h3] at hcell
  subst hsa
  clear hst
  go_enter Tryz.func36, Tryz.ntmps36
  go_wp2_with fail
  refine (find_out h hr hn x).mono ?_
  rintro e w1 ⟨⟨i', b, rfl, hf⟩, q, rfl⟩
  obtain ⟨rfl, rfl⟩ := hf.here hr (by omega) hx
  have hD : IsLog (w.drewN q) p S l := h.same (fun _ _ => rfl) (Nat.le_refl _)
  go_wp2_with fail
  refine (end_out hD hb).mono ?_
  rintro e w1 ⟨rfl, rfl⟩
  obtain ⟨bv, sv, hL, _⟩ := h
  have c1 := hL.cells.c1
  rcases hL.bytes with ⟨e1, e2⟩ | ⟨g, cap, cur, fz, e1, hg, hfz, hlc, hcm, hcs, htk⟩
  · exfalso
    rw [e2] at h4
    simp at h4
    omega
  have hrow := hL.bytes
  rw [e1] at hrow c1
  clear hL
  have k1 : ((i' : Int) + 1 < (l.starts.length : Int)) ↔ True := by simp; omega
  have k2 : ((i' : Int) + 1).toNat = i' + 1 := by omega
  have hcv := ByteRow.text (w := w.drewN q) (hrow.same fun _ _ => rfl) (x - 1 + 8) (B - 1 - (x - 1) - 4 - 8) (cap - (x - 1) - 8) (by omega)
  have HE : Hid (ByteArray.mk ((l.bytes.drop (x - 1 + 8)).take (B - 1 - (x - 1) - 4 - 8)).toArray = recB l x B) := by
    unfold recB
    rw [show x - 1 + 8 = x + 7 by omega, show B - 1 - (x - 1) - 4 - 8 = B - x - 12 by omega]
    exact rfl
  rw [HE.out] at hcv
  clear hrow h3
  go_wp2
  go_ret3
  exact ⟨rfl, q, rfl⟩

theorem RecsAt.recB {l : LG} {rs : List ByteArray} (h : RecsAt l rs) {i : Nat} (hi : i < rs.length) : recB l (placeOf rs i) (placeOf rs (i + 1)) = rs.getD i ⟨#[]⟩ := by
  have hs : placeOf rs (i + 1) = placeOf rs i + ((rs.getD i ⟨#[]⟩).size + 12) := rfl
  unfold Go.Proofs.YtgkfdakieebnmaaGreat.recB
  rw [show placeOf rs (i + 1) - placeOf rs i - 12 = (rs.getD i ⟨#[]⟩).size by omega, h.text i hi]

theorem RecsAt.le {l : LG} {rs : List ByteArray} (h : RecsAt l rs) {i : Nat} (hi : i < rs.length) : placeOf rs i + 12 ≤ placeOf rs (i + 1) ∧ placeOf rs (i + 1) ≤ l.bytes.length + 1 := by
  have hs : placeOf rs (i + 1) = placeOf rs i + ((rs.getD i ⟨#[]⟩).size + 12) := rfl
  have := placeOf_mono rs (i := i + 1) (j := rs.length) (by omega)
  rw [h.long]
  omega

theorem get_recs (h : IsLog w p S l) (hR : RecsAt l rs) (hn : rs.length ≤ 10000000) (hb : l.bytes.length ≤ 4194304) (i : Nat) (hi : i < rs.length) :
    Calls Tryz.prog 36 #[.pointer (some ⟨p, 0, none⟩), .int .u64 (placeOf rs i : Nat)] w fun e w' => e = .returned (.tuple #[.string (rs.getD i ⟨#[]⟩), .int .u64 (placeOf rs (i + 1) : Nat), .bool true]) ∧ ∃ q, w' = w.drewN q := by
  have hl := hR.len
  have e := hR.le hi
  have e2 := hR.recB hi
  by_cases hi1 : i + 1 < rs.length
  · have := get_mid h hR.rising (by omega) hb i (placeOf rs i) (placeOf rs (i + 1)) (by omega) (hR.at hi) (placeOf_pos rs i) e.1 (hR.at hi1).symm e.2
    rw [e2] at this
    exact this
  · have hi2 : i + 1 = rs.length := by omega
    have := get_last h hR.rising (by omega) hb i (placeOf rs i) (placeOf rs (i + 1)) (by omega) (hR.at hi) (placeOf_pos rs i) e.1 (by rw [hi2]; exact hR.long.symm)
    rw [e2] at this
    exact this

end

end Go.Proofs.YtgkfdakieebnmaaGreat

namespace Go.Proofs.YtgkfdakieebnmaaGreat
open Go.RowKit

section
variable {w : World} {p : Nat} {S : Nat → Prop} {d : DG}

theorem mark_out (h : IsDisk w p S d) (hd : d.dead = false) :
    Calls Tryz.prog 144 #[.pointer (some ⟨p, 0, none⟩)] w fun x w' => x = .returned (.tuple #[.int .u64 d.mark, .int .i64 0]) ∧ w' = w := by
  obtain ⟨m, hD, _⟩ := h
  have c8 := hD.blk.cells.c8
  have HD := hid hD
  clear hD
  go_enter Tryz.func144, Tryz.ntmps144
  go_wp2_with fail
  refine (dead_any HD.out.blk.cells).mono ?_
  rintro x w1 ⟨rfl, rfl⟩
  rw [hd]
  go_wp2
  go_ret2
  exact ⟨rfl, rfl⟩

end

section
variable {w : World} {p : Nat} {S : Nat → Prop} {l : LG} {rs : List ByteArray}

set_option maxHeartbeats 400000 in
set_option maxRecDepth 8000 in
theorem master_out {D : Nat → Prop} {d : DG} (h : IsLog w p S l) (hd : IsDisk w l.dp D d) (h1 : d.dead = false) (hr : Rising l.starts) (hn : l.starts.length ≤ 10000000) (v : Nat) (hv : (v = d.mark ∧ ∃ j, j < l.starts.length ∧ l.starts.getD j 0 = d.mark) ∨ (v = 0 ∧ ∀ j, j < l.starts.length → l.starts.getD j 0 ≠ d.mark)) :
    Calls Tryz.prog 83 #[.pointer (some ⟨p, 0, none⟩)] w fun e w' => e = .returned (.int .u64 (v : Nat)) ∧ ∃ q, w' = w.drewN q := by
  have c0 := h.c0
  have HM := hid (mark_out hd h1)
  have HF := hid (find_out h hr hn d.mark)
  rcases hv with ⟨rfl, j, hj, hx⟩ | ⟨rfl, hx⟩
  · have HH : Hid (∀ i b, Found l.starts d.mark i b → b = true) := fun i b hf => (hf.here hr hj hx).2
    go_enter Tryz.func83, Tryz.ntmps83
    go_wp2_with fail
    refine HM.out.mono ?_
    rintro e w1 ⟨rfl, rfl⟩
    go_wp2_with fail
    refine HF.out.mono ?_
    rintro e w2 ⟨⟨i, b, rfl, hf⟩, q, rfl⟩
    obtain rfl := HH.out i b hf
    clear hf
    go_wp2
    go_ret
    exact ⟨rfl, q, rfl⟩
  · have HH : Hid (∀ i b, Found l.starts d.mark i b → b = false) := fun i b hf => by
      rw [hf.2.2.2]
      exact decide_eq_false fun k => hx i k.1 k.2
    go_enter Tryz.func83, Tryz.ntmps83
    go_wp2_with fail
    refine HM.out.mono ?_
    rintro e w1 ⟨rfl, rfl⟩
    go_wp2_with fail
    refine HF.out.mono ?_
    rintro e w2 ⟨⟨i, b, rfl, hf⟩, q, rfl⟩
    obtain rfl := HH.out i b hf
    clear hf
    go_wp2
    go_ret
    exact ⟨rfl, q, rfl⟩

end

end Go.Proofs.YtgkfdakieebnmaaGreat
