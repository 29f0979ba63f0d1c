/-
  The walks of Get and Back over a log by its records.
-/
import Derived.Test.YthmhigjdjclckaaBase6C
namespace Go.Proofs.Ythmhigjdjclckaa
open Go.RowKit
set_option linter.unusedVariables false

section
variable {w : World} {p : Nat} {S : Nat → Prop} {l : LG} {rs : List ByteArray}

theorem IsLog.lastStart (h : IsLog w p S l) : ∃ sa sc, w.cell? ⟨p, 2, none⟩ = some (.slice sa l.starts.length sc) ∧ (∀ j, j < l.starts.length → ∃ g, sa = some ⟨g, 0, none⟩ ∧ w.cell? ⟨g, j, none⟩ = some (.int .u64 (l.starts.getD j 0 : Nat))) := by
  obtain ⟨bv, sv, hL, _⟩ := h
  have ho := hL.starts
  rcases ho.2 with ⟨e1, e2⟩ | ⟨g, cap, cur, e1, _⟩
  · refine ⟨none, 0, by rw [e2]; rw [← e1]; exact hL.cells.c2, fun j hj => by omega⟩
  · refine ⟨some ⟨g, 0, none⟩, cap, by rw [← e1]; exact hL.cells.c2, fun j hj => ⟨g, rfl, ?_⟩⟩
    rw [e1] at ho
    have := owns_cells ho j (.int .u64 (l.starts.getD j 0 : Nat)) (by simp [lsnCells, hj])
    simpa [Addr.add_lit] using this

set_option maxHeartbeats 400000 in
set_option maxRecDepth 8000 in
theorem get_mid (h : IsLog w p S l) (hr : Rising l.starts) (hn : l.starts.length ≤ 10000000) (hb : l.bytes.length ≤ 4194304) (i x B : Nat) (hi : i + 1 < l.starts.length) (hx : l.starts.getD i 0 = x) (h1 : 1 ≤ x) (h2 : x + 12 ≤ B) (h3 : B = l.starts.getD (i + 1) 0) (h4 : B ≤ l.bytes.length + 1) :
    Calls Try.prog 18 #[.pointer (some ⟨p, 0, none⟩), .int .u64 x] w fun e w' => e = .returned (.tuple #[.string (recB l x B), .int .u64 (B : Nat), .bool true]) ∧ ∃ q, w' = w.drewN q := by
  obtain ⟨sa, sc, c2, hst⟩ := h.lastStart
  obtain ⟨sg, hsa, hcell⟩ := hst (i + 1) hi
  rw [← h3] at hcell
  subst hsa
  clear hst
  go_enter Try.func18, Try.ntmps18
  go_wp2_with fail
  refine (find_out h hr hn x).mono ?_
  rintro e w1 ⟨⟨i', b, rfl, hf⟩, q, rfl⟩
  obtain ⟨rfl, rfl⟩ := hf.here hr (by omega) hx
  have hD : IsLog (w.drewN q) p S l := h.same (fun _ _ => rfl) (Nat.le_refl _)
  go_wp2_with fail
  refine (end_out hD hb).mono ?_
  rintro e w1 ⟨rfl, rfl⟩
  obtain ⟨bv, sv, hL, _⟩ := h
  have c1 := hL.cells.c1
  rcases hL.bytes with ⟨e1, e2⟩ | ⟨g, cap, cur, fz, e1, hg, hfz, hlc, hcm, hcs, htk⟩
  · exfalso
    rw [e2] at h4
    simp at h4
    omega
  have hrow := hL.bytes
  rw [e1] at hrow c1
  clear hL
  have k1 : ((i' : Int) + 1 < (l.starts.length : Int)) ↔ True := by simp; omega
  have k2 : ((i' : Int) + 1).toNat = i' + 1 := by omega
  have hcv := ByteRow.text (w := w.drewN q) (hrow.same fun _ _ => rfl) (x - 1 + 8) (B - 1 - (x - 1) - 4 - 8) (cap - (x - 1) - 8) (by omega)
  have HE : Hid (ByteArray.mk ((l.bytes.drop (x - 1 + 8)).take (B - 1 - (x - 1) - 4 - 8)).toArray = recB l x B) := by
    unfold recB
    rw [show x - 1 + 8 = x + 7 by omega, show B - 1 - (x - 1) - 4 - 8 = B - x - 12 by omega]
    exact rfl
  rw [HE.out] at hcv
  clear hrow h3
  go_wp2
  go_ret3
  exact ⟨rfl, q, rfl⟩

theorem RecsAt.recB {l : LG} {rs : List ByteArray} (h : RecsAt l rs) {i : Nat} (hi : i < rs.length) : recB l (placeOf rs i) (placeOf rs (i + 1)) = rs.getD i ⟨#[]⟩ := by
  have hs : placeOf rs (i + 1) = placeOf rs i + ((rs.getD i ⟨#[]⟩).size + 12) := rfl
  unfold Go.Proofs.Ythmhigjdjclckaa.recB
  rw [show placeOf rs (i + 1) - placeOf rs i - 12 = (rs.getD i ⟨#[]⟩).size by omega, h.text i hi]

theorem RecsAt.le {l : LG} {rs : List ByteArray} (h : RecsAt l rs) {i : Nat} (hi : i < rs.length) : placeOf rs i + 12 ≤ placeOf rs (i + 1) ∧ placeOf rs (i + 1) ≤ l.bytes.length + 1 := by
  have hs : placeOf rs (i + 1) = placeOf rs i + ((rs.getD i ⟨#[]⟩).size + 12) := rfl
  have := placeOf_mono rs (i := i + 1) (j := rs.length) (by omega)
  rw [h.long]
  omega

theorem get_recs (h : IsLog w p S l) (hR : RecsAt l rs) (hn : rs.length ≤ 10000000) (hb : l.bytes.length ≤ 4194304) (i : Nat) (hi : i < rs.length) :
    Calls Try.prog 18 #[.pointer (some ⟨p, 0, none⟩), .int .u64 (placeOf rs i : Nat)] w fun e w' => e = .returned (.tuple #[.string (rs.getD i ⟨#[]⟩), .int .u64 (placeOf rs (i + 1) : Nat), .bool true]) ∧ ∃ q, w' = w.drewN q := by
  have hl := hR.len
  have e := hR.le hi
  have e2 := hR.recB hi
  by_cases hi1 : i + 1 < rs.length
  · have := get_mid h hR.rising (by omega) hb i (placeOf rs i) (placeOf rs (i + 1)) (by omega) (hR.at hi) (placeOf_pos rs i) e.1 (hR.at hi1).symm e.2
    rw [e2] at this
    exact this
  · have hi2 : i + 1 = rs.length := by omega
    have := get_last h hR.rising (by omega) hb i (placeOf rs i) (placeOf rs (i + 1)) (by omega) (hR.at hi) (placeOf_pos rs i) e.1 (by rw [hi2]; exact hR.long.symm)
    rw [e2] at this
    exact this

/-- What stands behind all. -/
theorem Found.behind {L : List Nat} {x i : Nat} {b : Bool} (h : Found L x i b) (hx : ∀ t, t < L.length → L.getD t 0 < x) : i = L.length ∧ b = false := by
  obtain ⟨h1, h2, h3, h4⟩ := h
  have e : i = L.length := by
    by_cases k : i < L.length
    · have a := h3 i (Nat.le_refl _) k; have b := hx i k; omega
    · omega
  exact ⟨e, by rw [h4]; exact decide_eq_false fun k => by omega⟩

theorem Found.ahead {L : List Nat} {x i : Nat} {b : Bool} (h : Found L x i b) (hx : ∀ t, t < L.length → x ≤ L.getD t 0) : i = 0 := by
  obtain ⟨h1, h2, h3, h4⟩ := h
  by_cases k : 0 < i
  · have a := h2 0 k; have b := hx 0 (by omega); omega
  · omega

set_option maxHeartbeats 400000 in
set_option maxRecDepth 8000 in
theorem back_first (h : IsLog w p S l) (hR : RecsAt l rs) (hn : rs.length ≤ 10000000) :
    Calls Try.prog 37 #[.pointer (some ⟨p, 0, none⟩), .int .u64 1] w fun e w' => e = .returned (.tuple #[.int .u64 0, .bool false]) ∧ ∃ q, w' = w.drewN q := by
  have hl := hR.len
  go_enter Try.func37, Try.ntmps37
  go_wp2_with fail
  refine (find_out h hR.rising (by omega) 1).mono ?_
  rintro e w1 ⟨⟨i', b, rfl, hf⟩, q, rfl⟩
  obtain rfl := hf.ahead fun t ht => by rw [hR.at (by omega)]; exact placeOf_pos rs t
  go_wp2
  go_ret2
  exact ⟨rfl, q, rfl⟩

set_option maxHeartbeats 400000 in
set_option maxRecDepth 8000 in
theorem back_recs (h : IsLog w p S l) (hR : RecsAt l rs) (hn : rs.length ≤ 10000000) (hb : l.bytes.length ≤ 4194304) (i : Nat) (hi : i < rs.length) :
    Calls Try.prog 37 #[.pointer (some ⟨p, 0, none⟩), .int .u64 (placeOf rs (i + 1) : Nat)] w fun e w' => e = .returned (.tuple #[.int .u64 (placeOf rs i : Nat), .bool true]) ∧ ∃ q, w' = w.drewN q := by
  have hl := hR.len
  obtain ⟨sa, sc, c2, hst⟩ := h.lastStart
  obtain ⟨sg, hsa, hcell⟩ := hst i (by omega)
  rw [hR.at hi] at hcell
  subst hsa
  clear hst
  have k1 : ((i : Int) + 1 == 0) = false := by rw [beq_eq_false_iff_ne]; omega
  have k2 : ((i : Int) + 1 - 1) = (i : Int) := by omega
  have hil : (i : Int) < (l.starts.length : Int) := by omega
  by_cases hi1 : i + 1 < rs.length
  · go_enter Try.func37, Try.ntmps37
    go_wp2_with fail
    refine (find_out h hR.rising (by omega) _).mono ?_
    rintro e w1 ⟨⟨i', b, rfl, hf⟩, q, rfl⟩
    obtain ⟨rfl, rfl⟩ := hf.here hR.rising (j := i + 1) (by omega) (hR.at hi1)
    go_wp2
    go_ret2
    exact ⟨rfl, q, rfl⟩
  · have hi2 : i + 1 = rs.length := by omega
    have hlong : placeOf rs (i + 1) = l.bytes.length + 1 := by rw [hi2]; exact hR.long.symm
    have hx : ∀ t, t < l.starts.length → l.starts.getD t 0 < placeOf rs (i + 1) := fun t ht => by
      rw [hR.at (by omega)]
      have := placeOf_mono rs (i := t) (j := i + 1) (by omega)
      omega
    have HX := hid hx
    rw [hlong]
    go_enter Try.func37, Try.ntmps37
    go_wp2_with fail
    refine (find_out h hR.rising (by omega) (l.bytes.length + 1)).mono ?_
    rintro e w1 ⟨⟨i', b, rfl, hf⟩, q, rfl⟩
    obtain ⟨rfl, rfl⟩ := hf.behind (by rw [← hlong]; exact HX.out)
    have hD : IsLog (w.drewN q) p S l := h.same (fun _ _ => rfl) (Nat.le_refl _)
    have HE := hid (end_out hD hb)
    have j1 : ((l.starts.length : Int) == 0) = false := by rw [beq_eq_false_iff_ne]; omega
    have j2 : (l.starts.length : Int) - 1 = (i : Int) := by omega
    have j1' : ((rs.length : Int) == 0) = false := by rw [beq_eq_false_iff_ne]; omega
    have j2' : (rs.length : Int) - 1 = (i : Int) := by omega
    have hil' : (i : Int) < (rs.length : Int) := by omega
    clear hx
    go_wp2_with fail
    refine HE.out.mono ?_
    rintro e w2 ⟨rfl, rfl⟩
    go_wp2
    go_ret2
    exact ⟨rfl, q, rfl⟩

end

end Go.Proofs.Ythmhigjdjclckaa
