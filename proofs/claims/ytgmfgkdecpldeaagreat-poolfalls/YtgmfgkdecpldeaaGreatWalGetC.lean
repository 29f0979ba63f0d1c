/-
  The walks of Get and Back over a log by its records.
-/
import Derived.Test.YtgmfgkdecpldeaaGreatWalRecsC
namespace Go.Proofs.YtgmfgkdecpldeaaGreat
open Go.RowKit
set_option linter.unusedVariables false

section
variable {w : World} {p : Nat} {S : Nat → Prop} {l : LG} {rs : List ByteArray}

theorem IsLog.lastStart (h : IsLog w p S l) : ∃ sa sc, w.cell? ⟨p, 2, none⟩ = some (.slice sa l.starts.length sc) ∧ (∀ j, j < l.starts.length → ∃ g, sa = some ⟨g, 0, none⟩ ∧ w.cell? ⟨g, j, none⟩ = some (.int .u64 (l.starts.getD j 0 : Nat))) := by
  obtain ⟨bv, sv, hL, _⟩ := h
  have ho := hL.starts
  rcases ho.2 with ⟨e1, e2⟩ | ⟨g, cap, cur, e1, _⟩
  · refine ⟨none, 0, by rw [e2]; rw [← e1]; exact hL.cells.c2, fun j hj => by omega⟩
  · refine ⟨some ⟨g, 0, none⟩, cap, by rw [← e1]; exact hL.cells.c2, fun j hj => ⟨g, rfl, ?_⟩⟩
    rw [e1] at ho
    have := owns_cells ho j (.int .u64 (l.starts.getD j 0 : Nat)) (by simp [lsnCells, hj])
    simpa [Addr.add_lit] using this



theorem RecsAt.recB {l : LG} {rs : List ByteArray} (h : RecsAt l rs) {i : Nat} (hi : i < rs.length) : recB l (placeOf rs i) (placeOf rs (i + 1)) = rs.getD i ⟨#[]⟩ := by
  have hs : placeOf rs (i + 1) = placeOf rs i + ((rs.getD i ⟨#[]⟩).size + 12) := rfl
  unfold Go.Proofs.YtgmfgkdecpldeaaGreat.recB
  rw [show placeOf rs (i + 1) - placeOf rs i - 12 = (rs.getD i ⟨#[]⟩).size by omega, h.text i hi]

theorem RecsAt.le {l : LG} {rs : List ByteArray} (h : RecsAt l rs) {i : Nat} (hi : i < rs.length) : placeOf rs i + 12 ≤ placeOf rs (i + 1) ∧ placeOf rs (i + 1) ≤ l.bytes.length + 1 := by
  have hs : placeOf rs (i + 1) = placeOf rs i + ((rs.getD i ⟨#[]⟩).size + 12) := rfl
  have := placeOf_mono rs (i := i + 1) (j := rs.length) (by omega)
  rw [h.long]
  omega



/-- What stands behind all. -/
theorem Found.behind {L : List Nat} {x i : Nat} {b : Bool} (h : Found L x i b) (hx : ∀ t, t < L.length → L.getD t 0 < x) : i = L.length ∧ b = false := by
  obtain ⟨h1, h2, h3, h4⟩ := h
  have e : i = L.length := by
    by_cases k : i < L.length
    · have a := h3 i (Nat.le_refl _) k; have b := hx i k; omega
    · omega
  exact ⟨e, by rw [h4]; exact decide_eq_false fun k => by omega⟩

theorem Found.ahead {L : List Nat} {x i : Nat} {b : Bool} (h : Found L x i b) (hx : ∀ t, t < L.length → x ≤ L.getD t 0) : i = 0 := by
  obtain ⟨h1, h2, h3, h4⟩ := h
  by_cases k : 0 < i
  · have a := h2 0 k; have b := hx 0 (by omega); omega
  · omega





end

end Go.Proofs.YtgmfgkdecpldeaaGreat
