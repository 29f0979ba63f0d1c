/-
  slices.BinarySearch at []api.LSN, and the walks of (*wal.Log).find, Get, Back, Last.
-/
import Derived.Test.YtgmfgkdecpldeaaGreatWalOpenC
import Derived.Deep.LoopGhost
import Derived.Deep.Draws
namespace Go.Proofs.YtgmfgkdecpldeaaGreat
open Go.RowKit
set_option linter.unusedVariables false







/-- Of a row that does not fall: how many stand ahead of a place, and whether it stands there. -/
def Found (L : List Nat) (x i : Nat) (b : Bool) : Prop :=
  i ≤ L.length ∧ (∀ t, t < i → L.getD t 0 < x) ∧ (∀ t, i ≤ t → t < L.length → x ≤ L.getD t 0) ∧ b = decide (i < L.length ∧ L.getD i 0 = x)





/-- The starts rise. -/
def Rising (L : List Nat) : Prop := ∀ a b, a < b → b < L.length → L.getD a 0 < L.getD b 0

section
variable {w : World} {p : Nat} {S : Nat → Prop} {l : LG}



theorem Found.here {L : List Nat} {x i j : Nat} {b : Bool} (h : Found L x i b) (hr : Rising L) (hj : j < L.length) (hx : L.getD j 0 = x) : i = j ∧ b = true := by
  obtain ⟨h1, h2, h3, h4⟩ := h
  have e1 : ¬ j < i := fun k => by have := h2 j k; omega
  have e2 : ¬ i < j := fun k => by have a := hr i j k hj; have b := h3 i (Nat.le_refl _) (by omega); omega
  have e : i = j := by omega
  exact ⟨e, by rw [h4, e]; exact decide_eq_true ⟨hj, hx⟩⟩

theorem ByteRow.text {w : World} {g n cap : Nat} {l : List UInt8} (h : ByteRow w (.slice (some ⟨g, 0, none⟩) n cap) l) (a k c : Nat) (hk : a + k ≤ l.length) :
    (convert 47 9 (.slice (some ⟨g, a, none⟩) k c)).run Tryz.prog w = .ok (.string ⟨((l.drop a).take k).toArray⟩) w := by
  have hl : ((l.drop a).take k).length = k := by simp; omega
  have := run_convert_bytes_back (P := Tryz.prog) w 47 9 5 ⟨g, a, none⟩ c ((l.drop a).take k) Tryz.underlying47 Tryz.underlying5 Tryz.underlying9 (fun j hj => by
    rw [hl] at hj
    have e := h.cell (a + j) (by omega)
    simp only [List.getElem_take, List.getElem_drop]
    simpa [Addr.add_lit] using e)
  rw [hl] at this
  exact this

/-- The record between two places. -/
def recB (l : LG) (x B : Nat) : ByteArray := ⟨((l.bytes.drop (x + 7)).take (B - x - 12)).toArray⟩



end

end Go.Proofs.YtgmfgkdecpldeaaGreat
