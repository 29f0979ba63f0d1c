/-
  A log of records over its disk, its blocks named, and what is done to it.
-/
import Derived.Test.YtgkfdakieebnmaaGreatAnRunC
import Derived.Test.YtgkfdakieebnmaaGreatWalP2C
import Derived.Test.YtgkfdakieebnmaaGreatTornScanJ
import Derived.Maps.AppendAt
import Derived.Deep.Upon
import Derived.Test.YtgkfdakieebnmaaGreatRepeatJ
set_option linter.unusedVariables false
set_option linter.unusedSimpArgs false
namespace Go.Proofs.YtgkfdakieebnmaaGreat
open Go.RowKit Go.Sort

def LgAt (W : World) (q : Nat) (A : Nat → Prop) (rs : List ByteArray) (sure mark j : Nat) : Prop :=
  ∃ p S D l d, WpL W p q S D l d rs sure 0 mark j ∧ ∀ k, A k ↔ (S k ∨ D k)

section
variable {W W' : World} {q : Nat} {A : Nat → Prop} {rs : List ByteArray} {sure mark j : Nat}

theorem moves_log {S S' D A : Nat → Prop} {w w' : World} (hA : ∀ k, A k ↔ (S k ∨ D k)) (h : Moves S S' w w') : Moves A (fun k => S' k ∨ D k) w w' :=
  ⟨h.1.mono fun k x => (hA k).2 (.inl x), fun k x => by
    rcases x with x | x
    · rcases h.2 k x with y | y
      · exact .inl ((hA k).2 (.inl y))
      · exact .inr y
    · exact .inl ((hA k).2 (.inr x))⟩

theorem lg_end (h : LgAt W q A rs sure mark j) :
    Calls Tryz.prog 26 #[.pointer (some ⟨q, 0, none⟩)] W fun e w' => e = .returned (.int .u64 (placeOf rs rs.length : Nat)) ∧ w' = W := by
  obtain ⟨p, S, D, l, d, h, hA⟩ := h
  have := end_out h.log h.blen
  rw [h.long] at this
  exact this

theorem lg_run (h : LgAt W q A rs sure mark j) (hj : j ≤ 1000) (R : Nat → RecV) (B : Nat → Bool) (i0 : Nat) (hi0 : i0 ≤ rs.length) (hm : (mark = 0 ∧ i0 = 0) ∨ (mark ≠ 0 ∧ i0 < rs.length ∧ placeOf rs i0 = mark))
    (hg : ∀ i, i < rs.length → B i = true → DecGood (rs.getD i ⟨#[]⟩) (R i) ∧ HrOk (R i)) (hb : ∀ i, i < rs.length → B i = false → DecBad (rs.getD i ⟨#[]⟩)) :
    Calls Tryz.prog 13 #[.pointer (some ⟨q, 0, none⟩)] W fun e w' => RunOut W rs R B i0 e w' := by
  obtain ⟨p, S, D, l, d, h, hA⟩ := h
  exact run_any h hj R B i0 hi0 (by have := h.cnt; omega) hm hg hb

end

end Go.Proofs.YtgkfdakieebnmaaGreat
