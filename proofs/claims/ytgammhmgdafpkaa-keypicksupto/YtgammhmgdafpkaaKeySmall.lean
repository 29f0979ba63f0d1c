/-
  What the given bound on the bulk says of a list of values: how many there are.
-/
import Derived.Test.YtgammhmgdafpkaaRows
import Derived.Test.YtgammhmgdafpkaaKeyOpen
namespace Go.Proofs.Ytgammhmgdafpkaa

theorem kbulk_vals {H : Type} : ∀ L : List ValV, L.length ≤ Rows.uptoBulkAll (L.map fun v => v.data (H := H))
  | [] => Nat.zero_le _
  | v :: L => by
    have ih := kbulk_vals (H := H) L
    simp only [List.map_cons, Rows.uptoBulkAll, List.length_cons]
    have : 1 ≤ Rows.uptoBulk (v.data (H := H)) := by simp only [ValV.data, Rows.uptoBulk]; omega
    omega

theorem kvals_le {H : Type} {L : List ValV} {d : DataW H} (hd : d = .nil ∧ L = [] ∨ ∃ sp, d = .slice (L.map ValV.data) sp) : L.length ≤ Rows.uptoBulk d := by
  rcases hd with ⟨_, rfl⟩ | ⟨sp, rfl⟩
  · exact Nat.zero_le _
  · have hb : L.length ≤ Rows.uptoBulkAll (L.map (ValV.data (H := H))) := kbulk_vals (H := H) L
    simp only [Rows.uptoBulk]
    omega

end Go.Proofs.Ytgammhmgdafpkaa
