/-
  What the given bound on the bulk says of a list of acts: how many there are, and how many letters their texts have.
-/
import Derived.Test.YtjfjijgdjlkhkaaRows
import Derived.Test.YtjfjijgdjlkhkaaEnc
namespace Go.Proofs.Ytjfjijgdjlkhkaa

theorem bulk_acts {H : Type} (A : Nat → ActV) (n : Nat) : n + sumS A n ≤ Rows.uptoBulkAll ((List.range n).map fun i => (A i).data (H := H)) := by
  induction n with
  | zero => simp [sumS, Rows.uptoBulkAll]
  | succ n ih =>
    have hap : ∀ l r : List (DataW H), Rows.uptoBulkAll (l ++ r) = Rows.uptoBulkAll l + Rows.uptoBulkAll r := by
      intro l r
      induction l with
      | nil => simp [Rows.uptoBulkAll]
      | cons x l ih => simp only [List.cons_append, Rows.uptoBulkAll, ih]; omega
    rw [List.range_succ, List.map_append, hap]
    have h1 : 1 + (A n).S.size ≤ Rows.uptoBulkAll [(A n).data (H := H)] := by
      simp only [Rows.uptoBulkAll, ActV.data, Rows.uptoBulk]
      have : (A n).S.data.toList.length = (A n).S.size := by simp
      omega
    simp only [List.map_cons, List.map_nil, sumS]
    omega

theorem acts_small {H : Type} {A : Nat → ActV} {len : Nat} {d : DataW H} (hd : d = .nil ∧ len = 0 ∨ ∃ sp, d = .slice ((List.range len).map fun i => (A i).data) sp) (hk : Rows.uptoSmall H ([d] ++ []) = true) :
    len ≤ 1048576 ∧ sumS A len ≤ 1048576 := by
  have h : Rows.uptoBulkAll [d] ≤ 1048576 := of_decide_eq_true hk
  rcases hd with ⟨_, rfl⟩ | ⟨sp, rfl⟩
  · exact ⟨by omega, by simp [sumS]⟩
  · have hb := bulk_acts (H := H) A len
    simp only [Rows.uptoBulkAll, Rows.uptoBulk] at h
    omega

end Go.Proofs.Ytjfjijgdjlkhkaa
