/-
  A beginning of a log's bytes: some whole records, and behind them what is none.
-/
import Derived.Test.YthmhigjdjclckaaBase8C
namespace Go.Proofs.Ythmhigjdjclckaa
open Go.RowKit
set_option linter.unusedVariables false

theorem cut_none {all : ByteArray} {A r : List UInt8} {a m : Nat} (hall : all.data.toList = A ++ (frameL a r).take m) (hm : m < r.length + 12) (h2 : r.length ≤ 8192) : frameN all A.length = 0 := by
  by_cases hf : frameN all A.length = 0
  · exact hf
  · obtain ⟨r', B, hL, h1, h2', h3, h4⟩ := frameN_stands hall hf
    have hlen := congrArg List.length hL
    rw [List.length_append, frameL_length, List.length_take, frameL_length] at hlen
    have e : ((frameL a r).take m).take 4 = putL r.length 4 := by
      rw [List.take_take, Nat.min_eq_left (by omega)]
      unfold frameL
      rw [List.append_assoc, List.append_assoc]
      have h4' : (putL r.length 4).length = 4 := by rw [putL_length]
      conv => lhs; rw [← h4']
      exact List.take_left
    rw [e, le_putL] at h3
    have : r.length % 2 ^ (8 * 4) = r.length := Nat.mod_eq_of_lt (by omega)
    omega

theorem cut_recs (rs : List ByteArray) : (∀ r ∈ rs, 1 ≤ r.size ∧ r.size ≤ 8192) → ∀ n, n ≤ (allL rs).length → ∃ k tail, k ≤ rs.length ∧ (allL rs).take n = allL (rs.take k) ++ tail ∧
    frameN ⟨((allL rs).take n).toArray⟩ (allL (rs.take k)).length = 0 ∧ ∀ s, s ≤ rs.length → (allL (rs.take s)).length ≤ n → s ≤ k := by
  refine snoc_ind (P := fun rs => (∀ r ∈ rs, 1 ≤ r.size ∧ r.size ≤ 8192) → ∀ n, n ≤ (allL rs).length → ∃ k tail, k ≤ rs.length ∧ (allL rs).take n = allL (rs.take k) ++ tail ∧
    frameN ⟨((allL rs).take n).toArray⟩ (allL (rs.take k)).length = 0 ∧ ∀ s, s ≤ rs.length → (allL (rs.take s)).length ≤ n → s ≤ k) ?_ ?_ rs
  · intro _ n hn
    have h0 : n = 0 := by simpa [allL] using hn
    subst h0
    refine ⟨0, [], Nat.le_refl _, rfl, ?_, fun s hs _ => by simpa using hs⟩
    exact torn_end1 (all := ⟨((allL []).take 0).toArray⟩) (A := []) (L := ⟨#[]⟩) rfl (by decide)
  · intro l r ih hsz n hn
    have hr := hsz r (by simp)
    have hrl : r.data.toList.length = r.size := by simp
    have hall := allL_snoc l r
    have hF := frameL_length ((allL l).length + 1) r.data.toList
    have hlen : (allL (l ++ [r])).length = (allL l).length + (r.size + 12) := by rw [hall, List.length_append, hF, hrl]
    have hfull : (l ++ [r]).take (l.length + 1) = l ++ [r] := by rw [List.take_of_length_le]; simp
    have hpart : ∀ s, s ≤ l.length → (l ++ [r]).take s = l.take s := fun s hs => List.take_append_of_le_length hs
    by_cases c1 : n = (allL (l ++ [r])).length
    · refine ⟨l.length + 1, [], by simp, ?_, ?_, fun s hs _ => by simpa using hs⟩
      · rw [hfull, c1, List.take_length, List.append_nil]
      · rw [hfull, c1, List.take_length]
        exact torn_end1 (all := ⟨(allL (l ++ [r])).toArray⟩) (A := allL (l ++ [r])) (L := ⟨#[]⟩) (by simp) (by decide)
    · by_cases c2 : (allL l).length ≤ n
      · have e : (allL (l ++ [r])).take n = allL l ++ (frameL ((allL l).length + 1) r.data.toList).take (n - (allL l).length) := by
          rw [hall, List.take_append, List.take_of_length_le c2]
        refine ⟨l.length, (frameL ((allL l).length + 1) r.data.toList).take (n - (allL l).length), by simp, ?_, ?_, fun s hs hsn => ?_⟩
        · rw [hpart _ (Nat.le_refl _), List.take_length]; exact e
        · rw [hpart _ (Nat.le_refl _), List.take_length]
          exact cut_none (all := ⟨((allL (l ++ [r])).take n).toArray⟩) (by simpa using e) (by omega) (by omega)
        · rw [List.length_append, List.length_singleton] at hs
          by_cases hs1 : s = l.length + 1
          · rw [hs1, hfull] at hsn; omega
          · omega
      · obtain ⟨k, tail, hk, h1, h2, h3⟩ := ih (fun x hx => hsz x (by simp [hx])) n (by omega)
        have e : (allL (l ++ [r])).take n = (allL l).take n := by rw [hall, List.take_append_of_le_length (by omega)]
        refine ⟨k, tail, by simp; omega, ?_, ?_, fun s hs hsn => ?_⟩
        · rw [e, hpart k hk]; exact h1
        · rw [e, hpart k hk]; exact h2
        · rw [List.length_append, List.length_singleton] at hs
          by_cases hs1 : s = l.length + 1
          · rw [hs1, hfull] at hsn; omega
          · rw [hpart s (by omega)] at hsn
            exact h3 s (by omega) hsn

end Go.Proofs.Ythmhigjdjclckaa
