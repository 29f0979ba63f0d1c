/-
  The walk of girderlaw04.RecCuts.
  The walk of rec.Long of a record that may be; a record is the same as itself.
-/
import Derived.Test.YtndfjjcflbpdnaaBase7C
import Derived.Test.YtndfjjcflbpdnaaRecDecBadC
import Derived.Test.YtndfjjcflbpdnaaRecAwakeC
import Derived.Test.YtndfjjcflbpdnaaRefTextC
namespace Go.Proofs.Ytndfjjcflbpdnaa
open Go.RowKit Go.Sort
set_option linter.unusedVariables false
set_option linter.unusedSimpArgs false

theorem decode_bad' (s : ByteArray) (w : World) (hs : s.size ≤ 281474976710656) (he : endE s (readR s).1 (readR s).2.1 ≠ 0) :
    Calls Try.prog 4 #[.string s] w fun e w' => e = .returned (.tuple #[.agg zeroCellsR, .int .i64 40]) ∧ Below w.heap.size w w' :=
  decode_bad s w hs rfl rfl rfl rfl rfl rfl rfl he

theorem decode_good' (s : ByteArray) (w : World) (hs : s.size ≤ 281474976710656) {p : Nat} {r : RecV} (hr : readR s = (p, 0, r)) (he : endE s p 0 = 0) (hc : checkE r = 0) (hok : ∀ wx ta da, TxsAt wx ta r.txs → DisAt wx da r.dirty → r.Ok wx ta da) :
    Calls Try.prog 4 #[.string s] w fun e w' => ∃ ta da tc dc, e = .returned (.tuple #[.agg (r.cells ta da tc dc), .int .i64 0]) ∧ Below w.heap.size w w' ∧ TxsAt w' ta r.txs ∧ DisAt w' da r.dirty := by
  have h1 : (readR s).1 = p := by rw [hr]
  have h2 : (readR s).2.1 = 0 := by rw [hr]
  have h3 : (readR s).2.2 = r := by rw [hr]
  subst h3
  refine decode_good s w hs rfl rfl rfl rfl rfl rfl rfl ?_ hc hok
  show endE s (readR s).1 (readR s).2.1 = 0
  rw [h1, h2]
  exact he

/-- Where a record is cut. -/
theorem cut_place (cut : Int) (n : Nat) (hn : 0 < n) : ∃ k : Nat, k < n ∧ (cut.tmod (n : Int) + (n : Int)).tmod (n : Int) = (k : Int) ∧ -(n : Int) < cut.tmod (n : Int) ∧ cut.tmod (n : Int) < n := by
  have h1 := Int.tmod_lt_of_pos cut (show (0 : Int) < n by omega)
  have h2 : -(n : Int) < cut.tmod n := by
    have := Int.lt_tmod_of_pos cut (show (0 : Int) < n by omega)
    exact this
  have h3 := Int.tmod_lt_of_pos (cut.tmod (n : Int) + n) (show (0 : Int) < n by omega)
  have h4 := Int.tmod_nonneg (n : Int) (show 0 ≤ cut.tmod (n : Int) + n by omega)
  exact ⟨((cut.tmod (n : Int) + n).tmod n).toNat, by omega, by omega, h2, h1⟩

theorem encR_len (r : RecV) : 13 ≤ (encR r).length := by
  unfold encR
  simp only [List.length_append, putL_length]
  omega

end Go.Proofs.Ytndfjjcflbpdnaa

namespace Go.Proofs.Ytndfjjcflbpdnaa
open Go.RowKit Go.Sort
set_option linter.unusedVariables false
set_option linter.unusedSimpArgs false

theorem encR_most {r : RecV} (h : MayR r) : (encR r).length ≤ 1000000 := by
  unfold encR
  simp only [List.length_append, putL_length]
  have hn : (if nextB r then putL r.next 8 else []).length ≤ 8 := by split <;> simp [putL_length]
  have hc : (if changeB r then changeL r else []).length ≤ 200000 := by
    split
    · unfold changeL
      have h1 := textB_le r.op.S
      have h2 := textB_le r.op.old
      simp only [List.length_append, putL_length]
      omega
    · simp
  have hk : (if keyB r then keyL r else []).length ≤ 100000 := by
    split
    · unfold keyL
      have h1 := textB_le r.key
      simp only [List.length_append, putL_length]
      omega
    · simp
  have hl : (if listsB r then txsL r.txs ++ disL r.dirty else []).length ≤ 100000 := by
    split
    · rename_i hb
      obtain ⟨h1, h2, _⟩ := h.lists hb
      have a1 := txL_len r.txs r.txs.length
      have a2 := diL_len r.dirty r.dirty.length
      rw [List.take_length] at a1 a2
      unfold txsL disL
      simp only [List.length_append, putL_length]
      omega
    · simp
  omega

theorem sameR_self (r : RecV) : sameR r r = true := by unfold sameR; simp



end Go.Proofs.Ytndfjjcflbpdnaa
