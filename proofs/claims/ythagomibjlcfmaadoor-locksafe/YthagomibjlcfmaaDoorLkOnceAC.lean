/-
  Ask and Release keep the table of LockOnce.
-/
import Derived.Test.YthagomibjlcfmaaDoorLkOnceM2C
namespace Go.Proofs.YthagomibjlcfmaaDoor
open Go.RowKit
set_option linter.unusedVariables false

/-- Asked without 'instant', whatever comes of it. -/
theorem ask_once {S : Nat → Prop} {w : World} {b i : Nat} {T : Tab} (hl : LkLaid w) (h : IsTab S w b T) (hT : TInv T i) (hi : i ≤ 100) {tx : Int} (ht : 1 ≤ tx ∧ tx ≤ 4) {n : NameV} (hn : NmOk n) (mode : Int) :
    Calls Tryd.prog 10 #[ptr b, .int .i64 tx, nval n, .int .i64 mode, .bool false, .bool true] w fun e w' => ∃ r c S' T', e = .returned (.tuple #[.bool r, .int .i64 c]) ∧ IsTab S' w' b T' ∧ TInv T' (i + 1) ∧ MovesL S S' w w' := by
  obtain ⟨l, hk⟩ := hn.1
  have hr : i64R tx := ⟨by omega, by omega⟩
  have hL : (T.Q n).length < 1000000 := by have := (hT.q n).len; omega
  have hz : T.z ≤ 1000000 := by have := hT.z; omega
  have hy : T.y ≤ 1000000 := by have := hT.y; omega
  by_cases hm : modB mode = true
  · cases hw : T.W tx with
    | some m =>
      refine (ask_waits h tx n mode false true ht.1 hr hm (by rw [hw]; rfl)).mono ?_
      rintro e w' ⟨rfl, k⟩
      exact ⟨_, _, S, T, rfl, h.below k, hT.mono (by omega), MovesL.of_below k⟩
    | none =>
      have hone := (hT.q n).one tx
      have hJ := joinF_rng hone hm
      have h5 := fun x => (hT.q n).h5 hw x
      by_cases h4 : joinF (oneF (T.Q n) tx).2.1 mode = (oneF (T.Q n) tx).2.1
      · refine (ask_has hl h tx n l hk mode false true ht.1 hr hm hw hL hz h4).mono ?_
        rintro e w' ⟨rfl, k⟩
        exact ⟨_, _, S, T, rfl, h.below k, hT.mono (by omega), MovesL.of_below k⟩
      · by_cases hB : blkF (T.Q n) (tx, (oneF (T.Q n) tx).2.1, joinF (oneF (T.Q n) tx).2.1 mode, false) = []
        · refine (ask_had hl h tx n l hk mode false true ht.1 hr hm hw hL hz h4 h5 (by omega) trivial hB).mono ?_
          rintro e w' ⟨rfl, S', k1, k2⟩
          exact ⟨_, _, S', _, rfl, k1, hT.had hn ht hJ, k2⟩
        · refine (ask_wait hl h tx n l hk mode false true ht.1 hr hm hw hL hz h4 h5 (by omega) hB trivial rfl hy).mono ?_
          rintro e w' ⟨rfl, S', k1, k2⟩
          exact ⟨_, _, S', _, rfl, k1, hT.wait hn ht hone hJ hw, k2⟩
  · refine (ask_arg (ptr b) (.inr ⟨b, rfl⟩) tx n mode false true w (.inr (.inr (by simpa using hm)))).mono ?_
    rintro e w' ⟨rfl, k⟩
    exact ⟨_, _, S, T, rfl, h.below k, hT.mono (by omega), MovesL.of_below k⟩

theorem release_once {S : Nat → Prop} {w : World} {b i : Nat} {T : Tab} (hl : LkLaid w) (h : IsTab S w b T) (hT : TInv T i) (hi : i ≤ 100) (hS0 : ¬ S 0 ∧ ¬ S 1) (hNS : ∀ m, m ≤ 100 → NSorts m) {tx : Int} (ht : 1 ≤ tx ∧ tx ≤ 4) :
    Calls Tryd.prog 8 #[ptr b, .int .i64 tx] w fun e w' => ∃ v S' T', e = .returned v ∧ IsTab S' w' b T' ∧ TInv T' (i + 1) ∧ MovesL S S' w w' := by
  refine (release_any hl h tx ⟨by omega, by omega⟩ (by have := hT.z; omega) (fun n => by have := (hT.q n).len; omega) (fun n p hp => by have := (hT.q n).tx p hp; exact ⟨by omega, by omega⟩) hS0 (hNS T.z (by have := hT.z; omega))).mono ?_
  rintro e w' ⟨v, rfl, S', NL, zs, T', hN, hR, _, ht', hm, _⟩
  exact ⟨v, S', T', rfl, ht', ((hT.out hN).rel hR).mono (by omega), hm⟩

/-- To ask again for what one has. -/
theorem ask_again {S : Nat → Prop} {w : World} {b i : Nat} {T : Tab} (hl : LkLaid w) (h : IsTab S w b T) (hT : TInv T i) (hi : i ≤ 100) {tx : Int} (ht : 1 ≤ tx ∧ tx ≤ 4) (hw : T.W tx = none) {n : NameV} {l : Lit} (hk : NKey n l) {m : Int} (h1 : 1 ≤ m) (h2 : m ≤ (oneF (T.Q n) tx).2.1) (h3 : joinF (oneF (T.Q n) tx).2.1 m = (oneF (T.Q n) tx).2.1) :
    Calls Tryd.prog 10 #[ptr b, .int .i64 tx, nval n, .int .i64 m, .bool false, .bool false] w fun e w' => e = .returned (.tuple #[.bool true, .int .i64 0]) ∧ Below w.heap.size w w' := by
  have hone := (hT.q n).one tx
  have hm : modB m = true := by unfold modB; simp; omega
  exact ask_has hl h tx n l hk m false false ht.1 ⟨by omega, by omega⟩ hm hw (by have := (hT.q n).len; omega) (by have := hT.z; omega) h3

theorem freshKey : ∃ l, NKey freshN l := nkey_of (by kernel_rfl)

/-- An instant asking that is had. -/
theorem ask_fresh {S : Nat → Prop} {w : World} {b i : Nat} {T : Tab} (hl : LkLaid w) (h : IsTab S w b T) (hT : TInv T i) (hi : i ≤ 100) {tx : Int} (ht : 1 ≤ tx ∧ tx ≤ 4) (hw : T.W tx = none) :
    Calls Tryd.prog 10 #[ptr b, .int .i64 tx, nval freshN, .int .i64 5, .bool true, .bool true] w fun e w' => e = .returned (.tuple #[.bool true, .int .i64 0]) ∧ ∃ S', IsTab S' w' b T ∧ MovesL S S' w w' := by
  obtain ⟨l, hk⟩ := freshKey
  have hq : T.Q freshN = [] := Classical.byContradiction fun x => (hT.nm _ x).2 rfl
  have ho : oneF (T.Q freshN) tx = (tx, 0, 0, false) := by rw [hq]; rfl
  have hof : ofF (T.Q freshN) tx = (T.Q freshN).length := by rw [hq]; rfl
  refine (ask_had hl h tx freshN l hk 5 true true ht.1 ⟨by omega, by omega⟩ rfl hw (by rw [hq]; simp) (by have := hT.z; omega) (by rw [ho]; show joinF 0 5 ≠ 0; decide) (fun _ => hof) (by rw [ho]; show joinF 0 5 ≠ 0; decide) trivial (by rw [hq]; rfl)).mono ?_
  rintro e w' ⟨rfl, S', k1, k2⟩
  refine ⟨rfl, S', ?_, k2⟩
  have e1 : withF (T.Q freshN) (grantedF (tx, (oneF (T.Q freshN) tx).2.1, joinF (oneF (T.Q freshN) tx).2.1 5, true)) = [] := by
    rw [hq, withF_nil]
    rfl
  rw [e1, setQ_nil hq] at k1
  exact k1

end Go.Proofs.YthagomibjlcfmaaDoor
