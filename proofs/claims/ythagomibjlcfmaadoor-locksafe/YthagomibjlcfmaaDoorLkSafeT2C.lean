/-
  The table of LockSafe: kept by Ask, Release, Cancel.
-/
import Derived.Test.YthagomibjlcfmaaDoorBase2C
import Derived.Test.YthagomibjlcfmaaDoorLkOnceAC
import Derived.Test.YthagomibjlcfmaaDoorLkCancC
namespace Go.Proofs.YthagomibjlcfmaaDoor
open Go.RowKit
set_option linter.unusedVariables false

structure STab (T : Tab) (i : Nat) : Prop where
  pre : ∀ n, SPre (T.Q n)
  blk : ∀ n, SBlk (T.Q n)
  wq : ∀ n, ∀ p ∈ T.Q n, p.2.2.1 ≠ 0 → T.W p.1 = some n
  qw : ∀ t n, T.W t = some n → ∃ p ∈ T.Q n, p.1 = t ∧ p.2.2.1 ≠ 0
  nm : ∀ n, T.Q n ≠ [] → NmOk n
  z : T.z ≤ i
  y : T.y ≤ i

theorem STab.mono {T : Tab} {i j : Nat} (h : STab T i) (k : i ≤ j) : STab T j := ⟨h.pre, h.blk, h.wq, h.qw, h.nm, Nat.le_trans h.z k, Nat.le_trans h.y k⟩

theorem STab.empty : STab emptyT 0 :=
  ⟨fun n => ⟨List.Pairwise.nil, fun p hp => (by cases hp), fun p hp => (by cases hp), fun p hp => (by cases hp), fun p hp => (by cases hp), List.Pairwise.nil⟩, fun n A p B e => by have e' : ([] : List Pl) = A ++ p :: B := e; simp at e', fun n p hp => (by cases hp), fun t n e => (by cases e), fun n h => absurd rfl h, Nat.le_refl _, Nat.le_refl _⟩

theorem STab.len {T : Tab} {i : Nat} (h : STab T i) (n : NameV) : (T.Q n).length ≤ 4 := uq_len 4 (h.pre n).uq (h.pre n).tx

theorem STab.free {T : Tab} {i : Nat} (h : STab T i) (n : NameV) {tx : Int} (hW : T.W tx = none) : (oneF (T.Q n) tx).2.2.1 = 0 ∧ ((oneF (T.Q n) tx).2.1 = 0 → ofF (T.Q n) tx = (T.Q n).length) := by
  rcases oneF_of (T.Q n) tx with x | ⟨x, y⟩
  · have hw : (oneF (T.Q n) tx).2.2.1 = 0 := Classical.byContradiction fun e => by
      have := h.wq n _ x e
      rw [oneF_tx, hW] at this
      cases this
    exact ⟨hw, fun e => absurd hw ((h.pre n).some' _ x e)⟩
  · exact ⟨by rw [x], fun _ => y⟩

theorem STab.had {T : Tab} {i : Nat} (h : STab T i) {n : NameV} (hn : NmOk n) {tx m : Int} {b : Bool} (ht : 1 ≤ tx ∧ tx ≤ 4) (hm : modB m = true) (hW : T.W tx = none) (he : blkF (T.Q n) (tx, (oneF (T.Q n) tx).2.1, joinF (oneF (T.Q n) tx).2.1 m, b) = []) :
    STab (T.setQ n (withF (T.Q n) (grantedF (tx, (oneF (T.Q n) tx).2.1, joinF (oneF (T.Q n) tx).2.1 m, b)))) (i + 1) := by
  obtain ⟨a1, a2, a3, a4⟩ := had_list (h.pre n) (h.blk n) ht hm (h.free n hW).1 he
  generalize withF (T.Q n) (grantedF (tx, (oneF (T.Q n) tx).2.1, joinF (oneF (T.Q n) tx).2.1 m, b)) = M at *
  refine ⟨fun k => ?_, fun k => ?_, fun k p hp hw => ?_, fun t k e => ?_, fun k hk => ?_, Nat.le_trans (setQ_z T n M) (by have := h.z; omega), Nat.le_trans h.y (by omega)⟩
  · by_cases e : k = n
    · subst e; rw [setQ_same]; exact a1
    · rw [setQ_other _ _ e]; exact h.pre k
  · by_cases e : k = n
    · subst e; rw [setQ_same]; exact a2
    · rw [setQ_other _ _ e]; exact h.blk k
  · by_cases e : k = n
    · subst e; rw [setQ_same] at hp; exact h.wq k p (a3 p hp hw) hw
    · rw [setQ_other _ _ e] at hp; exact h.wq k p hp hw
  · obtain ⟨p, hp, p1, p2⟩ := h.qw t k e
    by_cases e' : k = n
    · subst e'; rw [setQ_same]; exact ⟨p, a4 p hp p2, p1, p2⟩
    · rw [setQ_other _ _ e']; exact ⟨p, hp, p1, p2⟩
  · rcases setQ_ne T n k _ hk with rfl | x
    · exact hn
    · exact h.nm k x

theorem STab.wait {T : Tab} {i : Nat} (h : STab T i) {n : NameV} (hn : NmOk n) {tx m : Int} {b : Bool} (ht : 1 ≤ tx ∧ tx ≤ 4) (hm : modB m = true) (hW : T.W tx = none) (he : blkF (T.Q n) (tx, (oneF (T.Q n) tx).2.1, joinF (oneF (T.Q n) tx).2.1 m, b) ≠ []) :
    STab ((T.setQ n (withF (T.Q n) (tx, (oneF (T.Q n) tx).2.1, joinF (oneF (T.Q n) tx).2.1 m, b))).setW tx n) (i + 1) := by
  obtain ⟨a1, a2, a3, a4, a5⟩ := wait_list (h.pre n) (h.blk n) ht hm (h.free n hW).1 he
  have hJ := joinF_rng ((h.pre n).one tx) hm
  have hJ0 : joinF (oneF (T.Q n) tx).2.1 m ≠ 0 := by omega
  generalize withF (T.Q n) (tx, (oneF (T.Q n) tx).2.1, joinF (oneF (T.Q n) tx).2.1 m, b) = M at *
  have eQ : ∀ k, ((T.setQ n M).setW tx n).Q k = (T.setQ n M).Q k := fun k => rfl
  have eW : ∀ t, ((T.setQ n M).setW tx n).W t = if t = tx then some n else T.W t := fun t => rfl
  refine ⟨fun k => ?_, fun k => ?_, fun k p hp hw => ?_, fun t k e => ?_, fun k hk => ?_, Nat.le_trans (setQ_z T n M) (by have := h.z; omega), by show T.y + 1 ≤ i + 1; have := h.y; omega⟩
  · rw [eQ]; by_cases e : k = n
    · subst e; rw [setQ_same]; exact a1
    · rw [setQ_other _ _ e]; exact h.pre k
  · rw [eQ]; by_cases e : k = n
    · subst e; rw [setQ_same]; exact a2
    · rw [setQ_other _ _ e]; exact h.blk k
  · rw [eQ] at hp
    rw [eW]
    have old : p ∈ T.Q k → (if p.1 = tx then some n else T.W p.1) = some k := fun hp => by
      have := h.wq k p hp hw
      rw [if_neg (fun x => by rw [x, hW] at this; cases this)]
      exact this
    by_cases e : k = n
    · subst e; rw [setQ_same] at hp
      rcases a3 p hp with rfl | x
      · rw [if_pos rfl]
      · exact old x
    · rw [setQ_other _ _ e] at hp; exact old hp
  · rw [eW] at e
    by_cases et : t = tx
    · rw [if_pos et] at e
      obtain rfl : n = k := Option.some.inj e
      rw [eQ, setQ_same]
      exact ⟨_, a5, et.symm, hJ0⟩
    · rw [if_neg et] at e
      obtain ⟨p, hp, p1, p2⟩ := h.qw t k e
      rw [eQ]
      by_cases e' : k = n
      · subst e'; rw [setQ_same]; exact ⟨p, a4 p hp p2, p1, p2⟩
      · rw [setQ_other _ _ e']; exact ⟨p, hp, p1, p2⟩
  · rw [eQ] at hk
    rcases setQ_ne T n k _ hk with rfl | x
    · exact hn
    · exact h.nm k x

/-- Asked, whatever comes of it. -/
theorem ask_safe {S : Nat → Prop} {w : World} {b i : Nat} {T : Tab} (hl : LkLaid w) (h : IsTab S w b T) (hT : STab T i) (hi : i ≤ 100) {tx : Int} (ht : 1 ≤ tx ∧ tx ≤ 4) {n : NameV} (hn : NmOk n) (mode : Int) (ins wt : Bool) :
    Calls Tryd.prog 10 #[ptr b, .int .i64 tx, nval n, .int .i64 mode, .bool ins, .bool wt] w fun e w' => ∃ r c S' T', e = .returned (.tuple #[.bool r, .int .i64 c]) ∧ IsTab S' w' b T' ∧ STab T' (i + 1) ∧ MovesL S S' w w' := by
  obtain ⟨l, hk⟩ := hn.1
  have hr : i64R tx := ⟨by omega, by omega⟩
  have hL : (T.Q n).length < 1000000 := by have := hT.len n; omega
  have hz : T.z ≤ 1000000 := by have := hT.z; omega
  have hy : T.y ≤ 1000000 := by have := hT.y; omega
  by_cases hm : modB mode = true
  · cases hw : T.W tx with
    | some m =>
      refine (ask_waits h tx n mode ins wt ht.1 hr hm (by rw [hw]; rfl)).mono ?_
      rintro e w' ⟨rfl, k⟩
      exact ⟨_, _, S, T, rfl, h.below k, hT.mono (by omega), MovesL.of_below k⟩
    | none =>
      have hone := (hT.pre n).one tx
      have hJ := joinF_rng hone hm
      have h5 := (hT.free n hw).2
      by_cases h4 : joinF (oneF (T.Q n) tx).2.1 mode = (oneF (T.Q n) tx).2.1
      · refine (ask_has hl h tx n l hk mode ins wt ht.1 hr hm hw hL hz h4).mono ?_
        rintro e w' ⟨rfl, k⟩
        exact ⟨_, _, S, T, rfl, h.below k, hT.mono (by omega), MovesL.of_below k⟩
      · by_cases hB : blkF (T.Q n) (tx, (oneF (T.Q n) tx).2.1, joinF (oneF (T.Q n) tx).2.1 mode, ins) = []
        · refine (ask_had hl h tx n l hk mode ins wt ht.1 hr hm hw hL hz h4 h5 (by omega) trivial hB).mono ?_
          rintro e w' ⟨rfl, S', k1, k2⟩
          exact ⟨_, _, S', _, rfl, k1, hT.had hn ht hm hw hB, k2⟩
        · cases hwt : wt with
          | true =>
            refine (ask_wait hl h tx n l hk mode ins true ht.1 hr hm hw hL hz h4 h5 (by omega) hB trivial rfl hy).mono ?_
            rintro e w' ⟨rfl, S', k1, k2⟩
            exact ⟨_, _, S', _, rfl, k1, hT.wait hn ht hm hw hB, k2⟩
          | false =>
            refine (ask_no hl h tx n l hk mode ins false ht.1 hr hm hw hL hz h4 h5 (by omega) hB trivial rfl).mono ?_
            rintro e w' ⟨rfl, k⟩
            exact ⟨_, _, S, T, rfl, h.below k, hT.mono (by omega), MovesL.of_below k⟩
  · refine (ask_arg (ptr b) (.inr ⟨b, rfl⟩) tx n mode ins wt w (.inr (.inr (by simpa using hm)))).mono ?_
    rintro e w' ⟨rfl, k⟩
    exact ⟨_, _, S, T, rfl, h.below k, hT.mono (by omega), MovesL.of_below k⟩

end Go.Proofs.YthagomibjlcfmaaDoor
