/-
  The table of LockOnce: kept by Ask and by Release.
-/
import Derived.Test.YthagomibjlcfmaaDoorBase1C
import Derived.Test.YthagomibjlcfmaaDoorLkAwakeC
namespace Go.Proofs.YthagomibjlcfmaaDoor
open Go.RowKit
set_option linter.unusedVariables false

def freshN : NameV := (3, 99, 0, 0)

/-- A name that girderlaw08.name makes. -/
def NmOk (n : NameV) : Prop := (∃ l, NKey n l) ∧ n ≠ freshN

structure TInv (T : Tab) (i : Nat) : Prop where
  q : ∀ n, QInv n T.W (T.Q n)
  nm : ∀ n, T.Q n ≠ [] → NmOk n
  z : T.z ≤ i
  y : T.y ≤ i

theorem TInv.mono {T : Tab} {i j : Nat} (h : TInv T i) (k : i ≤ j) : TInv T j := ⟨h.q, h.nm, Nat.le_trans h.z k, Nat.le_trans h.y k⟩

theorem TInv.empty : TInv emptyT 0 := ⟨fun n => QInv.nil _ _, fun n h => absurd rfl h, Nat.le_refl _, Nat.le_refl _⟩

theorem setQ_z_le (T : Tab) (n : NameV) (L : List Pl) (h : L ≠ [] → T.Q n ≠ []) : (T.setQ n L).z ≤ T.z := by
  unfold Tab.setQ
  simp only
  cases L with
  | nil => simp
  | cons a L =>
    cases hq : T.Q n with
    | nil => exact absurd hq (h (by simp))
    | cons c M => simp

theorem joinF_rng {a m : Int} (ha : 0 ≤ a ∧ a ≤ 5) (hm : modB m = true) : 1 ≤ joinF a m ∧ joinF a m ≤ 5 := by
  have hm' : 1 ≤ m ∧ m ≤ 5 := by unfold modB at hm; simpa using hm
  rcases (by omega : a = 0 ∨ a = 1 ∨ a = 2 ∨ a = 3 ∨ a = 4 ∨ a = 5) with rfl | rfl | rfl | rfl | rfl | rfl <;>
  rcases (by omega : m = 1 ∨ m = 2 ∨ m = 3 ∨ m = 4 ∨ m = 5) with rfl | rfl | rfl | rfl | rfl <;> decide

theorem oneF_of (L : List Pl) (tx : Int) : (oneF L tx ∈ L) ∨ (oneF L tx = (tx, 0, 0, false) ∧ ofF L tx = L.length) := by
  unfold oneF
  by_cases h : ofF L tx < L.length
  · rw [List.getElem?_eq_getElem h]
    exact .inl (List.getElem_mem h)
  · have := ofF_le L tx
    rw [List.getElem?_eq_none (by omega)]
    exact .inr ⟨rfl, by omega⟩

theorem QInv.one {n : NameV} {W : Int → Option NameV} {L : List Pl} (h : QInv n W L) (tx : Int) : 0 ≤ (oneF L tx).2.1 ∧ (oneF L tx).2.1 ≤ 5 := by
  rcases oneF_of L tx with x | ⟨x, _⟩
  · exact h.has _ x
  · rw [x]; exact ⟨Int.le_refl _, by show (0 : Int) ≤ 5; omega⟩

theorem QInv.h5 {n : NameV} {W : Int → Option NameV} {L : List Pl} (h : QInv n W L) {tx : Int} (hW : W tx = none) (h0 : (oneF L tx).2.1 = 0) : ofF L tx = L.length := by
  rcases oneF_of L tx with x | ⟨_, x⟩
  · have := (h.waits _ x (h.some' _ x h0)).1
    rw [oneF_tx, hW] at this
    cases this
  · exact x

theorem setQ_ne (T : Tab) (n m : NameV) (L : List Pl) (h : (T.setQ n L).Q m ≠ []) : m = n ∨ T.Q m ≠ [] := by
  by_cases e : m = n
  · exact .inl e
  · rw [setQ_other _ _ e] at h
    exact .inr h

theorem TInv.had {T : Tab} {i : Nat} (h : TInv T i) {n : NameV} (hn : NmOk n) {tx J : Int} (ht : 1 ≤ tx ∧ tx ≤ 4) (hJ : 1 ≤ J ∧ J ≤ 5) : TInv (T.setQ n (withF (T.Q n) (tx, J, 0, false))) (i + 1) := by
  refine ⟨fun m => ?_, fun m hm => ?_, ?_, ?_⟩
  · by_cases e : m = n
    · subst e
      rw [setQ_same]
      refine (h.q m).put (W' := T.W) (fun t _ => rfl) ht ⟨by show 0 ≤ J; omega, hJ.2⟩ ⟨Int.le_refl _, by show (0 : Int) ≤ 5; omega⟩ (fun e => ?_) (fun e => absurd rfl e)
      have e' : J = 0 := e
      omega
    · rw [setQ_other _ _ e]; exact h.q m
  · rcases setQ_ne T n m _ hm with rfl | x
    · exact hn
    · exact h.nm m x
  · exact Nat.le_trans (setQ_z T n _) (by have := h.z; omega)
  · exact Nat.le_trans h.y (by omega)

theorem TInv.wait {T : Tab} {i : Nat} (h : TInv T i) {n : NameV} (hn : NmOk n) {tx a J : Int} (ht : 1 ≤ tx ∧ tx ≤ 4) (ha : 0 ≤ a ∧ a ≤ 5) (hJ : 1 ≤ J ∧ J ≤ 5) (hW : T.W tx = none) : TInv ((T.setQ n (withF (T.Q n) (tx, a, J, false))).setW tx n) (i + 1) := by
  have e0 : ∀ m, ((T.setQ n (withF (T.Q n) (tx, a, J, false))).setW tx n).Q m = (T.setQ n (withF (T.Q n) (tx, a, J, false))).Q m := fun m => rfl
  refine ⟨fun m => ?_, fun m hm => ?_, ?_, ?_⟩
  · rw [e0]
    by_cases e : m = n
    · subst e
      rw [setQ_same]
      refine (h.q m).put (fun t hte => ?_) ht ha ⟨by show 0 ≤ J; omega, hJ.2⟩ (fun _ e => ?_) (fun _ => ⟨?_, rfl⟩)
      · show (if t = tx then some m else T.W t) = T.W t
        rw [if_neg hte]
      · have e' : J = 0 := e
        omega
      · show (if tx = tx then some m else T.W tx) = some m
        rw [if_pos rfl]
    · rw [setQ_other _ _ e]
      have q := h.q m
      refine ⟨q.uq, q.tx, q.has, q.wants, q.some', fun p hp hw => ?_⟩
      have := q.waits p hp hw
      refine ⟨?_, this.2⟩
      show (if p.1 = tx then some n else T.W p.1) = some m
      rw [if_neg (fun x => by rw [x, hW] at this; cases this.1)]
      exact this.1
  · rw [e0] at hm
    rcases setQ_ne T n m _ hm with rfl | x
    · exact hn
    · exact h.nm m x
  · exact Nat.le_trans (setQ_z T n _) (by have := h.z; omega)
  · show T.y + 1 ≤ i + 1
    have := h.y
    omega

theorem outT_W (T : Tab) (tx : Int) (NL : List NameV) : (outT T tx NL).W = T.W ∧ (outT T tx NL).y = T.y ∧ (outT T tx NL).z ≤ T.z := by
  induction NL generalizing T with
  | nil => exact ⟨rfl, rfl, Nat.le_refl _⟩
  | cons m NL ih =>
    obtain ⟨a, b, c⟩ := ih (T.setQ m (withF (T.Q m) (tx, 0, 0, false)))
    refine ⟨a, b, Nat.le_trans c (setQ_z_le T m _ fun x y => x ?_)⟩
    rw [y, withF_nil]
    rfl

theorem TInv.out {T : Tab} {i : Nat} (h : TInv T i) {tx : Int} {NL : List NameV} (hN : NamesOf T tx NL) : TInv ((outT T tx NL).delW tx) i := by
  obtain ⟨eW, ey, ez⟩ := outT_W T tx NL
  have e0 : ∀ m, ((outT T tx NL).delW tx).Q m = (outT T tx NL).Q m := fun m => rfl
  have eW' : ∀ t, t ≠ tx → ((outT T tx NL).delW tx).W t = T.W t := fun t ht => by
    show (if t = tx then none else (outT T tx NL).W t) = _
    rw [if_neg ht, eW]
  refine ⟨fun m => ?_, fun m hm => ?_, Nat.le_trans ez h.z, by show (outT T tx NL).y ≤ i; rw [ey]; exact h.y⟩
  · rw [e0]
    by_cases e : m ∈ NL
    · rw [outT_Q_mem T tx NL m e hN.nd]
      exact (h.q m).out ⟨rfl, rfl⟩ eW'
    · rw [outT_Q T tx NL m e]
      have q := h.q m
      refine ⟨q.uq, q.tx, q.has, q.wants, q.some', fun p hp hw => ?_⟩
      rw [eW' p.1 (fun x => ?_)]
      · exact q.waits p hp hw
      · obtain ⟨⟨l, hl⟩, _⟩ := h.nm m (fun y => by rw [y] at hp; cases hp)
        refine e ((hN.mem m l hl).2 ?_)
        rw [← x]
        exact ofF_of_mem hp
  · rw [e0] at hm
    by_cases e : m ∈ NL
    · refine h.nm m fun y => hm ?_
      rw [outT_Q_mem T tx NL m e hN.nd, y, withF_nil]
      rfl
    · rw [outT_Q T tx NL m e] at hm
      exact h.nm m hm

theorem TInv.granted {T : Tab} {i : Nat} (h : TInv T i) (n : NameV) {k : Nat} (hk : k ≤ (waitF (T.Q n)).length) : TInv ((T.delWs (whoF (T.Q n) k)).setQ n (stateL (T.Q n) (waitF (T.Q n)) k)) i := by
  have hne : stateL (T.Q n) (waitF (T.Q n)) k ≠ [] → T.Q n ≠ [] := fun x y => x (by rw [y]; unfold waitF stateL; simp)
  refine ⟨fun m => ?_, fun m hm => ?_, ?_, h.y⟩
  · by_cases e : m = n
    · subst e
      rw [setQ_same]
      exact (h.q m).grant hk
    · rw [setQ_other _ _ e]
      have q := h.q m
      refine ⟨q.uq, q.tx, q.has, q.wants, q.some', fun p hp hw => ?_⟩
      have := q.waits p hp hw
      refine ⟨?_, this.2⟩
      show (if p.1 ∈ whoF (T.Q n) k then none else T.W p.1) = some m
      rw [if_neg (fun x => ?_)]
      · exact this.1
      · obtain ⟨r, hr, hrw, hre⟩ := mem_whoF x
        have a := ((h.q n).waits r hr hrw).1
        rw [hre, this.1] at a
        exact e (Option.some.inj a)
  · by_cases e : m = n
    · subst e
      rw [setQ_same] at hm
      exact h.nm m (hne hm)
    · rw [setQ_other _ _ e] at hm
      exact h.nm m hm
  · exact Nat.le_trans (setQ_z_le _ n _ hne) h.z

theorem TInv.rel {NL : List NameV} : ∀ {T T' : Tab} {zs : List Int} {i : Nat}, TInv T i → RelR NL T zs T' → TInv T' i := by
  induction NL with
  | nil =>
    rintro T T' zs i h ⟨_, rfl⟩
    exact h
  | cons n NL ih =>
    rintro T T' zs i h ⟨k, zs', hg, _, hr⟩
    exact ih (h.granted n hg.le) hr

theorem setQ_nil {T : Tab} {n : NameV} (h : T.Q n = []) : T.setQ n [] = T := by
  obtain ⟨Q, W, z, y⟩ := T
  unfold Tab.setQ
  simp only at h ⊢
  simp [h]
  funext x
  by_cases e : x = n
  · rw [if_pos e, e, h]
  · rw [if_neg e]

end Go.Proofs.YthagomibjlcfmaaDoor
