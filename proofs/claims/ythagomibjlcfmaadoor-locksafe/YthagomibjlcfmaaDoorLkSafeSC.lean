/-
  For whom each one waits in a safe table: towards LockSafe.
-/
import Derived.Test.YthagomibjlcfmaaDoorLkSafeRC
import Derived.Test.YthagomibjlcfmaaDoorLkCycC
namespace Go.Proofs.YthagomibjlcfmaaDoor
open Go.RowKit
set_option linter.unusedVariables false

/-- For whom a transaction waits. -/
def suT (T : Tab) (t : Int) : List Int := match T.W t with
  | some n => sortI (blkF (T.Q n) (oneF (T.Q n) t))
  | none => []

theorem blkTo_from {L : List Pl} {a : Nat} {m : Int} {k : Nat} {z : Int} (h : z ∈ blkTo L a m k) : ∃ o ∈ L, o.1 = z := by
  induction k with
  | zero => cases h
  | succ k ih =>
    unfold blkTo at h
    rcases List.mem_append.1 h with x | x
    · exact ih x
    · cases hq : L[k]? with
      | none => rw [hq] at x; cases x
      | some o =>
        rw [hq] at x
        simp only at x
        split at x
        · exact ⟨o, List.mem_of_getElem? hq, (List.mem_singleton.1 x).symm⟩
        · cases x

theorem mem_sortI {zs : List Int} {z : Int} (h : z ∈ sortI zs) : z ∈ zs := by
  unfold sortI at h
  exact (List.mergeSort_perm _ _).mem_iff.1 h

theorem STab.su_range {T : Tab} {i : Nat} (h : STab T i) (t : Int) : ∀ z ∈ suT T t, 1 ≤ z ∧ z ≤ 4 := by
  intro z hz
  unfold suT at hz
  split at hz
  · rename_i n hn
    obtain ⟨o, ho, rfl⟩ := blkTo_from (mem_sortI hz)
    exact (h.pre n).tx o ho
  · cases hz

theorem STab.su_len {T : Tab} {i : Nat} (h : STab T i) (t : Int) : (suT T t).length ≤ 1000000 := by
  unfold suT
  split
  · rename_i n hn
    rw [sortI_len]
    unfold blkF
    have := blkTo_len (T.Q n) (ofF (T.Q n) (oneF (T.Q n) t).1) (oneF (T.Q n) t).2.2.1 (T.Q n).length
    have := h.len n
    omega
  · simp

theorem STab.su_ne {T : Tab} {i : Nat} (h : STab T i) {t : Int} {n : NameV} (hW : T.W t = some n) : suT T t ≠ [] := by
  obtain ⟨q, hq, q1, q2⟩ := h.qw t n hW
  have hlt : ofF (T.Q n) t < (T.Q n).length := by rw [← q1]; exact ofF_of_mem hq
  obtain ⟨A, B, hL, hp1, hA⟩ := split_of hlt
  have hpre := h.pre n
  have hb := h.blk n
  intro e
  unfold suT at e
  rw [hW] at e
  simp only at e
  have e1 : blkF (T.Q n) (oneF (T.Q n) t) = [] := by
    have := congrArg List.length e
    rw [sortI_len] at this
    exact List.eq_nil_of_length_eq_zero this
  generalize oneF (T.Q n) t = p at *
  rw [hL] at hpre hb hq e1
  have hqp : q = p := by
    rcases mem_mid hq with x | x | x
    · exact x
    · exact absurd q1 (hA q x)
    · exact absurd (q1.trans hp1.symm) (hpre.uq.parts.2 q x)
  subst hqp
  exact hb A q B rfl q2 ((blk_in rfl (fun o ho => by rw [hp1]; exact hA o ho)).1 e1)

theorem su_calls {S : Nat → Prop} {w : World} {b i : Nat} {T : Tab} (hl : LkLaid w) (h : IsTab S w b T) (hT : STab T i) {t : Int} (ht : 1 ≤ t ∧ t ≤ 4) :
    Calls Tryd.prog 13 #[.pointer (some ⟨b, 0, none⟩), .int .i64 t] w fun e w' => ∃ v, e = .returned v ∧ IntsAt w.heap.size w' v (suT T t) ∧ Below w.heap.size w w' := by
  have hr : i64R t := ⟨by omega, by omega⟩
  cases hW : T.W t with
  | none =>
    have e : suT T t = [] := by unfold suT; rw [hW]
    rw [e]
    refine (tblk_none h t hr hW).mono ?_
    rintro e w' ⟨rfl, k⟩
    exact ⟨_, rfl, IntsAt.nil _ _, k⟩
  | some n =>
    have e : suT T t = sortI (blkF (T.Q n) (oneF (T.Q n) t)) := by unfold suT; rw [hW]
    rw [e]
    obtain ⟨q, hq, _, _⟩ := hT.qw t n hW
    obtain ⟨⟨l, hk⟩, _⟩ := hT.nm n (fun y => by rw [y] at hq; cases hq)
    exact tblk_some hl h t hr hk hW (by have := hT.len n; omega)

/-- Cycle of a safe table. -/
theorem cyc_safe {S : Nat → Prop} {w : World} {b i : Nat} {T : Tab} (hl : LkLaid w) (h : IsTab S w b T) (hT : STab T i) {t : Int} (ht : 1 ≤ t ∧ t ≤ 4) :
    Calls Tryd.prog 12 #[.pointer (some ⟨b, 0, none⟩), .int .i64 t] w fun e w' => ∃ va k c, e = .returned (.slice va k c) ∧ Below w.heap.size w w' ∧ (k = 0 → ∃ B : Int → Prop, (∀ z ∈ suT T t, B z) ∧ Closed (suT T) B ∧ ¬ B t) :=
  cyc_any (suT T) ht (fun y z hz => hT.su_range y z hz) hT.su_len fun y wx hy k => su_calls (hl.below hl.lt k) (h.below k) hT hy

/-- If all four wait, not all four searches end with nothing. -/
theorem STab.cycle {T : Tab} {i : Nat} (h : STab T i) (hW : ∀ t, 1 ≤ t ∧ t ≤ 4 → (T.W t).isSome = true) (hC : ∀ t, 1 ≤ t ∧ t ≤ 4 → ∃ B : Int → Prop, (∀ z ∈ suT T t, B z) ∧ Closed (suT T) B ∧ ¬ B t) : False :=
  no_descent (suT T) (fun y hy => ⟨by
    obtain ⟨n, hn⟩ := Option.isSome_iff_exists.1 (hW y hy)
    exact h.su_ne hn, h.su_range y⟩) hC

/-- Two that have a lock get on. -/
theorem STab.gets {T : Tab} {i : Nat} (h : STab T i) (n : NameV) {x y : Int} (hxy : x ≠ y) (hx : (oneF (T.Q n) x).2.1 ≠ 0) (hy : (oneF (T.Q n) y).2.1 ≠ 0) : (modB (oneF (T.Q n) x).2.1 && modB (oneF (T.Q n) y).2.1 && togB (oneF (T.Q n) x).2.1 (oneF (T.Q n) y).2.1) = true := by
  have hpx : oneF (T.Q n) x ∈ T.Q n := by
    rcases oneF_of (T.Q n) x with a | ⟨a, _⟩
    · exact a
    · rw [a] at hx; exact absurd rfl hx
  have hpy : oneF (T.Q n) y ∈ T.Q n := by
    rcases oneF_of (T.Q n) y with a | ⟨a, _⟩
    · exact a
    · rw [a] at hy; exact absurd rfl hy
  have ex := oneF_tx (T.Q n) x
  have ey := oneF_tx (T.Q n) y
  have hok := (h.pre n).ok
  generalize oneF (T.Q n) x = p at *
  generalize oneF (T.Q n) y = q at *
  obtain ⟨A, B, hL⟩ := List.append_of_mem hpx
  rw [hL] at hok hpy
  rw [List.pairwise_append, List.pairwise_cons] at hok
  rcases mem_mid hpy with e | e | e
  · rw [e, ex] at ey; exact absurd ey hxy
  · exact (getsOn.symm (hok.2.2 q e p (by simp))) hx hy
  · exact hok.2.1.1 q e hx hy

end Go.Proofs.YthagomibjlcfmaaDoor
