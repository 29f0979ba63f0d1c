/-
  Release and Cancel keep a safe table: towards LockSafe.
-/
import Derived.Test.YthagomibjlcfmaaDoorLkSafeT2C
namespace Go.Proofs.YthagomibjlcfmaaDoor
open Go.RowKit
set_option linter.unusedVariables false

/-- A table in which the locks R are still to be granted. -/
structure SMid (T : Tab) (R : List NameV) (i : Nat) : Prop where
  pre : ∀ n, SPre (T.Q n)
  blk : ∀ n, n ∉ R → SBlk (T.Q n)
  wq : ∀ n, ∀ p ∈ T.Q n, p.2.2.1 ≠ 0 → T.W p.1 = some n
  qw : ∀ t n, T.W t = some n → ∃ p ∈ T.Q n, p.1 = t ∧ p.2.2.1 ≠ 0
  nm : ∀ n, T.Q n ≠ [] → NmOk n
  z : T.z ≤ i
  y : T.y ≤ i

theorem withF_keep {L : List Pl} {p q : Pl} (h : q ∈ L) (hq : q.1 ≠ p.1) : q ∈ withF L p := by
  induction L with
  | nil => cases h
  | cons a L ih =>
    rw [withF_cons]
    rcases List.mem_cons.1 h with rfl | h
    · rw [if_neg hq]; simp
    · split
      · split
        · exact h
        · simp [h]
      · simp [ih h]

theorem SMid.step {T : Tab} {n : NameV} {R : List NameV} {i k : Nat} (h : SMid T (n :: R) i) (hg : GrantR (T.Q n) k) : SMid ((T.delWs (whoF (T.Q n) k)).setQ n (stateL (T.Q n) (waitF (T.Q n)) k)) R i := by
  have hne : stateL (T.Q n) (waitF (T.Q n)) k ≠ [] → T.Q n ≠ [] := fun x y => x (by rw [y]; unfold waitF stateL; simp)
  have eW : ∀ t, ((T.delWs (whoF (T.Q n) k)).setQ n (stateL (T.Q n) (waitF (T.Q n)) k)).W t = if t ∈ whoF (T.Q n) k then none else T.W t := fun t => rfl
  refine ⟨fun m => ?_, fun m hm => ?_, fun m p hp hw => ?_, fun t m e => ?_, fun m hm => ?_, Nat.le_trans (setQ_z_le _ n _ hne) h.z, h.y⟩
  · by_cases e : m = n
    · subst e; rw [setQ_same]; exact (grants_safe (h.pre m) hg k (Nat.le_refl _)).1
    · rw [setQ_other _ _ e]; exact h.pre m
  · by_cases e : m = n
    · subst e; rw [setQ_same]; exact grants_blk (h.pre m) hg
    · rw [setQ_other _ _ e]; exact h.blk m (by simp [e, hm])
  · rw [eW]
    by_cases e : m = n
    · subst e
      rw [setQ_same] at hp
      rcases (stateL_mem (h.pre m).uq k hg.le).2 p hp with ⟨a, b⟩ | ⟨r, _, _, rfl⟩
      · rw [if_neg b]; exact h.wq m p a hw
      · exact absurd (by unfold grantedF staysF; split <;> rfl) hw
    · rw [setQ_other _ _ e] at hp
      have := h.wq m p hp hw
      rw [if_neg (fun x => ?_)]
      · exact this
      · obtain ⟨r, hr, hrw, hre⟩ := mem_whoF x
        have a := h.wq n r hr hrw
        rw [hre, this] at a
        exact e (Option.some.inj a)
  · rw [eW] at e
    split at e
    · cases e
    · rename_i hnw
      obtain ⟨p, hp, p1, p2⟩ := h.qw t m e
      by_cases e' : m = n
      · subst e'
        rw [setQ_same]
        refine ⟨p, ?_, p1, p2⟩
        have hpw : p ∈ waitF (T.Q m) := by unfold waitF; rw [List.mem_filter]; exact ⟨hp, by simpa using p2⟩
        rw [← List.take_append_drop k (waitF (T.Q m))] at hpw
        have hd : p ∈ (waitF (T.Q m)).drop k := by
          rcases List.mem_append.1 hpw with a | a
          · exact absurd (by unfold whoF; exact List.mem_map.2 ⟨p, a, p1⟩) hnw
          · exact a
        rw [← (grants_safe (h.pre m) hg k (Nat.le_refl _)).2] at hd
        exact (mem_waitF hd).1
      · rw [setQ_other _ _ e']; exact ⟨p, hp, p1, p2⟩
  · by_cases e : m = n
    · subst e; rw [setQ_same] at hm; exact h.nm m (hne hm)
    · rw [setQ_other _ _ e] at hm; exact h.nm m hm

theorem SMid.rel {NL : List NameV} : ∀ {T T' : Tab} {zs : List Int} {i : Nat}, SMid T NL i → RelR NL T zs T' → STab T' i := by
  induction NL with
  | nil =>
    rintro T T' zs i h ⟨_, rfl⟩
    exact ⟨h.pre, fun n => h.blk n (by simp), h.wq, h.qw, h.nm, h.z, h.y⟩
  | cons n NL ih =>
    rintro T T' zs i h ⟨k, zs', hg, _, hr⟩
    exact ih (h.step hg) hr

theorem STab.out {T : Tab} {i : Nat} (h : STab T i) {tx : Int} {NL : List NameV} (hN : NamesOf T tx NL) : SMid ((outT T tx NL).delW tx) NL i := by
  obtain ⟨eW, ey, ez⟩ := outT_W T tx NL
  have e0 : ∀ m, ((outT T tx NL).delW tx).Q m = (outT T tx NL).Q m := fun m => rfl
  have eW' : ∀ t, ((outT T tx NL).delW tx).W t = if t = tx then none else T.W t := fun t => by
    show (if t = tx then none else (outT T tx NL).W t) = _
    rw [eW]
  refine ⟨fun m => ?_, fun m hm => ?_, fun m p hp hw => ?_, fun t m e => ?_, fun m hm => ?_, Nat.le_trans ez h.z, by show (outT T tx NL).y ≤ i; rw [ey]; exact h.y⟩
  · rw [e0]
    by_cases e : m ∈ NL
    · rw [outT_Q_mem T tx NL m e hN.nd]
      refine (h.pre m).sub ?_
      unfold withF
      rw [if_pos ⟨rfl, rfl⟩]
      exact List.eraseIdx_sublist _ _
    · rw [outT_Q T tx NL m e]; exact h.pre m
  · rw [e0, outT_Q T tx NL m hm]; exact h.blk m
  · rw [e0] at hp
    rw [eW']
    by_cases e : m ∈ NL
    · rw [outT_Q_mem T tx NL m e hN.nd] at hp
      obtain ⟨a, b⟩ := withF_out (h.pre m).uq (p := (tx, 0, 0, false)) ⟨rfl, rfl⟩ hp
      rw [if_neg b]; exact h.wq m p a hw
    · rw [outT_Q T tx NL m e] at hp
      rw [if_neg (fun x => ?_)]
      · exact h.wq m p hp hw
      · obtain ⟨⟨l, hl⟩, _⟩ := h.nm m (fun y => by rw [y] at hp; cases hp)
        refine e ((hN.mem m l hl).2 ?_)
        rw [← x]
        exact ofF_of_mem hp
  · rw [eW'] at e
    split at e
    · cases e
    · rename_i hne
      obtain ⟨p, hp, p1, p2⟩ := h.qw t m e
      rw [e0]
      by_cases e' : m ∈ NL
      · rw [outT_Q_mem T tx NL m e' hN.nd]
        exact ⟨p, withF_keep hp (by rw [p1]; exact hne), p1, p2⟩
      · rw [outT_Q T tx NL m e']; exact ⟨p, hp, p1, p2⟩
  · rw [e0] at hm
    by_cases e : m ∈ NL
    · refine h.nm m fun y => hm ?_
      rw [outT_Q_mem T tx NL m e hN.nd, y, withF_nil]
      rfl
    · rw [outT_Q T tx NL m e] at hm; exact h.nm m hm

theorem release_safe {S : Nat → Prop} {w : World} {b i : Nat} {T : Tab} (hl : LkLaid w) (h : IsTab S w b T) (hT : STab T i) (hi : i ≤ 100) (hS0 : ¬ S 0 ∧ ¬ S 1) (hNS : ∀ m, m ≤ 100 → NSorts m) {tx : Int} (ht : 1 ≤ tx ∧ tx ≤ 4) :
    Calls Tryd.prog 8 #[ptr b, .int .i64 tx] w fun e w' => ∃ v S' T', e = .returned v ∧ IsTab S' w' b T' ∧ STab T' (i + 1) ∧ MovesL S S' w w' := by
  refine (release_any hl h tx ⟨by omega, by omega⟩ (by have := hT.z; omega) (fun n => by have := hT.len n; omega) (fun n p hp => by have := (hT.pre n).tx p hp; exact ⟨by omega, by omega⟩) hS0 (hNS T.z (by have := hT.z; omega))).mono ?_
  rintro e w' ⟨v, rfl, S', NL, zs, T', hN, hR, _, ht', hm, _⟩
  exact ⟨v, S', T', rfl, ht', ((hT.out hN).rel hR).mono (by omega), hm⟩

theorem STab.canc {T : Tab} {i : Nat} (h : STab T i) {tx : Int} {n : NameV} (hW : T.W tx = some n) : SMid (cancT T tx n) [n] i := by
  obtain ⟨q, hq, q1, q2⟩ := h.qw tx n hW
  have hlt : ofF (T.Q n) tx < (T.Q n).length := by rw [← q1]; exact ofF_of_mem hq
  obtain ⟨A, B, hL, hp1, hA⟩ := split_of hlt
  have hpm : oneF (T.Q n) tx ∈ T.Q n := by rcases oneF_of (T.Q n) tx with x | ⟨_, y⟩; exact x; omega
  have hst : (staysF (oneF (T.Q n) tx)).1 = tx := hp1
  have hst0 : (staysF (oneF (T.Q n) tx)).2.2.1 = 0 := rfl
  have eQ : ∀ m, (cancT T tx n).Q m = (T.setQ n (withF (T.Q n) (staysF (oneF (T.Q n) tx)))).Q m := fun m => rfl
  have eW : ∀ t, (cancT T tx n).W t = if t = tx then none else T.W t := fun t => rfl
  have hne : withF (T.Q n) (staysF (oneF (T.Q n) tx)) ≠ [] → T.Q n ≠ [] := fun _ y => by rw [y] at hpm; cases hpm
  refine ⟨fun m => ?_, fun m hm => ?_, fun m p hp hw => ?_, fun t m e => ?_, fun m hm => ?_, Nat.le_trans (setQ_z_le T n _ hne) h.z, h.y⟩
  · rw [eQ]
    by_cases e : m = n
    · subst e
      rw [setQ_same]
      have hpre := h.pre m
      have hhas := hpre.has _ hpm
      generalize oneF (T.Q m) tx = p at *
      rw [hL] at hpre ⊢
      rw [withF_in (hp1.trans hst.symm) (fun o ho => by rw [hst]; exact hA o ho)]
      split
      · exact hpre.sub (List.Sublist.append (List.Sublist.refl _) (List.sublist_cons_self _ _))
      · rename_i hno
        refine hpre.turn rfl hhas ⟨Int.le_refl _, by show (0 : Int) ≤ 5; omega⟩ (fun x => absurd ⟨x, rfl⟩ hno) hpre.parts.1 hpre.parts.2
    · rw [setQ_other _ _ e]; exact h.pre m
  · rw [eQ, setQ_other _ _ (by simpa using hm)]; exact h.blk m
  · rw [eQ] at hp
    rw [eW]
    by_cases e : m = n
    · subst e
      rw [setQ_same] at hp
      rcases withF_mem (h.pre m).uq hp with rfl | ⟨a, c⟩
      · exact absurd hst0 hw
      · rw [hst] at c
        rw [if_neg c]; exact h.wq m p a hw
    · rw [setQ_other _ _ e] at hp
      have := h.wq m p hp hw
      rw [if_neg (fun x => by rw [x, hW] at this; exact e (Option.some.inj this).symm)]
      exact this
  · rw [eW] at e
    split at e
    · cases e
    · rename_i hne'
      obtain ⟨p, hp, p1, p2⟩ := h.qw t m e
      rw [eQ]
      by_cases e' : m = n
      · subst e'; rw [setQ_same]
        exact ⟨p, withF_keep hp (by rw [hst, p1]; exact hne'), p1, p2⟩
      · rw [setQ_other _ _ e']; exact ⟨p, hp, p1, p2⟩
  · rw [eQ] at hm
    rcases setQ_ne T n m _ hm with rfl | x
    · exact h.nm m (fun y => by rw [y] at hpm; cases hpm)
    · exact h.nm m x

theorem cancel_safe {S : Nat → Prop} {w : World} {b i : Nat} {T : Tab} (hl : LkLaid w) (h : IsTab S w b T) (hT : STab T i) (hi : i ≤ 100) (hS0 : ¬ S 0 ∧ ¬ S 1) {tx : Int} (ht : 1 ≤ tx ∧ tx ≤ 4) :
    Calls Tryd.prog 9 #[ptr b, .int .i64 tx] w fun e w' => ∃ v S' T', e = .returned v ∧ IsTab S' w' b T' ∧ STab T' (i + 1) ∧ MovesL S S' w w' := by
  have hr : i64R tx := ⟨by omega, by omega⟩
  cases hW : T.W tx with
  | none =>
    refine (canc_none h tx hr hW).mono ?_
    rintro e w' ⟨rfl, k⟩
    exact ⟨_, S, T, rfl, h.below k, hT.mono (by omega), MovesL.of_below k⟩
  | some n =>
    obtain ⟨q, hq, _, _⟩ := hT.qw tx n hW
    obtain ⟨⟨l, hk⟩, _⟩ := hT.nm n (fun y => by rw [y] at hq; cases hq)
    have hM := hT.canc hW
    have hL4 := hT.len n
    have hQ : (cancT T tx n).Q n = withF (T.Q n) (staysF (oneF (T.Q n) tx)) := setQ_same T n _
    refine (canc_some hl h tx hr hk hW (by have := hT.z; omega) (by omega) (by have := withF_le (T.Q n) (staysF (oneF (T.Q n) tx)); omega) (fun p hp => by rw [← hQ] at hp; have := (hM.pre n).tx p hp; exact ⟨by omega, by omega⟩) hS0).mono ?_
    rintro e w' ⟨v, rfl, S', k, hg, _, ht', hm⟩
    refine ⟨v, S', _, rfl, ht', ?_, hm⟩
    exact ((hM.step hg).rel ⟨rfl, rfl⟩).mono (by omega)

end Go.Proofs.YthagomibjlcfmaaDoor
