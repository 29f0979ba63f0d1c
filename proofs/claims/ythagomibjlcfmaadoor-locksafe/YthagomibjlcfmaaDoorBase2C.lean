/-
  A queue into which somebody comes, or in which somebody has more: towards LockSafe.
  A queue behind Ask: towards LockSafe.
-/
import Derived.Test.YthagomibjlcfmaaDoorBase1C
import Derived.Test.YthagomibjlcfmaaDoorLkOnceM2C
namespace Go.Proofs.YthagomibjlcfmaaDoor
open Go.RowKit
set_option linter.unusedVariables false

theorem SBlk.turn {A B : List Pl} {p r : Pl} (h : SBlk (A ++ p :: B)) (hf : ∀ m, freeB r m → freeB p m) (hp : p.2.2.1 = 0) (hr : r.2.2.1 ≠ 0 → ¬ ((∀ o ∈ A, freeB o r.2.2.1 ∧ o.2.2.1 = 0) ∧ ∀ o ∈ B, freeB o r.2.2.1)) : SBlk (A ++ r :: B) := by
  intro A' q B' hM hq hfree
  rcases List.append_eq_append_iff.1 hM with ⟨C, c1, c2⟩ | ⟨C, c1, c2⟩
  · cases C with
    | nil =>
      simp at c1 c2
      obtain ⟨rfl, rfl⟩ := c2
      subst c1
      exact hr hq hfree
    | cons c C =>
      simp at c2
      obtain ⟨rfl, rfl⟩ := c2
      subst c1
      refine h (A ++ p :: C) q B' (by simp) hq ⟨fun o ho => ?_, hfree.2⟩
      rcases List.mem_append.1 ho with a | a
      · exact hfree.1 o (by simp [a])
      · rcases List.mem_cons.1 a with rfl | a
        · exact ⟨hf _ (hfree.1 r (by simp)).1, hp⟩
        · exact hfree.1 o (by simp [a])
  · cases C with
    | nil =>
      simp at c1 c2
      obtain ⟨rfl, rfl⟩ := c2
      subst c1
      exact hr hq hfree
    | cons c C =>
      simp at c2
      obtain ⟨rfl, rfl⟩ := c2
      subst c1
      refine h A' q (C ++ p :: B) (by simp) hq ⟨hfree.1, fun o ho => ?_⟩
      rcases List.mem_append.1 ho with a | a
      · exact hfree.2 o (by simp [a])
      · rcases List.mem_cons.1 a with rfl | a
        · exact hf _ (hfree.2 r (by simp))
        · exact hfree.2 o (by simp [a])

theorem SBlk.snoc {L : List Pl} {r : Pl} (h : SBlk L) (hr : r.2.2.1 ≠ 0 → ¬ ∀ o ∈ L, freeB o r.2.2.1 ∧ o.2.2.1 = 0) : SBlk (L ++ [r]) := by
  intro A' q B' hM hq hfree
  rcases List.append_eq_append_iff.1 hM with ⟨C, c1, c2⟩ | ⟨C, c1, c2⟩
  · cases C with
    | nil =>
      simp at c1 c2
      obtain ⟨rfl, rfl⟩ := c2
      subst c1
      exact hr hq hfree.1
    | cons c C => simp at c2
  · cases C with
    | nil =>
      simp at c1 c2
      obtain ⟨rfl, rfl⟩ := c2
      subst c1
      exact hr hq hfree.1
    | cons c C =>
      simp at c2
      obtain ⟨rfl, rfl⟩ := c2
      subst c1
      exact h A' q C rfl hq ⟨hfree.1, fun o ho => hfree.2 o (by simp [ho])⟩

theorem SPre.snoc {L : List Pl} {r : Pl} (h : SPre L) (hn : ∀ o ∈ L, o.1 ≠ r.1) (ht : 1 ≤ r.1 ∧ r.1 ≤ 4) (hh : 0 ≤ r.2.1 ∧ r.2.1 ≤ 5) (hw : 0 ≤ r.2.2.1 ∧ r.2.2.1 ≤ 5) (h0 : r.2.1 = 0 → r.2.2.1 ≠ 0) (hg : ∀ o ∈ L, getsOn o r) : SPre (L ++ [r]) := by
  have mem : ∀ q ∈ L ++ [r], q = r ∨ q ∈ L := fun q hq => by
    rcases List.mem_append.1 hq with a | a
    · exact .inr a
    · exact .inl (by simpa using a)
  refine ⟨?_, ?_, ?_, ?_, ?_, ?_⟩
  · have u := h.uq
    unfold UQ at u ⊢
    rw [List.pairwise_append]
    exact ⟨u, List.pairwise_singleton _ _, fun a ha b hb => by rw [List.mem_singleton.1 hb]; exact hn a ha⟩
  · intro q hq; rcases mem q hq with rfl | a; exact ht; exact h.tx q a
  · intro q hq; rcases mem q hq with rfl | a; exact hh; exact h.has q a
  · intro q hq; rcases mem q hq with rfl | a; exact hw; exact h.wants q a
  · intro q hq; rcases mem q hq with rfl | a; exact h0; exact h.some' q a
  · rw [List.pairwise_append]
    exact ⟨h.ok, List.pairwise_singleton _ _, fun a ha b hb => by rw [List.mem_singleton.1 hb]; exact hg a ha⟩

theorem cm_mod {a m : Int} (h : (modB a && modB m && togB a m) = true) : modB m = true := by revert h; cases modB m <;> simp

/-- What has more lets no more by. -/
theorem free_join {tx a m : Int} {w w' : Int} {i i' : Bool} (ha : 0 ≤ a ∧ a ≤ 5) (hm : modB m = true) (k : Int) (h : freeB (tx, joinF a m, w, i) k) : freeB (tx, a, w', i') k := by
  rcases h with e | e
  · have := joinF_rng ha hm
    have e' : joinF a m = 0 := e
    omega
  · exact join_free ha hm (cm_mod e) e

/-- Where one stands in a queue: its parts. -/
theorem split_of {L : List Pl} {tx : Int} (h : ofF L tx < L.length) : ∃ A B, L = A ++ oneF L tx :: B ∧ (oneF L tx).1 = tx ∧ ∀ o ∈ A, o.1 ≠ tx := by
  induction L with
  | nil => simp at h
  | cons a L ih =>
    by_cases e : a.1 = tx
    · have e1 : oneF (a :: L) tx = a := by unfold oneF; rw [ofF, if_pos e]; rfl
      exact ⟨[], L, by rw [e1]; rfl, by rw [e1]; exact e, fun o ho => by cases ho⟩
    · have e1 : oneF (a :: L) tx = oneF L tx := by unfold oneF; rw [ofF, if_neg e]; rfl
      rw [ofF, if_neg e] at h
      obtain ⟨A, B, hL, ht, hA⟩ := ih (by simpa using h)
      refine ⟨a :: A, B, by rw [e1, List.cons_append, ← hL], by rw [e1]; exact ht, fun o ho => ?_⟩
      rcases List.mem_cons.1 ho with rfl | ho
      · exact e
      · exact hA o ho

theorem none_of {L : List Pl} {tx : Int} (h : ¬ ofF L tx < L.length) : ∀ o ∈ L, o.1 ≠ tx := fun o ho e => h (e ▸ ofF_of_mem ho)

end Go.Proofs.YthagomibjlcfmaaDoor

namespace Go.Proofs.YthagomibjlcfmaaDoor
open Go.RowKit
set_option linter.unusedVariables false

theorem SPre.one {L : List Pl} (h : SPre L) (tx : Int) : 0 ≤ (oneF L tx).2.1 ∧ (oneF L tx).2.1 ≤ 5 := by
  rcases oneF_of L tx with x | ⟨x, _⟩
  · exact h.has _ x
  · rw [x]; exact ⟨Int.le_refl _, by show (0 : Int) ≤ 5; omega⟩

theorem mem_mid {A B : List Pl} {p q : Pl} (h : q ∈ A ++ p :: B) : q = p ∨ q ∈ A ∨ q ∈ B := by
  rcases List.mem_append.1 h with a | a
  · exact .inr (.inl a)
  · rcases List.mem_cons.1 a with a | a
    · exact .inl a
    · exact .inr (.inr a)

/-- Asked, and had. -/
theorem had_list {L : List Pl} (h : SPre L) (hb : SBlk L) {tx m : Int} {i : Bool} (ht : 1 ≤ tx ∧ tx ≤ 4) (hm : modB m = true) (hN : (oneF L tx).2.2.1 = 0)
    (he : blkF L (tx, (oneF L tx).2.1, joinF (oneF L tx).2.1 m, i) = []) :
    SPre (withF L (grantedF (tx, (oneF L tx).2.1, joinF (oneF L tx).2.1 m, i))) ∧ SBlk (withF L (grantedF (tx, (oneF L tx).2.1, joinF (oneF L tx).2.1 m, i))) ∧
    (∀ q ∈ withF L (grantedF (tx, (oneF L tx).2.1, joinF (oneF L tx).2.1 m, i)), q.2.2.1 ≠ 0 → q ∈ L) ∧ (∀ q ∈ L, q.2.2.1 ≠ 0 → q ∈ withF L (grantedF (tx, (oneF L tx).2.1, joinF (oneF L tx).2.1 m, i))) := by
  have hone := h.one tx
  have hJ := joinF_rng hone hm
  by_cases hlt : ofF L tx < L.length
  · obtain ⟨A, B, hL, hp1, hA⟩ := split_of hlt
    generalize oneF L tx = p at *
    subst hL
    have hpm : p ∈ A ++ p :: B := by simp
    have hp0 : p.2.1 ≠ 0 := fun x => h.some' p hpm x hN
    have hfr := (blk_in (p' := p) (p := (tx, p.2.1, joinF p.2.1 m, i)) hp1 (fun o ho => hA o ho)).1 he
    have key : ∀ r : Pl, r.1 = tx → r.2.2.1 = 0 → r.2.1 ≠ 0 → 0 ≤ r.2.1 ∧ r.2.1 ≤ 5 → (∀ o ∈ A, getsOn o r) → (∀ o ∈ B, getsOn r o) → (∀ k, freeB r k → freeB p k) →
        SPre (withF (A ++ p :: B) r) ∧ SBlk (withF (A ++ p :: B) r) ∧ (∀ q ∈ withF (A ++ p :: B) r, q.2.2.1 ≠ 0 → q ∈ A ++ p :: B) ∧ (∀ q ∈ A ++ p :: B, q.2.2.1 ≠ 0 → q ∈ withF (A ++ p :: B) r) := by
      intro r r1 r2 r3 r4 r5 r6 r7
      rw [withF_in (hp1.trans r1.symm) (fun o ho => by rw [r1]; exact hA o ho), if_neg (fun x => r3 x.1)]
      refine ⟨h.turn (r1.trans hp1.symm) r4 (by rw [r2]; exact ⟨Int.le_refl _, by omega⟩) (fun x => absurd x r3) r5 r6, hb.turn r7 hN (fun x => absurd r2 x), fun q hq hw => ?_, fun q hq hw => ?_⟩
      · rcases mem_mid hq with rfl | a | a
        · exact absurd r2 hw
        · simp [a]
        · simp [a]
      · rcases mem_mid hq with rfl | a | a
        · exact absurd hN hw
        · simp [a]
        · simp [a]
    cases i with
    | true =>
      refine key (p.1, p.2.1, 0, false) hp1 rfl hp0 hone h.parts.1 h.parts.2 (fun k x => x) |> fun z => ?_
      have e : grantedF (tx, p.2.1, joinF p.2.1 m, true) = (p.1, p.2.1, 0, false) := by rw [hp1]; rfl
      rw [e]
      exact z
    | false =>
      have e : grantedF (tx, p.2.1, joinF p.2.1 m, false) = (tx, joinF p.2.1 m, 0, false) := rfl
      rw [e]
      exact key (tx, joinF p.2.1 m, 0, false) rfl rfl (by show joinF p.2.1 m ≠ 0; omega) ⟨by show 0 ≤ joinF p.2.1 m; omega, hJ.2⟩ (fun o ho => freeB.on (r := (tx, joinF p.2.1 m, 0, false)) (hfr.1 o ho).1) (fun o ho => (freeB.on (r := (tx, joinF p.2.1 m, 0, false)) (hfr.2 o ho)).symm) (fun k x => free_join (tx := tx) (w := 0) (w' := p.2.2.1) (i := false) (i' := p.2.2.2) hone hm k x)
  · have hno := none_of hlt
    have e0 : oneF L tx = (tx, 0, 0, false) := by
      rcases oneF_of L tx with x | ⟨x, _⟩
      · exact absurd (oneF_tx L tx) (hno _ x)
      · exact x
    rw [e0] at he hJ ⊢
    simp only at he hJ ⊢
    have hfr := (blk_new (p := (tx, 0, joinF 0 m, i)) hno).1 he
    cases i with
    | true =>
      have e : grantedF (tx, 0, joinF 0 m, true) = (tx, 0, 0, false) := rfl
      rw [e, withF_new (p := (tx, 0, 0, false)) hno, if_pos ⟨rfl, rfl⟩]
      exact ⟨h, hb, fun q hq _ => hq, fun q hq _ => hq⟩
    | false =>
      have e : grantedF (tx, 0, joinF 0 m, false) = (tx, joinF 0 m, 0, false) := rfl
      rw [e, withF_new (p := (tx, joinF 0 m, 0, false)) hno, if_neg (fun x => by have x1 : joinF 0 m = 0 := x.1; omega)]
      refine ⟨h.snoc hno ht ⟨by show 0 ≤ joinF 0 m; omega, hJ.2⟩ ⟨Int.le_refl _, by show (0 : Int) ≤ 5; omega⟩ (fun x => by have x1 : joinF 0 m = 0 := x; omega) (fun o ho => freeB.on (r := (tx, joinF 0 m, 0, false)) (hfr o ho).1), hb.snoc (fun x => absurd rfl x), fun q hq hw => ?_, fun q hq hw => by simp [hq]⟩
      rcases List.mem_append.1 hq with a | a
      · exact a
      · rw [List.mem_singleton.1 a] at hw
        exact absurd rfl hw

/-- Asked, and one waits. -/
theorem wait_list {L : List Pl} (h : SPre L) (hb : SBlk L) {tx m : Int} {i : Bool} (ht : 1 ≤ tx ∧ tx ≤ 4) (hm : modB m = true) (hN : (oneF L tx).2.2.1 = 0)
    (he : blkF L (tx, (oneF L tx).2.1, joinF (oneF L tx).2.1 m, i) ≠ []) :
    SPre (withF L (tx, (oneF L tx).2.1, joinF (oneF L tx).2.1 m, i)) ∧ SBlk (withF L (tx, (oneF L tx).2.1, joinF (oneF L tx).2.1 m, i)) ∧
    (∀ q ∈ withF L (tx, (oneF L tx).2.1, joinF (oneF L tx).2.1 m, i), q = (tx, (oneF L tx).2.1, joinF (oneF L tx).2.1 m, i) ∨ q ∈ L) ∧ (∀ q ∈ L, q.2.2.1 ≠ 0 → q ∈ withF L (tx, (oneF L tx).2.1, joinF (oneF L tx).2.1 m, i)) ∧ (tx, (oneF L tx).2.1, joinF (oneF L tx).2.1 m, i) ∈ withF L (tx, (oneF L tx).2.1, joinF (oneF L tx).2.1 m, i) := by
  have hone := h.one tx
  have hJ := joinF_rng hone hm
  by_cases hlt : ofF L tx < L.length
  · obtain ⟨A, B, hL, hp1, hA⟩ := split_of hlt
    generalize oneF L tx = p at *
    subst hL
    have hfr := fun x => he ((blk_in (p' := p) (p := (tx, p.2.1, joinF p.2.1 m, i)) hp1 (fun o ho => hA o ho)).2 x)
    rw [withF_in (p' := p) (p := (tx, p.2.1, joinF p.2.1 m, i)) hp1 (fun o ho => hA o ho), if_neg (fun x => by have x1 : joinF p.2.1 m = 0 := x.2; omega)]
    refine ⟨h.turn hp1.symm hone ⟨by show 0 ≤ joinF p.2.1 m; omega, hJ.2⟩ (fun _ x => by have x1 : joinF p.2.1 m = 0 := x; omega) h.parts.1 h.parts.2, hb.turn (fun k x => x) hN (fun _ => hfr), fun q hq => ?_, fun q hq hw => ?_, by simp⟩
    · rcases mem_mid hq with rfl | a | a
      · exact .inl rfl
      · exact .inr (by simp [a])
      · exact .inr (by simp [a])
    · rcases mem_mid hq with rfl | a | a
      · exact absurd hN hw
      · simp [a]
      · simp [a]
  · have hno := none_of hlt
    have e0 : oneF L tx = (tx, 0, 0, false) := by
      rcases oneF_of L tx with x | ⟨x, _⟩
      · exact absurd (oneF_tx L tx) (hno _ x)
      · exact x
    rw [e0] at he hJ ⊢
    simp only at he hJ ⊢
    have hfr := fun x => he ((blk_new (p := (tx, 0, joinF 0 m, i)) hno).2 x)
    rw [withF_new (p := (tx, 0, joinF 0 m, i)) hno, if_neg (fun x => by have x1 : joinF 0 m = 0 := x.2; omega)]
    refine ⟨h.snoc hno ht ⟨Int.le_refl _, by show (0 : Int) ≤ 5; omega⟩ ⟨by show 0 ≤ joinF 0 m; omega, hJ.2⟩ (fun _ x => by have x1 : joinF 0 m = 0 := x; omega) (fun o ho _ x => absurd rfl x), hb.snoc (fun _ => hfr), fun q hq => ?_, fun q hq _ => by simp [hq], by simp⟩
    rcases List.mem_append.1 hq with a | a
    · exact .inr a
    · exact .inl (List.mem_singleton.1 a)

end Go.Proofs.YthagomibjlcfmaaDoor
