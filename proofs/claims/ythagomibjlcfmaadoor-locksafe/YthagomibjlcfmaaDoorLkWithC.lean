/-
  The walk of queue.with where nobody is taken out.
-/
import Derived.Test.YthagomibjlcfmaaDoorLkBlockC
namespace Go.Proofs.YthagomibjlcfmaaDoor
open Go.RowKit
set_option linter.unusedVariables false
set_option linter.unusedSimpArgs false

/-- A queue with one as it is told. -/
def withF (L : List Pl) (p : Pl) : List Pl :=
  if p.2.1 = 0 ∧ p.2.2.1 = 0 then L.eraseIdx (ofF L p.1) else if ofF L p.1 = L.length then L ++ [p] else L.set (ofF L p.1) p

theorem infoPlace : (Tryd.prog.info? 64).map (fun i => (i.zero, i.size, i.bytes)) = some (some (.agg #[.int .i64 0, .int .i64 0, .int .i64 0, .bool false]), 4, 32) := by kernel_rfl

/-- A step that leaves all but the row of v: what is v' then is that row, or a new one. -/
structure Steps (w w' : World) (v v' : Value) : Prop where
  grown : w.grownBy w' v.ownBlock
  at' : v'.ownBlock = v.ownBlock ∨ ∃ z, v'.ownBlock = some z ∧ w.heap.size ≤ z

theorem grown_of_below {w w' : World} (h : Below w.heap.size w w') (r : Option Nat) : w.grownBy w' r := ⟨h.os, h.tape, h.output, h.size, fun k hk _ => h.block k hk⟩

set_option maxHeartbeats 1600000 in
set_option maxRecDepth 60000 in
theorem with_none {w : World} {v : Value} {L : List Pl} (h : QAt w v L) (p : Pl) (h1 : p.2.1 = 0) (h2 : p.2.2.1 = 0) (hat : ofF L p.1 = L.length) (hL : L.length ≤ 1000000) :
    Calls Tryd.prog 20 #[v, pval p] w fun e w' => ∃ v', e = .returned v' ∧ QAt w' v' (withF L p) ∧ Steps w w' v v' := by
  have HO : Hid (∀ wx, Below w.heap.size w wx → Calls Tryd.prog 45 #[v, .int .i64 p.1] wx fun e w' => e = .returned (.int .i64 (ofF L p.1)) ∧ Below wx.heap.size wx w') := fun wx k => of_any (h.below k) p.1
  have HL : Hid (withF L p = L) := by
    show withF L p = L
    unfold withF; rw [if_pos ⟨h1, h2⟩, hat, List.eraseIdx_of_length_le (Nat.le_refl _)]
  rw [HL.out]
  obtain ⟨p0, p1, p2, p3⟩ := p
  simp only at h1 h2 hat HO
  subst h1; subst h2
  rw [hat] at HO
  clear hat HL
  unfold pval
  simp only
  have HQ : Hid (∀ wx, Below w.heap.size w wx → QAt wx v L) := fun wx k => h.below k
  have hv := h.open
  clear h
  have hvv : ∃ va cap, v = .slice va L.length cap ∧ L.length ≤ cap ∧ cap ≤ 9223372036854775807 := by
    rcases hv with ⟨rfl, rfl⟩ | ⟨g, cap, rfl, hg, hn, hm, _⟩
    · exact ⟨_, _, rfl, Nat.le_refl _, by simp⟩
    · unfold maxLen at hm
      exact ⟨_, _, rfl, hn, by omega⟩
  obtain ⟨va, cap, rfl, hc1, hc2⟩ := hvv
  clear hv
  generalize L.length = N at *
  have W1 : Below w.heap.size w (w.alloc (.cells #[.int .i64 p0, .int .i64 0, .int .i64 0, .bool p3] 64)) := (Below.refl _ _).alloc (Nat.le_refl _) _
  go_enter Tryd.func20, Tryd.ntmps20
  go_wp2_with fail
  refine (HO.out _ W1).mono ?_
  rintro e w1 ⟨rfl, b1⟩
  have b2 := W1.trans (b1.mono (by simp))
  have c1 : w1.cell? ⟨w.heap.size, 1, none⟩ = some (.int .i64 0) := (World.cell?_of_block (w := w.alloc (.cells #[.int .i64 p0, .int .i64 0, .int .i64 0, .bool p3] 64)) (w' := w1) (a := ⟨w.heap.size, 1, none⟩) (b1.block w.heap.size (by simp))).trans (by simp)
  have c2 : w1.cell? ⟨w.heap.size, 2, none⟩ = some (.int .i64 0) := (World.cell?_of_block (w := w.alloc (.cells #[.int .i64 p0, .int .i64 0, .int .i64 0, .bool p3] 64)) (w' := w1) (a := ⟨w.heap.size, 2, none⟩) (b1.block w.heap.size (by simp))).trans (by simp)
  have hmin : min ((N : Int) + 1) (N : Int) = N := by omega
  have hn1 : (N : Int) ≤ cap := by omega
  have hn0 : (0 : Int) ≤ N := by omega
  go_wp2
  go_ret
  exact ⟨_, rfl, HQ.out _ b2, ⟨grown_of_below b2 _, .inl rfl⟩⟩

set_option maxHeartbeats 1600000 in
set_option maxRecDepth 60000 in
theorem with_push {w : World} {v : Value} {L : List Pl} (h : QAt w v L) (p : Pl) (h1 : ¬ (p.2.1 = 0 ∧ p.2.2.1 = 0)) (hat : ofF L p.1 = L.length) (hL : L.length ≤ 1000000) :
    Calls Tryd.prog 20 #[v, pval p] w fun e w' => ∃ v', e = .returned v' ∧ QAt w' v' (withF L p) ∧ Steps w w' v v' := by
  have HO : Hid (∀ wx, Below w.heap.size w wx → Calls Tryd.prog 45 #[v, .int .i64 p.1] wx fun e w' => e = .returned (.int .i64 (ofF L p.1)) ∧ Below wx.heap.size wx w') := fun wx k => of_any (h.below k) p.1
  have HL : Hid (withF L p = L ++ [p]) := by
    show withF L p = L ++ [p]
    unfold withF; rw [if_neg h1, if_pos hat]
  rw [HL.out]
  obtain ⟨i0, hi, hzz⟩ := Option.map_eq_some_iff.1 infoPlace
  simp only [Prod.mk.injEq] at hzz
  obtain ⟨hz0, hz1, hz2⟩ := hzz
  obtain ⟨p0, p1, p2, p3⟩ := p
  simp only at h1 hat HO
  rw [hat] at HO
  clear hat HL
  unfold pval
  simp only
  have HQ : Hid (∀ wx, Below w.heap.size w wx → QAt wx v L) := fun wx k => h.below k
  have hv := h.open
  have HLT : Hid (∀ g, v.ownBlock = some g → g < w.heap.size) := h.lt
  clear h
  have hvv : ∃ va cap, v = .slice va L.length cap := by
    rcases hv with ⟨rfl, rfl⟩ | ⟨g, cap, rfl, hg, hn, hm, _⟩
    · exact ⟨_, _, rfl⟩
    · exact ⟨_, _, rfl⟩
  obtain ⟨va, cap, rfl⟩ := hvv
  clear hv
  have W1 : Below w.heap.size w (w.alloc (.cells #[.int .i64 p0, .int .i64 p1, .int .i64 p2, .bool p3] 64)) := (Below.refl _ _).alloc (Nat.le_refl _) _
  have fin : ∀ (w1 w4 : World) (v' : Value), Below w.heap.size w w1 → (w1.alloc (.cells #[.int .i64 p0, .int .i64 p1, .int .i64 p2, .bool p3] 64)).grownBy w4 (Value.slice va L.length cap).ownBlock →
      w4.ownsRow 0 64 4 v' (L.length + 1) (L.flatMap pcells ++ [.int .i64 p0, .int .i64 p1, .int .i64 p2, .bool p3]) → (v'.ownBlock = (Value.slice va L.length cap).ownBlock ∨ v'.ownBlock = some (w1.alloc (.cells #[.int .i64 p0, .int .i64 p1, .int .i64 p2, .bool p3] 64)).heap.size) →
      QAt w4 v' (L ++ [(p0, p1, p2, p3)]) ∧ Steps w w4 (Value.slice va L.length cap) v' := by
    intro w1 w4 v' b hg ho hl
    refine ⟨?_, ⟨?_, ?_⟩⟩
    · unfold QAt
      rw [List.length_append, List.flatMap_append]
      exact ho
    · exact ((grown_of_below b _).trans (World.grownBy_alloc _ _ _)).trans hg
    · rcases hl with e | e
      · exact .inl e
      · exact .inr ⟨_, e, by have := b.size; simp; omega⟩
  by_cases e1 : p1 = 0
  · have e2 : p2 ≠ 0 := fun e => h1 ⟨e1, e⟩
    have e1' : (p1 == 0) = true := by simpa using e1
    have e2' : (p2 == 0) = false := by simpa using e2
    clear e1 e2 h1
    go_enter Tryd.func20, Tryd.ntmps20
    go_wp2_with fail
    refine (HO.out _ W1).mono ?_
    rintro e w1 ⟨rfl, b1⟩
    have b2 := W1.trans (b1.mono (by simp))
    have d0 := fun i => (World.cell?_of_block (w := w.alloc (.cells #[.int .i64 p0, .int .i64 p1, .int .i64 p2, .bool p3] 64)) (w' := w1) (a := ⟨w.heap.size, i, none⟩) (b1.block w.heap.size (by simp)))
    have c0 := (d0 0).trans (by rfl)
    have c1 := (d0 1).trans (by rfl)
    have c2 := (d0 2).trans (by rfl)
    have c3 := (d0 3).trans (by rfl)
    simp at c0 c1 c2 c3
    have hown := (HQ.out _ b2).below ((Below.refl _ _).alloc (Nat.le_refl _) (.cells #[.int .i64 p0, .int .i64 p1, .int .i64 p2, .bool p3] 64))
    go_wp2_with (at_builtin; refine wpList_append_own_at _ rfl _ _ 61 rfl 0 64 i0 _ 4 32 Tryd.underlying61 hi hz0 hz1 hz2 rfl (by decide) _ L.length (L.flatMap pcells) rfl hown ⟨w1.heap.size, 0, none⟩ 1 1 [.int .i64 p0, .int .i64 p1, .int .i64 p2, .bool p3] rfl rfl (by intro j u hj; match j, hj with | 0, hj => (simp at hj; subst hj; simp [Addr.add]) | 1, hj => (simp at hj; subst hj; simp [Addr.add]) | 2, hj => (simp at hj; subst hj; simp [Addr.add]) | 3, hj => (simp at hj; subst hj; simp [Addr.add])) (by intro u hu; simp at hu; rcases hu with rfl | rfl | rfl | rfl <;> rfl) (by unfold maxLen; omega) (by omega) (Nat.zero_le _) ?_; intro v' w4 hown4 hgrow4 hnil4 hloc4)
    go_wp2
    go_ret
    exact ⟨v', rfl, fin w1 w4 v' b2 hgrow4 hown4 hloc4⟩
  · have e1' : (p1 == 0) = false := by simpa using e1
    clear e1 h1
    go_enter Tryd.func20, Tryd.ntmps20
    go_wp2_with fail
    refine (HO.out _ W1).mono ?_
    rintro e w1 ⟨rfl, b1⟩
    have b2 := W1.trans (b1.mono (by simp))
    have d0 := fun i => (World.cell?_of_block (w := w.alloc (.cells #[.int .i64 p0, .int .i64 p1, .int .i64 p2, .bool p3] 64)) (w' := w1) (a := ⟨w.heap.size, i, none⟩) (b1.block w.heap.size (by simp)))
    have c0 := (d0 0).trans (by rfl)
    have c1 := (d0 1).trans (by rfl)
    have c2 := (d0 2).trans (by rfl)
    have c3 := (d0 3).trans (by rfl)
    simp at c0 c1 c2 c3
    have hown := (HQ.out _ b2).below ((Below.refl _ _).alloc (Nat.le_refl _) (.cells #[.int .i64 p0, .int .i64 p1, .int .i64 p2, .bool p3] 64))
    go_wp2_with (at_builtin; refine wpList_append_own_at _ rfl _ _ 61 rfl 0 64 i0 _ 4 32 Tryd.underlying61 hi hz0 hz1 hz2 rfl (by decide) _ L.length (L.flatMap pcells) rfl hown ⟨w1.heap.size, 0, none⟩ 1 1 [.int .i64 p0, .int .i64 p1, .int .i64 p2, .bool p3] rfl rfl (by intro j u hj; match j, hj with | 0, hj => (simp at hj; subst hj; simp [Addr.add]) | 1, hj => (simp at hj; subst hj; simp [Addr.add]) | 2, hj => (simp at hj; subst hj; simp [Addr.add]) | 3, hj => (simp at hj; subst hj; simp [Addr.add])) (by intro u hu; simp at hu; rcases hu with rfl | rfl | rfl | rfl <;> rfl) (by unfold maxLen; omega) (by omega) (Nat.zero_le _) ?_; intro v' w4 hown4 hgrow4 hnil4 hloc4)
    go_wp2
    go_ret
    exact ⟨v', rfl, fin w1 w4 v' b2 hgrow4 hown4 hloc4⟩

theorem owns_set {w : World} {B : Nat} {e : TypeId} {z n g cap : Nat} {xs : List Value} (h : w.ownsRow B e z (.slice (some ⟨g, 0, none⟩) n cap) n xs) (i : Nat) (hi : i < n * z) (u : Value) :
    (w.setCell ⟨g, i, none⟩ u).ownsRow B e z (.slice (some ⟨g, 0, none⟩) n cap) n (xs.set i u) := by
  refine ⟨by rw [List.length_set]; exact h.1, ?_⟩
  rcases h.2 with ⟨e1, _⟩ | ⟨g', cap', cur, e1, h0, hb, hn, hm, hs, ht⟩
  · cases e1
  · cases e1
    refine .inr ⟨g, cap, cur.setIfInBounds i u, rfl, h0, ?_, hn, hm, by simpa using hs, ?_⟩
    · simp [World.setCell, Array.getElem?_modify, hb]
    · rw [Array.toList_setIfInBounds, List.take_set, ht]

theorem flat_set (L : List Pl) (k : Nat) (p : Pl) (hk : k < L.length) :
    ((((L.flatMap pcells).set (k * 4) (.int .i64 p.1)).set (k * 4 + 1) (.int .i64 p.2.1)).set (k * 4 + 2) (.int .i64 p.2.2.1)).set (k * 4 + 3) (.bool p.2.2.2) = (L.set k p).flatMap pcells := by
  induction L generalizing k with
  | nil => simp at hk
  | cons q L ih =>
    match k, hk with
    | 0, _ => simp [pcells]
    | k + 1, hk =>
      have := ih k (by simpa using hk)
      simp only [List.set_cons_succ, List.flatMap_cons]
      rw [← this]
      have e0 : (k + 1) * 4 = k * 4 + 4 := by omega
      rw [e0]
      simp [pcells]

theorem QAt.set {w : World} {L : List Pl} {g cap : Nat} (h : QAt w (.slice (some ⟨g, 0, none⟩) L.length cap) L) (k : Nat) (hk : k < L.length) (p : Pl) :
    QAt ((((w.setCell ⟨g, k * 4, none⟩ (.int .i64 p.1)).setCell ⟨g, k * 4 + 1, none⟩ (.int .i64 p.2.1)).setCell ⟨g, k * 4 + 2, none⟩ (.int .i64 p.2.2.1)).setCell ⟨g, k * 4 + 3, none⟩ (.bool p.2.2.2)) (.slice (some ⟨g, 0, none⟩) L.length cap) (L.set k p) := by
  unfold QAt at h ⊢
  rw [List.length_set, ← flat_set L k p hk]
  exact owns_set (owns_set (owns_set (owns_set h _ (by omega) _) _ (by omega) _) _ (by omega) _) _ (by omega) _

theorem QAt.frozen {w : World} {L : List Pl} {g cap : Nat} (h : QAt w (.slice (some ⟨g, 0, none⟩) L.length cap) L) (i : Nat) : w.frozen? ⟨g, i, none⟩ = false := by
  rcases h.2 with ⟨e1, _⟩ | ⟨g', cap', cur, e1, h0, hb, _⟩
  · cases e1
  · cases e1
    simp [World.frozen?, hb]

theorem grown_set4 {w u : World} {g : Nat} (h : w.grownBy u (some g)) (i0 i1 i2 i3 : Nat) (v0 v1 v2 v3 : Value) : w.grownBy ((((u.setCell ⟨g, i0, none⟩ v0).setCell ⟨g, i1, none⟩ v1).setCell ⟨g, i2, none⟩ v2).setCell ⟨g, i3, none⟩ v3) (some g) := by
  have one : ∀ (u : World) (i : Nat) (v : Value), w.grownBy u (some g) → w.grownBy (u.setCell ⟨g, i, none⟩ v) (some g) := fun u i v h =>
    ⟨h.os, h.tape, h.output, by simpa using h.size, fun k hk hne => (Below.heap_setCell _ _ _ _ (by intro e; exact hne (by rw [show k = g from e]))).trans (h.block k hk hne)⟩
  exact one _ _ _ (one _ _ _ (one _ _ _ (one _ _ _ h)))

set_option maxHeartbeats 1600000 in
set_option maxRecDepth 60000 in
theorem with_set {w : World} {v : Value} {L : List Pl} (h : QAt w v L) (p : Pl) (h1 : ¬ (p.2.1 = 0 ∧ p.2.2.1 = 0)) (hat : ofF L p.1 < L.length) (hL : L.length ≤ 1000000) :
    Calls Tryd.prog 20 #[v, pval p] w fun e w' => e = .returned v ∧ QAt w' v (withF L p) ∧ w.grownBy w' v.ownBlock := by
  have HO : Hid (∀ wx, Below w.heap.size w wx → Calls Tryd.prog 45 #[v, .int .i64 p.1] wx fun e w' => e = .returned (.int .i64 (ofF L p.1)) ∧ Below wx.heap.size wx w') := fun wx k => of_any (h.below k) p.1
  have HL : Hid (withF L p = L.set (ofF L p.1) p) := by
    show withF L p = L.set (ofF L p.1) p
    unfold withF; rw [if_neg h1, if_neg (by omega)]
  rw [HL.out]
  clear HL
  rcases h.open with ⟨rfl, rfl⟩ | ⟨g, cap, rfl, hg, hn, hm, hp⟩
  · simp at hat
  have HQ : Hid (∀ wx, Below w.heap.size w wx → QAt wx (.slice (some ⟨g, 0, none⟩) L.length cap) L) := fun wx k => h.below k
  have HP : Hid (∀ i (hi : i < L.length), PlAt w g (i * 4) L[i]) := hp
  clear h hp
  generalize ofF L p.1 = k at *
  obtain ⟨p0, p1, p2, p3⟩ := p
  simp only at h1 HO
  unfold pval
  simp only
  have W1 : Below w.heap.size w (w.alloc (.cells #[.int .i64 p0, .int .i64 p1, .int .i64 p2, .bool p3] 64)) := (Below.refl _ _).alloc (Nat.le_refl _) _
  have hk0 : (0 : Int) ≤ k := by omega
  have hk1 : (k : Int) < L.length := by omega
  have hk2 : ((k : Int) == (L.length : Int)) = false := by rw [beq_eq_false_iff_ne]; omega
  have fin : ∀ w1, Below w.heap.size w w1 → QAt ((((w1.setCell ⟨g, k * 4, none⟩ (.int .i64 p0)).setCell ⟨g, k * 4 + 1, none⟩ (.int .i64 p1)).setCell ⟨g, k * 4 + 2, none⟩ (.int .i64 p2)).setCell ⟨g, k * 4 + 3, none⟩ (.bool p3)) (.slice (some ⟨g, 0, none⟩) L.length cap) (L.set k (p0, p1, p2, p3)) ∧
      w.grownBy ((((w1.setCell ⟨g, k * 4, none⟩ (.int .i64 p0)).setCell ⟨g, k * 4 + 1, none⟩ (.int .i64 p1)).setCell ⟨g, k * 4 + 2, none⟩ (.int .i64 p2)).setCell ⟨g, k * 4 + 3, none⟩ (.bool p3)) (some g) := fun w1 b =>
    ⟨(HQ.out w1 b).set k hat (p0, p1, p2, p3), grown_set4 (grown_of_below b _) _ _ _ _ _ _ _ _⟩
  by_cases e1 : p1 = 0
  · have e2 : p2 ≠ 0 := fun e => h1 ⟨e1, e⟩
    have e1' : (p1 == 0) = true := by simpa using e1
    have e2' : (p2 == 0) = false := by simpa using e2
    clear e1 e2 h1
    go_enter Tryd.func20, Tryd.ntmps20
    go_wp2_with fail
    refine (HO.out _ W1).mono ?_
    rintro e w1 ⟨rfl, b1⟩
    have b2 := W1.trans (b1.mono (by simp))
    have d0 := fun i => (World.cell?_of_block (w := w.alloc (.cells #[.int .i64 p0, .int .i64 p1, .int .i64 p2, .bool p3] 64)) (w' := w1) (a := ⟨w.heap.size, i, none⟩) (b1.block w.heap.size (by simp)))
    have c0 := (d0 0).trans (by rfl)
    have c1 := (d0 1).trans (by rfl)
    have c2 := (d0 2).trans (by rfl)
    have c3 := (d0 3).trans (by rfl)
    simp at c0 c1 c2 c3
    obtain ⟨x0, x1, x2, x3⟩ := (HP.out k hat).same (b2.block g hg)
    have f := fun i => (HQ.out w1 b2).frozen i
    have fn := fin w1 b2
    clear HP
    generalize L[k] = tt at *
    go_wp2
    go_ret
    exact ⟨rfl, fn⟩
  · have e1' : (p1 == 0) = false := by simpa using e1
    clear e1 h1
    go_enter Tryd.func20, Tryd.ntmps20
    go_wp2_with fail
    refine (HO.out _ W1).mono ?_
    rintro e w1 ⟨rfl, b1⟩
    have b2 := W1.trans (b1.mono (by simp))
    have d0 := fun i => (World.cell?_of_block (w := w.alloc (.cells #[.int .i64 p0, .int .i64 p1, .int .i64 p2, .bool p3] 64)) (w' := w1) (a := ⟨w.heap.size, i, none⟩) (b1.block w.heap.size (by simp)))
    have c0 := (d0 0).trans (by rfl)
    have c1 := (d0 1).trans (by rfl)
    have c2 := (d0 2).trans (by rfl)
    have c3 := (d0 3).trans (by rfl)
    simp at c0 c1 c2 c3
    obtain ⟨x0, x1, x2, x3⟩ := (HP.out k hat).same (b2.block g hg)
    have f := fun i => (HQ.out w1 b2).frozen i
    have fn := fin w1 b2
    clear HP
    generalize L[k] = tt at *
    go_wp2
    go_ret
    exact ⟨rfl, fn⟩

end Go.Proofs.YthagomibjlcfmaaDoor
