/-
  The walks of queue.one, place.stays, place.granted; slices.Sort of at most one number.
-/
import Derived.Test.YthagomibjlcfmaaDoorLkMemC
namespace Go.Proofs.YthagomibjlcfmaaDoor
open Go.RowKit
set_option linter.unusedVariables false
set_option linter.unusedSimpArgs false

/-- A transaction in a queue; with nothing, if it is not there. -/
def oneF (L : List Pl) (tx : Int) : Pl := (L[ofF L tx]?).getD (tx, 0, 0, false)
def staysF (p : Pl) : Pl := (p.1, p.2.1, 0, false)
def grantedF (p : Pl) : Pl := if p.2.2.2 then staysF p else (p.1, p.2.2.1, 0, false)

theorem oneF_tx (L : List Pl) (tx : Int) : (oneF L tx).1 = tx := by
  unfold oneF
  by_cases h : ofF L tx < L.length
  · rw [List.getElem?_eq_getElem h]
    exact ofF_at h
  · rw [List.getElem?_eq_none (by omega)]
    rfl

theorem below_set1 {B : Nat} {w u : World} (h : Below B w u) {b : Nat} (hb : B ≤ b) (i : Nat) (v : Value) : Below B w (u.setCell ⟨b, i, none⟩ v) :=
  ⟨h.os, h.tape, h.output, by simpa using h.size, fun k hk => (Below.heap_setCell _ _ _ _ (by show k ≠ b; omega)).trans (h.block k hk)⟩

theorem below_set4 {B : Nat} {w u : World} (h : Below B w u) {b : Nat} (hb : B ≤ b) (v0 v1 v2 v3 : Value) : Below B w ((((u.setCell ⟨b, 0, none⟩ v0).setCell ⟨b, 1, none⟩ v1).setCell ⟨b, 2, none⟩ v2).setCell ⟨b, 3, none⟩ v3) :=
  below_set1 (below_set1 (below_set1 (below_set1 h hb _ _) hb _ _) hb _ _) hb _ _

set_option maxHeartbeats 1600000 in
set_option maxRecDepth 60000 in
theorem one_any {w : World} {v : Value} {L : List Pl} (h : QAt w v L) (tx : Int) :
    Calls Tryd.prog 23 #[v, .int .i64 tx] w fun e w' => e = .returned (pval (oneF L tx)) ∧ Below w.heap.size w w' := by
  have HO : Hid (∀ wx, Below w.heap.size w wx → Calls Tryd.prog 45 #[v, .int .i64 tx] wx fun e w' => e = .returned (.int .i64 (ofF L tx)) ∧ Below wx.heap.size wx w') := fun wx k => of_any (h.below k) tx
  have hle := ofF_le L tx
  have HQ := h.open
  unfold oneF
  generalize ofF L tx = k at *
  have W1 : Below w.heap.size w (w.alloc (.cells #[.int .i64 0, .int .i64 0, .int .i64 0, .bool false] 64)) := (Below.refl _ _).alloc (Nat.le_refl _) _
  by_cases hlt : k < L.length
  · rcases HQ with ⟨rfl, rfl⟩ | ⟨g, cap, rfl, hg, hn, hm, hp⟩
    · simp at hlt
    unfold maxLen at hm
    have hP := hp k hlt
    rw [List.getElem?_eq_getElem hlt]
    simp only [Option.getD_some]
    clear hp
    generalize L[k] = t at *
    generalize L.length = N at *
    obtain ⟨t0, t1, t2, t3⟩ := t
    have hi0 : (0 : Int) ≤ k := by omega
    have hi1 : (k : Int) < N := by omega
    go_enter Tryd.func23, Tryd.ntmps23
    go_wp2_with fail
    refine (HO.out _ W1).mono ?_
    rintro e w1 ⟨rfl, b1⟩
    have b2 := W1.trans (b1.mono (by simp))
    obtain ⟨c0, c1, c2, c3⟩ := hP.same (b2.block g hg)
    simp only at c0 c1 c2 c3
    have f0 := fun i => (World.frozen?_of_block (w := w.alloc (.cells #[.int .i64 0, .int .i64 0, .int .i64 0, .bool false] 64)) (w' := w1) (a := ⟨w.heap.size, i, none⟩) (b1.block w.heap.size (by simp)))
    have d0 := fun i => (World.cell?_of_block (w := w.alloc (.cells #[.int .i64 0, .int .i64 0, .int .i64 0, .bool false] 64)) (w' := w1) (a := ⟨w.heap.size, i, none⟩) (b1.block w.heap.size (by simp)))
    have e0 := (d0 0).trans (by rfl)
    have e1 := (d0 1).trans (by rfl)
    have e2 := (d0 2).trans (by rfl)
    have e3 := (d0 3).trans (by rfl)
    simp at f0 e0 e1 e2 e3
    have hw : w.heap.size < w1.heap.size := Nat.lt_of_lt_of_le (by simp) b1.size
    go_wp2
    refine bodyPost_ret (v := pval (t0, t1, t2, t3)) (by simp [results, Tryd.results23, go_sem, pval, e0, e1, e2, e3, f0]) rfl ?_
    refine ⟨rfl, ?_⟩
    exact below_set4 b2 (Nat.le_refl _) _ _ _ _
  · rw [List.getElem?_eq_none (by omega)]
    simp only [Option.getD_none]
    obtain rfl : k = L.length := by omega
    clear HQ
    have hv : ∃ a cap, v = .slice a L.length cap := by
      rcases h.open with ⟨rfl, rfl⟩ | ⟨g, cap, rfl, _⟩
      · exact ⟨_, _, rfl⟩
      · exact ⟨_, _, rfl⟩
    obtain ⟨a, cap, rfl⟩ := hv
    clear h
    generalize L.length = N at *
    go_enter Tryd.func23, Tryd.ntmps23
    go_wp2_with fail
    refine (HO.out _ W1).mono ?_
    rintro e w1 ⟨rfl, b1⟩
    have b2 := W1.trans (b1.mono (by simp))
    have f0 := fun i => (World.frozen?_of_block (w := w.alloc (.cells #[.int .i64 0, .int .i64 0, .int .i64 0, .bool false] 64)) (w' := w1) (a := ⟨w.heap.size, i, none⟩) (b1.block w.heap.size (by simp)))
    have d0 := fun i => (World.cell?_of_block (w := w.alloc (.cells #[.int .i64 0, .int .i64 0, .int .i64 0, .bool false] 64)) (w' := w1) (a := ⟨w.heap.size, i, none⟩) (b1.block w.heap.size (by simp)))
    have e0 := (d0 0).trans (by rfl)
    have e1 := (d0 1).trans (by rfl)
    have e2 := (d0 2).trans (by rfl)
    have e3 := (d0 3).trans (by rfl)
    simp at f0 e0 e1 e2 e3
    have hw : w.heap.size < w1.heap.size := Nat.lt_of_lt_of_le (by simp) b1.size
    go_wp2
    refine bodyPost_ret (v := pval (tx, 0, 0, false)) (by simp [results, Tryd.results23, go_sem, pval, e0, e1, e2, e3, f0]) rfl ?_
    refine ⟨rfl, ?_⟩
    exact below_set4 b2 (Nat.le_refl _) _ _ _ _

set_option maxHeartbeats 1600000 in
set_option maxRecDepth 60000 in
theorem stays_any (p : Pl) (w : World) : Calls Tryd.prog 24 #[pval p] w fun e w' => e = .returned (pval (staysF p)) ∧ Below w.heap.size w w' := by
  obtain ⟨t0, t1, t2, t3⟩ := p
  unfold pval staysF
  go_enter Tryd.func24, Tryd.ntmps24
  go_wp2
  refine bodyPost_ret (v := .agg #[.int .i64 t0, .int .i64 t1, .int .i64 0, .bool false]) (by simp [results, Tryd.results24, go_sem]) rfl ?_
  exact ⟨rfl, ((Below.refl _ _).alloc (Nat.le_refl _) _).alloc (by simp) _⟩

set_option maxHeartbeats 1600000 in
set_option maxRecDepth 60000 in
theorem granted_any (p : Pl) (w : World) : Calls Tryd.prog 28 #[pval p] w fun e w' => e = .returned (pval (grantedF p)) ∧ Below w.heap.size w w' := by
  have HS : Hid (∀ wx, Calls Tryd.prog 24 #[pval p] wx fun e w' => e = .returned (pval (staysF p)) ∧ Below wx.heap.size wx w') := fun wx => stays_any p wx
  obtain ⟨t0, t1, t2, t3⟩ := p
  unfold grantedF
  unfold staysF at *
  simp only at *
  unfold pval at *
  simp only at *
  cases t3 with
  | true =>
    go_enter Tryd.func28, Tryd.ntmps28
    go_wp2_with fail
    have W1 : Below w.heap.size w ((w.alloc (.cells #[.int .i64 t0, .int .i64 t1, .int .i64 t2, .bool true] 64)).alloc (.cells #[.int .i64 0, .int .i64 0, .int .i64 0, .bool false] 64)) := (((Below.refl _ _).alloc (Nat.le_refl _) _).alloc (by simp) _)
    refine (HS.out _).mono ?_
    rintro e w1 ⟨rfl, b1⟩
    have b2 := W1.trans (b1.mono (by simp; omega))
    have f0 := fun i => (World.frozen?_of_block (w := ((w.alloc (.cells #[.int .i64 t0, .int .i64 t1, .int .i64 t2, .bool true] 64)).alloc (.cells #[.int .i64 0, .int .i64 0, .int .i64 0, .bool false] 64))) (w' := w1) (a := ⟨w.heap.size + 1, i, none⟩) (b1.block (w.heap.size + 1) (by simp)))
    have d0 := fun i => (World.cell?_of_block (w := ((w.alloc (.cells #[.int .i64 t0, .int .i64 t1, .int .i64 t2, .bool true] 64)).alloc (.cells #[.int .i64 0, .int .i64 0, .int .i64 0, .bool false] 64))) (w' := w1) (a := ⟨w.heap.size + 1, i, none⟩) (b1.block (w.heap.size + 1) (by simp)))
    simp at f0
    have e0 := d0 0
    have e1 := d0 1
    have e2 := d0 2
    have e3 := d0 3
    simp at e0 e1 e2 e3
    have hw : w.heap.size + 1 < w1.heap.size := Nat.lt_of_lt_of_le (by simp) b1.size
    go_wp2
    refine bodyPost_ret (v := .agg #[.int .i64 t0, .int .i64 t1, .int .i64 0, .bool false]) (by simp [results, Tryd.results28, go_sem, e0, e1, e2, e3, f0]) rfl ?_
    exact ⟨rfl, below_set4 b2 (by omega) _ _ _ _⟩
  | false =>
    go_enter Tryd.func28, Tryd.ntmps28
    go_wp2
    refine bodyPost_ret (v := .agg #[.int .i64 t0, .int .i64 t2, .int .i64 0, .bool false]) (by simp [results, Tryd.results28, go_sem]) rfl ?_
    exact ⟨rfl, ((Below.refl _ _).alloc (Nat.le_refl _) _).alloc (by simp) _⟩

end Go.Proofs.YthagomibjlcfmaaDoor
