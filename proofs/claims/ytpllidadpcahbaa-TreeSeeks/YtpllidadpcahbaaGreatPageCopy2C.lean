/-
  The walk of page.copyOfOp.
-/
import Derived.Test.YtpllidadpcahbaaGreatPageCopyC
import Derived.Deep.RegionWith
namespace Go.Proofs.YtpllidadpcahbaaGreat
open Go.RowKit Go.Sort
set_option linter.unusedVariables false

/-- Four values, by their places. -/
def four (v0 v1 v2 v3 : Value) : Nat → Value
  | 0 => v0
  | 1 => v1
  | 2 => v2
  | _ => v3

theorem RowV.four_new (w : World) (v0 v1 v2 v3 : Value) (T : TypeId) : RowV (w.alloc (.cells #[v0, v1, v2, v3] T)) w.heap.size 4 (four v0 v1 v2 v3) := by
  intro j hj
  match j, hj with
  | 0, _ => exact ⟨by simp [four], by simp⟩
  | 1, _ => exact ⟨by simp [four], by simp⟩
  | 2, _ => exact ⟨by simp [four], by simp⟩
  | 3, _ => exact ⟨by simp [four], by simp⟩

theorem RowV.cells4 {w : World} {b : Nat} {v0 v1 v2 v3 : Value} (h : RowV w b 4 (four v0 v1 v2 v3)) :
    w.cell? ⟨b, 0, none⟩ = some v0 ∧ w.cell? ⟨b, 1, none⟩ = some v1 ∧ w.cell? ⟨b, 2, none⟩ = some v2 ∧ w.cell? ⟨b, 3, none⟩ = some v3 :=
  ⟨(h 0 (by omega)).1, (h 1 (by omega)).1, (h 2 (by omega)).1, (h 3 (by omega)).1⟩
theorem RowV.open4 {w : World} {b : Nat} {v0 v1 v2 v3 : Value} (h : RowV w b 4 (four v0 v1 v2 v3)) :
    w.frozen? ⟨b, 0, none⟩ = false ∧ w.frozen? ⟨b, 1, none⟩ = false ∧ w.frozen? ⟨b, 2, none⟩ = false ∧ w.frozen? ⟨b, 3, none⟩ = false :=
  ⟨(h 0 (by omega)).2, (h 1 (by omega)).2, (h 2 (by omega)).2, (h 3 (by omega)).2⟩
theorem RowV.set2_4 {w : World} {b : Nat} {v0 v1 v2 v3 : Value} (h : RowV w b 4 (four v0 v1 v2 v3)) (v : Value) : RowV (w.setCell ⟨b, 2, none⟩ v) b 4 (four v0 v1 v v3) :=
  (h.set (k := 2) (by omega) v).congr fun j hj => by match j, hj with | 0, _ => rfl | 1, _ => rfl | 2, _ => rfl | 3, _ => rfl
theorem RowV.set3_4 {w : World} {b : Nat} {v0 v1 v2 v3 : Value} (h : RowV w b 4 (four v0 v1 v2 v3)) (v : Value) : RowV (w.setCell ⟨b, 3, none⟩ v) b 4 (four v0 v1 v2 v) :=
  (h.set (k := 3) (by omega) v).congr fun j hj => by match j, hj with | 0, _ => rfl | 1, _ => rfl | 2, _ => rfl | 3, _ => rfl
theorem RowV.set0_4 {w : World} {b : Nat} {v0 v1 v2 v3 : Value} (h : RowV w b 4 (four v0 v1 v2 v3)) (v : Value) : RowV (w.setCell ⟨b, 0, none⟩ v) b 4 (four v v1 v2 v3) :=
  (h.set (k := 0) (by omega) v).congr fun j hj => by match j, hj with | 0, _ => rfl | 1, _ => rfl | 2, _ => rfl | 3, _ => rfl
theorem RowV.set1_4 {w : World} {b : Nat} {v0 v1 v2 v3 : Value} (h : RowV w b 4 (four v0 v1 v2 v3)) (v : Value) : RowV (w.setCell ⟨b, 1, none⟩ v) b 4 (four v0 v v2 v3) :=
  (h.set (k := 1) (by omega) v).congr fun j hj => by match j, hj with | 0, _ => rfl | 1, _ => rfl | 2, _ => rfl | 3, _ => rfl

/-- Where copyOfOp stands: its own copy, its result. -/
structure CopyAt (w wx : World) (K A : Int) (S T : ByteArray) : Prop where
  own : RowV wx w.heap.size 4 (four (.int .i64 K) (.int .i64 A) (.string S) (.string T))
  res : RowV wx (w.heap.size + 1) 4 (four (.int .i64 0) (.int .i64 0) (.string ⟨#[]⟩) (.string ⟨#[]⟩))
  bel : Below w.heap.size w wx
  lt : w.heap.size + 2 ≤ wx.heap.size

theorem CopyAt.below {w wx wy : World} {K A : Int} {S T : ByteArray} (h : CopyAt w wx K A S T) (k : Below wx.heap.size wx wy) : CopyAt w wy K A S T :=
  ⟨h.own.below k (by have := h.lt; omega), h.res.below k (by have := h.lt; omega), below_chain h.bel k, Nat.le_trans h.lt k.size⟩

theorem CopyAt.set2 {w wx : World} {K A : Int} {S T : ByteArray} (h : CopyAt w wx K A S T) : CopyAt w (wx.setCell ⟨w.heap.size, 2, none⟩ (.string S)) K A S T :=
  ⟨h.own.set2_4 _, h.res.set_other (by omega) _, h.bel.setCell (p := ⟨w.heap.size, 2, none⟩) (Nat.le_refl _) _, by simpa using h.lt⟩
theorem CopyAt.set3 {w wx : World} {K A : Int} {S T : ByteArray} (h : CopyAt w wx K A S T) : CopyAt w (wx.setCell ⟨w.heap.size, 3, none⟩ (.string T)) K A S T :=
  ⟨h.own.set3_4 _, h.res.set_other (by omega) _, h.bel.setCell (p := ⟨w.heap.size, 3, none⟩) (Nat.le_refl _) _, by simpa using h.lt⟩

set_option maxHeartbeats 1600000 in
set_option maxRecDepth 60000 in
theorem copyOfOp_any (o : OpV) (w : World) (h : o.Ok) :
    Calls Tryz.prog 43 #[o.val] w fun e w' => e = .returned o.val ∧ Below w.heap.size w w' := by
  have hS := h.S
  have hT := h.old
  clear h
  obtain ⟨K, A, S, T⟩ := o
  simp only [OpV.val] at *
  have HC : Hid (∀ wx s, s.size ≤ 140737488351232 → CopyAt w wx K A S T → Calls Tryz.prog 74 #[.string s] wx fun e w' => e = .returned (.string s) ∧ CopyAt w w' K A S T) :=
    fun wx s hs hp => (clone_any s wx (by omega)).mono fun e w' h => ⟨h.1, hp.below h.2⟩
  go_enter Tryz.func43, Tryz.ntmps43
  go_wp2_with fail
  obtain ⟨W, HW⟩ : ∃ W, Hid (W = (w.alloc (.cells #[.int .i64 K, .int .i64 A, .string S, .string T] 68)).alloc (.cells #[.int .i64 0, .int .i64 0, .string ⟨#[]⟩, .string ⟨#[]⟩] 68)) := ⟨_, rfl⟩
  have hp : CopyAt w W K A S T := by
    rw [HW.out]
    refine ⟨(RowV.four_new w _ _ _ _ _).below ((Below.refl _ _).alloc (Nat.le_refl _) _) (by simp), ?_, ((Below.refl _ _).alloc (Nat.le_refl _) _).alloc (by simp) _, by simp⟩
    have := RowV.four_new (w.alloc (.cells #[.int .i64 K, .int .i64 A, .string S, .string T] 68)) (.int .i64 0) (.int .i64 0) (.string ⟨#[]⟩) (.string ⟨#[]⟩) 68
    simpa using this
  rw [← HW.out]
  clear HW
  have hpd : CopyAt w W.drew K A S T := hp.below ((Below.refl _ _).drew)
  obtain ⟨c0, c1, c2, c3⟩ := hp.own.cells4
  clear hp
  go_region_with (first | (go_at_call 74; refine (HC.out _ _ (by omega) (by first | exact hpd | assumption)).mono ?_; rintro e w1 ⟨rfl, hp1⟩; obtain ⟨e0, e1, e2, e3⟩ := hp1.own.cells4; obtain ⟨f0, f1, f2, f3⟩ := hp1.own.open4))
  all_goals
    have hq := hp1.set2.set3
    obtain ⟨W2, HW2⟩ : ∃ W2, Hid (W2 = (w1.setCell ⟨w.heap.size, 2, none⟩ (.string S)).setCell ⟨w.heap.size, 3, none⟩ (.string T)) := ⟨_, rfl⟩
    rw [← HW2.out] at hq ⊢
    clear HW2 hp1 e0 e1 e2 e3 f0 f1 f2 f3 c0 c1 c2 c3 hpd
    obtain ⟨x0, x1, x2, x3⟩ := hq.own.cells4
    obtain ⟨y0, y1, y2, y3⟩ := hq.res.cells4
    obtain ⟨g0, g1, g2, g3⟩ := hq.res.open4
    go_wp2
    have hr := (((hq.res.set0_4 (.int .i64 K)).set1_4 (.int .i64 A)).set2_4 (.string S)).set3_4 (.string T)
    have br := (((hq.bel.setCell (p := ⟨w.heap.size + 1, 0, none⟩) (by show w.heap.size ≤ w.heap.size + 1; omega) (.int .i64 K)).setCell (p := ⟨w.heap.size + 1, 1, none⟩) (by show w.heap.size ≤ w.heap.size + 1; omega) (.int .i64 A)).setCell (p := ⟨w.heap.size + 1, 2, none⟩) (by show w.heap.size ≤ w.heap.size + 1; omega) (.string S)).setCell (p := ⟨w.heap.size + 1, 3, none⟩) (by show w.heap.size ≤ w.heap.size + 1; omega) (.string T)
    obtain ⟨WX, HWX⟩ : ∃ WX, Hid (WX = ((((W2.setCell ⟨w.heap.size + 1, 0, none⟩ (.int .i64 K)).setCell ⟨w.heap.size + 1, 1, none⟩ (.int .i64 A)).setCell ⟨w.heap.size + 1, 2, none⟩ (.string S)).setCell ⟨w.heap.size + 1, 3, none⟩ (.string T))) := ⟨_, rfl⟩
    rw [← HWX.out] at hr br ⊢
    obtain ⟨r0, r1, r2, r3⟩ := hr.cells4
    refine bodyPost_ret (v := .agg #[.int .i64 K, .int .i64 A, .string S, .string T]) (by simp [results, Tryz.results43, go_sem, r0, r1, r2, r3]) rfl ?_
    exact ⟨rfl, br⟩

end Go.Proofs.YtpllidadpcahbaaGreat
