/-
  The power fails, and the log is opened anew.
-/
import Derived.Test.YthmhigjdjclckaaWalPFC
namespace Go.Proofs.Ythmhigjdjclckaa
open Go.RowKit
set_option linter.unusedVariables false
set_option linter.unusedSimpArgs false

section
variable {W : World} {p q : Nat} {S D : Nat → Prop} {l : LG} {d : DG} {rs : List ByteArray} {sure kept mark j : Nat} {ta : Option Addr}

theorem WpL.again {Y : World} {D2 : Nat → Prop} (h : WpL W p q S D l d rs sure kept mark j) (hl : IsLog Y q S l) (hd : IsDisk Y p D2 { d with dead := false, fresh := fun _ => none, nF := 0 }) (ho : ∀ k, S k → ¬ D2 k) : WpL Y p q S D2 l { d with dead := false, fresh := fun _ => none, nF := 0 } rs sure kept mark j :=
  ⟨hl, hd, h.dp, ho, h.bytes, h.recs, h.half, h.keeps, h.fits, h.sz, h.cnt, h.su, h.fl, h.dlog, rfl, h.plan, h.calls, ⟨h.ok.loose, h.ok.sure, h.ok.n, h.ok.log, h.ok.sl⟩, h.loose, h.sl, h.nS, h.mrk, h.sm, h.mkp, h.mz⟩

set_option maxHeartbeats 3200000 in
set_option maxRecDepth 8000 in
theorem one_crash (h : WpL W p q S D l d rs sure kept mark j) (hj : j ≤ 100) (hT : TextsAt W ta rs) (hO : TOff rs ta S D) (tc : Nat) (hc : rs.length ≤ tc) (N : Int) (s : ByteArray) (x : Nat) (f1 : Int) (f2 : Nat) (f3 f4 f5 : Int) (kd : Int) (hk0 : kd ≠ 0) (hk1 : kd ≠ 1) (hk2 : kd ≠ 2) (hk3 : kd ≠ 3) (hk4 : kd ≠ 4) (hk5 : kd ≠ 5) (hk6 : kd ≠ 6) (hf2 : f2 < 18446744073709551616) :
    Calls Try.prog 8 #[.pointer (some ⟨p, 0, none⟩), .pointer (some ⟨q, 0, none⟩), .agg #[.slice ta rs.length tc, .int .i64 sure, .int .i64 kept, .int .u64 mark], .agg #[.int .i64 kd, .int .i64 N, .string s, .int .u64 x, .int .i64 f1, .int .u64 f2, .int .i64 f3, .int .i64 f4, .int .i64 f5]] W fun e w' => OneOut W p S D j e w' := by
  obtain ⟨X, HX⟩ : ∃ X, Hid (X = ((W.alloc (.cells (mCells ta rs.length tc sure kept mark) 34)).alloc (.cells (AcV.cells ⟨kd, N, s, x, f1, f2, f3, f4, f5⟩) 40)).alloc (.cells zero4 34)) := ⟨_, rfl⟩
  have HS : Hid (OneS W X p q S D S D l d rs rs sure kept mark j ta (mCells ta rs.length tc sure kept mark) ⟨kd, N, s, x, f1, f2, f3, f4, f5⟩) := by rw [HX.out]; exact OneS.start h hT hO _ _
  unfold mCells AcV.cells zero4 at HX
  simp only at HX
  have hfit := h.fits
  have hkk := h.keeps
  have hcn := h.cnt
  have hlg := h.long
  have hsu := h.su
  have s0 : (0 : Int) ≤ sure := by omega
  have s1 : (sure : Int) ≤ tc := by omega
  have e0 : (kd == 0) = false := by rw [beq_eq_false_iff_ne]; exact hk0
  have e1 : (kd == 1) = false := by rw [beq_eq_false_iff_ne]; exact hk1
  have e2 : (kd == 2) = false := by rw [beq_eq_false_iff_ne]; exact hk2
  have e3 : (kd == 3) = false := by rw [beq_eq_false_iff_ne]; exact hk3
  have e4 : (kd == 4) = false := by rw [beq_eq_false_iff_ne]; exact hk4
  have e5 : (kd == 5) = false := by rw [beq_eq_false_iff_ne]; exact hk5
  have e6 : (kd == 6) = false := by rw [beq_eq_false_iff_ne]; exact hk6
  clear hk0 hk1 hk2 hk3 hk4 hk5 hk6
  have HFS := hid (fail_sure (d := d) ⟨f1, f2, f3, f4, f5⟩ h.loose h.sl (by rw [h.mrk, h.sm]))
  have HCR := hid (crash_out HS.out.wp.disk h.dead h.ok ⟨f1, f2, f3, f4, f5⟩ hf2)
  unfold fcells at HCR
  simp only at HCR
  clear h hT hO
  have a0 : X.cell? ⟨W.heap.size + 1, 0, none⟩ = some (.int .i64 kd) := HS.out.inn.b1.cell 0
  have a1 : X.cell? ⟨W.heap.size + 1, 1, none⟩ = some (.int .i64 N) := HS.out.inn.b1.cell 1
  have a2 : X.cell? ⟨W.heap.size + 1, 2, none⟩ = some (.string s) := HS.out.inn.b1.cell 2
  have a3 : X.cell? ⟨W.heap.size + 1, 3, none⟩ = some (.int .u64 x) := HS.out.inn.b1.cell 3
  go_enter Try.func8, Try.ntmps8
  go_upto_region 1 with fail
  rw [← HX.out]
  clear HX
  have a4 : X.cell? ⟨W.heap.size + 1, 4, none⟩ = some (.int .i64 f1) := HS.out.inn.b1.cell 4
  have a5 : X.cell? ⟨W.heap.size + 1, 5, none⟩ = some (.int .u64 f2) := HS.out.inn.b1.cell 5
  have a6 : X.cell? ⟨W.heap.size + 1, 6, none⟩ = some (.int .i64 f3) := HS.out.inn.b1.cell 6
  have a7 : X.cell? ⟨W.heap.size + 1, 7, none⟩ = some (.int .i64 f4) := HS.out.inn.b1.cell 7
  have a8 : X.cell? ⟨W.heap.size + 1, 8, none⟩ = some (.int .i64 f5) := HS.out.inn.b1.cell 8
  go_wp2_with fail
  refine HCR.out.mono ?_
  rintro e w1 ⟨rfl, D1, hd1, hm1⟩
  rw [HFS.out] at hd1
  have hb1 := HS.out.wp.log.beside hm1 HS.out.wp.off
  have HU := hid (up_out hd1)
  have H1 : Hid (IsLog w1 q S l ∧ (∀ k, S k → ¬ D1 k) ∧ Moves D D1 X w1) := ⟨hb1.1, hb1.2, hm1⟩
  clear hb1 hd1 hm1 HCR HFS a0 a1 a2 a3 a4 a5 a6 a7 a8
  go_wp2_with fail
  refine HU.out.mono ?_
  rintro e w2 ⟨rfl, D2, hd2, hm2⟩
  have hb2 := H1.out.1.beside hm2 H1.out.2.1
  obtain ⟨d2, HD2⟩ : ∃ d2, Hid (d2 = ({ d with dead := false, fresh := fun _ => none, nF := 0 } : DG)) := ⟨_, rfl⟩
  have hw2 : WpL w2 p q S D2 l d2 rs sure kept mark j := by rw [HD2.out]; exact HS.out.wp.again hb2.1 hd2 hb2.2
  have HS2 := hid (HS.out.disk (hw2.later (Nat.le_succ j)) (H1.out.2.2.trans hm2))
  clear hw2 hb2 hd2 hm2 HU H1 HS HD2
  have HOP := hid (wp_open HS2.out.wp (by omega))
  go_wp2_with fail
  refine HOP.out.mono ?_
  rintro e w5 ⟨q', rfl, S2, hw5, hn5, b5⟩
  have HS5 := hid (HS2.out.opened hw5 hn5 b5)
  clear HOP HS2 hw5 hn5 b5
  obtain ⟨v0, v1, v2, v3⟩ := mcells HS5.out.inn.b0
  have g0 := HS5.out.inn.b0.frozen 0
  have g2 := HS5.out.inn.b0.frozen 2
  obtain ⟨V, HV⟩ : ∃ V, Hid (V = (w5.setCell ⟨W.heap.size, 0, none⟩ (.slice ta sure sure)).setCell ⟨W.heap.size, 2, none⟩ (.int .i64 0)) := ⟨_, rfl⟩
  have HS6 : Hid (OneS W V p q' S D S2 D2 (openL p d2) d2 (rs.take sure) (rs.take sure) sure 0 mark (j + 1) ta (mCells ta sure sure sure 0 mark) ⟨kd, N, s, x, f1, f2, f3, f4, f5⟩) := by rw [HV.out]; exact ((HS5.out.setm 0 _).setm 2 _)
  go_upto_region 47 with fail
  rw [← HV.out]
  clear HV HS5 v0 v1 v2 v3 g0 g2
  obtain ⟨v0, v1, v2, v3⟩ := mcells HS6.out.inn.b0
  obtain ⟨z0, z1, z2, z3, y0, y1, y2, y3⟩ := zcells HS6.out.inn.b2
  go_region
  go_wp2_with fail
  refine bodyPost_ret (v := .tuple #[.pointer (some ⟨q', 0, none⟩), .agg #[.slice ta sure sure, .int .i64 sure, .int .i64 (0 : Nat), .int .u64 mark], .bool true]) (by simp [results, Try.results8, go_sem, z0, z1, z2, z3]) rfl ?_
  have hlen : (rs.take sure).length = sure := by rw [List.length_take]; omega
  have hdn : ∀ Y, Only3 W.heap.size V Y → OneOut W p S D j (.returned (.tuple #[.pointer (some ⟨q', 0, none⟩), .agg #[.slice ta (rs.take sure).length sure, .int .i64 sure, .int .i64 (0 : Nat), .int .u64 mark], .bool true])) Y := fun Y o => HS6.out.done o sure (by rw [hlen]; exact Nat.le_refl _)
  rw [hlen] at hdn
  exact hdn _ (((((Only3.refl _ _).set _ ⟨by omega, by omega⟩).set _ ⟨by omega, by omega⟩).set _ ⟨by omega, by omega⟩).set _ ⟨by omega, by omega⟩).drew

end

end Go.Proofs.Ythmhigjdjclckaa
