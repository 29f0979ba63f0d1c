/-
  The arm of one that lays the master.
-/
import Derived.Test.YthmhigjdjclckaaBase10C
namespace Go.Proofs.Ythmhigjdjclckaa
open Go.RowKit
set_option linter.unusedVariables false
set_option linter.unusedSimpArgs false

section
variable {W : World} {p q : Nat} {S D : Nat → Prop} {l : LG} {d : DG} {rs : List ByteArray} {sure kept mark j : Nat} {ta : Option Addr}

theorem OneS.disk {W X Y : World} {p q : Nat} {S D S1 D1 D2 : Nat → Prop} {l : LG} {d d' : DG} {rs ts : List ByteArray} {sure kept mark mark' j : Nat} {ta : Option Addr} {m4 : Array Value} {a : AcV} (h : OneS W X p q S D S1 D1 l d rs ts sure kept mark j ta m4 a) (hw : WpL Y p q S1 D2 l d' rs sure kept mark' (j + 1)) (hm : Moves D1 D2 X Y) :
    OneS W Y p q S D S1 D2 l d' rs ts sure kept mark' (j + 1) ta m4 a := by
  refine ⟨hw, ?_, fun hne x hx => ⟨(h.off hne x hx).1, fun y => ?_⟩, h.far, h.inn.moves hm.right⟩
  · by_cases e : ts = []
    · subst e; exact .inl rfl
    · exact h.tx.same (fun x hx hl => hm.1.block _ hl (h.off e x hx).2) hm.1.size
  · rcases hm.2 _ y with z | z
    · exact (h.off hne x hx).2 z
    · rcases h.tx with e | ⟨g, o, e', hb, _⟩
      · exact hne e
      · rw [e'] at hx
        obtain rfl := Option.some.inj hx
        simp only at z
        omega

set_option maxHeartbeats 3200000 in
set_option maxRecDepth 8000 in
theorem one_master_no (h : WpL W p q S D l d rs sure kept mark j) (hj : j ≤ 100) (hT : TextsAt W ta rs) (hO : TOff rs ta S D) (tc : Nat) (hc : rs.length ≤ tc) (N : Int) (s : ByteArray) (x : Nat) (f1 : Int) (f2 : Nat) (f3 f4 f5 : Int) (hx : ∀ i, i < sure → placeOf rs i ≠ x) :
    Calls Try.prog 8 #[.pointer (some ⟨p, 0, none⟩), .pointer (some ⟨q, 0, none⟩), .agg #[.slice ta rs.length tc, .int .i64 sure, .int .i64 kept, .int .u64 mark], .agg #[.int .i64 5, .int .i64 N, .string s, .int .u64 x, .int .i64 f1, .int .u64 f2, .int .i64 f3, .int .i64 f4, .int .i64 f5]] W fun e w' => OneOut W p S D j e w' := by
  obtain ⟨X, HX⟩ : ∃ X, Hid (X = ((W.alloc (.cells (mCells ta rs.length tc sure kept mark) 34)).alloc (.cells (AcV.cells ⟨5, N, s, x, f1, f2, f3, f4, f5⟩) 40)).alloc (.cells zero4 34)) := ⟨_, rfl⟩
  have HS : Hid (OneS W X p q S D S D l d rs rs sure kept mark j ta (mCells ta rs.length tc sure kept mark) ⟨5, N, s, x, f1, f2, f3, f4, f5⟩) := by rw [HX.out]; exact OneS.start h hT hO _ _
  unfold mCells AcV.cells zero4 at HX
  simp only at HX
  have hfit := h.fits
  have hkk := h.keeps
  have hcn := h.cnt
  have hlg := h.long
  have HC := hid (setMaster_no HS.out.wp hj x hx)
  have HSZ := hid h.sized
  have HMF : Hid (∀ w, TextsAt w ta rs → Calls Try.prog 32 #[.agg #[.slice ta rs.length tc, .int .i64 sure, .int .i64 kept, .int .u64 mark], .int .u64 x] w fun e w' => (∃ v, e = .returned (.int .i64 v) ∧ Begins rs x v) ∧ Below w.heap.size w w') := fun w ht => mfind_any w ta tc rs sure kept mark x ht HSZ.out (by omega)
  have HBG : Hid (∀ v, Begins rs x v → v < 0 ∨ (sure : Int) ≤ v) := fun v hv => by rcases hv with ⟨rfl, _⟩ | ⟨i, rfl, _, hi⟩; exact .inl (by omega); exact .inr (by have : sure ≤ i := Classical.byContradiction (fun y => hx i (by omega) hi); omega)
  clear hx
  clear h hT hO
  have a0 : X.cell? ⟨W.heap.size + 1, 0, none⟩ = some (.int .i64 5) := HS.out.inn.b1.cell 0
  have a1 : X.cell? ⟨W.heap.size + 1, 1, none⟩ = some (.int .i64 N) := HS.out.inn.b1.cell 1
  have a2 : X.cell? ⟨W.heap.size + 1, 2, none⟩ = some (.string s) := HS.out.inn.b1.cell 2
  have a3 : X.cell? ⟨W.heap.size + 1, 3, none⟩ = some (.int .u64 x) := HS.out.inn.b1.cell 3
  go_enter Try.func8, Try.ntmps8
  go_upto_region 1 with fail
  rw [← HX.out]
  clear HX
  go_wp2_with fail
  refine HC.out.mono ?_
  rintro e w1 ⟨rfl, b1⟩
  have HS1 := hid (HS.out.next.below b1)
  clear HC HS b1 a0 a1 a2 a3
  obtain ⟨v0, v1, v2, v3⟩ := mcells HS1.out.inn.b0
  have a3 : w1.cell? ⟨W.heap.size + 1, 3, none⟩ = some (.int .u64 x) := HS1.out.inn.b1.cell 3
  have HMF1 := hid (HMF.out w1 HS1.out.tx)
  go_wp2_with fail
  refine HMF1.out.mono ?_
  rintro e w2 ⟨⟨v, rfl, hv⟩, b2⟩
  have HS2 := hid (HS1.out.below b2)
  have hv2 := HBG.out v hv
  clear hv HMF HMF1 HS1 b2 v0 v1 v2 v3 a3 HBG
  obtain ⟨v0, v1, v2, v3⟩ := mcells HS2.out.inn.b0
  by_cases hneg : v < 0
  · have kn : decide (v < 0) = true := by simp; omega
    go_upto_region 36 with fail
    obtain ⟨v0, v1, v2, v3⟩ := mcells HS2.out.inn.b0
    obtain ⟨z0, z1, z2, z3, y0, y1, y2, y3⟩ := zcells HS2.out.inn.b2
    go_region
    go_wp2_with fail
    refine bodyPost_ret (v := .tuple #[.pointer (some ⟨q, 0, none⟩), .agg #[.slice ta rs.length tc, .int .i64 sure, .int .i64 kept, .int .u64 mark], .bool true]) (by simp [results, Try.results8, go_sem, z0, z1, z2, z3]) rfl ?_
    exact HS2.out.done (((((Only3.refl _ _).set _ ⟨by omega, by omega⟩).set _ ⟨by omega, by omega⟩).set _ ⟨by omega, by omega⟩).set _ ⟨by omega, by omega⟩).drew tc hc
  · have kn : decide (v < 0) = false := by simp; omega
    have kg : decide ((sure : Int) ≤ v) = true := by simp; omega
    go_upto_region 36 with fail
    obtain ⟨v0, v1, v2, v3⟩ := mcells HS2.out.inn.b0
    obtain ⟨z0, z1, z2, z3, y0, y1, y2, y3⟩ := zcells HS2.out.inn.b2
    go_region
    go_wp2_with fail
    refine bodyPost_ret (v := .tuple #[.pointer (some ⟨q, 0, none⟩), .agg #[.slice ta rs.length tc, .int .i64 sure, .int .i64 kept, .int .u64 mark], .bool true]) (by simp [results, Try.results8, go_sem, z0, z1, z2, z3]) rfl ?_
    exact HS2.out.done (((((Only3.refl _ _).set _ ⟨by omega, by omega⟩).set _ ⟨by omega, by omega⟩).set _ ⟨by omega, by omega⟩).set _ ⟨by omega, by omega⟩).drew tc hc

set_option maxHeartbeats 3200000 in
set_option maxRecDepth 8000 in
theorem one_master_ok (h : WpL W p q S D l d rs sure kept mark j) (hj : j ≤ 100) (hT : TextsAt W ta rs) (hO : TOff rs ta S D) (tc : Nat) (hc : rs.length ≤ tc) (N : Int) (s : ByteArray) (x : Nat) (f1 : Int) (f2 : Nat) (f3 f4 f5 : Int) (i : Nat) (hi : i < sure) (hx : placeOf rs i = x) (hx64 : x < 18446744073709551616) :
    Calls Try.prog 8 #[.pointer (some ⟨p, 0, none⟩), .pointer (some ⟨q, 0, none⟩), .agg #[.slice ta rs.length tc, .int .i64 sure, .int .i64 kept, .int .u64 mark], .agg #[.int .i64 5, .int .i64 N, .string s, .int .u64 x, .int .i64 f1, .int .u64 f2, .int .i64 f3, .int .i64 f4, .int .i64 f5]] W fun e w' => OneOut W p S D j e w' := by
  obtain ⟨X, HX⟩ : ∃ X, Hid (X = ((W.alloc (.cells (mCells ta rs.length tc sure kept mark) 34)).alloc (.cells (AcV.cells ⟨5, N, s, x, f1, f2, f3, f4, f5⟩) 40)).alloc (.cells zero4 34)) := ⟨_, rfl⟩
  have HS : Hid (OneS W X p q S D S D l d rs rs sure kept mark j ta (mCells ta rs.length tc sure kept mark) ⟨5, N, s, x, f1, f2, f3, f4, f5⟩) := by rw [HX.out]; exact OneS.start h hT hO _ _
  unfold mCells AcV.cells zero4 at HX
  simp only at HX
  have hfit := h.fits
  have hkk := h.keeps
  have hcn := h.cnt
  have hlg := h.long
  have HC := hid (setMaster_ok HS.out.wp hj i x hi hx hx64)
  have HSZ := hid h.sized
  have HMF : Hid (∀ w, TextsAt w ta rs → Calls Try.prog 32 #[.agg #[.slice ta rs.length tc, .int .i64 sure, .int .i64 kept, .int .u64 mark], .int .u64 x] w fun e w' => (∃ v, e = .returned (.int .i64 v) ∧ Begins rs x v) ∧ Below w.heap.size w w') := fun w ht => mfind_any w ta tc rs sure kept mark x ht HSZ.out (by omega)
  have hsu := h.su
  have HBG : Hid (∀ v, Begins rs x v → v = (i : Int)) := fun v hv => by
    rcases hv with ⟨rfl, h0⟩ | ⟨k, rfl, hk, hkx⟩
    · exact absurd hx (h0 i (by omega))
    · have : k = i := by
        rcases Nat.lt_trichotomy k i with y | y | y
        · have := placeOf_mono rs (show k + 1 ≤ i by omega); have := (h.recs.le hk).1; omega
        · exact y
        · have := placeOf_mono rs (show i + 1 ≤ k by omega); have := (h.recs.le (show i < rs.length by omega)).1; omega
      rw [this]
  clear hx
  clear h hT hO
  have a0 : X.cell? ⟨W.heap.size + 1, 0, none⟩ = some (.int .i64 5) := HS.out.inn.b1.cell 0
  have a1 : X.cell? ⟨W.heap.size + 1, 1, none⟩ = some (.int .i64 N) := HS.out.inn.b1.cell 1
  have a2 : X.cell? ⟨W.heap.size + 1, 2, none⟩ = some (.string s) := HS.out.inn.b1.cell 2
  have a3 : X.cell? ⟨W.heap.size + 1, 3, none⟩ = some (.int .u64 x) := HS.out.inn.b1.cell 3
  go_enter Try.func8, Try.ntmps8
  go_upto_region 1 with fail
  rw [← HX.out]
  clear HX
  go_wp2_with fail
  refine HC.out.mono ?_
  rintro e w1 ⟨rfl, D2, d2, hw1, hm1⟩
  have HS1 := hid (HS.out.disk hw1 hm1)
  clear HC HS hw1 hm1 a0 a1 a2 a3
  obtain ⟨v0, v1, v2, v3⟩ := mcells HS1.out.inn.b0
  have a3 : w1.cell? ⟨W.heap.size + 1, 3, none⟩ = some (.int .u64 x) := HS1.out.inn.b1.cell 3
  have HMF1 := hid (HMF.out w1 HS1.out.tx)
  go_wp2_with fail
  refine HMF1.out.mono ?_
  rintro e w2 ⟨⟨v, rfl, hv⟩, b2⟩
  have HS2 := hid (HS1.out.below b2)
  have hv2 := HBG.out v hv
  clear hv HMF HMF1 HS1 b2 v0 v1 v2 v3 a3 HBG
  obtain ⟨v0, v1, v2, v3⟩ := mcells HS2.out.inn.b0
  have a3 : w2.cell? ⟨W.heap.size + 1, 3, none⟩ = some (.int .u64 x) := HS2.out.inn.b1.cell 3
  have g3 := HS2.out.inn.b0.frozen 3
  have kn : decide (v < 0) = false := by simp; omega
  have kg : decide ((sure : Int) ≤ v) = false := by simp; omega
  clear hv2
  have HS4 : Hid (OneS W (w2.setCell ⟨W.heap.size, 3, none⟩ (.int .u64 (x : Int))) p q S D S D2 l d2 rs rs sure kept x (j + 1) ta (mCells ta rs.length tc sure kept x) ⟨5, N, s, x, f1, f2, f3, f4, f5⟩) := HS2.out.setm 3 (.int .u64 (x : Int))
  obtain ⟨V, HV⟩ : ∃ V, Hid (V = w2.setCell ⟨W.heap.size, 3, none⟩ (.int .u64 (x : Int))) := ⟨_, rfl⟩
  rw [← HV.out] at HS4
  clear HS2
  go_upto_region 38 with fail
  rw [← HV.out]
  clear HV
  obtain ⟨v0, v1, v2, v3⟩ := mcells HS4.out.inn.b0
  obtain ⟨z0, z1, z2, z3, y0, y1, y2, y3⟩ := zcells HS4.out.inn.b2
  go_region
  go_wp2_with fail
  refine bodyPost_ret (v := .tuple #[.pointer (some ⟨q, 0, none⟩), .agg #[.slice ta rs.length tc, .int .i64 sure, .int .i64 kept, .int .u64 x], .bool true]) (by simp [results, Try.results8, go_sem, z0, z1, z2, z3]) rfl ?_
  exact HS4.out.done (((((Only3.refl _ _).set _ ⟨by omega, by omega⟩).set _ ⟨by omega, by omega⟩).set _ ⟨by omega, by omega⟩).set _ ⟨by omega, by omega⟩).drew tc hc

end

end Go.Proofs.Ythmhigjdjclckaa
