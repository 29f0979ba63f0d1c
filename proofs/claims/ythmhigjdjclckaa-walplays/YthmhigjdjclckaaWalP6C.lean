/-
  The arm of one that keeps room.
-/
import Derived.Test.YthmhigjdjclckaaWalP5C
import Derived.Deep.RegionHeld3
namespace Go.Proofs.Ythmhigjdjclckaa
open Go.RowKit
set_option linter.unusedVariables false
set_option linter.unusedSimpArgs false

section
variable {W : World} {p q : Nat} {S D : Nat → Prop} {l : LG} {d : DG} {rs : List ByteArray} {sure kept mark j : Nat} {ta : Option Addr}

theorem OneS.next {W X : World} {p q : Nat} {S D S1 D1 : Nat → Prop} {l : LG} {d : DG} {rs ts : List ByteArray} {sure kept mark j : Nat} {ta : Option Addr} {m4 : Array Value} {a : AcV} (h : OneS W X p q S D S1 D1 l d rs ts sure kept mark j ta m4 a) : OneS W X p q S D S1 D1 l d rs ts sure kept mark (j + 1) ta m4 a :=
  ⟨h.wp.later (by omega), h.tx, h.off, h.far, h.inn⟩

set_option maxHeartbeats 3200000 in
set_option maxRecDepth 8000 in
theorem one_keep_arg (h : WpL W p q S D l d rs sure kept mark j) (hj : j ≤ 100) (hT : TextsAt W ta rs) (hO : TOff rs ta S D) (tc : Nat) (hc : rs.length ≤ tc) (N : Int) (s : ByteArray) (x : Nat) (f1 : Int) (f2 : Nat) (f3 f4 f5 : Int) (hN : N < 0) :
    Calls Try.prog 8 #[.pointer (some ⟨p, 0, none⟩), .pointer (some ⟨q, 0, none⟩), .agg #[.slice ta rs.length tc, .int .i64 sure, .int .i64 kept, .int .u64 mark], .agg #[.int .i64 2, .int .i64 N, .string s, .int .u64 x, .int .i64 f1, .int .u64 f2, .int .i64 f3, .int .i64 f4, .int .i64 f5]] W fun e w' => OneOut W p S D j e w' := by
  obtain ⟨X, HX⟩ : ∃ X, Hid (X = ((W.alloc (.cells (mCells ta rs.length tc sure kept mark) 34)).alloc (.cells (AcV.cells ⟨2, N, s, x, f1, f2, f3, f4, f5⟩) 40)).alloc (.cells zero4 34)) := ⟨_, rfl⟩
  have HS : Hid (OneS W X p q S D S D l d rs rs sure kept mark j ta (mCells ta rs.length tc sure kept mark) ⟨2, N, s, x, f1, f2, f3, f4, f5⟩) := by rw [HX.out]; exact OneS.start h hT hO _ _
  unfold mCells AcV.cells zero4 at HX
  simp only at HX
  have hfit := h.fits
  have hkk := h.keeps
  have hcn := h.cnt
  have hlg := h.long
  have HC := hid (keep_arg HS.out.wp.log N hN)
  have k0 : decide (N < 0) = true := by simp; omega
  clear h hT hO
  have a0 : X.cell? ⟨W.heap.size + 1, 0, none⟩ = some (.int .i64 2) := HS.out.inn.b1.cell 0
  have a1 : X.cell? ⟨W.heap.size + 1, 1, none⟩ = some (.int .i64 N) := HS.out.inn.b1.cell 1
  have a2 : X.cell? ⟨W.heap.size + 1, 2, none⟩ = some (.string s) := HS.out.inn.b1.cell 2
  have a3 : X.cell? ⟨W.heap.size + 1, 3, none⟩ = some (.int .u64 x) := HS.out.inn.b1.cell 3
  go_enter Try.func8, Try.ntmps8
  go_upto_region 1 with fail
  rw [← HX.out]
  clear HX
  go_wp2_with fail
  refine HC.out.mono ?_
  rintro e w1 ⟨rfl, hw1⟩
  obtain rfl := hw1.symm
  have HS1 := hid HS.out.next
  clear HC HS
  go_upto_region 22 with fail
  obtain ⟨v0, v1, v2, v3⟩ := mcells HS1.out.inn.b0
  obtain ⟨z0, z1, z2, z3, y0, y1, y2, y3⟩ := zcells HS1.out.inn.b2
  go_region
  go_wp2_with fail
  refine bodyPost_ret (v := .tuple #[.pointer (some ⟨q, 0, none⟩), .agg #[.slice ta rs.length tc, .int .i64 sure, .int .i64 kept, .int .u64 mark], .bool true]) (by simp [results, Try.results8, go_sem, z0, z1, z2, z3]) rfl ?_
  exact HS1.out.done (((((Only3.refl _ _).set _ ⟨by omega, by omega⟩).set _ ⟨by omega, by omega⟩).set _ ⟨by omega, by omega⟩).set _ ⟨by omega, by omega⟩).drew tc hc

set_option maxHeartbeats 3200000 in
set_option maxRecDepth 8000 in
theorem one_keep_much (h : WpL W p q S D l d rs sure kept mark j) (hj : j ≤ 100) (hT : TextsAt W ta rs) (hO : TOff rs ta S D) (tc : Nat) (hc : rs.length ≤ tc) (N : Int) (s : ByteArray) (x : Nat) (f1 : Int) (f2 : Nat) (f3 f4 f5 : Int) (hN : 0 ≤ N) (hM : (4194304 : Int) - l.bytes.length - kept < N) :
    Calls Try.prog 8 #[.pointer (some ⟨p, 0, none⟩), .pointer (some ⟨q, 0, none⟩), .agg #[.slice ta rs.length tc, .int .i64 sure, .int .i64 kept, .int .u64 mark], .agg #[.int .i64 2, .int .i64 N, .string s, .int .u64 x, .int .i64 f1, .int .u64 f2, .int .i64 f3, .int .i64 f4, .int .i64 f5]] W fun e w' => OneOut W p S D j e w' := by
  obtain ⟨X, HX⟩ : ∃ X, Hid (X = ((W.alloc (.cells (mCells ta rs.length tc sure kept mark) 34)).alloc (.cells (AcV.cells ⟨2, N, s, x, f1, f2, f3, f4, f5⟩) 40)).alloc (.cells zero4 34)) := ⟨_, rfl⟩
  have HS : Hid (OneS W X p q S D S D l d rs rs sure kept mark j ta (mCells ta rs.length tc sure kept mark) ⟨2, N, s, x, f1, f2, f3, f4, f5⟩) := by rw [HX.out]; exact OneS.start h hT hO _ _
  unfold mCells AcV.cells zero4 at HX
  simp only at HX
  have hfit := h.fits
  have hkk := h.keeps
  have hcn := h.cnt
  have hlg := h.long
  have HC := hid (keep_much HS.out.wp.log HS.out.wp.blen HS.out.wp.klen N hN (by rw [hkk]; exact hM))
  have hsz := h.sized
  have k0 : decide (N < 0) = false := by simp; omega
  have HRM : Hid (∀ w, TextsAt w ta rs → Calls Try.prog 28 #[.agg #[.slice ta rs.length tc, .int .i64 sure, .int .i64 kept, .int .u64 mark]] w fun e w' => e = .returned (.int .i64 ((4194305 : Int) - (placeOf rs rs.length : Nat))) ∧ Below w.heap.size w w') := fun w ht => mroom_any w ta tc rs sure kept mark ht hsz (by omega)
  have hpp := placeOf_le rs hsz rs.length (Nat.le_refl _)
  have hw : IntKind.i64.wrap ((4194305 : Int) - (placeOf rs rs.length : Nat) - (kept : Int)) = (4194305 : Int) - (placeOf rs rs.length : Nat) - (kept : Int) := by rw [IntKind.wrap_i64]; omega
  clear hsz
  have k1 : decide ((4194305 : Int) - (placeOf rs rs.length : Nat) - (kept : Int) < N) = true := by simp; omega
  clear h hT hO
  have a0 : X.cell? ⟨W.heap.size + 1, 0, none⟩ = some (.int .i64 2) := HS.out.inn.b1.cell 0
  have a1 : X.cell? ⟨W.heap.size + 1, 1, none⟩ = some (.int .i64 N) := HS.out.inn.b1.cell 1
  have a2 : X.cell? ⟨W.heap.size + 1, 2, none⟩ = some (.string s) := HS.out.inn.b1.cell 2
  have a3 : X.cell? ⟨W.heap.size + 1, 3, none⟩ = some (.int .u64 x) := HS.out.inn.b1.cell 3
  go_enter Try.func8, Try.ntmps8
  go_upto_region 1 with fail
  rw [← HX.out]
  clear HX
  go_wp2_with fail
  refine HC.out.mono ?_
  rintro e w1 ⟨rfl, rfl⟩
  have HS1 := hid (HS.out.next.below ((Below.refl _ _).drew))
  generalize X.drew = w1 at *
  clear HC HS a0 a1 a2 a3
  obtain ⟨v0, v1, v2, v3⟩ := mcells HS1.out.inn.b0
  have a1 : w1.cell? ⟨W.heap.size + 1, 1, none⟩ = some (.int .i64 N) := HS1.out.inn.b1.cell 1
  have hsW := HS1.out.inn.lt
  have HRD := hid (HRM.out w1.drew (HS1.out.tx.below ((Below.refl _ _).drew)))
  have HKP : Hid (∀ w2, Below w1.heap.size w1 w2 → ((w2.cell? ⟨W.heap.size, 0, none⟩ = some (.slice ta rs.length tc) ∧ w2.cell? ⟨W.heap.size, 1, none⟩ = some (.int .i64 sure) ∧ w2.cell? ⟨W.heap.size, 2, none⟩ = some (.int .i64 kept) ∧ w2.cell? ⟨W.heap.size, 3, none⟩ = some (.int .u64 mark)) ∧ w2.cell? ⟨W.heap.size + 1, 1, none⟩ = some (.int .i64 N))) := fun w2 b => ⟨mcells (HS1.out.below b).inn.b0, (HS1.out.below b).inn.b1.cell 1⟩
  go_upto_region 19 with fail
  go_region_held3 (fun wy => (wy.cell? ⟨W.heap.size, 0, none⟩ = some (.slice ta rs.length tc) ∧ wy.cell? ⟨W.heap.size, 1, none⟩ = some (.int .i64 sure) ∧ wy.cell? ⟨W.heap.size, 2, none⟩ = some (.int .i64 kept) ∧ wy.cell? ⟨W.heap.size, 3, none⟩ = some (.int .u64 mark)) ∧ wy.cell? ⟨W.heap.size + 1, 1, none⟩ = some (.int .i64 N)) (first | go_keep | exact ⟨⟨v0, v1, v2, v3⟩, a1⟩ | exact sb)
    (first | (go_at_call 28; refine HRD.out.mono ?_; rintro y w3 ⟨rfl, b3⟩; have b3' := below_chain ((Below.refl _ _).drew) b3; have sb := HKP.out w3 b3'))
  have HS3 := hid (HS1.out.below b3')
  clear HRM HRD HKP b3 b3' sb v0 v1 v2 v3 a1 HS1
  go_upto_region 22 with fail
  obtain ⟨v0, v1, v2, v3⟩ := mcells HS3.out.inn.b0
  obtain ⟨z0, z1, z2, z3, y0, y1, y2, y3⟩ := zcells HS3.out.inn.b2
  go_region
  go_wp2_with fail
  refine bodyPost_ret (v := .tuple #[.pointer (some ⟨q, 0, none⟩), .agg #[.slice ta rs.length tc, .int .i64 sure, .int .i64 kept, .int .u64 mark], .bool true]) (by simp [results, Try.results8, go_sem, z0, z1, z2, z3]) rfl ?_
  exact HS3.out.done (((((Only3.refl _ _).set _ ⟨by omega, by omega⟩).set _ ⟨by omega, by omega⟩).set _ ⟨by omega, by omega⟩).set _ ⟨by omega, by omega⟩).drew tc hc

end

end Go.Proofs.Ythmhigjdjclckaa
