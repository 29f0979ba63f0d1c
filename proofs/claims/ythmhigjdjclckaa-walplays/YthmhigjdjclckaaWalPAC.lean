/-
  The arms of one that put a record of the room that is kept.
-/
import Derived.Test.YthmhigjdjclckaaBase9C
import Derived.Test.YthmhigjdjclckaaWalModel5C
namespace Go.Proofs.Ythmhigjdjclckaa
open Go.RowKit
set_option linter.unusedVariables false
set_option linter.unusedSimpArgs false

section
variable {W : World} {p q : Nat} {S D : Nat → Prop} {l : LG} {d : DG} {rs : List ByteArray} {sure kept mark j : Nat} {ta : Option Addr}

set_option maxHeartbeats 3200000 in
set_option maxRecDepth 8000 in
theorem one_spend_ok (h : WpL W p q S D l d rs sure kept mark j) (hj : j ≤ 100) (hT : TextsAt W ta rs) (hO : TOff rs ta S D) (tc : Nat) (hc : rs.length ≤ tc) (N : Int) (s : ByteArray) (x : Nat) (f1 : Int) (f2 : Nat) (f3 f4 f5 : Int) (h1 : 1 ≤ s.size) (h2 : s.size ≤ 8192) (hm : s.size + 12 + l.bytes.length ≤ 4194304) :
    Calls Try.prog 8 #[.pointer (some ⟨p, 0, none⟩), .pointer (some ⟨q, 0, none⟩), .agg #[.slice ta rs.length tc, .int .i64 sure, .int .i64 kept, .int .u64 mark], .agg #[.int .i64 1, .int .i64 N, .string s, .int .u64 x, .int .i64 f1, .int .u64 f2, .int .i64 f3, .int .i64 f4, .int .i64 f5]] W fun e w' => OneOut W p S D j e w' := by
  obtain ⟨X, HX⟩ : ∃ X, Hid (X = ((W.alloc (.cells (mCells ta rs.length tc sure kept mark) 34)).alloc (.cells (AcV.cells ⟨1, N, s, x, f1, f2, f3, f4, f5⟩) 40)).alloc (.cells zero4 34)) := ⟨_, rfl⟩
  have HS : Hid (OneS W X p q S D S D l d rs rs sure kept mark j ta (mCells ta rs.length tc sure kept mark) ⟨1, N, s, x, f1, f2, f3, f4, f5⟩) := by rw [HX.out]; exact OneS.start h hT hO _ _
  unfold mCells AcV.cells zero4 at HX
  simp only at HX
  have hfit := h.fits
  have hkk := h.keeps
  have hcn := h.cnt
  have hlg := h.long
  have hsz := h.sized
  have HSZ := hid hsz
  obtain ⟨K2, HKe⟩ : ∃ K2, Hid (kept - (s.size + 12) = K2) := ⟨_, rfl⟩
  have hlk : lessF kept ((s.size : Int) + 12) = kept - (s.size + 12) := by unfold lessF; rw [if_neg (by omega)]; congr 1
  have HLS : Hid (∀ w, Calls Try.prog 26 #[.int .i64 kept, .int .i64 ((s.size : Int) + 12)] w fun e w' => e = .returned (.int .i64 (K2 : Int)) ∧ w' = w) := fun w => by have := mless_any kept ((s.size : Int) + 12) w (by omega); rw [hlk, HKe.out] at this; exact this
  clear hlk
  have hK2 : K2 = kept - (s.size + 12) := HKe.out.symm
  have HK2e := hid hK2
  have hfk : l.bytes.length + (s.size + 12) + K2 ≤ 4194304 := by omega
  clear hsz hK2
  clear h hT hO
  have a0 : X.cell? ⟨W.heap.size + 1, 0, none⟩ = some (.int .i64 1) := HS.out.inn.b1.cell 0
  have a1 : X.cell? ⟨W.heap.size + 1, 1, none⟩ = some (.int .i64 N) := HS.out.inn.b1.cell 1
  have a2 : X.cell? ⟨W.heap.size + 1, 2, none⟩ = some (.string s) := HS.out.inn.b1.cell 2
  have a3 : X.cell? ⟨W.heap.size + 1, 3, none⟩ = some (.int .u64 x) := HS.out.inn.b1.cell 3
  go_enter Try.func8, Try.ntmps8
  go_upto_region 1 with fail
  rw [← HX.out]
  clear HX
  obtain ⟨v0, v1, v2, v3⟩ := mcells HS.out.inn.b0
  obtain ⟨X1, HX1⟩ : ∃ X1, Hid (X1 = X.alloc (.cells #[.slice ta rs.length tc, .int .i64 sure, .int .i64 kept, .int .u64 mark] 34)) := ⟨_, rfl⟩
  have HK : Hid (OneK W X1 p q S D S D l d rs rs sure kept mark j ta (mCells ta rs.length tc sure kept mark) ⟨1, N, s, x, f1, f2, f3, f4, f5⟩ X.heap.size (mCells ta rs.length tc sure kept mark)) := by rw [HX1.out]; exact OneK.start HS.out _
  go_upto_region 6 with fail
  rw [← HX1.out]
  obtain ⟨b, Hb⟩ : ∃ b, Hid (X.heap.size = b) := ⟨_, rfl⟩
  rw [Hb.out] at HK
  rw [Hb.out]
  clear Hb HX1 a0 a1 a2 a3 v0 v1 v2 v3 HS
  have a0 : X1.cell? ⟨W.heap.size + 1, 0, none⟩ = some (.int .i64 1) := HK.out.s.inn.b1.cell 0
  have a2 : X1.cell? ⟨W.heap.size + 1, 2, none⟩ = some (.string s) := HK.out.s.inn.b1.cell 2
  have HCX := hid ((by have := spend_out HK.out.s.wp.log HK.out.s.wp.blen (by rw [HK.out.s.wp.slen]; omega) HK.out.s.wp.klen s h1 h2 hm; rw [hkk, HKe.out] at this; exact this : Calls Try.prog 25 #[.pointer (some ⟨q, 0, none⟩), .string s] X1 fun e w' => e = .returned (.tuple #[.int .u64 ((l.bytes.length + 1 : Nat) : Int), .int .i64 0]) ∧ ∃ S', IsLog w' q S' { putG l s with kept := K2 } ∧ Moves S S' X1 w'))
  go_wp2_with fail
  refine HCX.out.mono ?_
  rintro e w1 ⟨rfl, S2, hl1, hm1⟩
  have HK1 := hid (HK.out.pushed (k' := K2) hl1 hm1 h1 h2 (by omega))
  clear HK hl1 hm1 HCX a0 a2
  have a2 : w1.cell? ⟨W.heap.size + 1, 2, none⟩ = some (.string s) := HK1.out.s.inn.b1.cell 2
  obtain ⟨v0, v1, v2, v3⟩ := mcells HK1.out.s.inn.b0
  have HPX := hid ((by have := mput_ok2 w1 ta tc rs sure kept mark s HK1.out.s.tx HSZ.out (by omega) h1 h2 0 (by omega) (by omega); exact this : Calls Try.prog 24 #[.agg #[.slice ta rs.length tc, .int .i64 sure, .int .i64 kept, .int .u64 mark], .string s, .int .i64 0] w1 fun e w' => ∃ a' c', e = .returned (.tuple #[.agg #[.slice a' (rs.length + 1) c', .int .i64 sure, .int .i64 kept, .int .u64 mark], .int .u64 (placeOf rs rs.length : Nat), .int .i64 0]) ∧ Below w1.heap.size w1 w' ∧ TextsAt w' a' (rs ++ [s]) ∧ NewAt w1.heap.size a' ∧ rs.length + 1 ≤ c'))
  obtain ⟨u0, u1, u2, u3⟩ := mcells HK1.out.kb
  have hbn := HK1.out.bn
  have hbl := HK1.out.kb.lt
  go_wp2_with fail
  refine HPX.out.mono ?_
  rintro e w2 ⟨tb, cb, rfl, b2, hT2, hN2, hcb⟩
  have HK2 := hid (HK1.out.texts b2 hT2 hN2)
  clear hT2 hN2 b2
  clear HPX HK1 a2 v0 v1 v2 v3 u0 u1 u2 u3
  obtain ⟨u0, u1, u2, u3⟩ := mcells HK2.out.kb
  have w0 := HK2.out.kb.frozen 0
  have w1' := HK2.out.kb.frozen 1
  have w2' := HK2.out.kb.frozen 2
  have w3' := HK2.out.kb.frozen 3
  obtain ⟨V, HV⟩ : ∃ V, Hid (V = (((w2.setCell ⟨b, 0, none⟩ (.slice tb (rs.length + 1) cb)).setCell ⟨b, 1, none⟩ (.int .i64 sure)).setCell ⟨b, 2, none⟩ (.int .i64 kept)).setCell ⟨b, 3, none⟩ (.int .u64 mark)) := ⟨_, rfl⟩
  have HK3 : Hid (OneK W V p q S D S2 D { putG l s with kept := K2 } d (rs ++ [s]) (rs ++ [s]) sure K2 mark (j + 1) tb (mCells ta rs.length tc sure kept mark) ⟨1, N, s, x, f1, f2, f3, f4, f5⟩ b (mCells tb (rs.length + 1) cb sure kept mark)) := by rw [HV.out]; exact (((HK2.out.setk 0 _).setk 1 _).setk 2 _).setk 3 _
  go_upto_region 11 with fail
  rw [← HV.out]
  clear HV HK2 u0 u1 u2 u3 w0 w1' w2' w3'
  obtain ⟨v0, v1, v2, v3⟩ := mcells HK3.out.s.inn.b0
  have a2 : V.cell? ⟨W.heap.size + 1, 2, none⟩ = some (.string s) := HK3.out.s.inn.b1.cell 2
  have u2 : V.cell? ⟨b, 2, none⟩ = some (.int .i64 kept) := HK3.out.kb.cell 2
  have w2' := HK3.out.kb.frozen 2
  go_wp2_with fail
  refine (HLS.out V).mono ?_
  rintro e w5 ⟨rfl, hw5⟩
  obtain rfl := hw5.symm
  obtain ⟨V2, HV⟩ : ∃ V2, Hid (V2 = V.setCell ⟨b, 2, none⟩ (.int .i64 (K2 : Int))) := ⟨_, rfl⟩
  have HK4 : Hid (OneK W V2 p q S D S2 D { putG l s with kept := K2 } d (rs ++ [s]) (rs ++ [s]) sure K2 mark (j + 1) tb (mCells ta rs.length tc sure kept mark) ⟨1, N, s, x, f1, f2, f3, f4, f5⟩ b (mCells tb (rs.length + 1) cb sure K2 mark)) := by rw [HV.out]; exact HK3.out.setk 2 _
  go_upto_region 13 with fail
  rw [← HV.out]
  clear HV HK3 v0 v1 v2 v3 a2 u2 w2'
  obtain ⟨v0, v1, v2, v3⟩ := mcells HK4.out.kb
  obtain ⟨z0, z1, z2, z3, y0, y1, y2, y3⟩ := zcells HK4.out.s.inn.b2
  have hbn2 := HK4.out.bn
  have hpl : (((l.bytes.length + 1 : Nat) : Int) == (placeOf rs rs.length : Nat)) = true := by rw [hlg]; simp
  have hpl2 : (((l.bytes.length : Int) + 1) == ((placeOf rs rs.length : Nat) : Int)) = true := by rw [beq_iff_eq]; omega
  go_region
  go_wp2_with fail
  refine bodyPost_ret (v := .tuple #[.pointer (some ⟨q, 0, none⟩), .agg #[.slice tb (rs.length + 1) cb, .int .i64 sure, .int .i64 K2, .int .u64 mark], .bool true]) (by simp [results, Try.results8, go_sem, z0, z1, z2, z3]) rfl ?_
  have hlen : (rs ++ [s]).length = rs.length + 1 := by simp
  rw [← hlen]
  exact HK4.out.s.done (((((Only3.refl _ _).set _ ⟨by omega, by omega⟩).set _ ⟨by omega, by omega⟩).set _ ⟨by omega, by omega⟩).set _ ⟨by omega, by omega⟩).drew cb (by rw [hlen]; exact hcb)

end

end Go.Proofs.Ythmhigjdjclckaa
