/-
  The walk of girderref04.takeChange.
-/
import Derived.Test.YtndfjjcflbpdnaaBase6C
import Derived.Test.YtndfjjcflbpdnaaBase5C
import Derived.Test.YtndfjjcflbpdnaaRecRef2C
namespace Go.Proofs.Ytndfjjcflbpdnaa
open Go.RowKit Go.Sort
set_option linter.unusedVariables false
set_option linter.unusedSimpArgs false

section
variable {s : ByteArray} {p : Nat} {e : Int}

theorem numF_place (n : Int) (hle : p ≤ s.size) : (numF s p e n).1 ≤ s.size := by
  by_cases he : e = 0
  · subst he
    by_cases ha : n < 0 ∨ 8 < n
    · rw [numF_arg n ha]; exact hle
    · obtain ⟨m, rfl⟩ := Int.eq_ofNat_of_zero_le (show 0 ≤ n by omega)
      by_cases hc : s.size < p + m
      · rw [numF_cut m (by omega) hc]; exact hle
      · rw [numF_ok m (by omega) (by omega)]; show p + m ≤ _; omega
  · rw [numF_err he]; exact hle

theorem textF_place (m : Int) (hle : p ≤ s.size) : (textF s p e m).1 ≤ s.size := by
  by_cases he : e = 0
  · subst he
    by_cases hc : s.size < p + 2
    · rw [textF_cut m hc]; exact hle
    · by_cases hm : m < (le (part s p 2) : Int)
      · rw [textF_more m (by omega) hm]; exact hle
      · by_cases hd : s.size < p + 2 + le (part s p 2)
        · rw [textF_cut2 m (by omega) (by omega) hd]; exact hle
        · rw [textF_ok m (by omega) (by omega)]; show p + 2 + _ ≤ _; omega
  · rw [textF_err he]; exact hle

theorem boolF_place (hle : p ≤ s.size) : (boolF s p e).1 ≤ s.size := by
  by_cases he : e = 0
  · subst he
    by_cases hc : s.size < p + 1
    · rw [boolF_cut hc]; exact hle
    · by_cases hb : 1 < le (part s p 1)
      · rw [boolF_form (by omega) hb]; exact hle
      · rw [boolF_ok (by omega) (by omega)]; show p + 1 ≤ _; omega
  · rw [boolF_err he]; exact hle

end

set_option maxHeartbeats 3200000 in
set_option maxRecDepth 8000 in
theorem xchange_short (R : RecV) (ta da : Option Addr) (tc dc : Nat) {s : ByteArray} {p : Nat} {e : Int} (w : World) (hsz : s.size ≤ 140737488351232) (hle : p ≤ s.size) {p0 : Nat} {e0 : Int} {n0 : Nat} (h0 : numF s p e 4 = (p0, e0, n0)) {p1 : Nat} {e1 : Int} {n1 : Nat} (h1 : numF s p0 e0 1 = (p1, e1, n1)) {p2 : Nat} {e2 : Int} {n2 : Nat} (h2 : numF s p1 e1 2 = (p2, e2, n2)) {p3 : Nat} {e3 : Int} {n3 : List UInt8} (h3 : textF s p2 e2 65535 = (p3, e3, n3)) {p4 : Nat} {e4 : Int} {n4 : List UInt8} (h4 : textF s p3 e3 65535 = (p4, e4, n4)) {p5 : Nat} {e5 : Int} {n5 : Nat} (h5 : numF s p4 e4 1 = (p5, e5, n5)) (ht : n5 ≠ 2) :
    Calls Try.prog 24 #[.agg #[.string s, .int .i64 p, .int .i64 e], .agg (R.cells ta da tc dc)] w fun x w' => x = .returned (.tuple #[.agg #[.string s, .int .i64 p5, .int .i64 e5], .agg (({ R with page := n0, op := ⟨n1, n2, ⟨n3.toArray⟩, ⟨n4.toArray⟩⟩, undo := n5 } : RecV).cells ta da tc dc)]) ∧ Below w.heap.size w w' := by
  have hn0 : n0 < 4294967296 := by have := numF_lt s p e 4; rw [show (((4 : Nat) : Int)) = 4 from rfl, h0] at this; exact this
  have q0 : IntKind.u32.wrap (n0 : Int) = (n0 : Int) := by rw [IntKind.wrap_u32]; omega
  have l0 : p0 ≤ s.size := by have := numF_place (e := e) 4 hle; rw [h0] at this; exact this
  have N0 : Hid (∀ wx, Calls Try.prog 23 #[.agg #[.string s, .int .i64 p, .int .i64 e], .int .i64 4] wx fun x w' => x = .returned (.tuple #[.agg #[.string s, .int .i64 p0, .int .i64 e0], .int .u64 (n0 : Nat)]) ∧ Below wx.heap.size wx w') := fun wx => by
    have := xnumber_any (s := s) (p := p) (e := e) (w := wx) hsz hle 4 (by omega)
    rw [h0] at this
    exact this
  have hn1 : n1 < 256 := by have := numF_lt s p0 e0 1; rw [show (((1 : Nat) : Int)) = 1 from rfl, h1] at this; exact this
  have q1 : IntKind.i64.wrap (n1 : Int) = (n1 : Int) := by rw [IntKind.wrap_i64]; omega
  have l1 : p1 ≤ s.size := by have := numF_place (e := e0) 1 l0; rw [h1] at this; exact this
  have N1 : Hid (∀ wx, Calls Try.prog 23 #[.agg #[.string s, .int .i64 p0, .int .i64 e0], .int .i64 1] wx fun x w' => x = .returned (.tuple #[.agg #[.string s, .int .i64 p1, .int .i64 e1], .int .u64 (n1 : Nat)]) ∧ Below wx.heap.size wx w') := fun wx => by
    have := xnumber_any (s := s) (p := p0) (e := e0) (w := wx) hsz l0 1 (by omega)
    rw [h1] at this
    exact this
  have hn2 : n2 < 65536 := by have := numF_lt s p1 e1 2; rw [show (((2 : Nat) : Int)) = 2 from rfl, h2] at this; exact this
  have q2 : IntKind.i64.wrap (n2 : Int) = (n2 : Int) := by rw [IntKind.wrap_i64]; omega
  have l2 : p2 ≤ s.size := by have := numF_place (e := e1) 2 l1; rw [h2] at this; exact this
  have N2 : Hid (∀ wx, Calls Try.prog 23 #[.agg #[.string s, .int .i64 p1, .int .i64 e1], .int .i64 2] wx fun x w' => x = .returned (.tuple #[.agg #[.string s, .int .i64 p2, .int .i64 e2], .int .u64 (n2 : Nat)]) ∧ Below wx.heap.size wx w') := fun wx => by
    have := xnumber_any (s := s) (p := p1) (e := e1) (w := wx) hsz l1 2 (by omega)
    rw [h2] at this
    exact this
  have l3 : p3 ≤ s.size := by have := textF_place (e := e2) 65535 l2; rw [h3] at this; exact this
  have N3 : Hid (∀ wx, Calls Try.prog 49 #[.agg #[.string s, .int .i64 p2, .int .i64 e2], .int .i64 65535] wx fun x w' => x = .returned (.tuple #[.agg #[.string s, .int .i64 p3, .int .i64 e3], .string ⟨n3.toArray⟩]) ∧ Below wx.heap.size wx w') := fun wx => by
    have := xtext_any (s := s) (p := p2) (e := e2) (w := wx) hsz l2 65535
    rw [h3] at this
    exact this
  have l4 : p4 ≤ s.size := by have := textF_place (e := e3) 65535 l3; rw [h4] at this; exact this
  have N4 : Hid (∀ wx, Calls Try.prog 49 #[.agg #[.string s, .int .i64 p3, .int .i64 e3], .int .i64 65535] wx fun x w' => x = .returned (.tuple #[.agg #[.string s, .int .i64 p4, .int .i64 e4], .string ⟨n4.toArray⟩]) ∧ Below wx.heap.size wx w') := fun wx => by
    have := xtext_any (s := s) (p := p3) (e := e3) (w := wx) hsz l3 65535
    rw [h4] at this
    exact this
  have hn5 : n5 < 256 := by have := numF_lt s p4 e4 1; rw [show (((1 : Nat) : Int)) = 1 from rfl, h5] at this; exact this
  have q5 : IntKind.i64.wrap (n5 : Int) = (n5 : Int) := by rw [IntKind.wrap_i64]; omega
  have l5 : p5 ≤ s.size := by have := numF_place (e := e4) 1 l4; rw [h5] at this; exact this
  have N5 : Hid (∀ wx, Calls Try.prog 23 #[.agg #[.string s, .int .i64 p4, .int .i64 e4], .int .i64 1] wx fun x w' => x = .returned (.tuple #[.agg #[.string s, .int .i64 p5, .int .i64 e5], .int .u64 (n5 : Nat)]) ∧ Below wx.heap.size wx w') := fun wx => by
    have := xnumber_any (s := s) (p := p4) (e := e4) (w := wx) hsz l4 1 (by omega)
    rw [h5] at this
    exact this
  clear h0 h1 h2 h3 h4 h5 l0 l1 l2 l3 l4 l5
  obtain ⟨W, HW⟩ : ∃ W, Hid (W = (((w.alloc (.cells (rdCells s p e) 63)).alloc (.cells (R.cells ta da tc dc) 43)).alloc (.cells #[.string ⟨#[]⟩, .int .i64 0, .int .i64 0] 63)).alloc (.cells zeroCellsR 43)) := ⟨_, rfl⟩
  have HS0 : Hid (TkR w W s p e (R.cells ta da tc dc)) := by rw [HW.out]; exact TkR.start w s p e _
  have HPAR : Hid (R.cells ta da tc dc = #[.int .i64 R.kind, .int .i64 R.tx, .int .u64 R.prev, .int .u64 R.next, .int .u32 R.page, .int .i64 R.op.kind, .int .i64 R.op.at', .string R.op.S, .string R.op.old, .int .i64 R.undo, .int .i64 R.index, .string R.key, .int .u32 R.rpage, .int .i64 R.rslot, .bool R.live, .slice ta R.txs.length tc, .slice da R.dirty.length dc]) := rfl
  unfold zeroCellsR rdCells at HW
  rw [HPAR.out]
  rw [HPAR.out] at HW
  go_enter Try.func24, Try.ntmps24
  go_upto_region 2 with fail
  rw [← HW.out, ← HPAR.out]
  clear HW HPAR
  obtain ⟨x0, x1, x2, g0, g1, g2⟩ := rdRow HS0.out.rd
  go_wp2_with fail
  refine (N0.out _).mono ?_
  rintro x y0 ⟨rfl, b0⟩
  have HX0 := hidr (HS0.out.call b0)
  clear HS0 b0 N0 x0 x1 x2 g0 g1 g2
  obtain ⟨x0, x1, x2, g0, g1, g2⟩ := rdRow HX0.out.rd
  have c0 := HX0.out.rc.cell 4
  have d0 := HX0.out.rc.frozen 4
  obtain ⟨W0, HW0⟩ : ∃ y, Hid (y = (((y0.setCell ⟨w.heap.size, 0, none⟩ (.string s)).setCell ⟨w.heap.size, 1, none⟩ (.int .i64 p0)).setCell ⟨w.heap.size, 2, none⟩ (.int .i64 e0)).setCell ⟨w.heap.size + 1, 4, none⟩ (.int .u32 (n0 : Int))) := ⟨_, rfl⟩
  have HS1 := hidr ((HX0.out.read p0 e0).cell 4 (.int .u32 (n0 : Int)))
  rw [← HW0.out] at HS1
  go_upto_region 4 with fail
  rw [← HW0.out]
  clear HW0 HX0 c0 d0 x0 x1 x2 g0 g1 g2 q0
  obtain ⟨x0, x1, x2, g0, g1, g2⟩ := rdRow HS1.out.rd
  go_wp2_with fail
  refine (N1.out _).mono ?_
  rintro x y1 ⟨rfl, b1⟩
  have HX1 := hidr (HS1.out.call b1)
  clear HS1 b1 N1 x0 x1 x2 g0 g1 g2
  obtain ⟨x0, x1, x2, g0, g1, g2⟩ := rdRow HX1.out.rd
  have c1 := HX1.out.rc.cell 5
  have d1 := HX1.out.rc.frozen 5
  obtain ⟨W1, HW1⟩ : ∃ y, Hid (y = (((y1.setCell ⟨w.heap.size, 0, none⟩ (.string s)).setCell ⟨w.heap.size, 1, none⟩ (.int .i64 p1)).setCell ⟨w.heap.size, 2, none⟩ (.int .i64 e1)).setCell ⟨w.heap.size + 1, 5, none⟩ (.int .i64 (n1 : Int))) := ⟨_, rfl⟩
  have HS2 := hidr ((HX1.out.read p1 e1).cell 5 (.int .i64 (n1 : Int)))
  rw [← HW1.out] at HS2
  go_upto_region 6 with fail
  rw [← HW1.out]
  clear HW1 HX1 c1 d1 x0 x1 x2 g0 g1 g2 q1
  obtain ⟨x0, x1, x2, g0, g1, g2⟩ := rdRow HS2.out.rd
  go_wp2_with fail
  refine (N2.out _).mono ?_
  rintro x y2 ⟨rfl, b2⟩
  have HX2 := hidr (HS2.out.call b2)
  clear HS2 b2 N2 x0 x1 x2 g0 g1 g2
  obtain ⟨x0, x1, x2, g0, g1, g2⟩ := rdRow HX2.out.rd
  have c2 := HX2.out.rc.cell 6
  have d2 := HX2.out.rc.frozen 6
  obtain ⟨W2, HW2⟩ : ∃ y, Hid (y = (((y2.setCell ⟨w.heap.size, 0, none⟩ (.string s)).setCell ⟨w.heap.size, 1, none⟩ (.int .i64 p2)).setCell ⟨w.heap.size, 2, none⟩ (.int .i64 e2)).setCell ⟨w.heap.size + 1, 6, none⟩ (.int .i64 (n2 : Int))) := ⟨_, rfl⟩
  have HS3 := hidr ((HX2.out.read p2 e2).cell 6 (.int .i64 (n2 : Int)))
  rw [← HW2.out] at HS3
  go_upto_region 8 with fail
  rw [← HW2.out]
  clear HW2 HX2 c2 d2 x0 x1 x2 g0 g1 g2 q2
  obtain ⟨x0, x1, x2, g0, g1, g2⟩ := rdRow HS3.out.rd
  go_wp2_with fail
  refine (N3.out _).mono ?_
  rintro x y3 ⟨rfl, b3⟩
  have HX3 := hidr (HS3.out.call b3)
  clear HS3 b3 N3 x0 x1 x2 g0 g1 g2
  obtain ⟨x0, x1, x2, g0, g1, g2⟩ := rdRow HX3.out.rd
  have c3 := HX3.out.rc.cell 7
  have d3 := HX3.out.rc.frozen 7
  obtain ⟨W3, HW3⟩ : ∃ y, Hid (y = (((y3.setCell ⟨w.heap.size, 0, none⟩ (.string s)).setCell ⟨w.heap.size, 1, none⟩ (.int .i64 p3)).setCell ⟨w.heap.size, 2, none⟩ (.int .i64 e3)).setCell ⟨w.heap.size + 1, 7, none⟩ (.string ⟨n3.toArray⟩)) := ⟨_, rfl⟩
  have HS4 := hidr ((HX3.out.read p3 e3).cell 7 (.string ⟨n3.toArray⟩))
  rw [← HW3.out] at HS4
  go_upto_region 9 with fail
  rw [← HW3.out]
  clear HW3 HX3 c3 d3 x0 x1 x2 g0 g1 g2
  obtain ⟨x0, x1, x2, g0, g1, g2⟩ := rdRow HS4.out.rd
  go_wp2_with fail
  refine (N4.out _).mono ?_
  rintro x y4 ⟨rfl, b4⟩
  have HX4 := hidr (HS4.out.call b4)
  clear HS4 b4 N4 x0 x1 x2 g0 g1 g2
  obtain ⟨x0, x1, x2, g0, g1, g2⟩ := rdRow HX4.out.rd
  have c4 := HX4.out.rc.cell 8
  have d4 := HX4.out.rc.frozen 8
  obtain ⟨W4, HW4⟩ : ∃ y, Hid (y = (((y4.setCell ⟨w.heap.size, 0, none⟩ (.string s)).setCell ⟨w.heap.size, 1, none⟩ (.int .i64 p4)).setCell ⟨w.heap.size, 2, none⟩ (.int .i64 e4)).setCell ⟨w.heap.size + 1, 8, none⟩ (.string ⟨n4.toArray⟩)) := ⟨_, rfl⟩
  have HS5 := hidr ((HX4.out.read p4 e4).cell 8 (.string ⟨n4.toArray⟩))
  rw [← HW4.out] at HS5
  go_upto_region 10 with fail
  rw [← HW4.out]
  clear HW4 HX4 c4 d4 x0 x1 x2 g0 g1 g2
  obtain ⟨x0, x1, x2, g0, g1, g2⟩ := rdRow HS5.out.rd
  go_wp2_with fail
  refine (N5.out _).mono ?_
  rintro x y5 ⟨rfl, b5⟩
  have HX5 := hidr (HS5.out.call b5)
  clear HS5 b5 N5 x0 x1 x2 g0 g1 g2
  obtain ⟨x0, x1, x2, g0, g1, g2⟩ := rdRow HX5.out.rd
  have c5 := HX5.out.rc.cell 9
  have d5 := HX5.out.rc.frozen 9
  obtain ⟨W5, HW5⟩ : ∃ y, Hid (y = (((y5.setCell ⟨w.heap.size, 0, none⟩ (.string s)).setCell ⟨w.heap.size, 1, none⟩ (.int .i64 p5)).setCell ⟨w.heap.size, 2, none⟩ (.int .i64 e5)).setCell ⟨w.heap.size + 1, 9, none⟩ (.int .i64 (n5 : Int))) := ⟨_, rfl⟩
  have HS6 := hidr ((HX5.out.read p5 e5).cell 9 (.int .i64 (n5 : Int)))
  rw [← HW5.out] at HS6
  go_upto_region 12 with fail
  rw [← HW5.out]
  clear HW5 HX5 c5 d5 x0 x1 x2 g0 g1 g2 q5
  have t9 : W5.cell? ⟨w.heap.size + 1, 9, none⟩ = some (.int .i64 (n5 : Int)) := HS6.out.rc.cell 9
  have ht : ((n5 : Int) == 2) = false := by rw [beq_eq_false_iff_ne]; omega
  go_upto_region 21 with fail
  have HF : Hid (TkR w W5 s p5 e5 (({ R with page := n0, op := ⟨n1, n2, ⟨n3.toArray⟩, ⟨n4.toArray⟩⟩, undo := n5 } : RecV).cells ta da tc dc)) := HS6.out
  clear HS6
  obtain ⟨C, HC⟩ : ∃ C, Hid (C = (({ R with page := n0, op := ⟨n1, n2, ⟨n3.toArray⟩, ⟨n4.toArray⟩⟩, undo := n5 } : RecV).cells ta da tc dc)) := ⟨_, rfl⟩
  have HON : Hid (C.all (·.oneCell') = true ∧ C.size = 17) := by rw [HC.out]; exact ⟨ref_one _ _ _ _ _ _ _, rfl⟩
  have HF2 : Hid (TkR w W5 s p5 e5 C) := by show TkR _ _ _ _ _ _; rw [HC.out]; exact HF.out
  clear HF
  refine wp_region_noPanic ?_
  refine wp_region_held_drew (S := fun wy : World => wy.heap[w.heap.size]? = some (.cells (rdCells s p5 e5) 63 (0, 0)) ∧ wy.heap[w.heap.size + 1]? = some (.cells C 43 (0, 0))) cmixed ⟨HF2.out.rd, HF2.out.rc⟩ (fun hS0 => ?_)
  obtain ⟨v0, HV0⟩ : ∃ y, Hid (y = W5.drew) := ⟨_, rfl⟩
  have HT : Hid (TkR w v0 s p5 e5 C) := by show TkR _ _ _ _ _ _; rw [HV0.out]; exact HF2.out.call ((Below.refl _ _).drew)
  rw [← HV0.out] at hS0 ⊢
  clear HV0 HF2
  refine wpAnyH_take (i := 0) (v := .agg (rdCells s p5 e5)) (by simp only [List.getElem?_toArray, List.getElem?_cons_zero]; rfl) (by kernel_rfl) (by kernel_rfl) (by kernel_rfl) (fun _ _ _ h => h) (yields_loadRow (by rfl) _ _ (by rfl) w.heap.size (by rfl) _ _ (0, 0) (fun _ h => h.1) _ Try.underlying63 rfl (by kernel_rfl)) hS0 ?_
  try simp only [Act.put, List.setIfInBounds_toArray, List.set_cons_zero, List.set_cons_succ]
  refine wpAnyH_take (i := 1) (v := .agg C) (by simp only [List.getElem?_toArray, List.getElem?_cons_succ, List.getElem?_cons_zero]; rfl) (by kernel_rfl) (by kernel_rfl) (by kernel_rfl) (fun _ _ _ h => h) (yields_loadRow (by rfl) _ _ (by rfl) (w.heap.size + 1) (by rfl) _ _ (0, 0) (fun _ h => h.2) _ Try.underlying43 rfl (by rw [HON.out.2]; kernel_rfl)) hS0 ?_
  try simp only [Act.put, List.setIfInBounds_toArray, List.set_cons_zero, List.set_cons_succ]
  have HZ3 : Hid (v0.heap[w.heap.size + 1 + 1]? = some (.cells #[.string ⟨#[]⟩, .int .i64 0, .int .i64 0] 63 (0, 0))) := HT.out.z3
  have HZ4 : Hid (v0.heap[w.heap.size + 1 + 1 + 1]? = some (.cells zeroCellsR 43 (0, 0))) := HT.out.z4
  refine wpAnyH_ready (rs := [2]) (by kernel_rfl) (by simp) ?_
  refine AllReadyH.cons (i := 2) (by simp only [List.getElem?_toArray, List.getElem?_cons_succ, List.getElem?_cons_zero]; rfl) (fun K hK => ?_) AllReadyH.nil
  refine step_storeRow (by rfl) _ _ _ (by rfl) (by rfl) (w.heap.size + 1 + 1) (by rfl) (rdCells s p5 e5) #[.string ⟨#[]⟩, .int .i64 0, .int .i64 0] (by rfl) _ HZ3.out (by kernel_rfl) (by rfl) (by simp [rdCells, Value.oneCell']) ?_
  refine hK.out _ _ ⟨(setRow_other _ _ _ _ (by omega)).trans hS0.1, (setRow_other _ _ _ _ (by omega)).trans hS0.2⟩ (fun hS1 => ?_)
  clear hK K
  refine wpAnyH_ready (rs := [3]) (by kernel_rfl) (by simp) ?_
  refine AllReadyH.cons (i := 3) (by simp only [List.getElem?_toArray, List.getElem?_cons_succ, List.getElem?_cons_zero]; rfl) (fun K hK => ?_) AllReadyH.nil
  refine step_storeRow (by rfl) _ _ _ (by rfl) (by rfl) (w.heap.size + 1 + 1 + 1) (by rfl) C zeroCellsR (by rfl) _ ((setRow_other _ _ _ _ (by omega)).trans HZ4.out) (by rw [HON.out.2]; kernel_rfl) (by rw [HON.out.2]; rfl) HON.out.1 ?_
  refine hK.out _ _ ⟨(setRow_other _ _ _ _ (by omega)).trans hS1.1, (setRow_other _ _ _ _ (by omega)).trans hS1.2⟩ (fun hS2 => ?_)
  clear hK K
  refine wpAnyH_done (by kernel_rfl) ?_ _
  refine NoPanic.normal ?_
  obtain ⟨v2, HV2⟩ : ∃ y, Hid (y = (v0.setRow (w.heap.size + 1 + 1) (rdCells s p5 e5)).setRow (w.heap.size + 1 + 1 + 1) C) := ⟨_, rfl⟩
  have r3 : BlkR v2 (w.heap.size + 1 + 1) (rdCells s p5 e5) 63 := by rw [HV2.out]; exact (setRow_other _ _ _ _ (by omega)).trans (setRow_heap v0 _ _ _ _ _ HZ3.out)
  have r4 : BlkR v2 (w.heap.size + 1 + 1 + 1) C 43 := by rw [HV2.out]; exact setRow_heap _ _ _ _ _ _ ((setRow_other _ _ _ _ (by omega)).trans HZ4.out)
  have HBE : Hid (Below w.heap.size w v2) := by show Below _ _ _; rw [HV2.out]; exact below_setRow (below_setRow HT.out.bel (by omega) _) (by omega) _
  rw [← HV2.out]
  rw [HC.out] at r4
  clear HV2 HT HZ3 HZ4 hS0 hS1 hS2 HON HC
  obtain ⟨x0, x1, x2, g0, g1, g2⟩ := rdRow r3
  obtain ⟨z0, z1, z2, z3, z4, z5, z6, z7, z8, z9, z10, z11, z12, z13, z14, z15, z16⟩ := out_cells r4
  clear r3 r4
  go_wp2_with fail
  refine bodyPost_ret (v := .tuple #[.agg #[.string s, .int .i64 p5, .int .i64 e5], .agg (({ R with page := n0, op := ⟨n1, n2, ⟨n3.toArray⟩, ⟨n4.toArray⟩⟩, undo := n5 } : RecV).cells ta da tc dc)]) (by simp [results, Try.results24, go_sem, x0, x1, x2, z0, z1, z2, z3, z4, z5, z6, z7, z8, z9, z10, z11, z12, z13, z14, z15, z16, RecV.cells]) rfl ?_
  exact ⟨rfl, HBE.out⟩

end Go.Proofs.Ytndfjjcflbpdnaa
