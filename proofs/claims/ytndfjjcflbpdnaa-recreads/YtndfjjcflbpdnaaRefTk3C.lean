/-
  The walk of girderref04.takeChange, with a key.
-/
import Derived.Test.YtndfjjcflbpdnaaRefTk2C
import Derived.Test.YtndfjjcflbpdnaaBase5C
import Derived.Test.YtndfjjcflbpdnaaRecRef2C
namespace Go.Proofs.Ytndfjjcflbpdnaa
open Go.RowKit Go.Sort
set_option linter.unusedVariables false
set_option linter.unusedSimpArgs false

set_option maxHeartbeats 6400000 in
set_option maxRecDepth 8000 in
theorem xchange_long (R : RecV) (ta da : Option Addr) (tc dc : Nat) {s : ByteArray} {p : Nat} {e : Int} (w : World) (hsz : s.size ≤ 140737488351232) (hle : p ≤ s.size) {p0 : Nat} {e0 : Int} {n0 : Nat} (h0 : numF s p e 4 = (p0, e0, n0)) {p1 : Nat} {e1 : Int} {n1 : Nat} (h1 : numF s p0 e0 1 = (p1, e1, n1)) {p2 : Nat} {e2 : Int} {n2 : Nat} (h2 : numF s p1 e1 2 = (p2, e2, n2)) {p3 : Nat} {e3 : Int} {n3 : List UInt8} (h3 : textF s p2 e2 65535 = (p3, e3, n3)) {p4 : Nat} {e4 : Int} {n4 : List UInt8} (h4 : textF s p3 e3 65535 = (p4, e4, n4)) {p5 : Nat} {e5 : Int} {n5 : Nat} (h5 : numF s p4 e4 1 = (p5, e5, n5)) {p6 : Nat} {e6 : Int} {n6 : Nat} (h6 : numF s p5 e5 2 = (p6, e6, n6)) {p7 : Nat} {e7 : Int} {n7 : List UInt8} (h7 : textF s p6 e6 65535 = (p7, e7, n7)) {p8 : Nat} {e8 : Int} {n8 : Nat} (h8 : numF s p7 e7 4 = (p8, e8, n8)) {p9 : Nat} {e9 : Int} {n9 : Nat} (h9 : numF s p8 e8 2 = (p9, e9, n9)) {p10 : Nat} {e10 : Int} {n10 : Bool} (h10 : boolF s p9 e9 = (p10, e10, n10)) (ht : n5 = 2) :
    Calls Try.prog 24 #[.agg #[.string s, .int .i64 p, .int .i64 e], .agg (R.cells ta da tc dc)] w fun x w' => x = .returned (.tuple #[.agg #[.string s, .int .i64 p10, .int .i64 e10], .agg (({ R with page := n0, op := ⟨n1, n2, ⟨n3.toArray⟩, ⟨n4.toArray⟩⟩, undo := n5, index := n6, key := ⟨n7.toArray⟩, rpage := n8, rslot := n9, live := n10 } : RecV).cells ta da tc dc)]) ∧ Below w.heap.size w w' := by
  have HT5 := hidr ht
  clear ht
  have hn0 : n0 < 4294967296 := by have := numF_lt s p e 4; rw [show (((4 : Nat) : Int)) = 4 from rfl, h0] at this; exact this
  have q0 : IntKind.u32.wrap (n0 : Int) = (n0 : Int) := by rw [IntKind.wrap_u32]; omega
  have l0 : p0 ≤ s.size := by have := numF_place (e := e) 4 hle; rw [h0] at this; exact this
  have N0 : Hid (∀ wx, Calls Try.prog 23 #[.agg #[.string s, .int .i64 p, .int .i64 e], .int .i64 4] wx fun x w' => x = .returned (.tuple #[.agg #[.string s, .int .i64 p0, .int .i64 e0], .int .u64 (n0 : Nat)]) ∧ Below wx.heap.size wx w') := fun wx => by
    have := xnumber_any (s := s) (p := p) (e := e) (w := wx) hsz hle 4 (by omega)
    rw [h0] at this
    exact this
  have hn1 : n1 < 256 := by have := numF_lt s p0 e0 1; rw [show (((1 : Nat) : Int)) = 1 from rfl, h1] at this; exact this
  have q1 : IntKind.i64.wrap (n1 : Int) = (n1 : Int) := by rw [IntKind.wrap_i64]; omega
  have l1 : p1 ≤ s.size := by have := numF_place (e := e0) 1 l0; rw [h1] at this; exact this
  have N1 : Hid (∀ wx, Calls Try.prog 23 #[.agg #[.string s, .int .i64 p0, .int .i64 e0], .int .i64 1] wx fun x w' => x = .returned (.tuple #[.agg #[.string s, .int .i64 p1, .int .i64 e1], .int .u64 (n1 : Nat)]) ∧ Below wx.heap.size wx w') := fun wx => by
    have := xnumber_any (s := s) (p := p0) (e := e0) (w := wx) hsz l0 1 (by omega)
    rw [h1] at this
    exact this
  have hn2 : n2 < 65536 := by have := numF_lt s p1 e1 2; rw [show (((2 : Nat) : Int)) = 2 from rfl, h2] at this; exact this
  have q2 : IntKind.i64.wrap (n2 : Int) = (n2 : Int) := by rw [IntKind.wrap_i64]; omega
  have l2 : p2 ≤ s.size := by have := numF_place (e := e1) 2 l1; rw [h2] at this; exact this
  have N2 : Hid (∀ wx, Calls Try.prog 23 #[.agg #[.string s, .int .i64 p1, .int .i64 e1], .int .i64 2] wx fun x w' => x = .returned (.tuple #[.agg #[.string s, .int .i64 p2, .int .i64 e2], .int .u64 (n2 : Nat)]) ∧ Below wx.heap.size wx w') := fun wx => by
    have := xnumber_any (s := s) (p := p1) (e := e1) (w := wx) hsz l1 2 (by omega)
    rw [h2] at this
    exact this
  have l3 : p3 ≤ s.size := by have := textF_place (e := e2) 65535 l2; rw [h3] at this; exact this
  have N3 : Hid (∀ wx, Calls Try.prog 49 #[.agg #[.string s, .int .i64 p2, .int .i64 e2], .int .i64 65535] wx fun x w' => x = .returned (.tuple #[.agg #[.string s, .int .i64 p3, .int .i64 e3], .string ⟨n3.toArray⟩]) ∧ Below wx.heap.size wx w') := fun wx => by
    have := xtext_any (s := s) (p := p2) (e := e2) (w := wx) hsz l2 65535
    rw [h3] at this
    exact this
  have l4 : p4 ≤ s.size := by have := textF_place (e := e3) 65535 l3; rw [h4] at this; exact this
  have N4 : Hid (∀ wx, Calls Try.prog 49 #[.agg #[.string s, .int .i64 p3, .int .i64 e3], .int .i64 65535] wx fun x w' => x = .returned (.tuple #[.agg #[.string s, .int .i64 p4, .int .i64 e4], .string ⟨n4.toArray⟩]) ∧ Below wx.heap.size wx w') := fun wx => by
    have := xtext_any (s := s) (p := p3) (e := e3) (w := wx) hsz l3 65535
    rw [h4] at this
    exact this
  have hn5 : n5 < 256 := by have := numF_lt s p4 e4 1; rw [show (((1 : Nat) : Int)) = 1 from rfl, h5] at this; exact this
  have q5 : IntKind.i64.wrap (n5 : Int) = (n5 : Int) := by rw [IntKind.wrap_i64]; omega
  have l5 : p5 ≤ s.size := by have := numF_place (e := e4) 1 l4; rw [h5] at this; exact this
  have N5 : Hid (∀ wx, Calls Try.prog 23 #[.agg #[.string s, .int .i64 p4, .int .i64 e4], .int .i64 1] wx fun x w' => x = .returned (.tuple #[.agg #[.string s, .int .i64 p5, .int .i64 e5], .int .u64 (n5 : Nat)]) ∧ Below wx.heap.size wx w') := fun wx => by
    have := xnumber_any (s := s) (p := p4) (e := e4) (w := wx) hsz l4 1 (by omega)
    rw [h5] at this
    exact this
  have hn6 : n6 < 65536 := by have := numF_lt s p5 e5 2; rw [show (((2 : Nat) : Int)) = 2 from rfl, h6] at this; exact this
  have q6 : IntKind.i64.wrap (n6 : Int) = (n6 : Int) := by rw [IntKind.wrap_i64]; omega
  have l6 : p6 ≤ s.size := by have := numF_place (e := e5) 2 l5; rw [h6] at this; exact this
  have N6 : Hid (∀ wx, Calls Try.prog 23 #[.agg #[.string s, .int .i64 p5, .int .i64 e5], .int .i64 2] wx fun x w' => x = .returned (.tuple #[.agg #[.string s, .int .i64 p6, .int .i64 e6], .int .u64 (n6 : Nat)]) ∧ Below wx.heap.size wx w') := fun wx => by
    have := xnumber_any (s := s) (p := p5) (e := e5) (w := wx) hsz l5 2 (by omega)
    rw [h6] at this
    exact this
  have l7 : p7 ≤ s.size := by have := textF_place (e := e6) 65535 l6; rw [h7] at this; exact this
  have N7 : Hid (∀ wx, Calls Try.prog 49 #[.agg #[.string s, .int .i64 p6, .int .i64 e6], .int .i64 65535] wx fun x w' => x = .returned (.tuple #[.agg #[.string s, .int .i64 p7, .int .i64 e7], .string ⟨n7.toArray⟩]) ∧ Below wx.heap.size wx w') := fun wx => by
    have := xtext_any (s := s) (p := p6) (e := e6) (w := wx) hsz l6 65535
    rw [h7] at this
    exact this
  have hn8 : n8 < 4294967296 := by have := numF_lt s p7 e7 4; rw [show (((4 : Nat) : Int)) = 4 from rfl, h8] at this; exact this
  have q8 : IntKind.u32.wrap (n8 : Int) = (n8 : Int) := by rw [IntKind.wrap_u32]; omega
  have l8 : p8 ≤ s.size := by have := numF_place (e := e7) 4 l7; rw [h8] at this; exact this
  have N8 : Hid (∀ wx, Calls Try.prog 23 #[.agg #[.string s, .int .i64 p7, .int .i64 e7], .int .i64 4] wx fun x w' => x = .returned (.tuple #[.agg #[.string s, .int .i64 p8, .int .i64 e8], .int .u64 (n8 : Nat)]) ∧ Below wx.heap.size wx w') := fun wx => by
    have := xnumber_any (s := s) (p := p7) (e := e7) (w := wx) hsz l7 4 (by omega)
    rw [h8] at this
    exact this
  have hn9 : n9 < 65536 := by have := numF_lt s p8 e8 2; rw [show (((2 : Nat) : Int)) = 2 from rfl, h9] at this; exact this
  have q9 : IntKind.i64.wrap (n9 : Int) = (n9 : Int) := by rw [IntKind.wrap_i64]; omega
  have l9 : p9 ≤ s.size := by have := numF_place (e := e8) 2 l8; rw [h9] at this; exact this
  have N9 : Hid (∀ wx, Calls Try.prog 23 #[.agg #[.string s, .int .i64 p8, .int .i64 e8], .int .i64 2] wx fun x w' => x = .returned (.tuple #[.agg #[.string s, .int .i64 p9, .int .i64 e9], .int .u64 (n9 : Nat)]) ∧ Below wx.heap.size wx w') := fun wx => by
    have := xnumber_any (s := s) (p := p8) (e := e8) (w := wx) hsz l8 2 (by omega)
    rw [h9] at this
    exact this
  have l10 : p10 ≤ s.size := by have := boolF_place (e := e9) l9; rw [h10] at this; exact this
  have N10 : Hid (∀ wx, Calls Try.prog 50 #[.agg #[.string s, .int .i64 p9, .int .i64 e9]] wx fun x w' => x = .returned (.tuple #[.agg #[.string s, .int .i64 p10, .int .i64 e10], .bool n10]) ∧ Below wx.heap.size wx w') := fun wx => by
    have := xbool_any (s := s) (p := p9) (e := e9) (w := wx) hsz l9
    rw [h10] at this
    exact this
  clear h0 h1 h2 h3 h4 h5 h6 h7 h8 h9 h10 l0 l1 l2 l3 l4 l5 l6 l7 l8 l9 l10
  obtain ⟨W, HW⟩ : ∃ W, Hid (W = (((w.alloc (.cells (rdCells s p e) 63)).alloc (.cells (R.cells ta da tc dc) 43)).alloc (.cells #[.string ⟨#[]⟩, .int .i64 0, .int .i64 0] 63)).alloc (.cells zeroCellsR 43)) := ⟨_, rfl⟩
  have HS0 : Hid (TkR w W s p e (R.cells ta da tc dc)) := by rw [HW.out]; exact TkR.start w s p e _
  have HPAR : Hid (R.cells ta da tc dc = #[.int .i64 R.kind, .int .i64 R.tx, .int .u64 R.prev, .int .u64 R.next, .int .u32 R.page, .int .i64 R.op.kind, .int .i64 R.op.at', .string R.op.S, .string R.op.old, .int .i64 R.undo, .int .i64 R.index, .string R.key, .int .u32 R.rpage, .int .i64 R.rslot, .bool R.live, .slice ta R.txs.length tc, .slice da R.dirty.length dc]) := rfl
  unfold zeroCellsR rdCells at HW
  rw [HPAR.out]
  rw [HPAR.out] at HW
  go_enter Try.func24, Try.ntmps24
  go_upto_region 2 with fail
  rw [← HW.out, ← HPAR.out]
  clear HW HPAR
  obtain ⟨x0, x1, x2, g0, g1, g2⟩ := rdRow HS0.out.rd
  go_wp2_with fail
  refine (N0.out _).mono ?_
  rintro x y0 ⟨rfl, b0⟩
  have HX0 := hidr (HS0.out.call b0)
  clear HS0 b0 N0 x0 x1 x2 g0 g1 g2
  obtain ⟨x0, x1, x2, g0, g1, g2⟩ := rdRow HX0.out.rd
  have c0 := HX0.out.rc.cell 4
  have d0 := HX0.out.rc.frozen 4
  obtain ⟨W0, HW0⟩ : ∃ y, Hid (y = (((y0.setCell ⟨w.heap.size, 0, none⟩ (.string s)).setCell ⟨w.heap.size, 1, none⟩ (.int .i64 p0)).setCell ⟨w.heap.size, 2, none⟩ (.int .i64 e0)).setCell ⟨w.heap.size + 1, 4, none⟩ (.int .u32 (n0 : Int))) := ⟨_, rfl⟩
  have HS1 := hidr ((HX0.out.read p0 e0).cell 4 (.int .u32 (n0 : Int)))
  rw [← HW0.out] at HS1
  go_upto_region 4 with fail
  rw [← HW0.out]
  clear HW0 HX0 c0 d0 x0 x1 x2 g0 g1 g2 q0
  obtain ⟨x0, x1, x2, g0, g1, g2⟩ := rdRow HS1.out.rd
  go_wp2_with fail
  refine (N1.out _).mono ?_
  rintro x y1 ⟨rfl, b1⟩
  have HX1 := hidr (HS1.out.call b1)
  clear HS1 b1 N1 x0 x1 x2 g0 g1 g2
  obtain ⟨x0, x1, x2, g0, g1, g2⟩ := rdRow HX1.out.rd
  have c1 := HX1.out.rc.cell 5
  have d1 := HX1.out.rc.frozen 5
  obtain ⟨W1, HW1⟩ : ∃ y, Hid (y = (((y1.setCell ⟨w.heap.size, 0, none⟩ (.string s)).setCell ⟨w.heap.size, 1, none⟩ (.int .i64 p1)).setCell ⟨w.heap.size, 2, none⟩ (.int .i64 e1)).setCell ⟨w.heap.size + 1, 5, none⟩ (.int .i64 (n1 : Int))) := ⟨_, rfl⟩
  have HS2 := hidr ((HX1.out.read p1 e1).cell 5 (.int .i64 (n1 : Int)))
  rw [← HW1.out] at HS2
  go_upto_region 6 with fail
  rw [← HW1.out]
  clear HW1 HX1 c1 d1 x0 x1 x2 g0 g1 g2 q1
  obtain ⟨x0, x1, x2, g0, g1, g2⟩ := rdRow HS2.out.rd
  go_wp2_with fail
  refine (N2.out _).mono ?_
  rintro x y2 ⟨rfl, b2⟩
  have HX2 := hidr (HS2.out.call b2)
  clear HS2 b2 N2 x0 x1 x2 g0 g1 g2
  obtain ⟨x0, x1, x2, g0, g1, g2⟩ := rdRow HX2.out.rd
  have c2 := HX2.out.rc.cell 6
  have d2 := HX2.out.rc.frozen 6
  obtain ⟨W2, HW2⟩ : ∃ y, Hid (y = (((y2.setCell ⟨w.heap.size, 0, none⟩ (.string s)).setCell ⟨w.heap.size, 1, none⟩ (.int .i64 p2)).setCell ⟨w.heap.size, 2, none⟩ (.int .i64 e2)).setCell ⟨w.heap.size + 1, 6, none⟩ (.int .i64 (n2 : Int))) := ⟨_, rfl⟩
  have HS3 := hidr ((HX2.out.read p2 e2).cell 6 (.int .i64 (n2 : Int)))
  rw [← HW2.out] at HS3
  go_upto_region 8 with fail
  rw [← HW2.out]
  clear HW2 HX2 c2 d2 x0 x1 x2 g0 g1 g2 q2
  obtain ⟨x0, x1, x2, g0, g1, g2⟩ := rdRow HS3.out.rd
  go_wp2_with fail
  refine (N3.out _).mono ?_
  rintro x y3 ⟨rfl, b3⟩
  have HX3 := hidr (HS3.out.call b3)
  clear HS3 b3 N3 x0 x1 x2 g0 g1 g2
  obtain ⟨x0, x1, x2, g0, g1, g2⟩ := rdRow HX3.out.rd
  have c3 := HX3.out.rc.cell 7
  have d3 := HX3.out.rc.frozen 7
  obtain ⟨W3, HW3⟩ : ∃ y, Hid (y = (((y3.setCell ⟨w.heap.size, 0, none⟩ (.string s)).setCell ⟨w.heap.size, 1, none⟩ (.int .i64 p3)).setCell ⟨w.heap.size, 2, none⟩ (.int .i64 e3)).setCell ⟨w.heap.size + 1, 7, none⟩ (.string ⟨n3.toArray⟩)) := ⟨_, rfl⟩
  have HS4 := hidr ((HX3.out.read p3 e3).cell 7 (.string ⟨n3.toArray⟩))
  rw [← HW3.out] at HS4
  go_upto_region 9 with fail
  rw [← HW3.out]
  clear HW3 HX3 c3 d3 x0 x1 x2 g0 g1 g2
  obtain ⟨x0, x1, x2, g0, g1, g2⟩ := rdRow HS4.out.rd
  go_wp2_with fail
  refine (N4.out _).mono ?_
  rintro x y4 ⟨rfl, b4⟩
  have HX4 := hidr (HS4.out.call b4)
  clear HS4 b4 N4 x0 x1 x2 g0 g1 g2
  obtain ⟨x0, x1, x2, g0, g1, g2⟩ := rdRow HX4.out.rd
  have c4 := HX4.out.rc.cell 8
  have d4 := HX4.out.rc.frozen 8
  obtain ⟨W4, HW4⟩ : ∃ y, Hid (y = (((y4.setCell ⟨w.heap.size, 0, none⟩ (.string s)).setCell ⟨w.heap.size, 1, none⟩ (.int .i64 p4)).setCell ⟨w.heap.size, 2, none⟩ (.int .i64 e4)).setCell ⟨w.heap.size + 1, 8, none⟩ (.string ⟨n4.toArray⟩)) := ⟨_, rfl⟩
  have HS5 := hidr ((HX4.out.read p4 e4).cell 8 (.string ⟨n4.toArray⟩))
  rw [← HW4.out] at HS5
  go_upto_region 10 with fail
  rw [← HW4.out]
  clear HW4 HX4 c4 d4 x0 x1 x2 g0 g1 g2
  obtain ⟨x0, x1, x2, g0, g1, g2⟩ := rdRow HS5.out.rd
  go_wp2_with fail
  refine (N5.out _).mono ?_
  rintro x y5 ⟨rfl, b5⟩
  have HX5 := hidr (HS5.out.call b5)
  clear HS5 b5 N5 x0 x1 x2 g0 g1 g2
  obtain ⟨x0, x1, x2, g0, g1, g2⟩ := rdRow HX5.out.rd
  have c5 := HX5.out.rc.cell 9
  have d5 := HX5.out.rc.frozen 9
  obtain ⟨W5, HW5⟩ : ∃ y, Hid (y = (((y5.setCell ⟨w.heap.size, 0, none⟩ (.string s)).setCell ⟨w.heap.size, 1, none⟩ (.int .i64 p5)).setCell ⟨w.heap.size, 2, none⟩ (.int .i64 e5)).setCell ⟨w.heap.size + 1, 9, none⟩ (.int .i64 (n5 : Int))) := ⟨_, rfl⟩
  have HS6 := hidr ((HX5.out.read p5 e5).cell 9 (.int .i64 (n5 : Int)))
  rw [← HW5.out] at HS6
  go_upto_region 12 with fail
  rw [← HW5.out]
  clear HW5 HX5 c5 d5 x0 x1 x2 g0 g1 g2 q5
  have HF6 : Hid (TkR w W5 s p5 e5 (({ R with page := n0, op := ⟨n1, n2, ⟨n3.toArray⟩, ⟨n4.toArray⟩⟩, undo := n5 } : RecV).cells ta da tc dc)) := HS6.out
  clear HS6
  obtain ⟨R6, HR6⟩ : ∃ R6 : RecV, Hid (R6 = ({ R with page := n0, op := ⟨n1, n2, ⟨n3.toArray⟩, ⟨n4.toArray⟩⟩, undo := n5 } : RecV)) := ⟨_, rfl⟩
  have HS6 : Hid (TkR w W5 s p5 e5 (R6.cells ta da tc dc)) := by show TkR _ _ _ _ _ _; rw [HR6.out]; exact HF6.out
  have t9 : W5.cell? ⟨w.heap.size + 1, 9, none⟩ = some (.int .i64 (n5 : Int)) := HF6.out.rc.cell 9
  clear HF6
  have ht : ((n5 : Int) == 2) = true := by rw [HT5.out]; rfl
  go_upto_region 13 with fail
  clear ht t9
  obtain ⟨x0, x1, x2, g0, g1, g2⟩ := rdRow HS6.out.rd
  go_wp2_with fail
  refine (N6.out _).mono ?_
  rintro x y6 ⟨rfl, b6⟩
  have HX6 := hidr (HS6.out.call b6)
  clear HS6 b6 N6 x0 x1 x2 g0 g1 g2
  obtain ⟨x0, x1, x2, g0, g1, g2⟩ := rdRow HX6.out.rd
  have c6 := HX6.out.rc.cell 10
  have d6 := HX6.out.rc.frozen 10
  obtain ⟨W6, HW6⟩ : ∃ y, Hid (y = (((y6.setCell ⟨w.heap.size, 0, none⟩ (.string s)).setCell ⟨w.heap.size, 1, none⟩ (.int .i64 p6)).setCell ⟨w.heap.size, 2, none⟩ (.int .i64 e6)).setCell ⟨w.heap.size + 1, 10, none⟩ (.int .i64 (n6 : Int))) := ⟨_, rfl⟩
  have HS7 := hidr ((HX6.out.read p6 e6).cell 10 (.int .i64 (n6 : Int)))
  rw [← HW6.out] at HS7
  go_upto_region 15 with fail
  rw [← HW6.out]
  clear HW6 HX6 c6 d6 x0 x1 x2 g0 g1 g2 q6
  obtain ⟨x0, x1, x2, g0, g1, g2⟩ := rdRow HS7.out.rd
  go_wp2_with fail
  refine (N7.out _).mono ?_
  rintro x y7 ⟨rfl, b7⟩
  have HX7 := hidr (HS7.out.call b7)
  clear HS7 b7 N7 x0 x1 x2 g0 g1 g2
  obtain ⟨x0, x1, x2, g0, g1, g2⟩ := rdRow HX7.out.rd
  have c7 := HX7.out.rc.cell 11
  have d7 := HX7.out.rc.frozen 11
  obtain ⟨W7, HW7⟩ : ∃ y, Hid (y = (((y7.setCell ⟨w.heap.size, 0, none⟩ (.string s)).setCell ⟨w.heap.size, 1, none⟩ (.int .i64 p7)).setCell ⟨w.heap.size, 2, none⟩ (.int .i64 e7)).setCell ⟨w.heap.size + 1, 11, none⟩ (.string ⟨n7.toArray⟩)) := ⟨_, rfl⟩
  have HS8 := hidr ((HX7.out.read p7 e7).cell 11 (.string ⟨n7.toArray⟩))
  rw [← HW7.out] at HS8
  go_upto_region 16 with fail
  rw [← HW7.out]
  clear HW7 HX7 c7 d7 x0 x1 x2 g0 g1 g2
  obtain ⟨x0, x1, x2, g0, g1, g2⟩ := rdRow HS8.out.rd
  go_wp2_with fail
  refine (N8.out _).mono ?_
  rintro x y8 ⟨rfl, b8⟩
  have HX8 := hidr (HS8.out.call b8)
  clear HS8 b8 N8 x0 x1 x2 g0 g1 g2
  obtain ⟨x0, x1, x2, g0, g1, g2⟩ := rdRow HX8.out.rd
  have c8 := HX8.out.rc.cell 12
  have d8 := HX8.out.rc.frozen 12
  obtain ⟨W8, HW8⟩ : ∃ y, Hid (y = (((y8.setCell ⟨w.heap.size, 0, none⟩ (.string s)).setCell ⟨w.heap.size, 1, none⟩ (.int .i64 p8)).setCell ⟨w.heap.size, 2, none⟩ (.int .i64 e8)).setCell ⟨w.heap.size + 1, 12, none⟩ (.int .u32 (n8 : Int))) := ⟨_, rfl⟩
  have HS9 := hidr ((HX8.out.read p8 e8).cell 12 (.int .u32 (n8 : Int)))
  rw [← HW8.out] at HS9
  go_upto_region 18 with fail
  rw [← HW8.out]
  clear HW8 HX8 c8 d8 x0 x1 x2 g0 g1 g2 q8
  obtain ⟨x0, x1, x2, g0, g1, g2⟩ := rdRow HS9.out.rd
  go_wp2_with fail
  refine (N9.out _).mono ?_
  rintro x y9 ⟨rfl, b9⟩
  have HX9 := hidr (HS9.out.call b9)
  clear HS9 b9 N9 x0 x1 x2 g0 g1 g2
  obtain ⟨x0, x1, x2, g0, g1, g2⟩ := rdRow HX9.out.rd
  have c9 := HX9.out.rc.cell 13
  have d9 := HX9.out.rc.frozen 13
  obtain ⟨W9, HW9⟩ : ∃ y, Hid (y = (((y9.setCell ⟨w.heap.size, 0, none⟩ (.string s)).setCell ⟨w.heap.size, 1, none⟩ (.int .i64 p9)).setCell ⟨w.heap.size, 2, none⟩ (.int .i64 e9)).setCell ⟨w.heap.size + 1, 13, none⟩ (.int .i64 (n9 : Int))) := ⟨_, rfl⟩
  have HS10 := hidr ((HX9.out.read p9 e9).cell 13 (.int .i64 (n9 : Int)))
  rw [← HW9.out] at HS10
  go_upto_region 20 with fail
  rw [← HW9.out]
  clear HW9 HX9 c9 d9 x0 x1 x2 g0 g1 g2 q9
  obtain ⟨x0, x1, x2, g0, g1, g2⟩ := rdRow HS10.out.rd
  go_wp2_with fail
  refine (N10.out _).mono ?_
  rintro x y10 ⟨rfl, b10⟩
  have HX10 := hidr (HS10.out.call b10)
  clear HS10 b10 N10 x0 x1 x2 g0 g1 g2
  obtain ⟨x0, x1, x2, g0, g1, g2⟩ := rdRow HX10.out.rd
  have c10 := HX10.out.rc.cell 14
  have d10 := HX10.out.rc.frozen 14
  obtain ⟨W10, HW10⟩ : ∃ y, Hid (y = (((y10.setCell ⟨w.heap.size, 0, none⟩ (.string s)).setCell ⟨w.heap.size, 1, none⟩ (.int .i64 p10)).setCell ⟨w.heap.size, 2, none⟩ (.int .i64 e10)).setCell ⟨w.heap.size + 1, 14, none⟩ (.bool n10)) := ⟨_, rfl⟩
  have HS11 := hidr ((HX10.out.read p10 e10).cell 14 (.bool n10))
  rw [← HW10.out] at HS11
  go_upto_region 21 with fail
  rw [← HW10.out]
  clear HW10 HX10 c10 d10 x0 x1 x2 g0 g1 g2
  have HG : Hid (TkR w W10 s p10 e10 (({ R6 with index := n6, key := ⟨n7.toArray⟩, rpage := n8, rslot := n9, live := n10 } : RecV).cells ta da tc dc)) := HS11.out
  clear HS11
  rw [HR6.out] at HG
  have HF : Hid (TkR w W10 s p10 e10 (({ R with page := n0, op := ⟨n1, n2, ⟨n3.toArray⟩, ⟨n4.toArray⟩⟩, undo := n5, index := n6, key := ⟨n7.toArray⟩, rpage := n8, rslot := n9, live := n10 } : RecV).cells ta da tc dc)) := HG.out
  clear HG HR6
  obtain ⟨C, HC⟩ : ∃ C, Hid (C = (({ R with page := n0, op := ⟨n1, n2, ⟨n3.toArray⟩, ⟨n4.toArray⟩⟩, undo := n5, index := n6, key := ⟨n7.toArray⟩, rpage := n8, rslot := n9, live := n10 } : RecV).cells ta da tc dc)) := ⟨_, rfl⟩
  have HON : Hid (C.all (·.oneCell') = true ∧ C.size = 17) := by rw [HC.out]; exact ⟨ref_one _ _ _ _ _ _ _, rfl⟩
  have HF2 : Hid (TkR w W10 s p10 e10 C) := by show TkR _ _ _ _ _ _; rw [HC.out]; exact HF.out
  clear HF
  refine wp_region_noPanic ?_
  refine wp_region_held_drew (S := fun wy : World => wy.heap[w.heap.size]? = some (.cells (rdCells s p10 e10) 63 (0, 0)) ∧ wy.heap[w.heap.size + 1]? = some (.cells C 43 (0, 0))) cmixed ⟨HF2.out.rd, HF2.out.rc⟩ (fun hS0 => ?_)
  obtain ⟨v0, HV0⟩ : ∃ y, Hid (y = W10.drew) := ⟨_, rfl⟩
  have HT : Hid (TkR w v0 s p10 e10 C) := by show TkR _ _ _ _ _ _; rw [HV0.out]; exact HF2.out.call ((Below.refl _ _).drew)
  rw [← HV0.out] at hS0 ⊢
  clear HV0 HF2
  refine wpAnyH_take (i := 0) (v := .agg (rdCells s p10 e10)) (by simp only [List.getElem?_toArray, List.getElem?_cons_zero]; rfl) (by kernel_rfl) (by kernel_rfl) (by kernel_rfl) (fun _ _ _ h => h) (yields_loadRow (by rfl) _ _ (by rfl) w.heap.size (by rfl) _ _ (0, 0) (fun _ h => h.1) _ Try.underlying63 rfl (by kernel_rfl)) hS0 ?_
  try simp only [Act.put, List.setIfInBounds_toArray, List.set_cons_zero, List.set_cons_succ]
  refine wpAnyH_take (i := 1) (v := .agg C) (by simp only [List.getElem?_toArray, List.getElem?_cons_succ, List.getElem?_cons_zero]; rfl) (by kernel_rfl) (by kernel_rfl) (by kernel_rfl) (fun _ _ _ h => h) (yields_loadRow (by rfl) _ _ (by rfl) (w.heap.size + 1) (by rfl) _ _ (0, 0) (fun _ h => h.2) _ Try.underlying43 rfl (by rw [HON.out.2]; kernel_rfl)) hS0 ?_
  try simp only [Act.put, List.setIfInBounds_toArray, List.set_cons_zero, List.set_cons_succ]
  have HZ3 : Hid (v0.heap[w.heap.size + 1 + 1]? = some (.cells #[.string ⟨#[]⟩, .int .i64 0, .int .i64 0] 63 (0, 0))) := HT.out.z3
  have HZ4 : Hid (v0.heap[w.heap.size + 1 + 1 + 1]? = some (.cells zeroCellsR 43 (0, 0))) := HT.out.z4
  refine wpAnyH_ready (rs := [2]) (by kernel_rfl) (by simp) ?_
  refine AllReadyH.cons (i := 2) (by simp only [List.getElem?_toArray, List.getElem?_cons_succ, List.getElem?_cons_zero]; rfl) (fun K hK => ?_) AllReadyH.nil
  refine step_storeRow (by rfl) _ _ _ (by rfl) (by rfl) (w.heap.size + 1 + 1) (by rfl) (rdCells s p10 e10) #[.string ⟨#[]⟩, .int .i64 0, .int .i64 0] (by rfl) _ HZ3.out (by kernel_rfl) (by rfl) (by simp [rdCells, Value.oneCell']) ?_
  refine hK.out _ _ ⟨(setRow_other _ _ _ _ (by omega)).trans hS0.1, (setRow_other _ _ _ _ (by omega)).trans hS0.2⟩ (fun hS1 => ?_)
  clear hK K
  refine wpAnyH_ready (rs := [3]) (by kernel_rfl) (by simp) ?_
  refine AllReadyH.cons (i := 3) (by simp only [List.getElem?_toArray, List.getElem?_cons_succ, List.getElem?_cons_zero]; rfl) (fun K hK => ?_) AllReadyH.nil
  refine step_storeRow (by rfl) _ _ _ (by rfl) (by rfl) (w.heap.size + 1 + 1 + 1) (by rfl) C zeroCellsR (by rfl) _ ((setRow_other _ _ _ _ (by omega)).trans HZ4.out) (by rw [HON.out.2]; kernel_rfl) (by rw [HON.out.2]; rfl) HON.out.1 ?_
  refine hK.out _ _ ⟨(setRow_other _ _ _ _ (by omega)).trans hS1.1, (setRow_other _ _ _ _ (by omega)).trans hS1.2⟩ (fun hS2 => ?_)
  clear hK K
  refine wpAnyH_done (by kernel_rfl) ?_ _
  refine NoPanic.normal ?_
  obtain ⟨v2, HV2⟩ : ∃ y, Hid (y = (v0.setRow (w.heap.size + 1 + 1) (rdCells s p10 e10)).setRow (w.heap.size + 1 + 1 + 1) C) := ⟨_, rfl⟩
  have r3 : BlkR v2 (w.heap.size + 1 + 1) (rdCells s p10 e10) 63 := by rw [HV2.out]; exact (setRow_other _ _ _ _ (by omega)).trans (setRow_heap v0 _ _ _ _ _ HZ3.out)
  have r4 : BlkR v2 (w.heap.size + 1 + 1 + 1) C 43 := by rw [HV2.out]; exact setRow_heap _ _ _ _ _ _ ((setRow_other _ _ _ _ (by omega)).trans HZ4.out)
  have HBE : Hid (Below w.heap.size w v2) := by show Below _ _ _; rw [HV2.out]; exact below_setRow (below_setRow HT.out.bel (by omega) _) (by omega) _
  rw [← HV2.out]
  rw [HC.out] at r4
  clear HV2 HT HZ3 HZ4 hS0 hS1 hS2 HON HC
  obtain ⟨x0, x1, x2, g0, g1, g2⟩ := rdRow r3
  obtain ⟨z0, z1, z2, z3, z4, z5, z6, z7, z8, z9, z10, z11, z12, z13, z14, z15, z16⟩ := out_cells r4
  clear r3 r4
  go_wp2_with fail
  refine bodyPost_ret (v := .tuple #[.agg #[.string s, .int .i64 p10, .int .i64 e10], .agg (({ R with page := n0, op := ⟨n1, n2, ⟨n3.toArray⟩, ⟨n4.toArray⟩⟩, undo := n5, index := n6, key := ⟨n7.toArray⟩, rpage := n8, rslot := n9, live := n10 } : RecV).cells ta da tc dc)]) (by simp [results, Try.results24, go_sem, x0, x1, x2, z0, z1, z2, z3, z4, z5, z6, z7, z8, z9, z10, z11, z12, z13, z14, z15, z16, RecV.cells]) rfl ?_
  exact ⟨rfl, HBE.out⟩

end Go.Proofs.Ytndfjjcflbpdnaa
