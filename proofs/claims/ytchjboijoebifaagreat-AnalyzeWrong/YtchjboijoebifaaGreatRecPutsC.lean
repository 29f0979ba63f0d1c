/-
  The walks of rec.putChange and rec.putKey.
-/
import Derived.Test.YtchjboijoebifaaGreatRecEnc0C
import Derived.Test.YtchjboijoebifaaGreatWriterSafeC
set_option linter.unusedVariables false
set_option linter.unusedSimpArgs false
namespace Go.Proofs.YtchjboijoebifaaGreat
open Go.RowKit Go.Sort

def changeL (r : RecV) : List UInt8 := putL r.page 4 ++ (putL r.op.kind.toNat 1 ++ (putL r.op.at'.toNat 2 ++ (textB r.op.S ++ (textB r.op.old ++ putL r.undo.toNat 1))))

def rkeyL (r : RecV) : List UInt8 := putL r.index.toNat 2 ++ (textB r.key ++ (putL r.rpage 4 ++ (putL r.rslot.toNat 2 ++ putL r.live.toNat 1)))

theorem textB_le (s : ByteArray) : (textB s).length ≤ 65537 := by
  unfold textB
  split
  · rw [List.length_append, putL_length]; simp; omega
  · simp

set_option maxHeartbeats 1600000 in
set_option maxRecDepth 8000 in
theorem putChange_any (r : RecV) (ta da : Option Addr) (tc dc : Nat) (k n u : Nat) (hk : r.op.kind = (k : Int)) (hn : r.op.at' = (n : Int)) (hu : r.undo = (u : Int)) (hkb : k ≤ 255) (hnb : n ≤ 65535) (hub : u ≤ 255) (hpg : r.page < 4294967296) (hS : r.op.S.size ≤ 140737488351232) (hO : r.op.old.size ≤ 140737488351232) {w : World} {b : Nat} {l : List UInt8} {a : Option Addr} {c : Nat} (h : IsWriter w b l a c) (hl : l.length + 400000 ≤ 140737488355328) :
    Calls Tryz.prog 44 #[.pointer (some ⟨b, 0, none⟩), .agg (r.cells ta da tc dc)] w fun e w' => e = .returned (.tuple #[]) ∧ (∃ a' c', IsWriter w' b (l ++ changeL r) a' c') ∧ Below b w w' ∧ WSafe b w w' := by
  have hblt := h.lt
  obtain ⟨W, HW⟩ : ∃ W, Hid (W = w.alloc (.cells (r.cells ta da tc dc) 63)) := ⟨_, rfl⟩
  have hbel : Below w.heap.size w W := by rw [HW.out]; exact (Below.refl _ _).alloc (Nat.le_refl _) _
  have HP0 : Hid (BlkR W w.heap.size (r.cells ta da tc dc) 63) := by show BlkR _ _ _ _; rw [HW.out]; exact heap_alloc_new w _
  have HPAR : Hid (r.cells ta da tc dc = #[.int .i64 r.kind, .int .i64 r.tx, .int .u64 r.prev, .int .u64 r.next, .int .u32 r.page, .int .i64 r.op.kind, .int .i64 r.op.at', .string r.op.S, .string r.op.old, .int .i64 r.undo, .int .i64 r.index, .string r.key, .int .u32 r.rpage, .int .i64 r.rslot, .bool r.live, .slice ta r.txs.length tc, .slice da r.dirty.length dc]) := rfl
  have HB0 : Hid (Below b w W) := hbel.mono (Nat.le_of_lt hblt)
  have HS0 : Hid (WSafe b w W) := WSafe.of_below hbel
  have HI0 := hidr (h.below hbel)
  have hne : w.heap.size ≠ b := by omega
  clear h hbel
  have HKK := hidr hk
  have HNN := hidr hn
  have HUU := hidr hu
  have HCL : Hid (changeL r = putL r.page 4 ++ (putL k 1 ++ (putL n 2 ++ (textB r.op.S ++ (textB r.op.old ++ putL u 1))))) := by show _ = _; unfold changeL; rw [hk, hn, hu]; rfl
  rw [HCL.out]
  clear hk hn hu
  rw [HPAR.out]
  go_enter Tryz.func44, Tryz.ntmps44
  go_upto_region 1 with fail
  rw [← HPAR.out, show w.alloc (.cells (r.cells ta da tc dc) 63) = W from HW.out.symm]
  clear HW
  obtain ⟨l0, hl0⟩ : ∃ l0, l = l0 := ⟨_, rfl⟩
  have c1 : W.cell? ⟨w.heap.size, 4, none⟩ = some (.int .u32 r.page) := HP0.out.cell 4
  have q1 : IntKind.u64.wrap (r.page : Int) = (r.page : Int) := by rw [IntKind.wrap_u64]; omega
  go_wp2_with fail
  refine (wnumber_s HI0.out r.page 4 (by omega) (by first | omega | (simp only [List.length_append, putL_length, long1, long2, long4, long8]; omega))).mono ?_
  rintro e y1 ⟨rfl, ⟨a1, c'1, hw1⟩, b1, s1⟩
  have HP1 : Hid (BlkR y1 w.heap.size (r.cells ta da tc dc) 63) := s1 _ _ _ hne (by decide) HP0.out
  have HB1 : Hid (Below b w y1) := HB0.out.trans b1
  have HS1 : Hid (WSafe b w y1) := HS0.out.trans s1
  have HI1 := hidr hw1
  clear HP0 HB0 HS0 HI0 hw1 b1 s1 c1
  have c2 : y1.cell? ⟨w.heap.size, 5, none⟩ = some (.int .i64 (k : Int)) := by have := HP1.out.cell 5; rw [← HKK.out]; exact this
  have q2 : IntKind.u64.wrap (k : Int) = (k : Int) := by rw [IntKind.wrap_u64]; omega
  go_wp2_with fail
  refine (wnumber_s HI1.out k 1 (by omega) (by first | omega | (simp only [List.length_append, putL_length, long1, long2, long4, long8]; omega))).mono ?_
  rintro e y2 ⟨rfl, ⟨a2, c'2, hw2⟩, b2, s2⟩
  have HP2 : Hid (BlkR y2 w.heap.size (r.cells ta da tc dc) 63) := s2 _ _ _ hne (by decide) HP1.out
  have HB2 : Hid (Below b w y2) := HB1.out.trans b2
  have HS2 : Hid (WSafe b w y2) := HS1.out.trans s2
  have HI2 := hidr hw2
  clear HP1 HB1 HS1 HI1 hw2 b2 s2 c2
  have c3 : y2.cell? ⟨w.heap.size, 6, none⟩ = some (.int .i64 (n : Int)) := by have := HP2.out.cell 6; rw [← HNN.out]; exact this
  have q3 : IntKind.u64.wrap (n : Int) = (n : Int) := by rw [IntKind.wrap_u64]; omega
  go_wp2_with fail
  refine (wnumber_s HI2.out n 2 (by omega) (by first | omega | (simp only [List.length_append, putL_length, long1, long2, long4, long8]; omega))).mono ?_
  rintro e y3 ⟨rfl, ⟨a3, c'3, hw3⟩, b3, s3⟩
  have HP3 : Hid (BlkR y3 w.heap.size (r.cells ta da tc dc) 63) := s3 _ _ _ hne (by decide) HP2.out
  have HB3 : Hid (Below b w y3) := HB2.out.trans b3
  have HS3 : Hid (WSafe b w y3) := HS2.out.trans s3
  have HI3 := hidr hw3
  clear HP2 HB2 HS2 HI2 hw3 b3 s3 c3
  have c4 : y3.cell? ⟨w.heap.size, 7, none⟩ = some (.string r.op.S) := HP3.out.cell 7
  go_wp2_with fail
  refine (wtext_s HI3.out r.op.S hS (by first | omega | (simp only [List.length_append, putL_length, long1, long2, long4, long8]; omega))).mono ?_
  rintro e y4 ⟨rfl, ⟨a4, c'4, hw4⟩, b4, s4⟩
  have HP4 : Hid (BlkR y4 w.heap.size (r.cells ta da tc dc) 63) := s4 _ _ _ hne (by decide) HP3.out
  have HB4 : Hid (Below b w y4) := HB3.out.trans b4
  have HS4 : Hid (WSafe b w y4) := HS3.out.trans s4
  have HI4 := hidr hw4
  clear HP3 HB3 HS3 HI3 hw4 b4 s4 c4
  have c5 : y4.cell? ⟨w.heap.size, 8, none⟩ = some (.string r.op.old) := HP4.out.cell 8
  go_wp2_with fail
  refine (wtext_s HI4.out r.op.old hO (by first | omega | (simp only [List.length_append, putL_length, long1, long2, long4, long8]; have := textB_le r.op.S; omega))).mono ?_
  rintro e y5 ⟨rfl, ⟨a5, c'5, hw5⟩, b5, s5⟩
  have HP5 : Hid (BlkR y5 w.heap.size (r.cells ta da tc dc) 63) := s5 _ _ _ hne (by decide) HP4.out
  have HB5 : Hid (Below b w y5) := HB4.out.trans b5
  have HS5 : Hid (WSafe b w y5) := HS4.out.trans s5
  have HI5 := hidr hw5
  clear HP4 HB4 HS4 HI4 hw5 b5 s5 c5
  have c6 : y5.cell? ⟨w.heap.size, 9, none⟩ = some (.int .i64 (u : Int)) := by have := HP5.out.cell 9; rw [← HUU.out]; exact this
  have q6 : IntKind.u64.wrap (u : Int) = (u : Int) := by rw [IntKind.wrap_u64]; omega
  go_wp2_with fail
  refine (wnumber_s HI5.out u 1 (by omega) (by first | omega | (simp only [List.length_append, putL_length, long1, long2, long4, long8]; have := textB_le r.op.S; have := textB_le r.op.old; omega))).mono ?_
  rintro e y6 ⟨rfl, ⟨a6, c'6, hw6⟩, b6, s6⟩
  have HP6 : Hid (BlkR y6 w.heap.size (r.cells ta da tc dc) 63) := s6 _ _ _ hne (by decide) HP5.out
  have HB6 : Hid (Below b w y6) := HB5.out.trans b6
  have HS6 : Hid (WSafe b w y6) := HS5.out.trans s6
  have HI6 := hidr hw6
  clear HP5 HB5 HS5 HI5 hw6 b6 s6 c6
  go_wp2_with fail
  go_end0
  refine ⟨rfl, ⟨a6, c'6, ?_⟩, HB6.out, HS6.out⟩
  have := HI6.out
  simp only [List.append_assoc, long1, long2, long4, long8] at this
  exact this

set_option maxHeartbeats 1600000 in
set_option maxRecDepth 8000 in
theorem putKey_any (r : RecV) (ta da : Option Addr) (tc dc : Nat) (i s : Nat) (hi : r.index = (i : Int)) (hs : r.rslot = (s : Int)) (hib : i ≤ 65535) (hsb : s ≤ 65535) (hpg : r.rpage < 4294967296) (hK : r.key.size ≤ 140737488351232) {w : World} {b : Nat} {l : List UInt8} {a : Option Addr} {c : Nat} (h : IsWriter w b l a c) (hl : l.length + 400000 ≤ 140737488355328) :
    Calls Tryz.prog 45 #[.pointer (some ⟨b, 0, none⟩), .agg (r.cells ta da tc dc)] w fun e w' => e = .returned (.tuple #[]) ∧ (∃ a' c', IsWriter w' b (l ++ rkeyL r) a' c') ∧ Below b w w' ∧ WSafe b w w' := by
  have hblt := h.lt
  obtain ⟨W, HW⟩ : ∃ W, Hid (W = w.alloc (.cells (r.cells ta da tc dc) 63)) := ⟨_, rfl⟩
  have hbel : Below w.heap.size w W := by rw [HW.out]; exact (Below.refl _ _).alloc (Nat.le_refl _) _
  have HP0 : Hid (BlkR W w.heap.size (r.cells ta da tc dc) 63) := by show BlkR _ _ _ _; rw [HW.out]; exact heap_alloc_new w _
  have HPAR : Hid (r.cells ta da tc dc = #[.int .i64 r.kind, .int .i64 r.tx, .int .u64 r.prev, .int .u64 r.next, .int .u32 r.page, .int .i64 r.op.kind, .int .i64 r.op.at', .string r.op.S, .string r.op.old, .int .i64 r.undo, .int .i64 r.index, .string r.key, .int .u32 r.rpage, .int .i64 r.rslot, .bool r.live, .slice ta r.txs.length tc, .slice da r.dirty.length dc]) := rfl
  have HB0 : Hid (Below b w W) := hbel.mono (Nat.le_of_lt hblt)
  have HS0 : Hid (WSafe b w W) := WSafe.of_below hbel
  have HI0 := hidr (h.below hbel)
  have hne : w.heap.size ≠ b := by omega
  clear h hbel
  have HII := hidr hi
  have HSS := hidr hs
  have HCL : Hid (rkeyL r = putL i 2 ++ (textB r.key ++ (putL r.rpage 4 ++ (putL s 2 ++ putL r.live.toNat 1)))) := by show _ = _; unfold rkeyL; rw [hi, hs]; rfl
  rw [HCL.out]
  clear hi hs
  rw [HPAR.out]
  go_enter Tryz.func45, Tryz.ntmps45
  go_upto_region 1 with fail
  rw [← HPAR.out, show w.alloc (.cells (r.cells ta da tc dc) 63) = W from HW.out.symm]
  clear HW
  obtain ⟨l0, hl0⟩ : ∃ l0, l = l0 := ⟨_, rfl⟩
  have c1 : W.cell? ⟨w.heap.size, 10, none⟩ = some (.int .i64 (i : Int)) := by have := HP0.out.cell 10; rw [← HII.out]; exact this
  have q1 : IntKind.u64.wrap (i : Int) = (i : Int) := by rw [IntKind.wrap_u64]; omega
  go_wp2_with fail
  refine (wnumber_s HI0.out i 2 (by omega) (by first | omega | (simp only [List.length_append, putL_length, long1, long2, long4, long8]; omega))).mono ?_
  rintro e y1 ⟨rfl, ⟨a1, c'1, hw1⟩, b1, s1⟩
  have HP1 : Hid (BlkR y1 w.heap.size (r.cells ta da tc dc) 63) := s1 _ _ _ hne (by decide) HP0.out
  have HB1 : Hid (Below b w y1) := HB0.out.trans b1
  have HS1 : Hid (WSafe b w y1) := HS0.out.trans s1
  have HI1 := hidr hw1
  clear HP0 HB0 HS0 HI0 hw1 b1 s1 c1
  have c2 : y1.cell? ⟨w.heap.size, 11, none⟩ = some (.string r.key) := HP1.out.cell 11
  go_wp2_with fail
  refine (wtext_s HI1.out r.key hK (by first | omega | (simp only [List.length_append, putL_length, long1, long2, long4, long8]; omega))).mono ?_
  rintro e y2 ⟨rfl, ⟨a2, c'2, hw2⟩, b2, s2⟩
  have HP2 : Hid (BlkR y2 w.heap.size (r.cells ta da tc dc) 63) := s2 _ _ _ hne (by decide) HP1.out
  have HB2 : Hid (Below b w y2) := HB1.out.trans b2
  have HS2 : Hid (WSafe b w y2) := HS1.out.trans s2
  have HI2 := hidr hw2
  clear HP1 HB1 HS1 HI1 hw2 b2 s2 c2
  have c3 : y2.cell? ⟨w.heap.size, 12, none⟩ = some (.int .u32 r.rpage) := HP2.out.cell 12
  have q3 : IntKind.u64.wrap (r.rpage : Int) = (r.rpage : Int) := by rw [IntKind.wrap_u64]; omega
  go_wp2_with fail
  refine (wnumber_s HI2.out r.rpage 4 (by omega) (by first | omega | (simp only [List.length_append, putL_length, long1, long2, long4, long8]; have := textB_le r.key; omega))).mono ?_
  rintro e y3 ⟨rfl, ⟨a3, c'3, hw3⟩, b3, s3⟩
  have HP3 : Hid (BlkR y3 w.heap.size (r.cells ta da tc dc) 63) := s3 _ _ _ hne (by decide) HP2.out
  have HB3 : Hid (Below b w y3) := HB2.out.trans b3
  have HS3 : Hid (WSafe b w y3) := HS2.out.trans s3
  have HI3 := hidr hw3
  clear HP2 HB2 HS2 HI2 hw3 b3 s3 c3
  have c4 : y3.cell? ⟨w.heap.size, 13, none⟩ = some (.int .i64 (s : Int)) := by have := HP3.out.cell 13; rw [← HSS.out]; exact this
  have q4 : IntKind.u64.wrap (s : Int) = (s : Int) := by rw [IntKind.wrap_u64]; omega
  go_wp2_with fail
  refine (wnumber_s HI3.out s 2 (by omega) (by first | omega | (simp only [List.length_append, putL_length, long1, long2, long4, long8]; have := textB_le r.key; omega))).mono ?_
  rintro e y4 ⟨rfl, ⟨a4, c'4, hw4⟩, b4, s4⟩
  have HP4 : Hid (BlkR y4 w.heap.size (r.cells ta da tc dc) 63) := s4 _ _ _ hne (by decide) HP3.out
  have HB4 : Hid (Below b w y4) := HB3.out.trans b4
  have HS4 : Hid (WSafe b w y4) := HS3.out.trans s4
  have HI4 := hidr hw4
  clear HP3 HB3 HS3 HI3 hw4 b4 s4 c4
  have c5 : y4.cell? ⟨w.heap.size, 14, none⟩ = some (.bool r.live) := HP4.out.cell 14
  go_wp2_with fail
  refine (wbool_s HI4.out r.live (by first | omega | (simp only [List.length_append, putL_length, long1, long2, long4, long8]; have := textB_le r.key; omega))).mono ?_
  rintro e y5 ⟨rfl, ⟨a5, c'5, hw5⟩, b5, s5⟩
  have HP5 : Hid (BlkR y5 w.heap.size (r.cells ta da tc dc) 63) := s5 _ _ _ hne (by decide) HP4.out
  have HB5 : Hid (Below b w y5) := HB4.out.trans b5
  have HS5 : Hid (WSafe b w y5) := HS4.out.trans s5
  have HI5 := hidr hw5
  clear HP4 HB4 HS4 HI4 hw5 b5 s5 c5
  go_wp2_with fail
  go_end0
  refine ⟨rfl, ⟨a5, c'5, ?_⟩, HB5.out, HS5.out⟩
  have := HI5.out
  simp only [List.append_assoc, long1, long2, long4, long8] at this
  exact this

end Go.Proofs.YtchjboijoebifaaGreat
