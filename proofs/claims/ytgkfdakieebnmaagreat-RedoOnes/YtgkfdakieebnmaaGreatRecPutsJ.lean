/-
  The walks of rec.putChange and rec.putKey.
-/
import Derived.Test.YtgkfdakieebnmaaGreatRecCheck0J
import Derived.Test.YtgkfdakieebnmaaGreatWriterSafeC
import Derived.Deep.Cut
import Derived.Deep.CutRange
set_option linter.unusedVariables false
set_option linter.unusedSimpArgs false
namespace Go.Proofs.YtgkfdakieebnmaaGreat
open Go.RowKit Go.Sort

def changeL (r : RecV) : List UInt8 := putL r.page 4 ++ (putL r.op.kind.toNat 1 ++ (putL r.op.at'.toNat 2 ++ (textB r.op.S ++ (textB r.op.old ++ putL r.undo.toNat 1))))

def rkeyL (r : RecV) : List UInt8 := putL r.index.toNat 2 ++ (textB r.key ++ (putL r.rpage 4 ++ (putL r.rslot.toNat 2 ++ putL r.live.toNat 1)))

theorem textB_le (s : ByteArray) : (textB s).length ≤ 65537 := by
  unfold textB
  split
  · rw [List.length_append, putL_length]; simp; omega
  · simp

set_option maxHeartbeats 1600000 in
set_option maxRecDepth 8000 in
theorem putChange_any (r : RecV) (ta da : Option Addr) (tc dc : Nat) (k n u : Nat) (hk : r.op.kind = (k : Int)) (hn : r.op.at' = (n : Int)) (hu : r.undo = (u : Int)) (hkb : k ≤ 255) (hnb : n ≤ 65535) (hub : u ≤ 255) (hpg : r.page < 4294967296) (hS : r.op.S.size ≤ 140737488351232) (hO : r.op.old.size ≤ 140737488351232) {w : World} {b : Nat} {l : List UInt8} {a : Option Addr} {c : Nat} (h : IsWriter w b l a c) (hl : l.length + 400000 ≤ 140737488355328) :
    Calls Tryz.prog 139 #[.pointer (some ⟨b, 0, none⟩), .agg (r.cells ta da tc dc)] w fun e w' => e = .returned (.tuple #[]) ∧ (∃ a' c', IsWriter w' b (l ++ changeL r) a' c') ∧ Below b w w' ∧ WSafe b w w' := by
  have hblt := h.lt
  obtain ⟨W, HW⟩ : ∃ W, Hid (W = w.alloc (.cells (r.cells ta da tc dc) 64)) := ⟨_, rfl⟩
  have hbel : Below w.heap.size w W := by rw [HW.out]; exact (Below.refl _ _).alloc (Nat.le_refl _) _
  have HP0 : Hid (BlkR W w.heap.size (r.cells ta da tc dc) 64) := by show BlkR _ _ _ _; rw [HW.out]; exact heap_alloc_new w _
  have HPAR : Hid (r.cells ta da tc dc = #[.int .i64 r.kind, .int .i64 r.tx, .int .u64 r.prev, .int .u64 r.next, .int .u32 r.page, .int .i64 r.op.kind, .int .i64 r.op.at', .string r.op.S, .string r.op.old, .int .i64 r.undo, .int .i64 r.index, .string r.key, .int .u32 r.rpage, .int .i64 r.rslot, .bool r.live, .slice ta r.txs.length tc, .slice da r.dirty.length dc]) := rfl
  have HB0 : Hid (Below b w W) := hbel.mono (Nat.le_of_lt hblt)
  have HS0 : Hid (WSafe b w W) := WSafe.of_below hbel
  have HI0 := hidr (h.below hbel)
  have hne : w.heap.size ≠ b := by omega
  clear h hbel
  have HKK := hidr hk
  have HNN := hidr hn
  have HUU := hidr hu
  have HCL : Hid (changeL r = putL r.page 4 ++ (putL k 1 ++ (putL n 2 ++ (textB r.op.S ++ (textB r.op.old ++ putL u 1))))) := by show _ = _; unfold changeL; rw [hk, hn, hu]; rfl
  rw [HCL.out]
  clear hk hn hu
  rw [HPAR.out]
  go_enter Tryz.func139, Tryz.ntmps139
  go_upto_region 1 with fail
  rw [← HPAR.out, show w.alloc (.cells (r.cells ta da tc dc) 64) = W from HW.out.symm]
  clear HW
  obtain ⟨l0, hl0⟩ : ∃ l0, l = l0 := ⟨_, rfl⟩
  have c1 : W.cell? ⟨w.heap.size, 4, none⟩ = some (.int .u32 r.page) := HP0.out.cell 4
  have q1 : IntKind.u64.wrap (r.page : Int) = (r.page : Int) := by rw [IntKind.wrap_u64]; omega
  go_wp2_with fail
  refine (wnumber_s HI0.out r.page 4 (by omega) (by first | omega | (simp only [List.length_append, putL_length, long1, long2, long4, long8]; omega))).mono ?_
  rintro e y1 ⟨rfl, ⟨a1, c'1, hw1⟩, b1, s1⟩
  have HP1 : Hid (BlkR y1 w.heap.size (r.cells ta da tc dc) 64) := s1 _ _ _ hne (by decide) HP0.out
  have HB1 : Hid (Below b w y1) := HB0.out.trans b1
  have HS1 : Hid (WSafe b w y1) := HS0.out.trans s1
  have HI1 := hidr hw1
  clear HP0 HB0 HS0 HI0 hw1 b1 s1 c1
  have c2 : y1.cell? ⟨w.heap.size, 5, none⟩ = some (.int .i64 (k : Int)) := by have := HP1.out.cell 5; rw [← HKK.out]; exact this
  have q2 : IntKind.u64.wrap (k : Int) = (k : Int) := by rw [IntKind.wrap_u64]; omega
  go_wp2_with fail
  refine (wnumber_s HI1.out k 1 (by omega) (by first | omega | (simp only [List.length_append, putL_length, long1, long2, long4, long8]; omega))).mono ?_
  rintro e y2 ⟨rfl, ⟨a2, c'2, hw2⟩, b2, s2⟩
  have HP2 : Hid (BlkR y2 w.heap.size (r.cells ta da tc dc) 64) := s2 _ _ _ hne (by decide) HP1.out
  have HB2 : Hid (Below b w y2) := HB1.out.trans b2
  have HS2 : Hid (WSafe b w y2) := HS1.out.trans s2
  have HI2 := hidr hw2
  clear HP1 HB1 HS1 HI1 hw2 b2 s2 c2
  have c3 : y2.cell? ⟨w.heap.size, 6, none⟩ = some (.int .i64 (n : Int)) := by have := HP2.out.cell 6; rw [← HNN.out]; exact this
  have q3 : IntKind.u64.wrap (n : Int) = (n : Int) := by rw [IntKind.wrap_u64]; omega
  go_wp2_with fail
  refine (wnumber_s HI2.out n 2 (by omega) (by first | omega | (simp only [List.length_append, putL_length, long1, long2, long4, long8]; omega))).mono ?_
  rintro e y3 ⟨rfl, ⟨a3, c'3, hw3⟩, b3, s3⟩
  have HP3 : Hid (BlkR y3 w.heap.size (r.cells ta da tc dc) 64) := s3 _ _ _ hne (by decide) HP2.out
  have HB3 : Hid (Below b w y3) := HB2.out.trans b3
  have HS3 : Hid (WSafe b w y3) := HS2.out.trans s3
  have HI3 := hidr hw3
  clear HP2 HB2 HS2 HI2 hw3 b3 s3 c3
  have c4 : y3.cell? ⟨w.heap.size, 7, none⟩ = some (.string r.op.S) := HP3.out.cell 7
  go_wp2_with fail
  refine (wtext_s HI3.out r.op.S hS (by first | omega | (simp only [List.length_append, putL_length, long1, long2, long4, long8]; omega))).mono ?_
  rintro e y4 ⟨rfl, ⟨a4, c'4, hw4⟩, b4, s4⟩
  have HP4 : Hid (BlkR y4 w.heap.size (r.cells ta da tc dc) 64) := s4 _ _ _ hne (by decide) HP3.out
  have HB4 : Hid (Below b w y4) := HB3.out.trans b4
  have HS4 : Hid (WSafe b w y4) := HS3.out.trans s4
  have HI4 := hidr hw4
  clear HP3 HB3 HS3 HI3 hw4 b4 s4 c4
  have c5 : y4.cell? ⟨w.heap.size, 8, none⟩ = some (.string r.op.old) := HP4.out.cell 8
  go_wp2_with fail
  refine (wtext_s HI4.out r.op.old hO (by first | omega | (simp only [List.length_append, putL_length, long1, long2, long4, long8]; have := textB_le r.op.S; omega))).mono ?_
  rintro e y5 ⟨rfl, ⟨a5, c'5, hw5⟩, b5, s5⟩
  have HP5 : Hid (BlkR y5 w.heap.size (r.cells ta da tc dc) 64) := s5 _ _ _ hne (by decide) HP4.out
  have HB5 : Hid (Below b w y5) := HB4.out.trans b5
  have HS5 : Hid (WSafe b w y5) := HS4.out.trans s5
  have HI5 := hidr hw5
  clear HP4 HB4 HS4 HI4 hw5 b5 s5 c5
  have c6 : y5.cell? ⟨w.heap.size, 9, none⟩ = some (.int .i64 (u : Int)) := by have := HP5.out.cell 9; rw [← HUU.out]; exact this
  have q6 : IntKind.u64.wrap (u : Int) = (u : Int) := by rw [IntKind.wrap_u64]; omega
  go_wp2_with fail
  refine (wnumber_s HI5.out u 1 (by omega) (by first | omega | (simp only [List.length_append, putL_length, long1, long2, long4, long8]; have := textB_le r.op.S; have := textB_le r.op.old; omega))).mono ?_
  rintro e y6 ⟨rfl, ⟨a6, c'6, hw6⟩, b6, s6⟩
  have HP6 : Hid (BlkR y6 w.heap.size (r.cells ta da tc dc) 64) := s6 _ _ _ hne (by decide) HP5.out
  have HB6 : Hid (Below b w y6) := HB5.out.trans b6
  have HS6 : Hid (WSafe b w y6) := HS5.out.trans s6
  have HI6 := hidr hw6
  clear HP5 HB5 HS5 HI5 hw6 b6 s6 c6
  go_wp2_with fail
  go_end0
  refine ⟨rfl, ⟨a6, c'6, ?_⟩, HB6.out, HS6.out⟩
  have := HI6.out
  simp only [List.append_assoc, long1, long2, long4, long8] at this
  exact this

set_option maxHeartbeats 1600000 in
set_option maxRecDepth 8000 in
theorem putKey_any (r : RecV) (ta da : Option Addr) (tc dc : Nat) (i s : Nat) (hi : r.index = (i : Int)) (hs : r.rslot = (s : Int)) (hib : i ≤ 65535) (hsb : s ≤ 65535) (hpg : r.rpage < 4294967296) (hK : r.key.size ≤ 140737488351232) {w : World} {b : Nat} {l : List UInt8} {a : Option Addr} {c : Nat} (h : IsWriter w b l a c) (hl : l.length + 400000 ≤ 140737488355328) :
    Calls Tryz.prog 140 #[.pointer (some ⟨b, 0, none⟩), .agg (r.cells ta da tc dc)] w fun e w' => e = .returned (.tuple #[]) ∧ (∃ a' c', IsWriter w' b (l ++ rkeyL r) a' c') ∧ Below b w w' ∧ WSafe b w w' := by
  have hblt := h.lt
  obtain ⟨W, HW⟩ : ∃ W, Hid (W = w.alloc (.cells (r.cells ta da tc dc) 64)) := ⟨_, rfl⟩
  have hbel : Below w.heap.size w W := by rw [HW.out]; exact (Below.refl _ _).alloc (Nat.le_refl _) _
  have HP0 : Hid (BlkR W w.heap.size (r.cells ta da tc dc) 64) := by show BlkR _ _ _ _; rw [HW.out]; exact heap_alloc_new w _
  have HPAR : Hid (r.cells ta da tc dc = #[.int .i64 r.kind, .int .i64 r.tx, .int .u64 r.prev, .int .u64 r.next, .int .u32 r.page, .int .i64 r.op.kind, .int .i64 r.op.at', .string r.op.S, .string r.op.old, .int .i64 r.undo, .int .i64 r.index, .string r.key, .int .u32 r.rpage, .int .i64 r.rslot, .bool r.live, .slice ta r.txs.length tc, .slice da r.dirty.length dc]) := rfl
  have HB0 : Hid (Below b w W) := hbel.mono (Nat.le_of_lt hblt)
  have HS0 : Hid (WSafe b w W) := WSafe.of_below hbel
  have HI0 := hidr (h.below hbel)
  have hne : w.heap.size ≠ b := by omega
  clear h hbel
  have HII := hidr hi
  have HSS := hidr hs
  have HCL : Hid (rkeyL r = putL i 2 ++ (textB r.key ++ (putL r.rpage 4 ++ (putL s 2 ++ putL r.live.toNat 1)))) := by show _ = _; unfold rkeyL; rw [hi, hs]; rfl
  rw [HCL.out]
  clear hi hs
  rw [HPAR.out]
  go_enter Tryz.func140, Tryz.ntmps140
  go_upto_region 1 with fail
  rw [← HPAR.out, show w.alloc (.cells (r.cells ta da tc dc) 64) = W from HW.out.symm]
  clear HW
  obtain ⟨l0, hl0⟩ : ∃ l0, l = l0 := ⟨_, rfl⟩
  have c1 : W.cell? ⟨w.heap.size, 10, none⟩ = some (.int .i64 (i : Int)) := by have := HP0.out.cell 10; rw [← HII.out]; exact this
  have q1 : IntKind.u64.wrap (i : Int) = (i : Int) := by rw [IntKind.wrap_u64]; omega
  go_wp2_with fail
  refine (wnumber_s HI0.out i 2 (by omega) (by first | omega | (simp only [List.length_append, putL_length, long1, long2, long4, long8]; omega))).mono ?_
  rintro e y1 ⟨rfl, ⟨a1, c'1, hw1⟩, b1, s1⟩
  have HP1 : Hid (BlkR y1 w.heap.size (r.cells ta da tc dc) 64) := s1 _ _ _ hne (by decide) HP0.out
  have HB1 : Hid (Below b w y1) := HB0.out.trans b1
  have HS1 : Hid (WSafe b w y1) := HS0.out.trans s1
  have HI1 := hidr hw1
  clear HP0 HB0 HS0 HI0 hw1 b1 s1 c1
  have c2 : y1.cell? ⟨w.heap.size, 11, none⟩ = some (.string r.key) := HP1.out.cell 11
  go_wp2_with fail
  refine (wtext_s HI1.out r.key hK (by first | omega | (simp only [List.length_append, putL_length, long1, long2, long4, long8]; omega))).mono ?_
  rintro e y2 ⟨rfl, ⟨a2, c'2, hw2⟩, b2, s2⟩
  have HP2 : Hid (BlkR y2 w.heap.size (r.cells ta da tc dc) 64) := s2 _ _ _ hne (by decide) HP1.out
  have HB2 : Hid (Below b w y2) := HB1.out.trans b2
  have HS2 : Hid (WSafe b w y2) := HS1.out.trans s2
  have HI2 := hidr hw2
  clear HP1 HB1 HS1 HI1 hw2 b2 s2 c2
  have c3 : y2.cell? ⟨w.heap.size, 12, none⟩ = some (.int .u32 r.rpage) := HP2.out.cell 12
  have q3 : IntKind.u64.wrap (r.rpage : Int) = (r.rpage : Int) := by rw [IntKind.wrap_u64]; omega
  go_wp2_with fail
  refine (wnumber_s HI2.out r.rpage 4 (by omega) (by first | omega | (simp only [List.length_append, putL_length, long1, long2, long4, long8]; have := textB_le r.key; omega))).mono ?_
  rintro e y3 ⟨rfl, ⟨a3, c'3, hw3⟩, b3, s3⟩
  have HP3 : Hid (BlkR y3 w.heap.size (r.cells ta da tc dc) 64) := s3 _ _ _ hne (by decide) HP2.out
  have HB3 : Hid (Below b w y3) := HB2.out.trans b3
  have HS3 : Hid (WSafe b w y3) := HS2.out.trans s3
  have HI3 := hidr hw3
  clear HP2 HB2 HS2 HI2 hw3 b3 s3 c3
  have c4 : y3.cell? ⟨w.heap.size, 13, none⟩ = some (.int .i64 (s : Int)) := by have := HP3.out.cell 13; rw [← HSS.out]; exact this
  have q4 : IntKind.u64.wrap (s : Int) = (s : Int) := by rw [IntKind.wrap_u64]; omega
  go_wp2_with fail
  refine (wnumber_s HI3.out s 2 (by omega) (by first | omega | (simp only [List.length_append, putL_length, long1, long2, long4, long8]; have := textB_le r.key; omega))).mono ?_
  rintro e y4 ⟨rfl, ⟨a4, c'4, hw4⟩, b4, s4⟩
  have HP4 : Hid (BlkR y4 w.heap.size (r.cells ta da tc dc) 64) := s4 _ _ _ hne (by decide) HP3.out
  have HB4 : Hid (Below b w y4) := HB3.out.trans b4
  have HS4 : Hid (WSafe b w y4) := HS3.out.trans s4
  have HI4 := hidr hw4
  clear HP3 HB3 HS3 HI3 hw4 b4 s4 c4
  have c5 : y4.cell? ⟨w.heap.size, 14, none⟩ = some (.bool r.live) := HP4.out.cell 14
  go_wp2_with fail
  refine (wbool_s HI4.out r.live (by first | omega | (simp only [List.length_append, putL_length, long1, long2, long4, long8]; have := textB_le r.key; omega))).mono ?_
  rintro e y5 ⟨rfl, ⟨a5, c'5, hw5⟩, b5, s5⟩
  have HP5 : Hid (BlkR y5 w.heap.size (r.cells ta da tc dc) 64) := s5 _ _ _ hne (by decide) HP4.out
  have HB5 : Hid (Below b w y5) := HB4.out.trans b5
  have HS5 : Hid (WSafe b w y5) := HS4.out.trans s5
  have HI5 := hidr hw5
  clear HP4 HB4 HS4 HI4 hw5 b5 s5 c5
  go_wp2_with fail
  go_end0
  refine ⟨rfl, ⟨a5, c'5, ?_⟩, HB5.out, HS5.out⟩
  have := HI5.out
  simp only [List.append_assoc, long1, long2, long4, long8] at this
  exact this

end Go.Proofs.YtgkfdakieebnmaaGreat

namespace Go.Proofs.YtgkfdakieebnmaaGreat
open Go.RowKit Go.Sort

def txL (t : TxV) : List UInt8 := putL t.1.toNat 4 ++ (putL t.2.1.toNat 1 ++ (putL t.2.2.1 8 ++ putL t.2.2.2 8))
def txsL (L : List TxV) : List UInt8 := putL L.length 2 ++ L.flatMap txL
def diL (t : DiV) : List UInt8 := putL t.1 4 ++ putL t.2 8
def disL (L : List DiV) : List UInt8 := putL L.length 2 ++ L.flatMap diL

theorem flat_len {α : Type} (f : α → List UInt8) (m : Nat) (hf : ∀ t, (f t).length ≤ m) : ∀ (L : List α), (L.flatMap f).length ≤ m * L.length
  | [] => by simp
  | t :: L => by
    have := flat_len f m hf L
    have h2 := hf t
    rw [List.flatMap_cons, List.length_append, List.length_cons, Nat.mul_add]
    omega
theorem txL_len (L : List TxV) (k : Nat) : ((L.take k).flatMap txL).length ≤ 21 * k := by
  have := flat_len txL 21 (fun t => by simp [txL, putL_length]) (L.take k)
  have h2 : (L.take k).length ≤ k := List.length_take_le _ _
  omega
theorem diL_len (L : List DiV) (k : Nat) : ((L.take k).flatMap diL).length ≤ 21 * k := by
  have := flat_len diL 12 (fun t => by simp [diL, putL_length]) (L.take k)
  have h2 : (L.take k).length ≤ k := List.length_take_le _ _
  omega

set_option maxHeartbeats 1600000 in
set_option maxRecDepth 8000 in
theorem putTxs_any (L : List TxV) (la : Option Addr) (lc : Nat) {w : World} {b : Nat} {l : List UInt8} {a : Option Addr} {c : Nat} (h : IsWriter w b l a c) (hL : TxsAt w la L) (hb : ∀ x, la = some x → L ≠ [] → x.block < b) (hm : ∀ i (hi : i < L.length), (0 ≤ L[i].1 ∧ L[i].1 ≤ 2147483647) ∧ (0 ≤ L[i].2.1 ∧ L[i].2.1 ≤ 3) ∧ L[i].2.2.1 < 18446744073709551616 ∧ L[i].2.2.2 < 18446744073709551616) (hn : L.length ≤ 256) (hl : l.length + 400000 ≤ 140737488355328) :
    Calls Tryz.prog 141 #[.pointer (some ⟨b, 0, none⟩), .slice la L.length lc] w fun e w' => e = .returned (.tuple #[]) ∧ (∃ a' c', IsWriter w' b (l ++ txsL L) a' c') ∧ Below b w w' ∧ WSafe b w w' := by
  have hblt := h.lt
  have HI0 := hidr h
  have HLL := hidr hL
  have HBB := hidr hb
  have HMM := hidr hm
  clear h hL hb hm
  have q0 : IntKind.u64.wrap (L.length : Int) = (L.length : Int) := by rw [IntKind.wrap_u64]; omega
  go_enter Tryz.func141, Tryz.ntmps141
  go_wp2_with fail
  refine (wnumber_s HI0.out L.length 2 (by omega) (by omega)).mono ?_
  rintro e y1 ⟨rfl, ⟨a1, c1, hw1⟩, b1, s1⟩
  have HI1 : Hid (IsWriter y1 b (l ++ (putL L.length 2 ++ ((L.take 0).flatMap txL))) a1 c1) := by show IsWriter _ _ _ _ _; simpa [long2] using hw1
  have HB1 := hidr b1
  have HS1 := hidr s1
  clear hw1 b1 s1 HI0
  go_wp2_with fail
  go_loopw [13] (fun x wr => ∃ (k : Nat) (ar : Option Addr) (cr : Nat), x = .int .i64 k ∧ k ≤ L.length ∧ Hid (IsWriter wr b (l ++ (putL L.length 2 ++ ((L.take k).flatMap txL))) ar cr) ∧ Hid (Below b w wr) ∧ Hid (WSafe b w wr)) (fun x _ => L.length - (intOf x).toNat)
  case atStart => exact ⟨0, a1, c1, rfl, Nat.zero_le _, HI1, HB1, HS1⟩
  case round =>
    obtain ⟨k, ar, cr, rfl, hk, HI, HB, HS⟩ := hrel
    clear HI1 HB1 HS1
    by_cases hlt : k < L.length
    · have d1 : decide ((k : Int) < (L.length : Int)) = true := by simp; omega
      have i1 : (0 : Int) ≤ (k : Int) := by omega
      have i2 : (k : Int) < (L.length : Int) := by omega
      obtain ⟨b1, o1, rfl, g1⟩ : ∃ b1 o1, la = some ⟨b1, o1, none⟩ ∧ TxAt wr b1 (o1 + k * 4) L[k] := by
        rcases HLL.out with h | ⟨b1, o1, e, hb, h⟩
        · rw [h] at hlt; simp at hlt
        · have hne : L ≠ [] := fun e' => by rw [e'] at hlt; simp at hlt
          exact ⟨b1, o1, e, (h k hlt).same (HB.out.block b1 (HBB.out _ e hne))⟩
      have hlen : ((L.take k).flatMap txL).length ≤ 21 * k := txL_len L k
      have HT1 : Hid ((L.take (k + 1)).flatMap txL = (L.take k).flatMap txL ++ txL L[k]) := by
        show _ = _
        rw [List.take_succ_eq_append_getElem hlt, List.flatMap_append]
        simp
      have hmk := HMM.out k hlt
      generalize L[k] = t at *
      obtain ⟨t0, t1, t2, t3⟩ := t
      obtain ⟨p0, p1, p2, p3⟩ := g1
      simp only at p0 p1 p2 p3
      simp only at hmk
      obtain ⟨hm1, hm2, hm3, hm4⟩ := hmk
      obtain ⟨m0, rfl⟩ := Int.eq_ofNat_of_zero_le hm1.1
      obtain ⟨m1, rfl⟩ := Int.eq_ofNat_of_zero_le hm2.1
      have hm1' : m0 ≤ 2147483647 := by omega
      have hm2' : m1 ≤ 3 := by omega
      clear hm1 hm2
      have hbz : b < wr.heap.size := HI.out.lt
      have hne : wr.heap.size ≠ b := by omega
      obtain ⟨Z0, HZ⟩ : ∃ Z0, Hid (Z0 = wr.alloc (.cells #[.int .i64 (m0 : Int), .int .i64 (m1 : Int), .int .u64 t2, .int .u64 t3] 161)) := ⟨_, rfl⟩
      have hbel : Below wr.heap.size wr Z0 := by rw [HZ.out]; exact (Below.refl _ _).alloc (Nat.le_refl _) _
      have HP0 : Hid (BlkR Z0 wr.heap.size #[.int .i64 (m0 : Int), .int .i64 (m1 : Int), .int .u64 t2, .int .u64 t3] 161) := by show BlkR _ _ _ _; rw [HZ.out]; exact heap_alloc_new wr _
      have HI0 := hidr (HI.out.below hbel)
      have HB0 : Hid (Below b w Z0) := HB.out.trans (hbel.mono (Nat.le_of_lt hbz))
      have HS0 : Hid (WSafe b w Z0) := HS.out.trans (WSafe.of_below hbel)
      clear hbel
      go_upto_region 4 with fail
      rw [show wr.alloc (.cells #[.int .i64 (m0 : Int), .int .i64 (m1 : Int), .int .u64 t2, .int .u64 t3] 161) = Z0 from HZ.out.symm]
      clear HZ HI HB HS
      have z1 : Z0.cell? ⟨wr.heap.size, 0, none⟩ = some (.int .i64 (m0 : Int)) := HP0.out.cell 0
      have q1 : IntKind.u64.wrap (m0 : Int) = (m0 : Int) := by rw [IntKind.wrap_u64]; omega
      go_wp2_with fail
      refine (wnumber_s HI0.out m0 4 (by omega) (by simp only [List.length_append, putL_length, long1, long2, long4, long8]; omega)).mono ?_
      rintro e y1 ⟨rfl, ⟨a1, c'1, hw1⟩, b1, s1⟩
      have HP1 : Hid (BlkR y1 wr.heap.size #[.int .i64 (m0 : Int), .int .i64 (m1 : Int), .int .u64 t2, .int .u64 t3] 161) := s1 _ _ _ hne (by decide) HP0.out
      have HB1 : Hid (Below b w y1) := HB0.out.trans b1
      have HS1 : Hid (WSafe b w y1) := HS0.out.trans s1
      have HI1 := hidr hw1
      clear HP0 HB0 HS0 HI0 hw1 b1 s1 z1
      have z2 : y1.cell? ⟨wr.heap.size, 1, none⟩ = some (.int .i64 (m1 : Int)) := HP1.out.cell 1
      have q2 : IntKind.u64.wrap (m1 : Int) = (m1 : Int) := by rw [IntKind.wrap_u64]; omega
      go_wp2_with fail
      refine (wnumber_s HI1.out m1 1 (by omega) (by simp only [List.length_append, putL_length, long1, long2, long4, long8]; omega)).mono ?_
      rintro e y2 ⟨rfl, ⟨a2, c'2, hw2⟩, b2, s2⟩
      have HP2 : Hid (BlkR y2 wr.heap.size #[.int .i64 (m0 : Int), .int .i64 (m1 : Int), .int .u64 t2, .int .u64 t3] 161) := s2 _ _ _ hne (by decide) HP1.out
      have HB2 : Hid (Below b w y2) := HB1.out.trans b2
      have HS2 : Hid (WSafe b w y2) := HS1.out.trans s2
      have HI2 := hidr hw2
      clear HP1 HB1 HS1 HI1 hw2 b2 s2 z2
      have z3 : y2.cell? ⟨wr.heap.size, 2, none⟩ = some (.int .u64 t2) := HP2.out.cell 2
      go_wp2_with fail
      refine (wnumber_s HI2.out t2 8 (by omega) (by simp only [List.length_append, putL_length, long1, long2, long4, long8]; omega)).mono ?_
      rintro e y3 ⟨rfl, ⟨a3, c'3, hw3⟩, b3, s3⟩
      have HP3 : Hid (BlkR y3 wr.heap.size #[.int .i64 (m0 : Int), .int .i64 (m1 : Int), .int .u64 t2, .int .u64 t3] 161) := s3 _ _ _ hne (by decide) HP2.out
      have HB3 : Hid (Below b w y3) := HB2.out.trans b3
      have HS3 : Hid (WSafe b w y3) := HS2.out.trans s3
      have HI3 := hidr hw3
      clear HP2 HB2 HS2 HI2 hw3 b3 s3 z3
      have z4 : y3.cell? ⟨wr.heap.size, 3, none⟩ = some (.int .u64 t3) := HP3.out.cell 3
      go_wp2_with fail
      refine (wnumber_s HI3.out t3 8 (by omega) (by simp only [List.length_append, putL_length, long1, long2, long4, long8]; omega)).mono ?_
      rintro e y4 ⟨rfl, ⟨a4, c'4, hw4⟩, b4, s4⟩
      have HP4 : Hid (BlkR y4 wr.heap.size #[.int .i64 (m0 : Int), .int .i64 (m1 : Int), .int .u64 t2, .int .u64 t3] 161) := s4 _ _ _ hne (by decide) HP3.out
      have HB4 : Hid (Below b w y4) := HB3.out.trans b4
      have HS4 : Hid (WSafe b w y4) := HS3.out.trans s4
      have HI4 := hidr hw4
      clear HP3 HB3 HS3 HI3 hw4 b4 s4 z4
      have HIX : Hid (IsWriter y4 b (l ++ (putL L.length 2 ++ (L.take (k + 1)).flatMap txL)) a4 c'4) := by
        have := HI4.out
        show IsWriter _ _ _ _ _
        rw [HT1.out]
        simp only [List.append_assoc, long1, long2, long4, long8] at this ⊢
        exact this
      clear HT1
      go_wp2_with fail
      go_roundw
      case rel => exact ⟨k + 1, a4, c'4, by go_num, by omega, HIX, HB4, HS4⟩
      case measure => simp [intOf]; omega
    · have d1 : decide ((k : Int) < (L.length : Int)) = false := by simp; omega
      obtain rfl : k = L.length := by omega
      go_wp2_with fail
      go_end0
      refine ⟨rfl, ⟨ar, cr, ?_⟩, HB.out, HS.out⟩
      have := HI.out
      rw [List.take_length] at this
      exact this

set_option maxHeartbeats 1600000 in
set_option maxRecDepth 8000 in
theorem putDirty_any (L : List DiV) (la : Option Addr) (lc : Nat) {w : World} {b : Nat} {l : List UInt8} {a : Option Addr} {c : Nat} (h : IsWriter w b l a c) (hL : DisAt w la L) (hb : ∀ x, la = some x → L ≠ [] → x.block < b) (hm : ∀ i (hi : i < L.length), L[i].1 < 4294967296 ∧ L[i].2 < 18446744073709551616) (hn : L.length ≤ 256) (hl : l.length + 400000 ≤ 140737488355328) :
    Calls Tryz.prog 142 #[.pointer (some ⟨b, 0, none⟩), .slice la L.length lc] w fun e w' => e = .returned (.tuple #[]) ∧ (∃ a' c', IsWriter w' b (l ++ disL L) a' c') ∧ Below b w w' ∧ WSafe b w w' := by
  have hblt := h.lt
  have HI0 := hidr h
  have HLL := hidr hL
  have HBB := hidr hb
  have HMM := hidr hm
  clear h hL hb hm
  have q0 : IntKind.u64.wrap (L.length : Int) = (L.length : Int) := by rw [IntKind.wrap_u64]; omega
  go_enter Tryz.func142, Tryz.ntmps142
  go_wp2_with fail
  refine (wnumber_s HI0.out L.length 2 (by omega) (by omega)).mono ?_
  rintro e y1 ⟨rfl, ⟨a1, c1, hw1⟩, b1, s1⟩
  have HI1 : Hid (IsWriter y1 b (l ++ (putL L.length 2 ++ ((L.take 0).flatMap diL))) a1 c1) := by show IsWriter _ _ _ _ _; simpa [long2] using hw1
  have HB1 := hidr b1
  have HS1 := hidr s1
  clear hw1 b1 s1 HI0
  go_wp2_with fail
  go_loopw [13] (fun x wr => ∃ (k : Nat) (ar : Option Addr) (cr : Nat), x = .int .i64 k ∧ k ≤ L.length ∧ Hid (IsWriter wr b (l ++ (putL L.length 2 ++ ((L.take k).flatMap diL))) ar cr) ∧ Hid (Below b w wr) ∧ Hid (WSafe b w wr)) (fun x _ => L.length - (intOf x).toNat)
  case atStart => exact ⟨0, a1, c1, rfl, Nat.zero_le _, HI1, HB1, HS1⟩
  case round =>
    obtain ⟨k, ar, cr, rfl, hk, HI, HB, HS⟩ := hrel
    clear HI1 HB1 HS1
    by_cases hlt : k < L.length
    · have d1 : decide ((k : Int) < (L.length : Int)) = true := by simp; omega
      have i1 : (0 : Int) ≤ (k : Int) := by omega
      have i2 : (k : Int) < (L.length : Int) := by omega
      obtain ⟨b1, o1, rfl, g1⟩ : ∃ b1 o1, la = some ⟨b1, o1, none⟩ ∧ DiAt wr b1 (o1 + k * 2) L[k] := by
        rcases HLL.out with h | ⟨b1, o1, e, hb, h⟩
        · rw [h] at hlt; simp at hlt
        · have hne : L ≠ [] := fun e' => by rw [e'] at hlt; simp at hlt
          exact ⟨b1, o1, e, (h k hlt).same (HB.out.block b1 (HBB.out _ e hne))⟩
      have hlen : ((L.take k).flatMap diL).length ≤ 21 * k := diL_len L k
      have HT1 : Hid ((L.take (k + 1)).flatMap diL = (L.take k).flatMap diL ++ diL L[k]) := by
        show _ = _
        rw [List.take_succ_eq_append_getElem hlt, List.flatMap_append]
        simp
      have hmk := HMM.out k hlt
      generalize L[k] = t at *
      obtain ⟨t0, t1⟩ := t
      obtain ⟨p0, p1⟩ := g1
      simp only at p0 p1
      simp only at hmk
      obtain ⟨hm1, hm2⟩ := hmk
      have hbz : b < wr.heap.size := HI.out.lt
      have hne : wr.heap.size ≠ b := by omega
      obtain ⟨Z0, HZ⟩ : ∃ Z0, Hid (Z0 = wr.alloc (.cells #[.int .u32 t0, .int .u64 t1] 166)) := ⟨_, rfl⟩
      have hbel : Below wr.heap.size wr Z0 := by rw [HZ.out]; exact (Below.refl _ _).alloc (Nat.le_refl _) _
      have HP0 : Hid (BlkR Z0 wr.heap.size #[.int .u32 t0, .int .u64 t1] 166) := by show BlkR _ _ _ _; rw [HZ.out]; exact heap_alloc_new wr _
      have HI0 := hidr (HI.out.below hbel)
      have HB0 : Hid (Below b w Z0) := HB.out.trans (hbel.mono (Nat.le_of_lt hbz))
      have HS0 : Hid (WSafe b w Z0) := HS.out.trans (WSafe.of_below hbel)
      clear hbel
      go_upto_region 4 with fail
      rw [show wr.alloc (.cells #[.int .u32 t0, .int .u64 t1] 166) = Z0 from HZ.out.symm]
      clear HZ HI HB HS
      have z1 : Z0.cell? ⟨wr.heap.size, 0, none⟩ = some (.int .u32 t0) := HP0.out.cell 0
      have q1 : IntKind.u64.wrap (t0 : Int) = (t0 : Int) := by rw [IntKind.wrap_u64]; omega
      go_wp2_with fail
      refine (wnumber_s HI0.out t0 4 (by omega) (by simp only [List.length_append, putL_length, long1, long2, long4, long8]; omega)).mono ?_
      rintro e y1 ⟨rfl, ⟨a1, c'1, hw1⟩, b1, s1⟩
      have HP1 : Hid (BlkR y1 wr.heap.size #[.int .u32 t0, .int .u64 t1] 166) := s1 _ _ _ hne (by decide) HP0.out
      have HB1 : Hid (Below b w y1) := HB0.out.trans b1
      have HS1 : Hid (WSafe b w y1) := HS0.out.trans s1
      have HI1 := hidr hw1
      clear HP0 HB0 HS0 HI0 hw1 b1 s1 z1
      have z2 : y1.cell? ⟨wr.heap.size, 1, none⟩ = some (.int .u64 t1) := HP1.out.cell 1
      go_wp2_with fail
      refine (wnumber_s HI1.out t1 8 (by omega) (by simp only [List.length_append, putL_length, long1, long2, long4, long8]; omega)).mono ?_
      rintro e y2 ⟨rfl, ⟨a2, c'2, hw2⟩, b2, s2⟩
      have HP2 : Hid (BlkR y2 wr.heap.size #[.int .u32 t0, .int .u64 t1] 166) := s2 _ _ _ hne (by decide) HP1.out
      have HB2 : Hid (Below b w y2) := HB1.out.trans b2
      have HS2 : Hid (WSafe b w y2) := HS1.out.trans s2
      have HI2 := hidr hw2
      clear HP1 HB1 HS1 HI1 hw2 b2 s2 z2
      have HIX : Hid (IsWriter y2 b (l ++ (putL L.length 2 ++ (L.take (k + 1)).flatMap diL)) a2 c'2) := by
        have := HI2.out
        show IsWriter _ _ _ _ _
        rw [HT1.out]
        simp only [List.append_assoc, long1, long2, long4, long8] at this ⊢
        exact this
      clear HT1
      go_wp2_with fail
      go_roundw
      case rel => exact ⟨k + 1, a2, c'2, by go_num, by omega, HIX, HB2, HS2⟩
      case measure => simp [intOf]; omega
    · have d1 : decide ((k : Int) < (L.length : Int)) = false := by simp; omega
      obtain rfl : k = L.length := by omega
      go_wp2_with fail
      go_end0
      refine ⟨rfl, ⟨ar, cr, ?_⟩, HB.out, HS.out⟩
      have := HI.out
      rw [List.take_length] at this
      exact this

end Go.Proofs.YtgkfdakieebnmaaGreat

namespace Go.Proofs.YtgkfdakieebnmaaGreat
open Go.RowKit Go.Sort

theorem wpList_moveL {P : Program} {ops : Array Oper} {rest : List Oper} {o : Oper} {a : Act} {Q : Exit → Act → World → Prop} {W : World} (hgd : o.guard = none) (x : Operand) (ho : o.op = .move x) (h : wpList P ops Q rest (a.put o.dst (a.eval x)) W) : wpList P ops Q (o :: rest) a W := by
  refine wpList_plain hgd fun K hK => ?_
  unfold Oper.wp
  rw [Go.BigFrame.run_move x ho]
  exact hK _ _ h

def encR (r : RecV) : List UInt8 :=
  putL r.kind.toNat 1 ++ (putL r.tx.toNat 4 ++ (putL r.prev 8 ++ ((if nextB r then putL r.next 8 else []) ++ ((if changeB r then changeL r else []) ++ ((if keyB r then rkeyL r else []) ++ (if listsB r then txsL r.txs ++ disL r.dirty else []))))))

structure MayR (r : RecV) : Prop where
  kind : 1 ≤ r.kind ∧ r.kind ≤ 8
  tx : 0 ≤ r.tx ∧ r.tx ≤ 2147483647
  same : sameR r (namedV r) = true
  change : changeB r = true → r.page ≠ 0 ∧ (0 ≤ r.op.kind ∧ r.op.kind ≤ 255) ∧ (0 ≤ r.op.at' ∧ r.op.at' ≤ 511) ∧ r.op.S.size ≤ 512 ∧ r.op.old.size ≤ 512 ∧ (0 ≤ r.undo ∧ r.undo ≤ 2)
  key : keyB r = true → (0 ≤ r.index ∧ r.index ≤ 65535) ∧ r.key.size ≤ 64 ∧ (0 ≤ r.rslot ∧ r.rslot ≤ 65535)
  lists : listsB r = true → r.txs.length ≤ 64 ∧ r.dirty.length ≤ 256 ∧ ∀ t ∈ r.txs, (0 ≤ t.1 ∧ t.1 ≤ 2147483647) ∧ (1 ≤ t.2.1 ∧ t.2.1 ≤ 3)

theorem chk_bounds {o : OpV} (h : chkB o = true) : (0 ≤ o.kind ∧ o.kind ≤ 255) ∧ (0 ≤ o.at' ∧ o.at' ≤ 511) ∧ o.S.size ≤ 512 ∧ o.old.size ≤ 512 := by
  unfold chkB at h
  simp only [Bool.and_eq_true, decide_eq_true_eq] at h
  obtain ⟨⟨h1, h2⟩, h3⟩ := h
  have h4 := (mayB_iff o).1 h3
  unfold mayP at h4
  by_cases k1 : o.kind = 1
  · rw [if_pos k1] at h4; omega
  rw [if_neg k1] at h4
  by_cases k2 : o.kind = 2
  · rw [if_pos k2] at h4; omega
  rw [if_neg k2] at h4
  by_cases k3 : o.kind = 3
  · rw [if_pos k3] at h4; omega
  rw [if_neg k3] at h4
  by_cases k4 : o.kind = 4
  · rw [if_pos k4] at h4; omega
  rw [if_neg k4] at h4
  by_cases k5 : o.kind = 5
  · rw [if_pos k5] at h4; omega
  rw [if_neg k5] at h4
  by_cases k6 : o.kind = 6
  · rw [if_pos k6] at h4; omega
  rw [if_neg k6] at h4
  by_cases k7 : o.kind = 7
  · rw [if_pos k7] at h4; omega
  rw [if_neg k7] at h4
  exact h4.elim

theorem may_parts {r : RecV} (h : mayR r = true) : MayR r := by
  unfold mayR at h
  simp only [Bool.and_eq_true, Bool.or_eq_true, Bool.not_eq_true', decide_eq_true_eq] at h
  obtain ⟨h1, h2, h3, h4, h5, h6⟩ := h
  refine ⟨h1, h2, h3, fun hc => ?_, fun hk => ?_, fun hl => ?_⟩
  · have := h4.resolve_left (by rw [hc]; simp)
    unfold cmayB at this
    simp only [Bool.and_eq_true, decide_eq_true_eq] at this
    obtain ⟨a, b, c⟩ := this
    obtain ⟨b1, b2, b3, b4⟩ := chk_bounds b
    refine ⟨a, b1, b2, b3, b4, ?_⟩
    by_cases k : r.kind = 2
    · rw [if_pos k] at c; simp only [decide_eq_true_eq] at c; omega
    · rw [if_neg k] at c; simpa using c
  · have := h5.resolve_left (by rw [hk]; simp)
    unfold kmayB at this
    simp only [Bool.and_eq_true, decide_eq_true_eq] at this
    exact this
  · have := h6.resolve_left (by rw [hl]; simp)
    unfold lmayB at this
    simp only [Bool.and_eq_true, decide_eq_true_eq, List.all_eq_true] at this
    refine ⟨this.1, this.2.1, fun t ht => ?_⟩
    have := this.2.2 t ht
    unfold txMay at this
    simpa using this

structure RecV.Wide (r : RecV) : Prop where
  txs : ∀ i (hi : i < r.txs.length), r.txs[i].2.2.1 < 18446744073709551616 ∧ r.txs[i].2.2.2 < 18446744073709551616
  dirty : ∀ i (hi : i < r.dirty.length), r.dirty[i].1 < 4294967296 ∧ r.dirty[i].2 < 18446744073709551616

set_option maxHeartbeats 1600000 in
set_option maxRecDepth 8000 in
theorem renc_ok (r : RecV) (ta da : Option Addr) (tc dc : Nat) (w : World) (h : r.Ok w ta da) (hm : mayR r = true) (hwd : r.Wide) :
    Calls Tryz.prog 76 #[.agg (r.cells ta da tc dc)] w fun e w' => e = .returned (.tuple #[.string ⟨(encR r).toArray⟩, .int .i64 0]) ∧ Below w.heap.size w w' := by
  have HM := hidr (may_parts hm)
  obtain ⟨k, hk⟩ := Int.eq_ofNat_of_zero_le (show 0 ≤ r.kind by have := HM.out.kind; omega)
  obtain ⟨x, hx⟩ := Int.eq_ofNat_of_zero_le (show 0 ≤ r.tx by have := HM.out.tx; omega)
  have hkn : k ≤ 8 := by have := HM.out.kind.2; omega
  have hxn : x ≤ 2147483647 := by have := HM.out.tx.2; omega
  have hpn := h.prev
  have hnn := h.next
  obtain ⟨W, HW⟩ : ∃ W, Hid (W = w.alloc (.cells (r.cells ta da tc dc) 64)) := ⟨_, rfl⟩
  have HB : Hid (Below w.heap.size w W) := by show Below _ _ _; rw [HW.out]; exact (Below.refl _ _).alloc (Nat.le_refl _) _
  have HP : Hid (BlkR W w.heap.size (r.cells ta da tc dc) 64) := by show BlkR _ _ _ _; rw [HW.out]; exact heap_alloc_new w _
  have HPAR : Hid (r.cells ta da tc dc = #[.int .i64 r.kind, .int .i64 r.tx, .int .u64 r.prev, .int .u64 r.next, .int .u32 r.page, .int .i64 r.op.kind, .int .i64 r.op.at', .string r.op.S, .string r.op.old, .int .i64 r.undo, .int .i64 r.index, .string r.key, .int .u32 r.rpage, .int .i64 r.rslot, .bool r.live, .slice ta r.txs.length tc, .slice da r.dirty.length dc]) := rfl
  have HCK : Hid (Calls Tryz.prog 69 #[.agg (r.cells ta da tc dc)] W fun e w' => e = .returned (.int .i64 0) ∧ Below W.heap.size W w') := by
    have := rcheck_any r ta da tc dc W (h.below HB.out)
    unfold rcheckE at this
    rw [hm] at this
    exact this
  have HN : Hid (∀ wx, Calls Tryz.prog 60 #[.agg (r.cells ta da tc dc)] wx fun e w' => e = .returned (.bool (nextB r)) ∧ Below wx.heap.size wx w') := fun wx => hasNext_any r ta da tc dc wx
  have HC : Hid (∀ wx, Calls Tryz.prog 61 #[.agg (r.cells ta da tc dc)] wx fun e w' => e = .returned (.bool (changeB r)) ∧ Below wx.heap.size wx w') := fun wx => hasChange_any r ta da tc dc wx
  have HK : Hid (∀ wx, Calls Tryz.prog 63 #[.agg (r.cells ta da tc dc)] wx fun e w' => e = .returned (.bool (keyB r)) ∧ Below wx.heap.size wx w') := fun wx => hasKey_any r ta da tc dc wx
  have HL : Hid (∀ wx, Calls Tryz.prog 65 #[.agg (r.cells ta da tc dc)] wx fun e w' => e = .returned (.bool (listsB r)) ∧ Below wx.heap.size wx w') := fun wx => hasLists_any r ta da tc dc wx
  have HKI := hidr hk
  have HXI := hidr hx
  have HOK := hidr h
  have HWD := hidr hwd
  clear h hm hk hx hwd
  rw [HPAR.out]
  go_enter Tryz.func76, Tryz.ntmps76
  go_upto_region 1 with fail
  rw [← HPAR.out, show w.alloc (.cells (r.cells ta da tc dc) 64) = W from HW.out.symm]
  clear HW
  refine wp_region_lit ?_
  refine wpList_loadRow rfl _ _ rfl w.heap.size rfl (r.cells ta da tc dc) _ (0, 0) HP.out _ Tryz.underlying64 rfl (by kernel_rfl) ?_
  go_wp2_with fail
  refine HCK.out.mono ?_
  rintro e w1 ⟨rfl, b1⟩
  have HP1 := hidr (HP.out.under b1 HP.out.lt)
  have HB1 := hidr (below_chain HB.out b1)
  clear HP HB b1 HCK
  go_wp2_with fail
  refine (new_writer w1).mono ?_
  rintro e w2 ⟨rfl, hw2, b2⟩
  have hpz : w.heap.size < w1.heap.size := HP1.out.lt
  have HP2 := hidr (HP1.out.under b2 hpz)
  have HB2 := hidr (below_chain HB1.out b2)
  have HW2 := hidr hw2
  clear HP1 HB1 b2 hw2
  generalize w1.heap.size = B at *
  have k0 : w2.cell? ⟨w.heap.size, 0, none⟩ = some (.int .i64 (k : Int)) := by have := HP2.out.cell 0; rw [← HKI.out]; exact this
  have q0 : IntKind.u64.wrap (k : Int) = (k : Int) := by rw [IntKind.wrap_u64]; omega
  go_wp2_with fail
  refine (wnumber_any HW2.out k 1 (by omega) (by show 0 + 8 ≤ _; omega)).mono ?_
  rintro e w3 ⟨rfl, ⟨a3, c3, hw3⟩, b3⟩
  have HP3 := hidr (HP2.out.under b3 hpz)
  have HB3 : Hid (Below w.heap.size w w3) := HB2.out.trans (b3.mono (Nat.le_of_lt hpz))
  have HW3 := hidr hw3
  clear HP2 HB2 HW2 b3 hw3 k0 q0
  have k1 : w3.cell? ⟨w.heap.size, 1, none⟩ = some (.int .i64 (x : Int)) := by have := HP3.out.cell 1; rw [← HXI.out]; exact this
  have q1 : IntKind.u64.wrap (x : Int) = (x : Int) := by rw [IntKind.wrap_u64]; omega
  go_wp2_with fail
  refine (wnumber_any HW3.out x 4 (by omega) (by simp only [List.length_append, putL_length, List.length_nil, long1]; omega)).mono ?_
  rintro e w4 ⟨rfl, ⟨a4, c4, hw4⟩, b4⟩
  have HP4 := hidr (HP3.out.under b4 hpz)
  have HB4 : Hid (Below w.heap.size w w4) := HB3.out.trans (b4.mono (Nat.le_of_lt hpz))
  have HW4 := hidr hw4
  clear HP3 HB3 HW3 b4 hw4 k1 q1
  have k2 : w4.cell? ⟨w.heap.size, 2, none⟩ = some (.int .u64 r.prev) := HP4.out.cell 2
  go_wp2_with fail
  refine (wnumber_any HW4.out r.prev 8 hpn (by simp only [List.length_append, putL_length, List.length_nil, long1, long4]; omega)).mono ?_
  rintro e w5 ⟨rfl, ⟨a5, c5, hw5⟩, b5⟩
  have HP5 := hidr (HP4.out.under b5 hpz)
  have HB5 : Hid (Below w.heap.size w w5) := HB4.out.trans (b5.mono (Nat.le_of_lt hpz))
  obtain ⟨L0, HL0⟩ : ∃ L0, Hid (L0 = putL r.kind.toNat 1 ++ (putL r.tx.toNat 4 ++ putL r.prev 8)) := ⟨_, rfl⟩
  have hL0 : L0.length = 13 := by rw [HL0.out]; simp [putL_length]
  have HW5 : Hid (IsWriter w5 B L0 a5 c5) := by
    have : L0 = [] ++ putL k (longOf 1) ++ putL x (longOf 4) ++ putL r.prev (longOf 8) := by
      rw [HL0.out, HKI.out, HXI.out]; simp [long1, long4, long8]
    show IsWriter _ _ _ _ _
    rw [this]
    exact hw5
  have HENC : Hid (encR r = L0 ++ ((if nextB r then putL r.next 8 else []) ++ ((if changeB r then changeL r else []) ++ ((if keyB r then rkeyL r else []) ++ (if listsB r then txsL r.txs ++ disL r.dirty else []))))) := by
    show _ = _
    rw [HL0.out]
    unfold encR
    simp only [List.append_assoc]
  clear HP4 HB4 HW4 b5 hw5 k2 HL0
  go_upto_region 8 with fail
  refine wp_region_lit ?_
  refine wpList_loadRow rfl _ _ rfl w.heap.size rfl (r.cells ta da tc dc) _ (0, 0) HP5.out _ Tryz.underlying64 rfl (by kernel_rfl) ?_
  go_wp2_with fail
  refine (HN.out _).mono ?_
  rintro e z6 ⟨rfl, bz⟩
  have HQ6 := hidr (HP5.out.under bz HP5.out.lt)
  have HD6 := hidr (below_chain HB5.out bz)
  have HV6 := hidr (HW5.out.below bz)
  clear HP5 HB5 HW5 bz
  go_upto_if 27 with fail
  go_cut [] from 26 to 31 (fun wx => ∃ (ar : Option Addr) (cr : Nat), Hid (IsWriter wx B (L0 ++ (if nextB r then putL r.next 8 else [])) ar cr) ∧ Hid (BlkR wx w.heap.size (r.cells ta da tc dc) 64) ∧ Hid (Below w.heap.size w wx))
  case first =>
    cases hb : nextB r with
    | false =>
      go_wp2_with fail
      go_meet
      case rel => exact ⟨_, _, by show IsWriter _ _ _ _ _; simpa [hb] using HV6.out, HQ6, HD6⟩
    | true =>
      have k3 : z6.cell? ⟨w.heap.size, 3, none⟩ = some (.int .u64 r.next) := HQ6.out.cell 3
      go_wp2_with fail
      refine (wnumber_any HV6.out r.next 8 hnn (by omega)).mono ?_
      rintro e y ⟨rfl, ⟨ay, cy, hwy⟩, b7⟩
      have HX : Hid (IsWriter y B (L0 ++ putL r.next 8) ay cy) := hwy
      have HY := hidr (HQ6.out.under b7 hpz)
      have HZ : Hid (Below w.heap.size w y) := HD6.out.trans (b7.mono (Nat.le_of_lt hpz))
      clear hwy b7
      go_wp2_with fail
      go_meet
      case rel => exact ⟨_, _, by show IsWriter _ _ _ _ _; simpa [hb] using HX.out, HY, HZ⟩
  case rest =>
    obtain ⟨a26, c26, HW6', HP6, HB6⟩ := hcut
    clear HQ6 HD6 HV6
    generalize wc = v6 at *
    obtain ⟨L6, HL6⟩ : ∃ X, Hid (X = L0 ++ (if nextB r then putL r.next 8 else [])) := ⟨_, rfl⟩
    have HW6 : Hid (IsWriter v6 B L6 a26 c26) := by show IsWriter _ _ _ _ _; rw [HL6.out]; exact HW6'.out
    have hL6 : L6.length ≤ 100 := by rw [HL6.out, List.length_append]; split <;> simp [putL_length] <;> omega
    clear HW6'
    go_upto_region 10 with fail
    refine wp_region_lit ?_
    refine wpList_loadRow rfl _ _ rfl w.heap.size rfl (r.cells ta da tc dc) _ (0, 0) HP6.out _ Tryz.underlying64 rfl (by kernel_rfl) ?_
    go_wp2_with fail
    refine (HC.out _).mono ?_
    rintro e z7 ⟨rfl, bz⟩
    have HQ7 := hidr (HP6.out.under bz HP6.out.lt)
    have HD7 := hidr (below_chain HB6.out bz)
    have HV7 := hidr (HW6.out.below bz)
    clear HP6 HB6 HW6 bz
    go_upto_if 33 with fail
    go_cut [] from 32 to 36 (fun wx => ∃ (ar : Option Addr) (cr : Nat), Hid (IsWriter wx B (L6 ++ (if changeB r then changeL r else [])) ar cr) ∧ Hid (BlkR wx w.heap.size (r.cells ta da tc dc) 64) ∧ Hid (Below w.heap.size w wx))
    case first =>
      cases hb : changeB r with
      | false =>
        go_wp2_with fail
        go_meet
        case rel => exact ⟨_, _, by show IsWriter _ _ _ _ _; simpa [hb] using HV7.out, HQ7, HD7⟩
      | true =>
        have hch := HM.out.change hb
        obtain ⟨_, h2, h3, h4, h5, h6⟩ := hch
        obtain ⟨ok, hok⟩ := Int.eq_ofNat_of_zero_le h2.1
        obtain ⟨oa, hoa⟩ := Int.eq_ofNat_of_zero_le h3.1
        obtain ⟨ou, hou⟩ := Int.eq_ofNat_of_zero_le h6.1
        have HPC := hidr (putChange_any r ta da tc dc ok oa ou hok hoa hou (by omega) (by omega) (by omega) HOK.out.page (by omega) (by omega) HV7.out (by omega))
        clear h2 h3 h4 h5 h6 hok hoa hou
        go_upto_region 11 with fail
        refine wp_region_lit ?_
        refine wpList_moveL rfl _ rfl ?_
        try simp only [Act.put, List.setIfInBounds_toArray, List.set_cons_zero, List.set_cons_succ]
        refine wpList_loadRow rfl _ _ rfl w.heap.size rfl (r.cells ta da tc dc) _ (0, 0) HQ7.out _ Tryz.underlying64 rfl (by kernel_rfl) ?_
        go_wp2_with fail
        refine (HPC.out).mono ?_
        rintro e y ⟨rfl, ⟨ay, cy, hwy⟩, b7, s7⟩
        have HX := hidr hwy
        have HY := hidr (HQ7.out.under b7 hpz)
        have HZ : Hid (Below w.heap.size w y) := HD7.out.trans (b7.mono (Nat.le_of_lt hpz))
        clear hwy b7 s7
        go_wp2_with fail
        go_meet
        case rel => exact ⟨_, _, by show IsWriter _ _ _ _ _; simpa [hb] using HX.out, HY, HZ⟩
    case rest =>
      obtain ⟨a27, c27, HW7', HP7, HB7⟩ := hcut
      clear HQ7 HD7 HV7
      generalize wc = v7 at *
      obtain ⟨L7, HL7⟩ : ∃ X, Hid (X = L6 ++ (if changeB r then changeL r else [])) := ⟨_, rfl⟩
      have HW7 : Hid (IsWriter v7 B L7 a27 c27) := by show IsWriter _ _ _ _ _; rw [HL7.out]; exact HW7'.out
      have hL7 : L7.length ≤ 500000 := by rw [HL7.out, List.length_append]; have h1 := textB_le r.op.S; have h2 := textB_le r.op.old; split <;> simp [changeL, putL_length] <;> omega
      clear HW7'
      go_upto_region 12 with fail
      refine wp_region_lit ?_
      refine wpList_loadRow rfl _ _ rfl w.heap.size rfl (r.cells ta da tc dc) _ (0, 0) HP7.out _ Tryz.underlying64 rfl (by kernel_rfl) ?_
      go_wp2_with fail
      refine (HK.out _).mono ?_
      rintro e z8 ⟨rfl, bz⟩
      have HQ8 := hidr (HP7.out.under bz HP7.out.lt)
      have HD8 := hidr (below_chain HB7.out bz)
      have HV8 := hidr (HW7.out.below bz)
      clear HP7 HB7 HW7 bz
      go_upto_if 38 with fail
      go_cut [] from 37 to 41 (fun wx => ∃ (ar : Option Addr) (cr : Nat), Hid (IsWriter wx B (L7 ++ (if keyB r then rkeyL r else [])) ar cr) ∧ Hid (BlkR wx w.heap.size (r.cells ta da tc dc) 64) ∧ Hid (Below w.heap.size w wx))
      case first =>
        cases hb : keyB r with
        | false =>
          go_wp2_with fail
          go_meet
          case rel => exact ⟨_, _, by show IsWriter _ _ _ _ _; simpa [hb] using HV8.out, HQ8, HD8⟩
        | true =>
          have hch := HM.out.key hb
          obtain ⟨h2, h3, h4⟩ := hch
          obtain ⟨oi, hoi⟩ := Int.eq_ofNat_of_zero_le h2.1
          obtain ⟨os, hos⟩ := Int.eq_ofNat_of_zero_le h4.1
          have HPC := hidr (putKey_any r ta da tc dc oi os hoi hos (by omega) (by omega) HOK.out.rpage (by omega) HV8.out (by omega))
          clear h2 h3 h4 hoi hos
          go_upto_region 13 with fail
          refine wp_region_lit ?_
          refine wpList_moveL rfl _ rfl ?_
          try simp only [Act.put, List.setIfInBounds_toArray, List.set_cons_zero, List.set_cons_succ]
          refine wpList_loadRow rfl _ _ rfl w.heap.size rfl (r.cells ta da tc dc) _ (0, 0) HQ8.out _ Tryz.underlying64 rfl (by kernel_rfl) ?_
          go_wp2_with fail
          refine (HPC.out).mono ?_
          rintro e y ⟨rfl, ⟨ay, cy, hwy⟩, b7, s7⟩
          have HX := hidr hwy
          have HY := hidr (HQ8.out.under b7 hpz)
          have HZ : Hid (Below w.heap.size w y) := HD8.out.trans (b7.mono (Nat.le_of_lt hpz))
          clear hwy b7 s7
          go_wp2_with fail
          go_meet
          case rel => exact ⟨_, _, by show IsWriter _ _ _ _ _; simpa [hb] using HX.out, HY, HZ⟩
      case rest =>
        obtain ⟨a28, c28, HW8', HP8, HB8⟩ := hcut
        clear HQ8 HD8 HV8
        generalize wc = v8 at *
        obtain ⟨L8, HL8⟩ : ∃ X, Hid (X = L7 ++ (if keyB r then rkeyL r else [])) := ⟨_, rfl⟩
        have HW8 : Hid (IsWriter v8 B L8 a28 c28) := by show IsWriter _ _ _ _ _; rw [HL8.out]; exact HW8'.out
        have hL8 : L8.length ≤ 1000000 := by rw [HL8.out, List.length_append]; have h1 := textB_le r.key; split <;> simp [rkeyL, putL_length] <;> omega
        clear HW8'
        go_upto_region 14 with fail
        refine wp_region_lit ?_
        refine wpList_loadRow rfl _ _ rfl w.heap.size rfl (r.cells ta da tc dc) _ (0, 0) HP8.out _ Tryz.underlying64 rfl (by kernel_rfl) ?_
        go_wp2_with fail
        refine (HL.out _).mono ?_
        rintro e z9 ⟨rfl, bz⟩
        have HQ9 := hidr (HP8.out.under bz HP8.out.lt)
        have HD9 := hidr (below_chain HB8.out bz)
        have HV9 := hidr (HW8.out.below bz)
        clear HP8 HB8 HW8 bz
        go_upto_if 43 with fail
        go_cut [] from 42 to 51 (fun wx => ∃ (ar : Option Addr) (cr : Nat), Hid (IsWriter wx B (L8 ++ (if listsB r then txsL r.txs ++ disL r.dirty else [])) ar cr) ∧ Hid (BlkR wx w.heap.size (r.cells ta da tc dc) 64) ∧ Hid (Below w.heap.size w wx))
        case first =>
          cases hb : listsB r with
          | false =>
            go_wp2_with fail
            go_meet
            case rel => exact ⟨_, _, by show IsWriter _ _ _ _ _; simpa [hb] using HV9.out, HQ9, HD9⟩
          | true =>
            obtain ⟨h2, h3, h4⟩ := HM.out.lists hb
            have k15 : z9.cell? ⟨w.heap.size, 15, none⟩ = some (.slice ta r.txs.length tc) := HQ9.out.cell 15
            have HTA : Hid (TxsAt z9 ta r.txs) := HOK.out.txs.below HD9.out
            have HPT := hidr (putTxs_any r.txs ta tc HV9.out HTA.out (fun x e hne => by
              rcases HOK.out.txs with h | ⟨g, o, e', hg, _⟩
              · exact absurd h hne
              · rw [e'] at e; obtain rfl := Option.some.inj e; show g < B; omega) (fun i hi => ⟨(h4 _ (List.getElem_mem hi)).1, ⟨by have := (h4 _ (List.getElem_mem hi)).2; omega, (h4 _ (List.getElem_mem hi)).2.2⟩, HWD.out.txs i hi⟩) (by omega) (by omega))
            clear h4
            go_wp2_with fail
            refine HPT.out.mono ?_
            rintro e y ⟨rfl, ⟨ay, cy, hwy⟩, b7, s7⟩
            have HX := hidr hwy
            have HY := hidr (HQ9.out.under b7 hpz)
            have HZ : Hid (Below w.heap.size w y) := HD9.out.trans (b7.mono (Nat.le_of_lt hpz))
            have k16 : y.cell? ⟨w.heap.size, 16, none⟩ = some (.slice da r.dirty.length dc) := HY.out.cell 16
            have hTL : (txsL r.txs).length ≤ 1400 := by have := flat_len txL 21 (fun t => by simp [txL, putL_length]) r.txs; unfold txsL; rw [List.length_append, putL_length]; omega
            have HPD := hidr (putDirty_any r.dirty da dc HX.out (HOK.out.dirty.below HZ.out) (fun x e hne => by
              rcases HOK.out.dirty with h | ⟨g, o, e', hg, _⟩
              · exact absurd h hne
              · rw [e'] at e; obtain rfl := Option.some.inj e; show g < B; omega) (fun i hi => HWD.out.dirty i hi) (by omega) (by rw [List.length_append]; omega))
            clear hwy b7 s7 HPT
            go_wp2_with fail
            refine HPD.out.mono ?_
            rintro e y2 ⟨rfl, ⟨ay2, cy2, hwy⟩, b8, s8⟩
            have HX2 := hidr hwy
            have HY2 := hidr (HY.out.under b8 hpz)
            have HZ2 : Hid (Below w.heap.size w y2) := HZ.out.trans (b8.mono (Nat.le_of_lt hpz))
            clear hwy b8 s8
            go_wp2_with fail
            go_meet
            case rel => exact ⟨_, _, by show IsWriter _ _ _ _ _; simpa [hb, List.append_assoc] using HX2.out, HY2, HZ2⟩
        case rest =>
          obtain ⟨a29, c29, HW9', HP9, HB9⟩ := hcut
          clear HQ9 HD9 HV9
          generalize wc = v9 at *
          obtain ⟨L9, HL9⟩ : ∃ X, Hid (X = L8 ++ (if listsB r then txsL r.txs ++ disL r.dirty else [])) := ⟨_, rfl⟩
          have HW9 : Hid (IsWriter v9 B L9 a29 c29) := by show IsWriter _ _ _ _ _; rw [HL9.out]; exact HW9'.out
          clear HW9'
          go_wp2_with fail
          refine (wall_any HW9.out).mono ?_
          rintro e w10 ⟨rfl, hw10⟩
          subst hw10
          have HFE : Hid (L9 = encR r) := by show _ = _; rw [HENC.out, HL9.out, HL8.out, HL7.out, HL6.out]; simp only [List.append_assoc]
          go_wp2_with fail
          go_ret2
          exact ⟨by rw [← HFE.out]; rfl, HB9.out⟩

end Go.Proofs.YtgkfdakieebnmaaGreat
