/-
  The walk of rec.Decode of thirteen bytes whose kind names neither a next place, nor a change, nor lists; girderlaw04.awake.
-/
import Derived.Test.YtndfjjcflbpdnaaRecEnc0C
import Derived.Test.YtndfjjcflbpdnaaNewReaderC
import Derived.Test.YtndfjjcflbpdnaaReaderMoreC
namespace Go.Proofs.Ytndfjjcflbpdnaa
open Go.RowKit Go.Sort
set_option linter.unusedVariables false

theorem IsReader.same {w w' : World} {b : Nat} {s : ByteArray} {p : Nat} {e : Int} (h : IsReader w b s p e) (k : w'.heap[b]? = w.heap[b]?) (hz : w.heap.size ≤ w'.heap.size) : IsReader w' b s p e :=
  ⟨(World.cell?_of_block (a := ⟨b, 0, none⟩) k).trans h.c0, (World.cell?_of_block (a := ⟨b, 1, none⟩) k).trans h.c1, (World.cell?_of_block (a := ⟨b, 2, none⟩) k).trans h.c2,
    (World.frozen?_of_block (a := ⟨b, 1, none⟩) k).trans h.f1, (World.frozen?_of_block (a := ⟨b, 2, none⟩) k).trans h.f2, h.le, h.sz, Nat.lt_of_lt_of_le h.lt hz⟩

/-- Where Decode stands: the result, the reader and the record. -/
structure DecAt (w wr : World) (s : ByteArray) (p : Nat) (e : Int) (cs : Array Value) : Prop where
  bel : Below w.heap.size w wr
  res : BlkR wr w.heap.size zeroCellsR 35
  rd : IsReader wr (w.heap.size + 1) s p e
  out : BlkR wr (w.heap.size + 1 + 1) cs 35

section
variable {w wr wx : World} {s : ByteArray} {p : Nat} {e : Int} {cs : Array Value}

theorem DecAt.only (h : DecAt w wr s p e cs) (o : Only (w.heap.size + 1) wr wx) {p' : Nat} {e' : Int} (hr : IsReader wx (w.heap.size + 1) s p' e') : DecAt w wx s p' e' cs :=
  ⟨o.below h.bel (by omega) (Nat.le_refl _), (o.block _ h.res.lt (by omega)).trans h.res, hr, (o.block _ h.out.lt (by omega)).trans h.out⟩

theorem DecAt.below (h : DecAt w wr s p e cs) (b : Below wr.heap.size wr wx) : DecAt w wx s p e cs :=
  ⟨below_chain h.bel b, (b.block _ h.res.lt).trans h.res, h.rd.below b, (b.block _ h.out.lt).trans h.out⟩

theorem DecAt.set (h : DecAt w wr s p e cs) (i : Nat) (v : Value) : DecAt w (wr.setCell ⟨w.heap.size + 1 + 1, i, none⟩ v) s p e (cs.setIfInBounds i v) :=
  ⟨h.bel.setCell (p := ⟨w.heap.size + 1 + 1, i, none⟩) (by show w.heap.size ≤ w.heap.size + 1 + 1; omega) _, (Below.heap_setCell _ _ _ _ (by show w.heap.size ≠ w.heap.size + 1 + 1; omega)).trans h.res,
    h.rd.same (Below.heap_setCell _ _ _ _ (by show w.heap.size + 1 ≠ w.heap.size + 1 + 1; omega)) (by simp), h.out.set i v⟩

theorem DecAt.start (w : World) (s : ByteArray) (hs : s.size ≤ 281474976710656) : DecAt w (((w.alloc (.cells zeroCellsR 35)).alloc (.cells #[.string s, .int .i64 0, .int .i64 0] 84)).alloc (.cells zeroCellsR 35)) s 0 0 zeroCellsR := by
  refine ⟨(((Below.refl _ _).alloc (Nat.le_refl _) _).alloc (by simp) _).alloc (by simp; omega) _, ?_, ?_, ?_⟩
  · exact (Below.heap_alloc _ _ _ (by simp; omega)).trans ((Below.heap_alloc _ _ _ (by simp)).trans (heap_alloc_new w _))
  · have := reader_new (w := w.alloc (.cells zeroCellsR 35)) (t := 84) hs ((Below.refl _ _).alloc (Nat.le_refl _) (.cells zeroCellsR 35))
    rw [show (w.alloc (.cells zeroCellsR 35)).heap.size = w.heap.size + 1 by simp] at this
    exact this
  · have e : ((w.alloc (.cells zeroCellsR 35)).alloc (.cells #[.string s, .int .i64 0, .int .i64 0] 84)).heap.size = w.heap.size + 1 + 1 := by simp
    have := heap_alloc_new ((w.alloc (.cells zeroCellsR 35)).alloc (.cells #[.string s, .int .i64 0, .int .i64 0] 84)) (.cells zeroCellsR 35)
    rw [e] at this
    exact this

end

def plainV (k x q : Nat) : RecV := ⟨k, x, q, 0, 0, ⟨0, 0, ⟨#[]⟩, ⟨#[]⟩⟩, 0, 0, ⟨#[]⟩, 0, 0, false, [], []⟩

theorem plainV_ok (k x q : Nat) (hk : k ≤ 255) (hx : x ≤ 4294967295) (hq : q < 18446744073709551616) (w : World) : (plainV k x q).Ok w none none := by
  refine ⟨⟨?_, ?_⟩, ⟨?_, ?_⟩, hq, ?_, ?_, ⟨⟨?_, ?_⟩, ⟨?_, ?_⟩, ?_, ?_⟩, ⟨?_, ?_⟩, ⟨?_, ?_⟩, ?_, ?_, ⟨?_, ?_⟩, ?_, ?_, .inl rfl, .inl rfl⟩
  · show _ ≤ (k : Int); omega
  · show (k : Int) ≤ _; omega
  · show _ ≤ (x : Int); omega
  · show (x : Int) ≤ _; omega
  · show 0 < _; omega
  · show 0 < _; omega
  · show _ ≤ (0 : Int); omega
  · show (0 : Int) ≤ _; omega
  · show _ ≤ (0 : Int); omega
  · show (0 : Int) ≤ _; omega
  · show 0 ≤ _; omega
  · show 0 ≤ _; omega
  · show _ ≤ (0 : Int); omega
  · show (0 : Int) ≤ _; omega
  · show _ ≤ (0 : Int); omega
  · show (0 : Int) ≤ _; omega
  · show 0 ≤ _; omega
  · show 0 < _; omega
  · show _ ≤ (0 : Int); omega
  · show (0 : Int) ≤ _; omega
  · show 0 * 32 ≤ _; omega
  · show 0 * 16 ≤ _; omega

set_option maxHeartbeats 1600000 in
set_option maxRecDepth 8000 in
theorem decode_plain (s : ByteArray) (w : World) (hs : s.size = 13) (k x q : Nat) (hk : le (part s 0 1) = k) (hx : le (part s 1 4) = x) (hq : le (part s 5 8) = q) (hkn : k ≤ 8) (hxn : x ≤ 2147483647) (hr : Plain (plainV k x q)) :
    Calls Try.prog 4 #[.string s] w fun e w' => e = .returned (.tuple #[.agg ((plainV k x q).cells none none 0 0), .int .i64 0]) ∧ Below w.heap.size w w' := by
  have hqn : q < 18446744073709551616 := by rw [← hq]; exact le_lt_64 (by unfold part; rw [List.length_take]; omega)
  obtain ⟨W, HW⟩ : ∃ W, Hid (W = (((w.alloc (.cells zeroCellsR 35)).alloc (.cells #[.string s, .int .i64 0, .int .i64 0] 84)).alloc (.cells zeroCellsR 35))) := ⟨_, rfl⟩
  have HS0 : Hid (DecAt w W s 0 0 zeroCellsR) := by show DecAt _ _ _ _ _ _; rw [HW.out]; exact DecAt.start w s (by omega)
  have n0 : numF s 0 0 1 = (1, 0, k) := by rw [show (1 : Int) = ((1 : Nat) : Int) from rfl, numF_ok 1 (by omega) (by omega), hk]
  have n1 : numF s 1 0 4 = (5, 0, x) := by rw [show (4 : Int) = ((4 : Nat) : Int) from rfl, numF_ok 4 (by omega) (by omega), hx]
  have n2 : numF s 5 0 8 = (13, 0, q) := by rw [show (8 : Int) = ((8 : Nat) : Int) from rfl, numF_ok 8 (by omega) (by omega), hq]
  have hend : endE s 13 0 = 0 := by unfold endE; rw [if_neg (by omega)]
  have N0 := hidr n0
  have N1 := hidr n1
  have N2 := hidr n2
  have NE := hidr hend
  clear n0 n1 n2 hend hk hx hq
  have HNR := hidr (new_reader s (w.alloc (.cells zeroCellsR 35)))
  unfold zeroCellsR at HNR
  go_enter Try.func4, Try.ntmps4
  go_wp2_with fail
  refine HNR.out.mono ?_
  rintro e w1 ⟨rfl, rfl⟩
  go_upto_region 3 with fail
  rw [show ((w.alloc (.cells #[.int .i64 0, .int .i64 0, .int .u64 0, .int .u64 0, .int .u32 0, .int .i64 0, .int .i64 0, .string ⟨#[]⟩, .string ⟨#[]⟩, .int .i64 0, .int .i64 0, .string ⟨#[]⟩, .int .u32 0, .int .i64 0, .bool false, .slice none 0 0, .slice none 0 0] 35)).alloc (.cells #[.string s, .int .i64 0, .int .i64 0] 84)).alloc (.cells #[.int .i64 0, .int .i64 0, .int .u64 0, .int .u64 0, .int .u32 0, .int .i64 0, .int .i64 0, .string ⟨#[]⟩, .string ⟨#[]⟩, .int .i64 0, .int .i64 0, .string ⟨#[]⟩, .int .u32 0, .int .i64 0, .bool false, .slice none 0 0, .slice none 0 0] 35) = W from HW.out.symm]
  clear HW HNR
  have q0 : IntKind.i64.wrap (k : Int) = (k : Int) := by rw [IntKind.wrap_i64]; omega
  have q1 : IntKind.i64.wrap (x : Int) = (x : Int) := by rw [IntKind.wrap_i64]; omega
  have HR0 : Hid (Calls Try.prog 12 #[.pointer (some ⟨w.heap.size + 1, 0, none⟩), .int .i64 1] W fun y w' => y = .returned (.int .u64 (k : Nat)) ∧ IsReader w' (w.heap.size + 1) s 1 0 ∧ Only (w.heap.size + 1) W w') := by
    have := number_any HS0.out.rd 1
    rw [N0.out] at this
    exact this
  go_wp2_with fail
  refine HR0.out.mono ?_
  rintro e w2 ⟨rfl, hr0, o0⟩
  have HX0 := hidr (HS0.out.only o0 hr0)
  clear HR0 HS0 hr0 o0
  have x0 : w2.cell? ⟨w.heap.size + 1 + 1, 0, none⟩ = some (.int .i64 0) := HX0.out.out.cell 0
  have f0 := HX0.out.out.frozen 0
  obtain ⟨W2, HW0⟩ : ∃ y, Hid (y = w2.setCell ⟨w.heap.size + 1 + 1, 0, none⟩ (.int .i64 (k : Int))) := ⟨_, rfl⟩
  have HS1 := hidr (HX0.out.set 0 (.int .i64 (k : Int)))
  rw [← HW0.out] at HS1
  go_upto_region 4 with fail
  rw [← HW0.out]
  clear HW0 HX0 x0 f0
  have HR1 : Hid (Calls Try.prog 12 #[.pointer (some ⟨w.heap.size + 1, 0, none⟩), .int .i64 4] W2 fun y w' => y = .returned (.int .u64 (x : Nat)) ∧ IsReader w' (w.heap.size + 1) s 5 0 ∧ Only (w.heap.size + 1) W2 w') := by
    have := number_any HS1.out.rd 4
    rw [N1.out] at this
    exact this
  go_wp2_with fail
  refine HR1.out.mono ?_
  rintro e w3 ⟨rfl, hr1, o1⟩
  have HX1 := hidr (HS1.out.only o1 hr1)
  clear HR1 HS1 hr1 o1
  have x1 : w3.cell? ⟨w.heap.size + 1 + 1, 1, none⟩ = some (.int .i64 0) := HX1.out.out.cell 1
  have f1 := HX1.out.out.frozen 1
  obtain ⟨W3, HW1⟩ : ∃ y, Hid (y = w3.setCell ⟨w.heap.size + 1 + 1, 1, none⟩ (.int .i64 (x : Int))) := ⟨_, rfl⟩
  have HS2 := hidr (HX1.out.set 1 (.int .i64 (x : Int)))
  rw [← HW1.out] at HS2
  go_upto_region 5 with fail
  rw [← HW1.out]
  clear HW1 HX1 x1 f1
  have HR2 : Hid (Calls Try.prog 12 #[.pointer (some ⟨w.heap.size + 1, 0, none⟩), .int .i64 8] W3 fun y w' => y = .returned (.int .u64 (q : Nat)) ∧ IsReader w' (w.heap.size + 1) s 13 0 ∧ Only (w.heap.size + 1) W3 w') := by
    have := number_any HS2.out.rd 8
    rw [N2.out] at this
    exact this
  go_wp2_with fail
  refine HR2.out.mono ?_
  rintro e w4 ⟨rfl, hr2, o2⟩
  have HX2 := hidr (HS2.out.only o2 hr2)
  clear HR2 HS2 hr2 o2
  have x2 : w4.cell? ⟨w.heap.size + 1 + 1, 2, none⟩ = some (.int .u64 0) := HX2.out.out.cell 2
  have f2 := HX2.out.out.frozen 2
  obtain ⟨W4, HW2⟩ : ∃ y, Hid (y = w4.setCell ⟨w.heap.size + 1 + 1, 2, none⟩ (.int .u64 (q : Int))) := ⟨_, rfl⟩
  have HS3 := hidr (HX2.out.set 2 (.int .u64 (q : Int)))
  rw [← HW2.out] at HS3
  go_upto_region 6 with fail
  rw [← HW2.out]
  clear HW2 HX2 x2 f2 q0 q1
  have HD : Hid (DecAt w W4 s 13 0 ((plainV k x q).cells none none 0 0)) := HS3.out
  clear HS3
  have hok := plainV_ok k x q (by omega) (by omega) hqn
  obtain ⟨r, hrd⟩ : ∃ r, r = plainV k x q := ⟨_, rfl⟩
  rw [← hrd] at HD hr hok
  have HRD := hidr hrd
  clear hrd N0 N1 N2
  have HCK : Hid (∀ wx, Calls Try.prog 22 #[.agg (r.cells none none 0 0)] wx fun e w' => e = .returned (.int .i64 0) ∧ Below wx.heap.size wx w') := fun wx => check_plain r none none 0 0 wx (hok wx) hr.kind hr.tx hr.same hr.change hr.key hr.lists
  have HN : Hid (∀ wx, Calls Try.prog 13 #[.agg (r.cells none none 0 0)] wx fun e w' => e = .returned (.bool false) ∧ Below wx.heap.size wx w') := fun wx => by have := hasNext_any r none none 0 0 wx; rw [hr.next] at this; exact this
  have HC : Hid (∀ wx, Calls Try.prog 14 #[.agg (r.cells none none 0 0)] wx fun e w' => e = .returned (.bool false) ∧ Below wx.heap.size wx w') := fun wx => by have := hasChange_any r none none 0 0 wx; rw [hr.change] at this; exact this
  have HK : Hid (∀ wx, Calls Try.prog 16 #[.agg (r.cells none none 0 0)] wx fun e w' => e = .returned (.bool false) ∧ Below wx.heap.size wx w') := fun wx => by have := hasKey_any r none none 0 0 wx; rw [hr.key] at this; exact this
  have HL : Hid (∀ wx, Calls Try.prog 18 #[.agg (r.cells none none 0 0)] wx fun e w' => e = .returned (.bool false) ∧ Below wx.heap.size wx w') := fun wx => by have := hasLists_any r none none 0 0 wx; rw [hr.lists] at this; exact this
  clear hr hok
  refine wp_region_lit ?_
  refine wpList_loadRow rfl _ _ rfl (w.heap.size + 1 + 1) rfl (r.cells none none 0 0) _ (0, 0) HD.out.out _ Try.underlying35 rfl (by kernel_rfl) ?_
  go_wp2_with fail
  refine (HN.out _).mono ?_
  rintro e y0 ⟨rfl, b0⟩
  have HD0 := hidr (HD.out.below b0)
  clear HD b0
  go_upto_region 8 with fail
  refine wp_region_lit ?_
  refine wpList_loadRow rfl _ _ rfl (w.heap.size + 1 + 1) rfl (r.cells none none 0 0) _ (0, 0) HD0.out.out _ Try.underlying35 rfl (by kernel_rfl) ?_
  go_wp2_with fail
  refine (HC.out _).mono ?_
  rintro e y1 ⟨rfl, b1⟩
  have HD1 := hidr (HD0.out.below b1)
  clear HD0 b1
  go_upto_region 10 with fail
  refine wp_region_lit ?_
  refine wpList_loadRow rfl _ _ rfl (w.heap.size + 1 + 1) rfl (r.cells none none 0 0) _ (0, 0) HD1.out.out _ Try.underlying35 rfl (by kernel_rfl) ?_
  go_wp2_with fail
  refine (HK.out _).mono ?_
  rintro e y2 ⟨rfl, b2⟩
  have HD2 := hidr (HD1.out.below b2)
  clear HD1 b2
  go_upto_region 12 with fail
  refine wp_region_lit ?_
  refine wpList_loadRow rfl _ _ rfl (w.heap.size + 1 + 1) rfl (r.cells none none 0 0) _ (0, 0) HD2.out.out _ Try.underlying35 rfl (by kernel_rfl) ?_
  go_wp2_with fail
  refine (HL.out _).mono ?_
  rintro e y3 ⟨rfl, b3⟩
  have HD3 := hidr (HD2.out.below b3)
  clear HD2 b3
  have HE : Hid (Calls Try.prog 21 #[.pointer (some ⟨w.heap.size + 1, 0, none⟩)] y3 fun y w' => y = .returned (.int .i64 0) ∧ IsReader w' (w.heap.size + 1) s 13 0 ∧ Only (w.heap.size + 1) y3 w') := by
    have := end_any HD3.out.rd
    rw [NE.out] at this
    exact this
  go_wp2_with fail
  refine HE.out.mono ?_
  rintro e y4 ⟨rfl, hr4, o4⟩
  have HD4 := hidr (HD3.out.only o4 hr4)
  clear HD3 HE hr4 o4
  obtain ⟨z0, z1, z2, z3, z4, z5, z6, z7, z8, z9, z10, z11, z12, z13, z14, z15, z16⟩ := out_cells (r := r) (v := .slice none r.txs.length 0) (u := .slice none r.dirty.length 0) HD4.out.out
  go_wp2_with fail
  clear z0 z1 z2 z3 z4 z5 z6 z7 z8 z9 z10 z11 z12 z13 z14 z15 z16
  refine (HCK.out y4).mono ?_
  rintro e y5 ⟨rfl, b5⟩
  have HD5 := hidr (HD4.out.below b5)
  clear HD4 b5 HCK HN HC HK HL
  obtain ⟨WX, HWX⟩ : ∃ WX, Hid (WX = y5.setRow w.heap.size (r.cells none none 0 0)) := ⟨_, rfl⟩
  have hb : BlkR WX w.heap.size (refCells r (.slice none r.txs.length 0) (.slice none r.dirty.length 0)) 35 := by rw [HWX.out]; exact setRow_heap y5 _ _ _ _ _ HD5.out.res
  have HBEL : Hid (Below w.heap.size w WX) := by show Below _ _ _; rw [HWX.out]; exact below_setRow HD5.out.bel (Nat.le_refl _) _
  have HOUT : Hid (y5.heap[w.heap.size + 1 + 1]? = some (.cells (r.cells none none 0 0) 35 (0, 0))) := HD5.out.out
  have HRES : Hid (y5.heap[w.heap.size]? = some (.cells zeroCellsR 35 (0, 0))) := HD5.out.res
  go_upto_region 17 with fail
  refine wp_region_lit ?_
  refine wpList_loadRow rfl _ _ rfl (w.heap.size + 1 + 1) rfl (r.cells none none 0 0) _ (0, 0) HOUT.out _ Try.underlying35 rfl (by kernel_rfl) ?_
  refine wpList_storeRow rfl _ _ _ rfl rfl w.heap.size rfl (r.cells none none 0 0) zeroCellsR rfl _ HRES.out (by kernel_rfl) rfl (ref_one r _ _ _ _ _ _) ?_
  rw [← HWX.out]
  obtain ⟨z0, z1, z2, z3, z4, z5, z6, z7, z8, z9, z10, z11, z12, z13, z14, z15, z16⟩ := out_cells hb
  clear hb HOUT HRES HD5
  go_wp2_with fail
  refine bodyPost_ret (v := .tuple #[.agg (refCells r (.slice none r.txs.length 0) (.slice none r.dirty.length 0)), .int .i64 0]) (by simp [results, Try.results4, go_sem, z0, z1, z2, z3, z4, z5, z6, z7, z8, z9, z10, z11, z12, z13, z14, z15, z16, refCells]) rfl ?_
  exact ⟨by rw [HRD.out]; rfl, HBEL.out⟩

end Go.Proofs.Ytndfjjcflbpdnaa
