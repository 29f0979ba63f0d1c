/-
  The walk of rec.Encode of a record whose kind names neither a next place, nor a change, nor lists.
-/
import Derived.Test.YtndfjjcflbpdnaaRecCheck0C
namespace Go.Proofs.Ytndfjjcflbpdnaa
open Go.RowKit Go.Sort
set_option linter.unusedVariables false

theorem long1 : longOf 1 = 1 := by decide
theorem long2 : longOf 2 = 2 := by decide
theorem long4 : longOf 4 = 4 := by decide
theorem long8 : longOf 8 = 8 := by decide

structure Plain (r : RecV) : Prop where
  kind : 1 ≤ r.kind ∧ r.kind ≤ 8
  tx : 0 ≤ r.tx ∧ r.tx ≤ 2147483647
  same : sameR r (namedV r) = true
  next : nextB r = false
  change : changeB r = false
  key : keyB r = false
  lists : listsB r = false

theorem BlkR.under {w w' : World} {p b : Nat} {cs : Array Value} {t : TypeId} (h : BlkR w p cs t) (k : Below b w w') (hp : p < b) : BlkR w' p cs t := (k.block p hp).trans h

set_option maxHeartbeats 1600000 in
set_option maxRecDepth 8000 in
theorem encode_plain (r : RecV) (ta da : Option Addr) (tc dc : Nat) (w : World) (h : r.Ok w ta da) (hr : Plain r) (k x : Nat) (hk : r.kind = (k : Int)) (hx : r.tx = (x : Int)) :
    Calls Try.prog 26 #[.agg (r.cells ta da tc dc)] w fun e w' => e = .returned (.tuple #[.string ⟨(putL k 1 ++ putL x 4 ++ putL r.prev 8).toArray⟩, .int .i64 0]) ∧ Below w.heap.size w w' := by
  have hkn : k ≤ 8 := by have := hr.kind.2; omega
  have hxn : x ≤ 2147483647 := by have := hr.tx.2; omega
  have hpn := h.prev
  obtain ⟨W, HW⟩ : ∃ W, Hid (W = w.alloc (.cells (r.cells ta da tc dc) 35)) := ⟨_, rfl⟩
  have HB : Hid (Below w.heap.size w W) := by show Below _ _ _; rw [HW.out]; exact (Below.refl _ _).alloc (Nat.le_refl _) _
  have HP : Hid (BlkR W w.heap.size (r.cells ta da tc dc) 35) := by show BlkR _ _ _ _; rw [HW.out]; exact heap_alloc_new w _
  have HPAR : Hid (r.cells ta da tc dc = #[.int .i64 r.kind, .int .i64 r.tx, .int .u64 r.prev, .int .u64 r.next, .int .u32 r.page, .int .i64 r.op.kind, .int .i64 r.op.at', .string r.op.S, .string r.op.old, .int .i64 r.undo, .int .i64 r.index, .string r.key, .int .u32 r.rpage, .int .i64 r.rslot, .bool r.live, .slice ta r.txs.length tc, .slice da r.dirty.length dc]) := rfl
  have HCK : Hid (Calls Try.prog 22 #[.agg (r.cells ta da tc dc)] W fun e w' => e = .returned (.int .i64 0) ∧ Below W.heap.size W w') := check_plain r ta da tc dc W (h.below HB.out) hr.kind hr.tx hr.same hr.change hr.key hr.lists
  have HN : Hid (∀ wx, Calls Try.prog 13 #[.agg (r.cells ta da tc dc)] wx fun e w' => e = .returned (.bool false) ∧ Below wx.heap.size wx w') := fun wx => by have := hasNext_any r ta da tc dc wx; rw [hr.next] at this; exact this
  have HC : Hid (∀ wx, Calls Try.prog 14 #[.agg (r.cells ta da tc dc)] wx fun e w' => e = .returned (.bool false) ∧ Below wx.heap.size wx w') := fun wx => by have := hasChange_any r ta da tc dc wx; rw [hr.change] at this; exact this
  have HK : Hid (∀ wx, Calls Try.prog 16 #[.agg (r.cells ta da tc dc)] wx fun e w' => e = .returned (.bool false) ∧ Below wx.heap.size wx w') := fun wx => by have := hasKey_any r ta da tc dc wx; rw [hr.key] at this; exact this
  have HL : Hid (∀ wx, Calls Try.prog 18 #[.agg (r.cells ta da tc dc)] wx fun e w' => e = .returned (.bool false) ∧ Below wx.heap.size wx w') := fun wx => by have := hasLists_any r ta da tc dc wx; rw [hr.lists] at this; exact this
  have HKI := hidr hk
  have HXI := hidr hx
  clear hr h hk hx
  rw [HPAR.out]
  go_enter Try.func26, Try.ntmps26
  go_upto_region 1 with fail
  rw [← HPAR.out, show w.alloc (.cells (r.cells ta da tc dc) 35) = W from HW.out.symm]
  clear HW
  refine wp_region_lit ?_
  refine wpList_loadRow rfl _ _ rfl w.heap.size rfl (r.cells ta da tc dc) _ (0, 0) HP.out _ Try.underlying35 rfl (by kernel_rfl) ?_
  go_wp2_with fail
  refine HCK.out.mono ?_
  rintro e w1 ⟨rfl, b1⟩
  have HP1 := hidr (HP.out.under b1 HP.out.lt)
  have HB1 := hidr (below_chain HB.out b1)
  clear HP HB b1 HCK
  go_wp2_with fail
  refine (new_writer w1).mono ?_
  rintro e w2 ⟨rfl, hw2, b2⟩
  have hpz : w.heap.size < w1.heap.size := HP1.out.lt
  have HP2 := hidr (HP1.out.under b2 hpz)
  have HB2 := hidr (below_chain HB1.out b2)
  have HW2 := hidr hw2
  have hz2 : w1.heap.size ≤ w2.heap.size := b2.size
  clear HP1 HB1 b2 hw2
  generalize w1.heap.size = B at *
  have k0 : w2.cell? ⟨w.heap.size, 0, none⟩ = some (.int .i64 (k : Int)) := by have := HP2.out.cell 0; rw [← HKI.out]; exact this
  have q0 : IntKind.u64.wrap (k : Int) = (k : Int) := by rw [IntKind.wrap_u64]; omega
  go_wp2_with fail
  refine (wnumber_any HW2.out k 1 (by omega) (by show 0 + 8 ≤ _; omega)).mono ?_
  rintro e w3 ⟨rfl, ⟨a3, c3, hw3⟩, b3⟩
  have HP3 := hidr (HP2.out.under b3 hpz)
  have HB3 : Hid (Below w.heap.size w w3) := HB2.out.trans (b3.mono (Nat.le_of_lt hpz))
  have HW3 := hidr hw3
  clear HP2 HB2 HW2 b3 hw3 k0 q0 hz2
  have k1 : w3.cell? ⟨w.heap.size, 1, none⟩ = some (.int .i64 (x : Int)) := by have := HP3.out.cell 1; rw [← HXI.out]; exact this
  have q1 : IntKind.u64.wrap (x : Int) = (x : Int) := by rw [IntKind.wrap_u64]; omega
  go_wp2_with fail
  refine (wnumber_any HW3.out x 4 (by omega) (by simp only [List.length_append, putL_length, List.length_nil, long1]; omega)).mono ?_
  rintro e w4 ⟨rfl, ⟨a4, c4, hw4⟩, b4⟩
  have HP4 := hidr (HP3.out.under b4 hpz)
  have HB4 : Hid (Below w.heap.size w w4) := HB3.out.trans (b4.mono (Nat.le_of_lt hpz))
  have HW4 := hidr hw4
  clear HP3 HB3 HW3 b4 hw4 k1 q1
  have k2 : w4.cell? ⟨w.heap.size, 2, none⟩ = some (.int .u64 r.prev) := HP4.out.cell 2
  go_wp2_with fail
  refine (wnumber_any HW4.out r.prev 8 hpn (by simp only [List.length_append, putL_length, List.length_nil, long1, long4]; omega)).mono ?_
  rintro e w5 ⟨rfl, ⟨a5, c5, hw5⟩, b5⟩
  have HP5 := hidr (HP4.out.under b5 hpz)
  have HB5 : Hid (Below w.heap.size w w5) := HB4.out.trans (b5.mono (Nat.le_of_lt hpz))
  have HW5 := hidr hw5
  clear HP4 HB4 HW4 b5 hw5 k2
  -- the four tests
  go_upto_region 8 with fail
  refine wp_region_lit ?_
  refine wpList_loadRow rfl _ _ rfl w.heap.size rfl (r.cells ta da tc dc) _ (0, 0) HP5.out _ Try.underlying35 rfl (by kernel_rfl) ?_
  go_wp2_with fail
  refine (HN.out _).mono ?_
  rintro e w6 ⟨rfl, b6⟩
  have HP6 := hidr (HP5.out.under b6 HP5.out.lt)
  have HB6 := hidr (below_chain HB5.out b6)
  have HW6 := hidr (HW5.out.below b6)
  clear HP5 HB5 HW5 b6
  go_upto_region 10 with fail
  refine wp_region_lit ?_
  refine wpList_loadRow rfl _ _ rfl w.heap.size rfl (r.cells ta da tc dc) _ (0, 0) HP6.out _ Try.underlying35 rfl (by kernel_rfl) ?_
  go_wp2_with fail
  refine (HC.out _).mono ?_
  rintro e w7 ⟨rfl, b7⟩
  have HP7 := hidr (HP6.out.under b7 HP6.out.lt)
  have HB7 := hidr (below_chain HB6.out b7)
  have HW7 := hidr (HW6.out.below b7)
  clear HP6 HB6 HW6 b7
  go_upto_region 12 with fail
  refine wp_region_lit ?_
  refine wpList_loadRow rfl _ _ rfl w.heap.size rfl (r.cells ta da tc dc) _ (0, 0) HP7.out _ Try.underlying35 rfl (by kernel_rfl) ?_
  go_wp2_with fail
  refine (HK.out _).mono ?_
  rintro e w8 ⟨rfl, b8⟩
  have HP8 := hidr (HP7.out.under b8 HP7.out.lt)
  have HB8 := hidr (below_chain HB7.out b8)
  have HW8 := hidr (HW7.out.below b8)
  clear HP7 HB7 HW7 b8
  go_upto_region 14 with fail
  refine wp_region_lit ?_
  refine wpList_loadRow rfl _ _ rfl w.heap.size rfl (r.cells ta da tc dc) _ (0, 0) HP8.out _ Try.underlying35 rfl (by kernel_rfl) ?_
  go_wp2_with fail
  refine (HL.out _).mono ?_
  rintro e w9 ⟨rfl, b9⟩
  have HB9 := hidr (below_chain HB8.out b9)
  have HW9 := hidr (HW8.out.below b9)
  clear HP8 HB8 HW8 b9
  go_wp2_with fail
  refine (wall_any HW9.out).mono ?_
  rintro e w10 ⟨rfl, rfl⟩
  go_wp2_with fail
  go_ret2
  exact ⟨rfl, HB9.out⟩

end Go.Proofs.Ytndfjjcflbpdnaa
