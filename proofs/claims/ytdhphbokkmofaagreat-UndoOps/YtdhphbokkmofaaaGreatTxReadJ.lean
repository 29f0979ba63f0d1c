/-
  The walk of (*txn.Manager).read.
-/
import Derived.Test.YtdhphbokkmofaaaGreatTxPartJ
import Derived.Test.YtdhphbokkmofaaaGreatRecReadJ
set_option linter.unusedVariables false
set_option linter.unusedSimpArgs false
namespace Go.Proofs.YtdhphbokkmofaaaGreat
open Go.RowKit Go.Sort

theorem dec_rec (r : RecV) (w : World) (hm : mayR r = true) (hw : r.Wide) (hprev : r.prev < 18446744073709551616) (hnext : r.next < 18446744073709551616) (hpage : r.page < 4294967296) (hrp : r.rpage < 4294967296) (hl : (encR r).length ≤ 8192) (hok : ∀ wx ta da, TxsAt wx ta r.txs → DisAt wx da r.dirty → r.Ok wx ta da) :
    Calls Tryz.prog 200 #[.string ⟨(encR r).toArray⟩] w fun e w' => ∃ ta da tc dc, e = .returned (.tuple #[.agg (r.cells ta da tc dc), .int .i64 0]) ∧ Below w.heap.size w w' := by
  have hsz : (ByteArray.mk (encR r).toArray).size = (encR r).length := List.size_toArray
  have hr := (enc_reads (may_parts hm) hw hprev hnext hpage hrp).2 ByteArray.empty
  rw [ByteArray.append_empty] at hr
  have hc : rcheckE r = 0 := by unfold rcheckE; rw [hm]; rfl
  refine (decode_good' _ w (by rw [hsz]; omega) hr (by unfold endE; rw [hsz]; simp) hc hok).mono ?_
  rintro e w' ⟨ta, da, tc, dc, rfl, b, _, _⟩
  exact ⟨ta, da, tc, dc, rfl, b⟩

section
variable {w : World} {m p : Nat} {X : Int → Nat} {A : Nat → Prop} {P : PG} {l : LG} {d : DG} {M : MgG}

set_option maxHeartbeats 6400000 in
set_option maxRecDepth 20000 in
theorem read_ok (h : MSys w m p X A P l d M) (n : Int) (at' nx : Nat) (s : ByteArray) (hget : ∀ wx, Below w.heap.size w wx → Calls Tryz.prog 199 #[.pointer (some ⟨P.lp, 0, none⟩), .int .u64 at'] wx fun e w' => e = .returned (.tuple #[.string s, .int .u64 nx, .bool true]) ∧ Below wx.heap.size wx w')
    (r : RecV) (hdec : ∀ wx, Calls Tryz.prog 200 #[.string s] wx fun e w' => ∃ ta da tc dc, e = .returned (.tuple #[.agg (r.cells ta da tc dc), .int .i64 0]) ∧ Below wx.heap.size wx w') (htx : r.tx = n) :
    Calls Tryz.prog 161 #[.pointer (some ⟨m, 0, none⟩), .int .i64 n, .int .u64 at'] w fun e w' => ∃ ta da tc dc, e = .returned (.tuple #[.agg (r.cells ta da tc dc), .int .i64 0]) ∧ Below w.heap.size w w' := by
  obtain ⟨W, HW⟩ : ∃ W, Hid (W = w.alloc (.cells zeroCellsR 54)) := ⟨_, rfl⟩
  have bW : Below w.heap.size w W := by rw [HW.out]; exact (Below.refl _ _).alloc (Nat.le_refl _) _
  have xW : BlkR W w.heap.size zeroCellsR 54 := by rw [HW.out]; exact Blk.made _ _ _
  have HLG := hidx (mlog_any (h.below bW))
  have HGE := hidx (hget W bW)
  have HDE := hidx hdec
  have HBW := hidx bW
  have HXW := hidx xW
  have HZC : Hid (zeroCellsR = #[.int .i64 0, .int .i64 0, .int .u64 0, .int .u64 0, .int .u32 0, .int .i64 0, .int .i64 0, .string ⟨#[]⟩, .string ⟨#[]⟩, .int .i64 0, .int .i64 0, .string ⟨#[]⟩, .int .u32 0, .int .i64 0, .bool false, .slice none 0 0, .slice none 0 0]) := rfl
  subst htx
  clear h hget hdec bW xW
  go_enter Tryz.func161, Tryz.ntmps161
  go_upto_region 1 with fail
  rw [← HZC.out, ← HW.out]
  clear HW HZC
  go_wp2_with fail
  refine HLG.out.mono ?_
  rintro e w1 ⟨rfl, rfl⟩
  go_wp2_with fail
  refine HGE.out.mono ?_
  rintro e w2 ⟨rfl, b2⟩
  clear HLG HGE
  go_wp2_with fail
  refine (HDE.out w2).mono ?_
  rintro e w3 ⟨ta, da, tc, dc, rfl, b3⟩
  obtain ⟨C, HC⟩ : ∃ C, Hid (r.cells ta da tc dc = C) := ⟨_, rfl⟩
  have HRC : Hid (r.cells ta da tc dc = #[.int .i64 r.kind, .int .i64 r.tx, .int .u64 r.prev, .int .u64 r.next, .int .u32 r.page, .int .i64 r.op.kind, .int .i64 r.op.at', .string r.op.S, .string r.op.old, .int .i64 r.undo, .int .i64 r.index, .string r.key, .int .u32 r.rpage, .int .i64 r.rslot, .bool r.live, .slice ta r.txs.length tc, .slice da r.dirty.length dc]) := rfl
  obtain ⟨W4, HW4⟩ : ∃ W', Hid (W' = w3.alloc (.cells (r.cells ta da tc dc) 54)) := ⟨_, rfl⟩
  have b4 : Below w3.heap.size w3 W4 := by rw [HW4.out]; exact (Below.refl _ _).alloc (Nat.le_refl _) _
  have x4 : BlkR W4 w3.heap.size (r.cells ta da tc dc) 54 := by rw [HW4.out]; exact Blk.made _ _ _
  have b24 := below_chain (below_chain b2 b3) b4
  have y4 : BlkR W4 w.heap.size zeroCellsR 54 := HXW.out.same (b24.block _ HXW.out.lt)
  have B4 := hidx (below_chain HBW.out b24)
  have hlt : w.heap.size < w3.heap.size := Nat.lt_of_lt_of_le HXW.out.lt (below_chain b2 b3).size
  have c1 : W4.cell? ⟨w3.heap.size, 1, none⟩ = some (.int .i64 r.tx) := x4.cell 1
  have X4 := hidx x4
  have Y4 := hidx y4
  clear x4 y4 b2 b3 b4 b24 HC HXW HBW HDE
  rw [HRC.out]
  go_upto_region 5 with fail
  rw [← HRC.out, ← HW4.out]
  clear HW4
  obtain ⟨WX, HWX⟩ : ∃ WX, Hid (WX = W4.setRow w.heap.size (r.cells ta da tc dc)) := ⟨_, rfl⟩
  have hb : BlkR WX w.heap.size (refCells r (.slice ta r.txs.length tc) (.slice da r.dirty.length dc)) 54 := by rw [HWX.out]; exact setRow_heap W4 _ _ _ _ _ Y4.out
  have HBEL : Hid (Below w.heap.size w WX) := by show Below _ _ _; rw [HWX.out]; exact below_setRow B4.out (Nat.le_refl _) _
  have HBB := hidx hb
  clear hb
  go_upto_region 9 with fail
  refine wp_region_lit ?_
  refine wpList_loadRow rfl _ _ rfl w3.heap.size rfl (r.cells ta da tc dc) _ (0, 0) X4.out _ Tryz.underlying54 rfl (by kernel_rfl) ?_
  refine wpList_storeRow rfl _ _ _ rfl rfl w.heap.size rfl (r.cells ta da tc dc) zeroCellsR rfl _ Y4.out (by kernel_rfl) rfl (ref_one r _ _ _ _ _ _) ?_
  rw [← HWX.out]
  clear X4 Y4 B4 HWX c1
  obtain ⟨z0, z1, z2, z3, z4, z5, z6, z7, z8, z9, z10, z11, z12, z13, z14, z15, z16⟩ := out_cells HBB.out
  clear HBB
  go_wp2_with fail
  refine bodyPost_ret (v := .tuple #[.agg (refCells r (.slice ta r.txs.length tc) (.slice da r.dirty.length dc)), .int .i64 0]) (by simp [results, Tryz.results161, go_sem, z0, z1, z2, z3, z4, z5, z6, z7, z8, z9, z10, z11, z12, z13, z14, z15, z16, refCells]) rfl ?_
  exact ⟨ta, da, tc, dc, rfl, HBEL.out⟩

end

end Go.Proofs.YtdhphbokkmofaaaGreat

namespace Go.Proofs.YtdhphbokkmofaaaGreat
open Go.RowKit Go.Sort

section
variable {w : World} {m p : Nat} {X : Int → Nat} {A : Nat → Prop} {P : PG} {l : LG} {d : DG} {M : MgG}

def rec0 : RecV := ⟨0, 0, 0, 0, 0, ⟨0, 0, ⟨#[]⟩, ⟨#[]⟩⟩, 0, 0, ⟨#[]⟩, 0, 0, false, [], []⟩

end

end Go.Proofs.YtdhphbokkmofaaaGreat
