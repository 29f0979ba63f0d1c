/-
  The walk of (*txn.Manager).Next: the record that is undone next; none.
  The walk of (*txn.Manager).Next where nothing is undone any more.
-/
import Derived.Test.YtjemeopafkafgaaGreatTxReadC
namespace Go.Proofs.YtjemeopafkafgaaGreat
open Go.RowKit Go.Sort
set_option linter.unusedVariables false
set_option linter.unusedSimpArgs false

section
variable {w : World} {m p : Nat} {X : Int → Nat} {A : Nat → Prop} {P : PG} {l : LG} {d : DG} {M : MgG}

set_option maxHeartbeats 6400000 in
set_option maxRecDepth 20000 in
theorem next_undo (h : MSys w m p X A P l d M) (n : Int) (hn1 : -9223372036854775808 ≤ n) (hn2 : n ≤ 9223372036854775807) {t : MtV} (ht : M.T n = some t) (h0 : t.next ≠ 0) (hr : RisesD t.debts) (hdl : t.debts.length ≤ 1000000) (r : RecV) (hkd : r.kind = 1) (hun : r.undo ≠ 0)
    (hread : ∀ wx, Below w.heap.size w wx → Calls Tryz.prog 63 #[.pointer (some ⟨m, 0, none⟩), .int .i64 n, .int .u64 t.next] wx fun e w' => ∃ ta da tc dc, e = .returned (.tuple #[.agg (r.cells ta da tc dc), .int .i64 0]) ∧ Below wx.heap.size wx w') :
    Calls Tryz.prog 17 #[.pointer (some ⟨m, 0, none⟩), .int .i64 n] w fun e w' => (∃ ta da tc dc, e = .returned (.tuple #[.agg (r.cells ta da tc dc), .int .u64 t.next, .int .i64 0])) ∧ ∃ A', MSys w' m p X A' P l d (M.set n { t with debts := t.debts.take (standN t.debts t.next) }) ∧ Moves A A' w w' := by
  have HA := hidx (fun (k : Nat) (hk : w.heap.size ≤ k) (x : A k) => by have := h.lt k x; omega : ∀ k, w.heap.size ≤ k → A k → False)
  obtain ⟨W, HW⟩ : ∃ W, Hid (W = w.alloc (.cells zeroCellsR 56)) := ⟨_, rfl⟩
  have bW : Below w.heap.size w W := by rw [HW.out]; exact (Below.refl _ _).alloc (Nat.le_refl _) _
  have xW : BlkR W w.heap.size zeroCellsR 56 := by rw [HW.out]; exact Blk.made _ _ _
  have HFI := hidx (find_yes (h.below bW) n hn1 hn2 ht)
  obtain ⟨S0, hT0, _, _⟩ := (h.below bW).tx ht
  have c3 := hT0.cells.c3
  have HRD := hidx (hread W bW)
  have HUN : Hid (∀ (ta da : Option Addr) (tc dc : Nat) wx, Calls Tryz.prog 53 #[.agg (r.cells ta da tc dc)] wx fun e w' => e = .returned (.bool true) ∧ Below wx.heap.size wx w') := fun ta da tc dc wx => by
    have := undoable_any r ta da tc dc wx
    rw [decide_eq_true (show r.kind = 1 ∧ r.undo ≠ 0 from ⟨hkd, hun⟩)] at this
    exact this
  have HH := hidx h
  have HT := hidx ht
  have HBW := hidx bW
  have HXW := hidx xW
  have HR := hidx hr
  have d0 : ((t.next : Int) == 0) = false := by rw [beq_eq_false_iff_ne]; omega
  have HZC : Hid (zeroCellsR = #[.int .i64 0, .int .i64 0, .int .u64 0, .int .u64 0, .int .u32 0, .int .i64 0, .int .i64 0, .string ⟨#[]⟩, .string ⟨#[]⟩, .int .i64 0, .int .i64 0, .string ⟨#[]⟩, .int .u32 0, .int .i64 0, .bool false, .slice none 0 0, .slice none 0 0]) := rfl
  clear h ht hread hT0 bW xW hr h0 hkd hun
  go_enter Tryz.func17, Tryz.ntmps17
  go_upto_region 1 with fail
  rw [← HZC.out, ← HW.out]
  clear HW HZC
  go_wp2_with fail
  refine HFI.out.mono ?_
  rintro e w1 ⟨rfl, rfl⟩
  clear HFI
  go_wp2_with fail
  go_loopw [9] (fun v9 wr => v9 = .int .u64 t.next ∧ wr = W) (fun _ _ => 0)
  case atStart => exact ⟨rfl, rfl⟩
  case round =>
    obtain ⟨rfl, rfl⟩ := hrel
    go_wp2_with fail
    refine HRD.out.mono ?_
    rintro e w3 ⟨ta, da, tc, dc, rfl, b3⟩
    have HRC : Hid (r.cells ta da tc dc = #[.int .i64 r.kind, .int .i64 r.tx, .int .u64 r.prev, .int .u64 r.next, .int .u32 r.page, .int .i64 r.op.kind, .int .i64 r.op.at', .string r.op.S, .string r.op.old, .int .i64 r.undo, .int .i64 r.index, .string r.key, .int .u32 r.rpage, .int .i64 r.rslot, .bool r.live, .slice ta r.txs.length tc, .slice da r.dirty.length dc]) := rfl
    obtain ⟨W4, HW4⟩ : ∃ W', Hid (W' = w3.alloc (.cells (r.cells ta da tc dc) 56)) := ⟨_, rfl⟩
    have b4 : RowKit.Below w3.heap.size w3 W4 := by rw [HW4.out]; exact (Below.refl _ _).alloc (Nat.le_refl _) _
    have x4 : BlkR W4 w3.heap.size (r.cells ta da tc dc) 56 := by rw [HW4.out]; exact Blk.made _ _ _
    have b34 := below_chain b3 b4
    have Y4 := hidx (HXW.out.same (b34.block _ HXW.out.lt))
    have B4 := hidx (below_chain HBW.out b34)
    have hlt : w.heap.size < w3.heap.size := Nat.lt_of_lt_of_le HXW.out.lt b3.size
    have X4 := hidx x4
    clear x4 b3 b4 b34 HRD c3
    rw [HRC.out]
    go_upto_region 7 with fail
    rw [← HRC.out, ← HW4.out]
    clear HW4
    go_upto_region 9 with fail
    refine wp_region_lit ?_
    refine wpList_loadRow rfl _ _ rfl w3.heap.size rfl (r.cells ta da tc dc) _ (0, 0) X4.out _ Tryz.underlying56 rfl (by kernel_rfl) ?_
    go_wp2_with fail
    refine (HUN.out ta da tc dc W4).mono ?_
    rintro e w5 ⟨rfl, b5⟩
    have X5 := hidx (X4.out.same (b5.block _ X4.out.lt))
    have Y5 := hidx (Y4.out.same (b5.block _ Y4.out.lt))
    have B5 := hidx (below_chain B4.out b5)
    obtain ⟨S5, hT5, hSA5, step5⟩ := (HH.out.below B5.out).tx HT.out
    have HGO := hidx (goOn_any hT5 HR.out (by omega) t.next)
    have HST := hidx step5
    have HSA := hidx hSA5
    clear b5 X4 Y4 B4 HUN hT5 hSA5 step5
    go_wp2_with fail
    refine HGO.out.mono ?_
    rintro e w6 ⟨rfl, hT6, mv6⟩
    obtain ⟨A6, h6, mvA6⟩ := HST.out _ _ _ hT6 rfl mv6
    have o6 : ∀ k, w.heap.size ≤ k → k < w5.heap.size → w6.heap[k]? = w5.heap[k]? := fun k hk hl => mv6.1.block k hl fun x => HA.out k hk (HSA.out k x)
    have hN6 : ¬ A6 w.heap.size := (mvA6.off Y5.out.lt fun x => HA.out _ (Nat.le_refl _) x).2
    have X6 := hidx ((o6 _ (by omega) X5.out.lt).trans X5.out)
    have Y6 := hidx ((o6 _ (Nat.le_refl _) Y5.out.lt).trans Y5.out)
    obtain ⟨WX, HWX⟩ : ∃ WX, Hid (WX = w6.setRow w.heap.size (r.cells ta da tc dc)) := ⟨_, rfl⟩
    have hb : BlkR WX w.heap.size (refCells r (.slice ta r.txs.length tc) (.slice da r.dirty.length dc)) 56 := by rw [HWX.out]; exact setRow_heap w6 _ _ _ _ _ Y6.out
    have HF : Hid (∃ A', MSys WX m p X A' P l d (M.set n { t with debts := t.debts.take (standN t.debts t.next) }) ∧ Moves A A' w WX) := by
      have hsz : WX.heap.size = w6.heap.size := by rw [HWX.out]; simp [World.setRow]
      have hoth : ∀ k, k ≠ w.heap.size → WX.heap[k]? = w6.heap[k]? := fun k hk => by rw [HWX.out]; exact setRow_other w6 _ k _ hk
      refine hidx ⟨A6, h6.same (fun i hi => hoth i fun e => hN6 (e ▸ hi)) (by omega), ?_⟩
      have m1 : Moves A A6 w w6 := (Moves.of_kept (Kept.of_below B5.out)).trans mvA6
      exact ⟨⟨by rw [HWX.out]; exact m1.1.os, by rw [HWX.out]; exact m1.1.tape, by rw [HWX.out]; exact m1.1.output, by rw [hsz]; exact m1.1.size, fun i hi hs => (hoth i (by omega)).trans (m1.1.block i hi hs)⟩, m1.2⟩
    have HBB := hidx hb
    clear hb hT6 mv6 h6 mvA6 o6 hN6 X5 Y5 B5 HGO HST HSA HA HT HH HR
    go_upto_region 11 with fail
    refine wp_region_lit ?_
    refine wpList_loadRow rfl _ _ rfl w3.heap.size rfl (r.cells ta da tc dc) _ (0, 0) X6.out _ Tryz.underlying56 rfl (by kernel_rfl) ?_
    refine wpList_plain rfl fun K hK => ?_
    go_simp
    refine hK _ _ ?_
    clear hK K
    refine wpList_storeRow rfl _ _ _ rfl rfl w.heap.size rfl (r.cells ta da tc dc) zeroCellsR rfl _ Y6.out (by kernel_rfl) rfl (ref_one r _ _ _ _ _ _) ?_
    rw [← HWX.out]
    clear X6 Y6 HWX
    obtain ⟨z0, z1, z2, z3, z4, z5, z6, z7, z8, z9, z10, z11, z12, z13, z14, z15, z16⟩ := out_cells HBB.out
    clear HBB
    go_wp2_with fail
    refine bodyPost_ret (v := .tuple #[.agg (refCells r (.slice ta r.txs.length tc) (.slice da r.dirty.length dc)), .int .u64 t.next, .int .i64 0]) (by simp [results, Tryz.results17, go_sem, z0, z1, z2, z3, z4, z5, z6, z7, z8, z9, z10, z11, z12, z13, z14, z15, z16, refCells]) rfl ?_
    exact ⟨⟨ta, da, tc, dc, rfl⟩, HF.out⟩

end

end Go.Proofs.YtjemeopafkafgaaGreat

namespace Go.Proofs.YtjemeopafkafgaaGreat
open Go.RowKit Go.Sort
set_option linter.unusedVariables false
set_option linter.unusedSimpArgs false

section
variable {w : World} {m p : Nat} {X : Int → Nat} {A : Nat → Prop} {P : PG} {l : LG} {d : DG} {M : MgG}

/-- A record of which nothing is said. -/
def rec0 : RecV := ⟨0, 0, 0, 0, 0, ⟨0, 0, ⟨#[]⟩, ⟨#[]⟩⟩, 0, 0, ⟨#[]⟩, 0, 0, false, [], []⟩

set_option maxHeartbeats 6400000 in
set_option maxRecDepth 20000 in
theorem next_none (h : MSys w m p X A P l d M) (n : Int) (hn1 : -9223372036854775808 ≤ n) (hn2 : n ≤ 9223372036854775807) {t : MtV} (ht : M.T n = some t) (h0 : t.next = 0) (hr : RisesD t.debts) (hdl : t.debts.length ≤ 1000000) :
    Calls Tryz.prog 17 #[.pointer (some ⟨m, 0, none⟩), .int .i64 n] w fun e w' => e = .returned (.tuple #[.agg (rec0.cells none none 0 0), .int .u64 0, .int .i64 0]) ∧ ∃ A', MSys w' m p X A' P l d (M.set n { t with next := 0, debts := t.debts.take (standN t.debts 0) }) ∧ Moves A A' w w' := by
  have HA := hidx (fun (k : Nat) (hk : w.heap.size ≤ k) (x : A k) => by have := h.lt k x; omega : ∀ k, w.heap.size ≤ k → A k → False)
  obtain ⟨W, HW⟩ : ∃ W, Hid (W = w.alloc (.cells zeroCellsR 56)) := ⟨_, rfl⟩
  have bW : Below w.heap.size w W := by rw [HW.out]; exact (Below.refl _ _).alloc (Nat.le_refl _) _
  have xW : BlkR W w.heap.size zeroCellsR 56 := by rw [HW.out]; exact Blk.made _ _ _
  have HFI := hidx (find_yes (h.below bW) n hn1 hn2 ht)
  obtain ⟨S0, hT0, hSA0, step0⟩ := (h.below bW).tx ht
  have c3 : W.cell? ⟨X n, 3, none⟩ = some (.int .u64 0) := by have := hT0.cells.c3; rw [h0] at this; exact this
  have HGO := hidx (goOn_any hT0 hr (by omega) 0)
  have HST := hidx step0
  have HSA := hidx hSA0
  have HBW := hidx bW
  have HXW := hidx xW
  have HZC : Hid (zeroCellsR = #[.int .i64 0, .int .i64 0, .int .u64 0, .int .u64 0, .int .u32 0, .int .i64 0, .int .i64 0, .string ⟨#[]⟩, .string ⟨#[]⟩, .int .i64 0, .int .i64 0, .string ⟨#[]⟩, .int .u32 0, .int .i64 0, .bool false, .slice none 0 0, .slice none 0 0]) := rfl
  clear h ht hT0 bW xW hr h0 hSA0 step0
  go_enter Tryz.func17, Tryz.ntmps17
  go_upto_region 1 with fail
  rw [← HZC.out, ← HW.out]
  clear HW HZC
  go_wp2_with fail
  refine HFI.out.mono ?_
  rintro e w1 ⟨rfl, rfl⟩
  clear HFI
  go_wp2_with fail
  go_loopw [9] (fun v9 wr => v9 = .int .u64 0 ∧ wr = W) (fun _ _ => 0)
  case atStart => exact ⟨rfl, rfl⟩
  case round =>
    obtain ⟨rfl, rfl⟩ := hrel
    go_wp2_with fail
    refine HGO.out.mono ?_
    rintro e w6 ⟨rfl, hT6, mv6⟩
    obtain ⟨A6, h6, mvA6⟩ := HST.out _ _ _ hT6 rfl mv6
    have hN6 : ¬ A6 w.heap.size := (mvA6.off HXW.out.lt fun x => HA.out _ (Nat.le_refl _) x).2
    have Y6 := hidx ((mv6.1.block _ HXW.out.lt fun x => HA.out _ (Nat.le_refl _) (HSA.out _ x)).trans HXW.out)
    obtain ⟨WX, HWX⟩ : ∃ WX, Hid (WX = w6.setRow w.heap.size zeroCellsR) := ⟨_, rfl⟩
    have hb : BlkR WX w.heap.size (refCells rec0 (.slice none 0 0) (.slice none 0 0)) 56 := by rw [HWX.out]; exact setRow_heap w6 _ _ _ _ _ Y6.out
    have HF : Hid (∃ A', MSys WX m p X A' P l d (M.set n { t with next := 0, debts := t.debts.take (standN t.debts 0) }) ∧ Moves A A' w WX) := by
      have hsz : WX.heap.size = w6.heap.size := by rw [HWX.out]; simp [World.setRow]
      have hoth : ∀ k, k ≠ w.heap.size → WX.heap[k]? = w6.heap[k]? := fun k hk => by rw [HWX.out]; exact setRow_other w6 _ k _ hk
      refine hidx ⟨A6, h6.same (fun i hi => hoth i fun e => hN6 (e ▸ hi)) (by omega), ?_⟩
      have m1 : Moves A A6 w w6 := (Moves.of_kept (Kept.of_below HBW.out)).trans mvA6
      exact ⟨⟨by rw [HWX.out]; exact m1.1.os, by rw [HWX.out]; exact m1.1.tape, by rw [HWX.out]; exact m1.1.output, by rw [hsz]; exact m1.1.size, fun i hi hs => (hoth i (by omega)).trans (m1.1.block i hi hs)⟩, m1.2⟩
    have HBB := hidx hb
    clear hb hT6 mv6 h6 mvA6 hN6 HGO HST HSA HA
    go_upto_region 16 with fail
    refine wp_region_lit ?_
    refine wpList_plain rfl fun K hK => ?_
    go_simp
    refine hK _ _ ?_
    clear hK K
    refine wpList_storeRow rfl _ _ _ rfl rfl w.heap.size rfl zeroCellsR zeroCellsR rfl _ Y6.out (by kernel_rfl) rfl (ref_one rec0 none none 0 0 0 0) ?_
    rw [← HWX.out]
    clear Y6 HWX
    obtain ⟨z0, z1, z2, z3, z4, z5, z6, z7, z8, z9, z10, z11, z12, z13, z14, z15, z16⟩ := out_cells HBB.out
    clear HBB
    go_wp2_with fail
    refine bodyPost_ret (v := .tuple #[.agg (refCells rec0 (.slice none 0 0) (.slice none 0 0)), .int .u64 0, .int .i64 0]) (by simp [results, Tryz.results17, go_sem, z0, z1, z2, z3, z4, z5, z6, z7, z8, z9, z10, z11, z12, z13, z14, z15, z16, refCells]) rfl ?_
    exact ⟨rfl, HF.out⟩

end

end Go.Proofs.YtjemeopafkafgaaGreat
