/-
  The walk of (*txn.Manager).Next over records that are not taken back.
-/
import Derived.Test.YtdhphbokkmofaaaGreatTxReadJ
set_option linter.unusedVariables false
set_option linter.unusedSimpArgs false
namespace Go.Proofs.YtdhphbokkmofaaaGreat
open Go.RowKit Go.Sort

def leadN (r : RecV) : Nat := if r.kind = 2 ∨ r.kind = 3 then r.next else r.prev

set_option maxHeartbeats 1600000 in
set_option maxRecDepth 20000 in
theorem leads_any (r : RecV) (ta da : Option Addr) (tc dc : Nat) (w : World) :
    Calls Tryz.prog 163 #[.agg (r.cells ta da tc dc)] w fun e w' => e = .returned (.int .u64 (leadN r)) ∧ Below w.heap.size w w' := by
  obtain ⟨W, HW⟩ : ∃ W, Hid (W = w.alloc (.cells (r.cells ta da tc dc) 54)) := ⟨_, rfl⟩
  have bW : Below w.heap.size w W := by rw [HW.out]; exact (Below.refl _ _).alloc (Nat.le_refl _) _
  have xW : BlkR W w.heap.size (r.cells ta da tc dc) 54 := by rw [HW.out]; exact Blk.made _ _ _
  have HPAR : Hid (r.cells ta da tc dc = #[.int .i64 r.kind, .int .i64 r.tx, .int .u64 r.prev, .int .u64 r.next, .int .u32 r.page, .int .i64 r.op.kind, .int .i64 r.op.at', .string r.op.S, .string r.op.old, .int .i64 r.undo, .int .i64 r.index, .string r.key, .int .u32 r.rpage, .int .i64 r.rslot, .bool r.live, .slice ta r.txs.length tc, .slice da r.dirty.length dc]) := rfl
  have c0 : W.cell? ⟨w.heap.size, 0, none⟩ = some (.int .i64 r.kind) := xW.cell 0
  have c2 : W.cell? ⟨w.heap.size, 2, none⟩ = some (.int .u64 r.prev) := xW.cell 2
  have c3 : W.cell? ⟨w.heap.size, 3, none⟩ = some (.int .u64 r.next) := xW.cell 3
  have HB := hidx bW
  clear bW xW
  rw [HPAR.out]
  by_cases h2 : r.kind = 2
  · have d2 : (r.kind == 2) = true := by rw [beq_iff_eq]; exact h2
    have HL : Hid (leadN r = r.next) := by show leadN r = _; unfold leadN; rw [if_pos (.inl h2)]
    clear h2
    rw [HL.out]
    go_enter Tryz.func163, Tryz.ntmps163
    go_upto_region 1 with fail
    rw [← HPAR.out, ← HW.out]
    clear HW HPAR
    go_wp2
    go_ret
    exact ⟨rfl, HB.out⟩
  · have d2 : (r.kind == 2) = false := by rw [beq_eq_false_iff_ne]; exact h2
    by_cases h3 : r.kind = 3
    · have d3 : (r.kind == 3) = true := by rw [beq_iff_eq]; exact h3
      have HL : Hid (leadN r = r.next) := by show leadN r = _; unfold leadN; rw [if_pos (.inr h3)]
      clear h2 h3
      rw [HL.out]
      go_enter Tryz.func163, Tryz.ntmps163
      go_upto_region 1 with fail
      rw [← HPAR.out, ← HW.out]
      clear HW HPAR
      go_wp2
      go_ret
      exact ⟨rfl, HB.out⟩
    · have d3 : (r.kind == 3) = false := by rw [beq_eq_false_iff_ne]; exact h3
      have HL : Hid (leadN r = r.prev) := by show leadN r = _; unfold leadN; rw [if_neg (by omega)]
      clear h2 h3
      rw [HL.out]
      go_enter Tryz.func163, Tryz.ntmps163
      go_upto_region 1 with fail
      rw [← HPAR.out, ← HW.out]
      clear HW HPAR
      go_wp2
      go_ret
      exact ⟨rfl, HB.out⟩

theorem ahead_ok (a b : Nat) (h : b < a) (w : World) :
    Calls Tryz.prog 162 #[.int .u64 a, .int .u64 b] w fun e w' => e = .returned (.tuple #[.int .u64 b, .int .i64 0]) ∧ w = w' := by
  have h' : (b : Int) < (a : Int) := by omega
  go_enter Tryz.func162, Tryz.ntmps162
  go_wp2
  go_ret2
  exact ⟨rfl, rfl⟩

def PathTo : Nat → List (Nat × RecV) → Nat → Prop
  | a, [], e => a = e
  | a, x :: ps, e => a = x.1 ∧ x.1 ≠ 0 ∧ ¬ (x.2.kind = 1 ∧ x.2.undo ≠ 0) ∧ leadN x.2 < x.1 ∧ PathTo (leadN x.2) ps e

section
variable {w : World} {m p : Nat} {X : Int → Nat} {A : Nat → Prop} {P : PG} {l : LG} {d : DG} {M : MgG}

set_option maxHeartbeats 6400000 in
set_option maxRecDepth 20000 in
theorem next_path (h : MSys w m p X A P l d M) (n : Int) (hn1 : -9223372036854775808 ≤ n) (hn2 : n ≤ 9223372036854775807) {t : MtV} (ht : M.T n = some t) (at' : Nat) (path : List (Nat × RecV)) (hpath : PathTo t.next path at') (h0 : at' ≠ 0) (hr : RisesD t.debts) (hdl : t.debts.length ≤ 1000000) (r : RecV) (hkd : r.kind = 1) (hun : r.undo ≠ 0)
    (hreadP : ∀ x ∈ path, ∀ wx, Below w.heap.size w wx → Calls Tryz.prog 161 #[.pointer (some ⟨m, 0, none⟩), .int .i64 n, .int .u64 x.1] wx fun e w' => ∃ ta da tc dc, e = .returned (.tuple #[.agg (x.2.cells ta da tc dc), .int .i64 0]) ∧ Below wx.heap.size wx w')
    (hread : ∀ wx, Below w.heap.size w wx → Calls Tryz.prog 161 #[.pointer (some ⟨m, 0, none⟩), .int .i64 n, .int .u64 at'] wx fun e w' => ∃ ta da tc dc, e = .returned (.tuple #[.agg (r.cells ta da tc dc), .int .i64 0]) ∧ Below wx.heap.size wx w') :
    Calls Tryz.prog 100 #[.pointer (some ⟨m, 0, none⟩), .int .i64 n] w fun e w' => (∃ ta da tc dc, e = .returned (.tuple #[.agg (r.cells ta da tc dc), .int .u64 at', .int .i64 0])) ∧ ∃ A', MSys w' m p X A' P l d (M.set n { t with next := at', debts := t.debts.take (standN t.debts at') }) ∧ Moves A A' w w' := by
  have HA := hidx (fun (k : Nat) (hk : w.heap.size ≤ k) (x : A k) => by have := h.lt k x; omega : ∀ k, w.heap.size ≤ k → A k → False)
  obtain ⟨W, HW⟩ : ∃ W, Hid (W = w.alloc (.cells zeroCellsR 54)) := ⟨_, rfl⟩
  have bW : Below w.heap.size w W := by rw [HW.out]; exact (Below.refl _ _).alloc (Nat.le_refl _) _
  have xW : BlkR W w.heap.size zeroCellsR 54 := by rw [HW.out]; exact Blk.made _ _ _
  have HFI := hidx (find_yes (h.below bW) n hn1 hn2 ht)
  obtain ⟨S0, hT0, _, _⟩ := (h.below bW).tx ht
  have c3 := hT0.cells.c3
  have HRD : Hid (∀ wx, Below W.heap.size W wx → Calls Tryz.prog 161 #[.pointer (some ⟨m, 0, none⟩), .int .i64 n, .int .u64 at'] wx fun e w' => ∃ ta da tc dc, e = .returned (.tuple #[.agg (r.cells ta da tc dc), .int .i64 0]) ∧ Below wx.heap.size wx w') := fun wx bx => hread wx (below_chain bW bx)
  have HRDP : Hid (∀ x ∈ path, ∀ wx, Below W.heap.size W wx → Calls Tryz.prog 161 #[.pointer (some ⟨m, 0, none⟩), .int .i64 n, .int .u64 x.1] wx fun e w' => ∃ ta da tc dc, e = .returned (.tuple #[.agg (x.2.cells ta da tc dc), .int .i64 0]) ∧ Below wx.heap.size wx w') := fun x hx wx bx => hreadP x hx wx (below_chain bW bx)
  have HUN : Hid (∀ (ta da : Option Addr) (tc dc : Nat) wx, Calls Tryz.prog 130 #[.agg (r.cells ta da tc dc)] wx fun e w' => e = .returned (.bool true) ∧ Below wx.heap.size wx w') := fun ta da tc dc wx => by
    have := undoable_any r ta da tc dc wx
    rw [decide_eq_true (show r.kind = 1 ∧ r.undo ≠ 0 from ⟨hkd, hun⟩)] at this
    exact this
  have HH := hidx h
  have HT := hidx ht
  have HBW := hidx bW
  have HXW := hidx xW
  have HR := hidx hr
  have d0 : ((at' : Int) == 0) = false := by rw [beq_eq_false_iff_ne]; omega
  have HPA := hidx hpath
  have HZC : Hid (zeroCellsR = #[.int .i64 0, .int .i64 0, .int .u64 0, .int .u64 0, .int .u32 0, .int .i64 0, .int .i64 0, .string ⟨#[]⟩, .string ⟨#[]⟩, .int .i64 0, .int .i64 0, .string ⟨#[]⟩, .int .u32 0, .int .i64 0, .bool false, .slice none 0 0, .slice none 0 0]) := rfl
  clear h ht hread hreadP hT0 bW xW hr h0 hkd hun hpath
  go_enter Tryz.func100, Tryz.ntmps100
  go_upto_region 1 with fail
  rw [← HZC.out, ← HW.out]
  clear HW HZC
  go_wp2_with fail
  refine HFI.out.mono ?_
  rintro e w1 ⟨rfl, rfl⟩
  clear HFI
  go_wp2_with fail
  go_loopg [9] path.length (fun g v9 wr => ∃ (a9 : Nat) (ps : List (Nat × RecV)), v9 = .int .u64 a9 ∧ ps.length ≤ g ∧ Hid (PathTo a9 ps at') ∧ Hid (∀ y ∈ ps, y ∈ path) ∧ Hid (Below W.heap.size W wr))
  case atStart => exact ⟨t.next, path, rfl, Nat.le_refl _, HPA, fun y hy => hy, hidx (Below.refl _ _)⟩
  case round =>
    clear c3 HPA
    obtain ⟨a9, ps, rfl, hps, HPT, HPM, HBr⟩ := hrel
    cases ps with
    | cons x ps =>
      as_aux_lemma =>
      obtain ⟨hax, hx0, hxu, hlt, hpt⟩ := HPT.out
      obtain ⟨pl, rx⟩ := x
      simp only at hax hx0 hxu hlt hpt
      subst hax
      have HRX := hidx (HRDP.out (a9, rx) (HPM.out _ (by simp)) wr HBr.out)
      have HPM' : Hid (∀ y ∈ ps, y ∈ path) := fun y hy => HPM.out y (by simp [hy])
      have HPT' := hidx hpt
      have d0 : ((a9 : Int) == 0) = false := by rw [beq_eq_false_iff_ne]; omega
      have HUX : Hid (∀ (ta da : Option Addr) (tc dc : Nat) wx, Calls Tryz.prog 130 #[.agg (rx.cells ta da tc dc)] wx fun e w' => e = .returned (.bool false) ∧ Below wx.heap.size wx w') := fun ta da tc dc wx => by
        have := undoable_any rx ta da tc dc wx
        rw [decide_eq_false hxu] at this
        exact this
      have HLX : Hid (∀ (ta da : Option Addr) (tc dc : Nat) wx, Calls Tryz.prog 163 #[.agg (rx.cells ta da tc dc)] wx fun e w' => e = .returned (.int .u64 (leadN rx)) ∧ Below wx.heap.size wx w') := fun ta da tc dc wx => leads_any rx ta da tc dc wx
      have HAX : Hid (∀ wx, Calls Tryz.prog 162 #[.int .u64 a9, .int .u64 (leadN rx)] wx fun e w' => e = .returned (.tuple #[.int .u64 (leadN rx), .int .i64 0]) ∧ wx = w') := fun wx => ahead_ok a9 (leadN rx) hlt wx
      clear HPT HPM hx0 hxu hlt hpt
      generalize leadN rx = ld at *
      go_wp2_with fail
      refine HRX.out.mono ?_
      rintro e w3 ⟨ta, da, tc, dc, rfl, b3⟩
      have HRC : Hid (rx.cells ta da tc dc = #[.int .i64 rx.kind, .int .i64 rx.tx, .int .u64 rx.prev, .int .u64 rx.next, .int .u32 rx.page, .int .i64 rx.op.kind, .int .i64 rx.op.at', .string rx.op.S, .string rx.op.old, .int .i64 rx.undo, .int .i64 rx.index, .string rx.key, .int .u32 rx.rpage, .int .i64 rx.rslot, .bool rx.live, .slice ta rx.txs.length tc, .slice da rx.dirty.length dc]) := rfl
      obtain ⟨W4, HW4⟩ : ∃ W', Hid (W' = w3.alloc (.cells (rx.cells ta da tc dc) 54)) := ⟨_, rfl⟩
      have b4 : RowKit.Below w3.heap.size w3 W4 := by rw [HW4.out]; exact (Below.refl _ _).alloc (Nat.le_refl _) _
      have x4 : BlkR W4 w3.heap.size (rx.cells ta da tc dc) 54 := by rw [HW4.out]; exact Blk.made _ _ _
      have X4 := hidx x4
      have B4 := hidx (below_chain HBr.out (below_chain b3 b4))
      clear x4 b3 b4 HRX
      rw [HRC.out]
      go_upto_region 7 with fail
      rw [← HRC.out, ← HW4.out]
      clear HW4
      go_upto_region 9 with fail
      refine wp_region_lit ?_
      refine wpList_loadRow rfl _ _ rfl w3.heap.size rfl (rx.cells ta da tc dc) _ (0, 0) X4.out _ Tryz.underlying54 rfl (by kernel_rfl) ?_
      go_wp2_with fail
      refine (HUX.out ta da tc dc W4).mono ?_
      rintro e w5 ⟨rfl, b5⟩
      have X5 := hidx (X4.out.same (b5.block _ X4.out.lt))
      have B5 := hidx (below_chain B4.out b5)
      clear b5 X4 B4 HUX
      go_upto_region 12 with fail
      refine wp_region_lit ?_
      refine wpList_plain rfl fun K hK => ?_
      go_simp
      refine hK _ _ ?_
      clear hK K
      refine wpList_loadRow rfl _ _ rfl w3.heap.size rfl (rx.cells ta da tc dc) _ (0, 0) X5.out _ Tryz.underlying54 rfl (by kernel_rfl) ?_
      clear HRC
      go_wp2_with fail
      refine (HLX.out ta da tc dc w5).mono ?_
      rintro e w6 ⟨rfl, b6⟩
      have B6 := hidx (below_chain B5.out b6)
      clear b6 X5 B5 HLX
      go_wp2_with fail
      refine (HAX.out w6).mono ?_
      rintro e w7 ⟨rfl, rfl⟩
      clear HAX
      go_wp2_with fail
      go_roundg (ps.length)
      case measure => simp at hps; omega
      case rel => exact ⟨ld, ps, rfl, Nat.le_refl _, HPT', HPM', B6⟩
    | nil =>
      as_aux_lemma =>
      obtain rfl : at' = a9 := HPT.out.symm
      clear HPT HPM
      go_wp2_with fail
      refine (HRD.out wr HBr.out).mono ?_
      rintro e w3 ⟨ta, da, tc, dc, rfl, b3⟩
      have HRC : Hid (r.cells ta da tc dc = #[.int .i64 r.kind, .int .i64 r.tx, .int .u64 r.prev, .int .u64 r.next, .int .u32 r.page, .int .i64 r.op.kind, .int .i64 r.op.at', .string r.op.S, .string r.op.old, .int .i64 r.undo, .int .i64 r.index, .string r.key, .int .u32 r.rpage, .int .i64 r.rslot, .bool r.live, .slice ta r.txs.length tc, .slice da r.dirty.length dc]) := rfl
      obtain ⟨W4, HW4⟩ : ∃ W', Hid (W' = w3.alloc (.cells (r.cells ta da tc dc) 54)) := ⟨_, rfl⟩
      have b4 : RowKit.Below w3.heap.size w3 W4 := by rw [HW4.out]; exact (Below.refl _ _).alloc (Nat.le_refl _) _
      have x4 : BlkR W4 w3.heap.size (r.cells ta da tc dc) 54 := by rw [HW4.out]; exact Blk.made _ _ _
      have b34 := below_chain HBr.out (below_chain b3 b4)
      have Y4 := hidx (HXW.out.same (b34.block _ HXW.out.lt))
      have B4 := hidx (below_chain HBW.out b34)
      have hlt : w.heap.size < w3.heap.size := Nat.lt_of_lt_of_le HXW.out.lt (Nat.le_trans HBr.out.size b3.size)
      have X4 := hidx x4
      clear x4 b3 b4 b34 HRD HRDP
      rw [HRC.out]
      go_upto_region 7 with fail
      rw [← HRC.out, ← HW4.out]
      clear HW4
      go_upto_region 9 with fail
      refine wp_region_lit ?_
      refine wpList_loadRow rfl _ _ rfl w3.heap.size rfl (r.cells ta da tc dc) _ (0, 0) X4.out _ Tryz.underlying54 rfl (by kernel_rfl) ?_
      go_wp2_with fail
      refine (HUN.out ta da tc dc W4).mono ?_
      rintro e w5 ⟨rfl, b5⟩
      have X5 := hidx (X4.out.same (b5.block _ X4.out.lt))
      have Y5 := hidx (Y4.out.same (b5.block _ Y4.out.lt))
      have B5 := hidx (below_chain B4.out b5)
      obtain ⟨S5, hT5, hSA5, step5⟩ := (HH.out.below B5.out).tx HT.out
      have HGO := hidx (goOn_any hT5 HR.out (by omega) at')
      have HST := hidx step5
      have HSA := hidx hSA5
      clear b5 X4 Y4 B4 HUN hT5 hSA5 step5
      go_wp2_with fail
      refine HGO.out.mono ?_
      rintro e w6 ⟨rfl, hT6, mv6⟩
      obtain ⟨A6, h6, mvA6⟩ := HST.out _ _ _ hT6 rfl mv6
      have o6 : ∀ k, w.heap.size ≤ k → k < w5.heap.size → w6.heap[k]? = w5.heap[k]? := fun k hk hl => mv6.1.block k hl fun x => HA.out k hk (HSA.out k x)
      have hN6 : ¬ A6 w.heap.size := (mvA6.off Y5.out.lt fun x => HA.out _ (Nat.le_refl _) x).2
      have X6 := hidx ((o6 _ (by omega) X5.out.lt).trans X5.out)
      have Y6 := hidx ((o6 _ (Nat.le_refl _) Y5.out.lt).trans Y5.out)
      obtain ⟨WX, HWX⟩ : ∃ WX, Hid (WX = w6.setRow w.heap.size (r.cells ta da tc dc)) := ⟨_, rfl⟩
      have hb : BlkR WX w.heap.size (refCells r (.slice ta r.txs.length tc) (.slice da r.dirty.length dc)) 54 := by rw [HWX.out]; exact setRow_heap w6 _ _ _ _ _ Y6.out
      have HF : Hid (∃ A', MSys WX m p X A' P l d (M.set n { t with next := at', debts := t.debts.take (standN t.debts at') }) ∧ Moves A A' w WX) := by
        have hsz : WX.heap.size = w6.heap.size := by rw [HWX.out]; simp [World.setRow]
        have hoth : ∀ k, k ≠ w.heap.size → WX.heap[k]? = w6.heap[k]? := fun k hk => by rw [HWX.out]; exact setRow_other w6 _ k _ hk
        refine hidx ⟨A6, h6.same (fun i hi => hoth i fun e => hN6 (e ▸ hi)) (by omega), ?_⟩
        have m1 : Moves A A6 w w6 := (Moves.of_kept (Kept.of_below B5.out)).trans mvA6
        exact ⟨⟨by rw [HWX.out]; exact m1.1.os, by rw [HWX.out]; exact m1.1.tape, by rw [HWX.out]; exact m1.1.output, by rw [hsz]; exact m1.1.size, fun i hi hs => (hoth i (by omega)).trans (m1.1.block i hi hs)⟩, m1.2⟩
      have HBB := hidx hb
      clear hb hT6 mv6 h6 mvA6 o6 hN6 X5 Y5 B5 HGO HST HSA HA HT HH HR
      go_upto_region 11 with fail
      refine wp_region_lit ?_
      refine wpList_loadRow rfl _ _ rfl w3.heap.size rfl (r.cells ta da tc dc) _ (0, 0) X6.out _ Tryz.underlying54 rfl (by kernel_rfl) ?_
      refine wpList_plain rfl fun K hK => ?_
      go_simp
      refine hK _ _ ?_
      clear hK K
      refine wpList_storeRow rfl _ _ _ rfl rfl w.heap.size rfl (r.cells ta da tc dc) zeroCellsR rfl _ Y6.out (by kernel_rfl) rfl (ref_one r _ _ _ _ _ _) ?_
      rw [← HWX.out]
      clear X6 Y6 HWX
      obtain ⟨z0, z1, z2, z3, z4, z5, z6, z7, z8, z9, z10, z11, z12, z13, z14, z15, z16⟩ := out_cells HBB.out
      clear HBB
      go_wp2_with fail
      refine bodyPost_ret (v := .tuple #[.agg (refCells r (.slice ta r.txs.length tc) (.slice da r.dirty.length dc)), .int .u64 at', .int .i64 0]) (by simp [results, Tryz.results100, go_sem, z0, z1, z2, z3, z4, z5, z6, z7, z8, z9, z10, z11, z12, z13, z14, z15, z16, refCells]) rfl ?_
      exact ⟨⟨ta, da, tc, dc, rfl⟩, HF.out⟩

end

end Go.Proofs.YtdhphbokkmofaaaGreat

namespace Go.Proofs.YtdhphbokkmofaaaGreat
open Go.RowKit Go.Sort

section
variable {w : World} {m p : Nat} {X : Int → Nat} {A : Nat → Prop} {P : PG} {l : LG} {d : DG} {M : MgG}

set_option maxHeartbeats 6400000 in
set_option maxRecDepth 20000 in
theorem next_path0 (h : MSys w m p X A P l d M) (n : Int) (hn1 : -9223372036854775808 ≤ n) (hn2 : n ≤ 9223372036854775807) {t : MtV} (ht : M.T n = some t) (path : List (Nat × RecV)) (hpath : PathTo t.next path 0) (hr : RisesD t.debts) (hdl : t.debts.length ≤ 1000000)
    (hreadP : ∀ x ∈ path, ∀ wx, Below w.heap.size w wx → Calls Tryz.prog 161 #[.pointer (some ⟨m, 0, none⟩), .int .i64 n, .int .u64 x.1] wx fun e w' => ∃ ta da tc dc, e = .returned (.tuple #[.agg (x.2.cells ta da tc dc), .int .i64 0]) ∧ Below wx.heap.size wx w') :
    Calls Tryz.prog 100 #[.pointer (some ⟨m, 0, none⟩), .int .i64 n] w fun e w' => e = .returned (.tuple #[.agg (rec0.cells none none 0 0), .int .u64 0, .int .i64 0]) ∧ ∃ A', MSys w' m p X A' P l d (M.set n { t with next := 0, debts := t.debts.take (standN t.debts 0) }) ∧ Moves A A' w w' := by
  have HA := hidx (fun (k : Nat) (hk : w.heap.size ≤ k) (x : A k) => by have := h.lt k x; omega : ∀ k, w.heap.size ≤ k → A k → False)
  obtain ⟨W, HW⟩ : ∃ W, Hid (W = w.alloc (.cells zeroCellsR 54)) := ⟨_, rfl⟩
  have bW : Below w.heap.size w W := by rw [HW.out]; exact (Below.refl _ _).alloc (Nat.le_refl _) _
  have xW : BlkR W w.heap.size zeroCellsR 54 := by rw [HW.out]; exact Blk.made _ _ _
  have HFI := hidx (find_yes (h.below bW) n hn1 hn2 ht)
  obtain ⟨S0, hT0, _, _⟩ := (h.below bW).tx ht
  have c3 := hT0.cells.c3
  have HRDP : Hid (∀ x ∈ path, ∀ wx, Below W.heap.size W wx → Calls Tryz.prog 161 #[.pointer (some ⟨m, 0, none⟩), .int .i64 n, .int .u64 x.1] wx fun e w' => ∃ ta da tc dc, e = .returned (.tuple #[.agg (x.2.cells ta da tc dc), .int .i64 0]) ∧ Below wx.heap.size wx w') := fun x hx wx bx => hreadP x hx wx (below_chain bW bx)
  have HH := hidx h
  have HT := hidx ht
  have HBW := hidx bW
  have HXW := hidx xW
  have HR := hidx hr
  have HPA := hidx hpath
  have HZC : Hid (zeroCellsR = #[.int .i64 0, .int .i64 0, .int .u64 0, .int .u64 0, .int .u32 0, .int .i64 0, .int .i64 0, .string ⟨#[]⟩, .string ⟨#[]⟩, .int .i64 0, .int .i64 0, .string ⟨#[]⟩, .int .u32 0, .int .i64 0, .bool false, .slice none 0 0, .slice none 0 0]) := rfl
  clear h ht hreadP hT0 bW xW hr hpath
  go_enter Tryz.func100, Tryz.ntmps100
  go_upto_region 1 with fail
  rw [← HZC.out, ← HW.out]
  clear HW HZC
  go_wp2_with fail
  refine HFI.out.mono ?_
  rintro e w1 ⟨rfl, rfl⟩
  clear HFI
  go_wp2_with fail
  go_loopg [9] path.length (fun g v9 wr => ∃ (a9 : Nat) (ps : List (Nat × RecV)), v9 = .int .u64 a9 ∧ ps.length ≤ g ∧ Hid (PathTo a9 ps 0) ∧ Hid (∀ y ∈ ps, y ∈ path) ∧ Hid (Below W.heap.size W wr))
  case atStart => exact ⟨t.next, path, rfl, Nat.le_refl _, HPA, fun y hy => hy, hidx (Below.refl _ _)⟩
  case round =>
    clear c3 HPA
    obtain ⟨a9, ps, rfl, hps, HPT, HPM, HBr⟩ := hrel
    cases ps with
    | cons x ps =>
      as_aux_lemma =>
      obtain ⟨hax, hx0, hxu, hlt, hpt⟩ := HPT.out
      obtain ⟨pl, rx⟩ := x
      simp only at hax hx0 hxu hlt hpt
      subst hax
      have HRX := hidx (HRDP.out (a9, rx) (HPM.out _ (by simp)) wr HBr.out)
      have HPM' : Hid (∀ y ∈ ps, y ∈ path) := fun y hy => HPM.out y (by simp [hy])
      have HPT' := hidx hpt
      have d0 : ((a9 : Int) == 0) = false := by rw [beq_eq_false_iff_ne]; omega
      have HUX : Hid (∀ (ta da : Option Addr) (tc dc : Nat) wx, Calls Tryz.prog 130 #[.agg (rx.cells ta da tc dc)] wx fun e w' => e = .returned (.bool false) ∧ Below wx.heap.size wx w') := fun ta da tc dc wx => by
        have := undoable_any rx ta da tc dc wx
        rw [decide_eq_false hxu] at this
        exact this
      have HLX : Hid (∀ (ta da : Option Addr) (tc dc : Nat) wx, Calls Tryz.prog 163 #[.agg (rx.cells ta da tc dc)] wx fun e w' => e = .returned (.int .u64 (leadN rx)) ∧ Below wx.heap.size wx w') := fun ta da tc dc wx => leads_any rx ta da tc dc wx
      have HAX : Hid (∀ wx, Calls Tryz.prog 162 #[.int .u64 a9, .int .u64 (leadN rx)] wx fun e w' => e = .returned (.tuple #[.int .u64 (leadN rx), .int .i64 0]) ∧ wx = w') := fun wx => ahead_ok a9 (leadN rx) hlt wx
      clear HPT HPM hx0 hxu hlt hpt
      generalize leadN rx = ld at *
      go_wp2_with fail
      refine HRX.out.mono ?_
      rintro e w3 ⟨ta, da, tc, dc, rfl, b3⟩
      have HRC : Hid (rx.cells ta da tc dc = #[.int .i64 rx.kind, .int .i64 rx.tx, .int .u64 rx.prev, .int .u64 rx.next, .int .u32 rx.page, .int .i64 rx.op.kind, .int .i64 rx.op.at', .string rx.op.S, .string rx.op.old, .int .i64 rx.undo, .int .i64 rx.index, .string rx.key, .int .u32 rx.rpage, .int .i64 rx.rslot, .bool rx.live, .slice ta rx.txs.length tc, .slice da rx.dirty.length dc]) := rfl
      obtain ⟨W4, HW4⟩ : ∃ W', Hid (W' = w3.alloc (.cells (rx.cells ta da tc dc) 54)) := ⟨_, rfl⟩
      have b4 : RowKit.Below w3.heap.size w3 W4 := by rw [HW4.out]; exact (Below.refl _ _).alloc (Nat.le_refl _) _
      have x4 : BlkR W4 w3.heap.size (rx.cells ta da tc dc) 54 := by rw [HW4.out]; exact Blk.made _ _ _
      have X4 := hidx x4
      have B4 := hidx (below_chain HBr.out (below_chain b3 b4))
      clear x4 b3 b4 HRX
      rw [HRC.out]
      go_upto_region 7 with fail
      rw [← HRC.out, ← HW4.out]
      clear HW4
      go_upto_region 9 with fail
      refine wp_region_lit ?_
      refine wpList_loadRow rfl _ _ rfl w3.heap.size rfl (rx.cells ta da tc dc) _ (0, 0) X4.out _ Tryz.underlying54 rfl (by kernel_rfl) ?_
      go_wp2_with fail
      refine (HUX.out ta da tc dc W4).mono ?_
      rintro e w5 ⟨rfl, b5⟩
      have X5 := hidx (X4.out.same (b5.block _ X4.out.lt))
      have B5 := hidx (below_chain B4.out b5)
      clear b5 X4 B4 HUX
      go_upto_region 12 with fail
      refine wp_region_lit ?_
      refine wpList_plain rfl fun K hK => ?_
      go_simp
      refine hK _ _ ?_
      clear hK K
      refine wpList_loadRow rfl _ _ rfl w3.heap.size rfl (rx.cells ta da tc dc) _ (0, 0) X5.out _ Tryz.underlying54 rfl (by kernel_rfl) ?_
      clear HRC
      go_wp2_with fail
      refine (HLX.out ta da tc dc w5).mono ?_
      rintro e w6 ⟨rfl, b6⟩
      have B6 := hidx (below_chain B5.out b6)
      clear b6 X5 B5 HLX
      go_wp2_with fail
      refine (HAX.out w6).mono ?_
      rintro e w7 ⟨rfl, rfl⟩
      clear HAX
      go_wp2_with fail
      go_roundg (ps.length)
      case measure => simp at hps; omega
      case rel => exact ⟨ld, ps, rfl, Nat.le_refl _, HPT', HPM', B6⟩
    | nil =>
      as_aux_lemma =>
      obtain rfl : a9 = 0 := HPT.out
      clear HPT HPM HRDP
      have B5 := hidx (below_chain HBW.out HBr.out)
      have Y5 := hidx (HXW.out.same (HBr.out.block _ HXW.out.lt))
      obtain ⟨S5, hT5, hSA5, step5⟩ := (HH.out.below B5.out).tx HT.out
      have HGO := hidx (goOn_any hT5 HR.out (by omega) 0)
      have HST := hidx step5
      have HSA := hidx hSA5
      clear hT5 hSA5 step5 HBr
      go_wp2_with fail
      refine HGO.out.mono ?_
      rintro e w6 ⟨rfl, hT6, mv6⟩
      obtain ⟨A6, h6, mvA6⟩ := HST.out _ _ _ hT6 rfl mv6
      have hN6 : ¬ A6 w.heap.size := (mvA6.off Y5.out.lt fun x => HA.out _ (Nat.le_refl _) x).2
      have Y6 := hidx ((mv6.1.block _ Y5.out.lt fun x => HA.out _ (Nat.le_refl _) (HSA.out _ x)).trans Y5.out)
      obtain ⟨WX, HWX⟩ : ∃ WX, Hid (WX = w6.setRow w.heap.size zeroCellsR) := ⟨_, rfl⟩
      have hb : BlkR WX w.heap.size (refCells rec0 (.slice none 0 0) (.slice none 0 0)) 54 := by rw [HWX.out]; exact setRow_heap w6 _ _ _ _ _ Y6.out
      have HF : Hid (∃ A', MSys WX m p X A' P l d (M.set n { t with next := 0, debts := t.debts.take (standN t.debts 0) }) ∧ Moves A A' w WX) := by
        have hsz : WX.heap.size = w6.heap.size := by rw [HWX.out]; simp [World.setRow]
        have hoth : ∀ k, k ≠ w.heap.size → WX.heap[k]? = w6.heap[k]? := fun k hk => by rw [HWX.out]; exact setRow_other w6 _ k _ hk
        refine hidx ⟨A6, h6.same (fun i hi => hoth i fun e => hN6 (e ▸ hi)) (by omega), ?_⟩
        have m1 : Moves A A6 w w6 := (Moves.of_kept (Kept.of_below B5.out)).trans mvA6
        exact ⟨⟨by rw [HWX.out]; exact m1.1.os, by rw [HWX.out]; exact m1.1.tape, by rw [HWX.out]; exact m1.1.output, by rw [hsz]; exact m1.1.size, fun i hi hs => (hoth i (by omega)).trans (m1.1.block i hi hs)⟩, m1.2⟩
      have HBB := hidx hb
      clear hb hT6 mv6 h6 mvA6 hN6 HGO HST HSA HA
      go_upto_region 16 with fail
      refine wp_region_lit ?_
      refine wpList_plain rfl fun K hK => ?_
      go_simp
      refine hK _ _ ?_
      clear hK K
      refine wpList_storeRow rfl _ _ _ rfl rfl w.heap.size rfl zeroCellsR zeroCellsR rfl _ Y6.out (by kernel_rfl) rfl (ref_one rec0 none none 0 0 0 0) ?_
      rw [← HWX.out]
      clear Y6 HWX
      obtain ⟨z0, z1, z2, z3, z4, z5, z6, z7, z8, z9, z10, z11, z12, z13, z14, z15, z16⟩ := out_cells HBB.out
      clear HBB
      go_wp2_with fail
      refine bodyPost_ret (v := .tuple #[.agg (refCells rec0 (.slice none 0 0) (.slice none 0 0)), .int .u64 0, .int .i64 0]) (by simp [results, Tryz.results100, go_sem, z0, z1, z2, z3, z4, z5, z6, z7, z8, z9, z10, z11, z12, z13, z14, z15, z16, refCells]) rfl ?_
      exact ⟨rfl, HF.out⟩

end

end Go.Proofs.YtdhphbokkmofaaaGreat
