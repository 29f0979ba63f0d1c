/-
  The walk of redo.repeatAll: nothing due, or one change that can be done; redo.Run of no pool, of nothing due, of what is no record, of one change.
-/
import Derived.Test.YtgkfdakieebnmaaGreatRdSeeC
import Derived.Test.YtgkfdakieebnmaaGreatRdDueC
import Derived.Deep.RegionWith
import Derived.Test.YtgkfdakieebnmaaGreatRdChgC
set_option linter.unusedVariables false
set_option linter.unusedSimpArgs false
namespace Go.Proofs.YtgkfdakieebnmaaGreat
open Go.RowKit Go.Sort Go.Shelf Go.Lib

set_option maxHeartbeats 1600000 in
set_option maxRecDepth 60000 in
theorem all_nil (w : World) (pp : Nat) : Calls Tryz.prog 42 #[.pointer (some ⟨pp, 0, none⟩), .slice none 0 0] w fun e w' => e = .returned (.tuple #[.int .i64 0, .int .i64 0, .int .i64 0]) ∧ w' = w := by
  go_enter Tryz.func42, Tryz.ntmps42
  go_wp2_with fail
  go_loopw [7, 14] (fun v x wr => x = .int .i64 0 ∧ v = .int .i64 0 ∧ wr = w) (fun _ x _ => 0)
  case atStart => exact ⟨rfl, rfl, rfl⟩
  case round =>
    obtain ⟨rfl, rfl, rfl⟩ := hrel
    go_wp2_with fail
    refine bodyPost_ret (v := .tuple #[.int .i64 0, .int .i64 0, .int .i64 0]) (by simp [results, Tryz.results42, go_sem]) rfl ?_
    exact ⟨rfl, rfl⟩

set_option maxHeartbeats 6400000 in
set_option maxRecDepth 20000 in
theorem all_one {w W : World} {p q pp : Nat} {A S : Nat → Prop} {l : LG} {d : DG} {rs : List ByteArray} {sure j : Nat} {P : PG} (h : RdS w W p q A l d rs sure j) (hp : PoAt w W A p q pp S P) (r : RecV) (b c : Nat) (ta da : Option Addr) (tc dc at' : Nat) (hb : b < W.heap.size) (hrow : W.rangeAt b 0 (plArr at' r ta da tc dc).toList) (h1 : 1 ≤ r.page) (h2 : r.page ≤ 64) (hk : r.kind = 1 ∨ r.kind = 2)
    (hz : P.F r.page = none → P.z < P.most) (hzz : P.z ≤ 900) (hmo : P.most ≤ 256) (hfe : P.fetched ≤ 100000) (hfit : (shOf P r.page).Fits) {y : SheetV} (hA : ApplyIs (shOf P r.page) r.op 0 y) (hnum : (shOf P r.page).num = r.page) (hat : at' < 18446744073709551616) (hls : (shOf P r.page).lsn < at') :
    Calls Tryz.prog 42 #[.pointer (some ⟨pp, 0, none⟩), .slice (some ⟨b, 0, none⟩) 1 c] W fun e w' => e = .returned (.tuple #[.int .i64 1, .int .i64 0, .int .i64 0]) ∧ Stp w W w' p q pp A S l d rs sure j (putP (ofG P r.page) { y with lsn := at' }) := by
  have HROW := hida hrow
  have HPA : Hid (plArr at' r ta da tc dc = #[.int .u64 (at' : Nat), .int .i64 r.kind, .int .i64 r.tx, .int .u64 r.prev, .int .u64 r.next, .int .u32 r.page, .int .i64 r.op.kind, .int .i64 r.op.at', .string r.op.S, .string r.op.old, .int .i64 r.undo, .int .i64 r.index, .string r.key, .int .u32 r.rpage, .int .i64 r.rslot, .bool r.live, .slice ta r.txs.length tc, .slice da r.dirty.length dc]) := rfl
  obtain ⟨W4, HW4⟩ : ∃ W4, Hid (W4 = W.alloc (.cells (plArr at' r ta da tc dc) 178)) := ⟨_, rfl⟩
  have b4 : Below W.heap.size W W4 := by rw [HW4.out]; exact (Below.refl _ _).alloc (Nat.le_refl _) _
  have HBX : Hid (Blk W4 W.heap.size (plArr at' r ta da tc dc) 178) := by rw [HW4.out]; exact Blk.made _ _ _
  have HON := hida (one_any (h.below b4) (hp.below b4) r ta da tc dc at' h1 h2 hz hzz hmo hfe hfit hA hnum hat)
  have HBE := hida b4
  clear h hp hrow hz hA hfit hnum b4
  go_enter Tryz.func42, Tryz.ntmps42
  go_wp2_with fail
  go_loopw [7, 14] (fun v x wr => (x = .int .i64 0 ∧ v = .int .i64 0 ∧ wr = W) ∨ (x = .int .i64 1 ∧ v = .int .i64 1 ∧ Hid (Stp w W wr p q pp A S l d rs sure j (putP (ofG P r.page) { y with lsn := at' })))) (fun _ x _ => 1 - (intOf x).toNat)
  case atStart => exact .inl ⟨rfl, rfl, rfl⟩
  case round =>
    rcases hrel with ⟨rfl, rfl, rfl⟩ | ⟨rfl, rfl, HD⟩
    · rw [HPA.out] at HW4
      go_upto_region 5 with (refine wpList_load_midR rfl 178 (.tmp 16) rfl b 0 rfl (plArr at' r ta da tc dc) _ HROW.out Tryz.underlying178 rfl (by kernel_rfl) ?_; rw [HPA.out])
      rw [← HW4.out]
      clear HW4
      have n0 : W4.cell? ⟨wr.heap.size, 0, none⟩ = some (.int .u64 (at' : Nat)) := HBX.out.cell 0
      have HR4 := hida (pl_row HBX.out)
      go_wp2_with (refine wpList_load_midR rfl 64 (.tmp 22) rfl wr.heap.size 1 rfl (r.cells ta da tc dc) _ HR4.out Tryz.underlying64 rfl (by kernel_rfl) ?_)
      refine HON.out.mono ?_
      rintro e w5 ho
      obtain ⟨rfl, hs⟩ := ho.yes hk hls rfl
      have HF := hida (hs.pre HBE.out)
      clear HON ho hs HBX HBE HROW HR4 n0
      go_wp2_with fail
      go_roundw
      case rel => exact .inr ⟨by go_num, by go_num, HF⟩
      case measure => simp [intOf]
    · have HDD := hida HD.out
      go_wp2_with fail
      refine bodyPost_ret (v := .tuple #[.int .i64 1, .int .i64 0, .int .i64 0]) (by simp [results, Tryz.results42, go_sem]) rfl ?_
      exact ⟨rfl, HDD.out⟩

end Go.Proofs.YtgkfdakieebnmaaGreat

namespace Go.Proofs.YtgkfdakieebnmaaGreat
open Go.RowKit Go.Sort Go.Shelf Go.Lib

set_option maxHeartbeats 1600000 in
set_option maxRecDepth 60000 in
theorem redo_none (w : World) : Calls Tryz.prog 14 #[.pointer none, .agg #[.slice none 0 0, .slice none 0 0, .int .u64 0, .int .i64 0, .int .i64 0]] w fun e w' => e = .returned (.tuple #[.int .i64 0, .int .i64 0, .int .i64 1]) ∧ Below w.heap.size w w' := by
  have HB : Hid (Below w.heap.size w w) := Below.refl _ _
  go_enter Tryz.func14, Tryz.ntmps14
  go_wp2_with fail
  refine bodyPost_ret (v := .tuple #[.int .i64 0, .int .i64 0, .int .i64 1]) (by simp [results, Tryz.results14, go_sem]) rfl ?_
  exact ⟨rfl, HB.out.alloc (Nat.le_refl _) _⟩

theorem DueIs.base {W W1 w' : World} {r : RecV} {M : List DiV} {v : Value} (h : DueIs W1 w' r M v) (b : Below W.heap.size W W1) : DueIs W w' r M v := ⟨below_chain b h.1, by
  rcases h.2 with ⟨g1, x, c, ta, da, tc, dc, g2, g3, g4⟩ | g
  · exact .inl ⟨g1, x, c, ta, da, tc, dc, g2, ⟨Nat.le_trans b.size g3.1, g3.2⟩, g4⟩
  · exact .inr g⟩

structure RuD (w W wx : World) (p q pp : Nat) (A S : Nat → Prop) (l : LG) (d : DG) (s : ByteArray) (sure j : Nat) (P : PG) (r : RecV) (M : List DiV) (v : Value) : Prop where
  due : DueIs W wx r M v
  rd : RdS w wx p q A l d [s] sure j
  po : PoAt w wx A p q pp S P

set_option maxHeartbeats 6400000 in
set_option maxRecDepth 20000 in
theorem redo_bad {w W : World} {p q pp : Nat} {A S : Nat → Prop} {l : LG} {d : DG} {s : ByteArray} {sure j : Nat} {P : PG} (h : RdS w W p q A l d [s] sure j) (hp : PoAt w W A p q pp S P) (hj : j ≤ 1000) (x1 x2 : Option Addr) (n1 y1 y2 : Nat) (M : List DiV) (mo rc : Int) (hM : DisAt W x2 M) (hl : M.length ≤ 100000) (hr : ∀ x ∈ M, x.1 < 4294967296) (hb : DecBad s) :
    Calls Tryz.prog 14 #[.pointer (some ⟨pp, 0, none⟩), .agg #[.slice x1 n1 y1, .slice x2 M.length y2, .int .u64 1, .int .i64 mo, .int .i64 rc]] W fun e w' => e = .returned (.tuple #[.int .i64 0, .int .i64 0, .int .i64 40]) ∧ Below W.heap.size W w' := by
  obtain ⟨W1, HW1⟩ : ∃ W1, Hid (W1 = W.alloc (.cells #[.slice x1 n1 y1, .slice x2 M.length y2, .int .u64 1, .int .i64 mo, .int .i64 rc] 43)) := ⟨_, rfl⟩
  have b1 : Below W.heap.size W W1 := by rw [HW1.out]; exact (Below.refl _ _).alloc (Nat.le_refl _) _
  have hB1 : Blk W1 W.heap.size #[.slice x1 n1 y1, .slice x2 M.length y2, .int .u64 1, .int .i64 mo, .int .i64 rc] 43 := by rw [HW1.out]; exact Blk.made _ _ _
  have HLO : Hid (∀ wx, Below W1.heap.size W1 wx → Calls Tryz.prog 40 #[.pointer (some ⟨pp, 0, none⟩)] wx fun e w' => e = .returned (.pointer (some ⟨q, 0, none⟩)) ∧ w' = wx) := fun wx b => rlog_any wx pp q ((hp.below (below_chain b1 b)).pcell.2.1)
  have HDU : Hid (∀ wx, Below W1.heap.size W1 wx → Calls Tryz.prog 39 #[.pointer (some ⟨q, 0, none⟩), .agg #[.slice x1 n1 y1, .slice x2 M.length y2, .int .u64 1, .int .i64 mo, .int .i64 rc]] wx fun e w' => e = .returned (.tuple #[.slice none 0 0, .int .i64 40]) ∧ Below wx.heap.size wx w') := fun wx b => (due1_bad (h.below (below_chain b1 b)) hj x1 x2 n1 y1 y2 M mo rc (hM.below (below_chain b1 b)) hl hr ⟨1, 0, 0, 0, 0, ⟨0, 0, ⟨#[]⟩, ⟨#[]⟩⟩, 0, 0, ⟨#[]⟩, 0, 0, false, [], []⟩ hb).mono fun e w' ho => ⟨ho.no rfl, ho.bel⟩
  have c0 : W1.cell? ⟨W.heap.size, 0, none⟩ = some (.slice x1 n1 y1) := hB1.cell 0
  have c1 : W1.cell? ⟨W.heap.size, 1, none⟩ = some (.slice x2 M.length y2) := hB1.cell 1
  have c2 : W1.cell? ⟨W.heap.size, 2, none⟩ = some (.int .u64 1) := hB1.cell 2
  have c3 : W1.cell? ⟨W.heap.size, 3, none⟩ = some (.int .i64 mo) := hB1.cell 3
  have c4 : W1.cell? ⟨W.heap.size, 4, none⟩ = some (.int .i64 rc) := hB1.cell 4
  have HB1 := hida b1
  clear h hp hM hb b1 hB1
  go_enter Tryz.func14, Tryz.ntmps14
  go_upto_region 1 with fail
  rw [← HW1.out]
  clear HW1
  go_upto_region 3 with fail
  go_cut [7, 8] from 12 to 18 (fun v7 v8 wx => v7 = .slice none 0 0 ∧ v8 = .int .i64 40 ∧ Hid (Below W.heap.size W wx))
  case first =>
    go_region_with (first
      | (go_at_call 40; refine (HLO.out _ (by repeat (first | with_reducible exact Below.refl _ _ | with_reducible refine Below.drew ?_))).mono ?_; rintro e w2 ⟨rfl, rfl⟩)
      | (go_at_call 39; refine (HDU.out _ (by repeat (first | with_reducible exact Below.refl _ _ | with_reducible refine Below.drew ?_))).mono ?_; rintro e w3 ⟨rfl, b3⟩; have HB3 := hida (below_chain (HB1.out.drew) b3); clear b3))
    all_goals
      go_wp2_with fail
      go_meet
      case rel => exact ⟨rfl, rfl, HB3⟩
  obtain ⟨rfl, rfl, HB3⟩ := hcut
  clear HLO HDU c0 c1 c2 c3 c4 HB1
  go_wp2_with fail
  refine bodyPost_ret (v := .tuple #[.int .i64 0, .int .i64 0, .int .i64 40]) (by simp [results, Tryz.results14, go_sem]) rfl ?_
  exact ⟨rfl, HB3.out⟩

structure RgOut (w W : World) (p q pp : Nat) (l : LG) (d : DG) (s : ByteArray) (sure j : Nat) (P : PG) (r : RecV) (M : List DiV) (Y : SheetV) (e : Ending) (w' : World) : Prop where
  yes : hitR r M → e = .returned (.tuple #[.int .i64 1, .int .i64 0, .int .i64 0]) ∧ ∃ A' S', RdS w w' p q A' l d [s] sure j ∧ PoAt w w' A' p q pp S' (putP (ofG P r.page) Y)
  no : ¬ hitR r M → e = .returned (.tuple #[.int .i64 0, .int .i64 0, .int .i64 0]) ∧ ∃ A' S', RdS w w' p q A' l d [s] sure j ∧ PoAt w w' A' p q pp S' P

set_option maxHeartbeats 6400000 in
set_option maxRecDepth 20000 in
theorem redo_good {w W : World} {p q pp : Nat} {A S : Nat → Prop} {l : LG} {d : DG} {s : ByteArray} {sure j : Nat} {P : PG} {Y : SheetV} (h : RdS w W p q A l d [s] sure j) (hp : PoAt w W A p q pp S P) (hj : j ≤ 1000) (x1 x2 : Option Addr) (n1 y1 y2 : Nat) (M : List DiV) (mo rc : Int) (hM : DisAt W x2 M) (hl : M.length ≤ 100000) (hr : ∀ x ∈ M, x.1 < 4294967296) (r : RecV) (hg : DecGood s r) (hpg : r.page < 4294967296)
    (hh : hitR r M → 1 ≤ r.page ∧ r.page ≤ 64 ∧ P.F r.page = none ∧ P.z < P.most ∧ P.z ≤ 900 ∧ P.most ≤ 256 ∧ P.fetched ≤ 100000 ∧ ∃ y, ApplyIs (bareV r.page) r.op 0 y ∧ Y = { y with lsn := 1 }) :
    Calls Tryz.prog 14 #[.pointer (some ⟨pp, 0, none⟩), .agg #[.slice x1 n1 y1, .slice x2 M.length y2, .int .u64 1, .int .i64 mo, .int .i64 rc]] W (RgOut w W p q pp l d s sure j P r M Y) := by
  obtain ⟨W1, HW1⟩ : ∃ W1, Hid (W1 = W.alloc (.cells #[.slice x1 n1 y1, .slice x2 M.length y2, .int .u64 1, .int .i64 mo, .int .i64 rc] 43)) := ⟨_, rfl⟩
  have b1 : Below W.heap.size W W1 := by rw [HW1.out]; exact (Below.refl _ _).alloc (Nat.le_refl _) _
  have hB1 : Blk W1 W.heap.size #[.slice x1 n1 y1, .slice x2 M.length y2, .int .u64 1, .int .i64 mo, .int .i64 rc] 43 := by rw [HW1.out]; exact Blk.made _ _ _
  have HLO : Hid (∀ wx, Below W1.heap.size W1 wx → Calls Tryz.prog 40 #[.pointer (some ⟨pp, 0, none⟩)] wx fun e w' => e = .returned (.pointer (some ⟨q, 0, none⟩)) ∧ w' = wx) := fun wx b => rlog_any wx pp q ((hp.below (below_chain b1 b)).pcell.2.1)
  have HDU : Hid (∀ wx, Below W1.heap.size W1 wx → Calls Tryz.prog 39 #[.pointer (some ⟨q, 0, none⟩), .agg #[.slice x1 n1 y1, .slice x2 M.length y2, .int .u64 1, .int .i64 mo, .int .i64 rc]] wx fun e w' => ∃ v, e = .returned (.tuple #[v, .int .i64 0]) ∧ RuD w W w' p q pp A S l d s sure j P r M v) := fun wx b => (due1_good (h.below (below_chain b1 b)) hj x1 x2 n1 y1 y2 M mo rc (hM.below (below_chain b1 b)) hl hr r hg hpg).mono fun e w' ho => by
    obtain ⟨v, he, hd⟩ := ho.yes rfl
    exact ⟨v, he, hd.base (below_chain b1 b), (h.below (below_chain b1 b)).below hd.1, (hp.below (below_chain b1 b)).below hd.1⟩
  have c0 : W1.cell? ⟨W.heap.size, 0, none⟩ = some (.slice x1 n1 y1) := hB1.cell 0
  have c1 : W1.cell? ⟨W.heap.size, 1, none⟩ = some (.slice x2 M.length y2) := hB1.cell 1
  have c2 : W1.cell? ⟨W.heap.size, 2, none⟩ = some (.int .u64 1) := hB1.cell 2
  have c3 : W1.cell? ⟨W.heap.size, 3, none⟩ = some (.int .i64 mo) := hB1.cell 3
  have c4 : W1.cell? ⟨W.heap.size, 4, none⟩ = some (.int .i64 rc) := hB1.cell 4
  have HB1 := hida b1
  have HH := hida hh
  have HAL := hida (show ∀ k, A k → k < W.heap.size from fun k x => h.lt x)
  clear h hp hM hg b1 hB1 hh
  go_enter Tryz.func14, Tryz.ntmps14
  go_upto_region 1 with fail
  rw [← HW1.out]
  clear HW1
  go_upto_region 3 with fail
  go_cut [7, 8] from 12 to 18 (fun v7 v8 wx => v8 = .int .i64 0 ∧ Hid (RuD w W wx p q pp A S l d s sure j P r M v7))
  case first =>
    go_region_with (first
      | (go_at_call 40; refine (HLO.out _ (by repeat (first | with_reducible exact Below.refl _ _ | with_reducible refine Below.drew ?_))).mono ?_; rintro e w2 ⟨rfl, rfl⟩)
      | (go_at_call 39; refine (HDU.out _ (by repeat (first | with_reducible exact Below.refl _ _ | with_reducible refine Below.drew ?_))).mono ?_; rintro e w3 ⟨v, rfl, hd⟩; have HD3 := hida hd; clear hd))
    all_goals
      go_wp2_with fail
      go_meet
      case rel => exact ⟨rfl, HD3⟩
  obtain ⟨rfl, HD⟩ := hcut
  clear HLO HDU c0 c1 c2 c3 c4 HB1
  rcases HD.out.due.2 with ⟨hit, b, c, ta, da, tc, dc, rfl, hb, hrow⟩ | ⟨nhit, rfl⟩
  · obtain ⟨g1, g2, g3, g4, g5, g6, g7, y, hA, rfl⟩ := HH.out hit
    have HIT := hida hit
    have HFO := hida (foresee_one HD.out.rd HD.out.po r b c ta da tc dc 1 hb.2 hrow g1 g2 g3 hA (by omega))
    have HRW := hida (show b < wc.heap.size ∧ wc.rangeAt b 0 (plArr 1 r ta da tc dc).toList ∧ ¬ A b from ⟨hb.2, hrow, fun z => by have := HAL.out b z; omega⟩)
    have HAI := hida hA
    clear hit hb hrow hA HH
    go_wp2_with fail
    refine HFO.out.mono ?_
    rintro e w4 ⟨rfl, A4, r4, p4, k4⟩
    have hb4 := k4 b HRW.out.1 HRW.out.2.2
    have hsh : shOf P r.page = bareV r.page := by unfold shOf; rw [g3]
    have hlt4 : b < w4.heap.size := by
      have hx := HRW.out.1
      rcases Nat.lt_or_ge b w4.heap.size with z | z
      · exact z
      · have e1 : w4.heap[b]? = none := Array.getElem?_eq_none z
        rw [e1] at hb4
        have := Array.getElem?_eq_some_iff.2 ⟨hx, rfl⟩
        rw [this] at hb4
        cases hb4
    have HAO := hida (all_one r4 p4 r b c ta da tc dc 1 hlt4 (fun jj v hv => (World.cell?_of_block (w := wc) (a := ⟨b, 0 + jj, none⟩) hb4).trans (HRW.out.2.1 jj v hv)) g1 g2 HIT.out.1 (fun _ => g4) g5 g6 g7 (by rw [hsh]; exact bare_fits g2) (by rw [hsh]; exact HAI.out) (by rw [hsh]; rfl) (by omega) (by rw [hsh]; show (0 : Nat) < 1; omega))
    clear HFO HD HRW HAI r4 p4 k4 hb4 hsh hlt4
    go_wp2_with fail
    refine HAO.out.mono ?_
    rintro e w5 ⟨rfl, A5, S5, r5, p5, _⟩
    have HF := hida (show RdS w w5 p q A5 l d [s] sure j ∧ PoAt w w5 A5 p q pp S5 (putP (ofG P r.page) { y with lsn := 1 }) from ⟨r5, p5⟩)
    clear HAO r5 p5
    go_wp2_with fail
    refine bodyPost_ret (v := .tuple #[.int .i64 1, .int .i64 0, .int .i64 0]) (by simp [results, Tryz.results14, go_sem]) rfl ?_
    exact ⟨fun _ => ⟨rfl, A5, S5, HF.out.1, HF.out.2⟩, fun h => absurd HIT.out h⟩
  · have HNI := hida nhit
    have HFN := hida (foresee_nil wc pp)
    have HAN := hida (all_nil wc pp)
    have HDD := hida (show RdS w wc p q A l d [s] sure j ∧ PoAt w wc A p q pp S P from ⟨HD.out.rd, HD.out.po⟩)
    clear nhit HH HD
    go_wp2_with fail
    refine HFN.out.mono ?_
    rintro e w4 ⟨rfl, hw4⟩
    rw [hw4]
    clear hw4 HFN
    go_wp2_with fail
    refine HAN.out.mono ?_
    rintro e w4 ⟨rfl, hw4⟩
    rw [hw4]
    clear hw4 HAN
    go_wp2_with fail
    refine bodyPost_ret (v := .tuple #[.int .i64 0, .int .i64 0, .int .i64 0]) (by simp [results, Tryz.results14, go_sem]) rfl ?_
    exact ⟨fun h => absurd h HNI.out, fun _ => ⟨rfl, A, S, HDD.out.1, HDD.out.2⟩⟩

end Go.Proofs.YtgkfdakieebnmaaGreat

namespace Go.Proofs.YtgkfdakieebnmaaGreat
open Go.RowKit Go.Sort Go.Shelf Go.Lib

def wkO : OpV := ⟨2, 0, ⟨#[97]⟩, ⟨#[]⟩⟩
def wkY : SheetV := ⟨2, 0, 0, ⟨#[]⟩, [⟨#[97]⟩]⟩

theorem wk_may : mayR (chgR 2 wkO) = true := by kernel_rfl
theorem wk_chk : chkB wkO = true := by kernel_rfl
theorem wk_ok : wkO.Ok := ⟨by decide, by decide, by decide, by decide⟩
theorem wk_apply : ApplyIs (bareV 2) wkO 0 wkY := by
  have hd : ChangeDoes (bareV 2) wkO 0 wkY := change_ins (p := bareV 2) (o := wkO) (bare_fits (by omega)) wk_ok rfl (by decide)
  have ho := hd.own (by decide)
  exact ⟨fun _ => ⟨⟨by decide, by decide, by decide, by decide, by decide, by decide, by decide⟩, rfl⟩, fun lsn w a c hx => apply_ofO (c := c) lsn hx (bare_fits (by omega)) wk_ok wk_chk ho⟩

def wkS : ByteArray := textR (chgR 2 wkO)
theorem wk_D : Can keyD [(2, 1)] (heardTo [wkS] (fun _ => chgR 2 wkO) 0 1).D := ((Can.nil (key := keyD)).ins (2, 1)).ext fun n => rfl
theorem wk_T : Can keyT [(1, 1, 1, 1)] (heardTo [wkS] (fun _ => chgR 2 wkO) 0 1).T := ((Can.nil (key := keyT)).ins (1, 1, 1, 1)).ext fun n => rfl
theorem wk_hit : hitR (chgR 2 wkO) [(2, 1)] := ⟨.inl rfl, 1, rfl, Nat.le_refl _⟩

theorem owns_val7' {B : Nat} {w : World} {v : Value} {L : List TxV} (h : atAt B w v L) : ∃ a c, v = .slice a L.length c := h.val

theorem adAt_sl {B : Nat} {w : World} {v : Value} {L : List DiV} (h : adAt B w v L) : ∃ a c, v = .slice a L.length c ∧ DisAt w a L := by
  have h' := h
  rcases h.2 with ⟨rfl, hn⟩ | ⟨g, cap, cur, rfl, hb, hg, h1, h2, h3, h4⟩
  · have : L = [] := List.length_eq_zero_iff.1 hn
    subst this
    exact ⟨none, 0, rfl, .inl rfl⟩
  · refine ⟨some ⟨g, 0, none⟩, cap, rfl, .inr ⟨g, 0, rfl, (World.ownsRow.lt h' g rfl).2, fun i hi => ?_⟩⟩
    have c : ∀ j, j < 2 → w.cell? ⟨g, 0 + i * 2 + j, none⟩ = (adcells L[i])[j]? := fun j hj => by
      rw [Nat.zero_add, ← adflat_get L i j hi hj]
      exact World.ownsRow.cellAt h' (i * 2 + j) (by omega)
    exact ⟨(c 0 (by omega)).trans rfl, (c 1 (by omega)).trans rfl⟩

set_option maxHeartbeats 6400000 in
set_option maxRecDepth 20000 in
theorem awake20_any (w : World) : Calls Tryz.prog 8 #[] w fun e w' => e = .returned (.bool true) ∧ Below w.heap.size w w' := by
  have HBG := hida (rbegun_any w 4 (by omega) (by omega))
  go_enter Tryz.func8, Tryz.ntmps8
  go_wp2_with fail
  refine HBG.out.mono ?_
  rintro e w1 ⟨p, q, pp, A, S, l, d, rfl, h1, p1⟩
  have HCG : Hid (Calls Tryz.prog 27 #[.pointer (some ⟨q, 0, none⟩), .pointer (some ⟨pp, 0, none⟩), .int .u32 2, .agg #[.int .i64 2, .int .i64 0, .string ⟨#[97]⟩, .string ⟨#[]⟩]] w1 fun e w' => e = .returned (.bool true) ∧ ∃ A' S' l', RdS w w' p q A' l' d [wkS] 0 1 ∧ PoAt w w' A' p q pp S' (putP (ofG (pool0 p q 4) 2) { wkY with lsn := placeOf [] 0 })) :=
    change_any h1 p1 (by omega) 2 wkO (by omega) (by omega) wk_ok wk_may (by show 1 ≤ 1000000; omega) (fun _ => by show 0 < 4; omega) (Nat.zero_le _) (by show 4 ≤ 256; omega) (Nat.zero_le _) (bare_fits (by omega)) wk_apply rfl
  clear HBG h1 p1
  go_wp2_with fail
  refine HCG.out.mono ?_
  rintro e w2 ⟨rfl, A2, S2, l2, h2, -⟩
  have HR2 := hida h2
  clear HCG h2
  obtain ⟨RS, HRS⟩ : ∃ RS, Hid ([wkS] = RS) := ⟨_, rfl⟩
  rw [HRS.out] at HR2
  have HRl : Hid (RS.length = 1) := by show _ = _; rw [← HRS.out]; rfl
  have HEN := hida (rd_end HR2.out)
  have HFL := hida (rd_flush HR2.out (by omega))
  go_wp2_with fail
  refine HEN.out.mono ?_
  rintro e w3 ⟨rfl, hw3⟩
  rw [hw3]
  clear hw3 HEN
  go_wp2_with fail
  refine HFL.out.mono ?_
  rintro e w3 ⟨rfl, A3, l3, d3, h3, -⟩
  have HR3 := hida h3
  have HPN := hida (rd_pool h3 4 (by omega) (by omega))
  clear HFL HR2 h3
  go_wp2_with fail
  refine HPN.out.mono ?_
  rintro e w4 ⟨qp, S4, rfl, p4, -, b4⟩
  have HR4 := hida (show RdS w w4 p q A3 l3 d3 RS RS.length 2 ∧ PoAt w w4 A3 p q qp S4 (pool0 p q 4) from ⟨HR3.out.below b4, p4⟩)
  clear HPN HR3 p4 b4
  have hdg : ∀ i, i < RS.length → DecGood (RS.getD i ⟨#[]⟩) (chgR 2 wkO) ∧ HrOk (chgR 2 wkO) := fun i hi => by
    have hi0 : i = 0 := by have := HRl.out; omega
    subst hi0
    rw [← HRS.out]
    exact an_good (w := w) (ta := none) (da := none) wk_may (chgR_wide 2 wkO) (chgR_ok (by omega) wk_ok w)
  have HRN := hida (lg_run HR4.out.1.lgat (by omega) (fun _ => chgR 2 wkO) (fun _ => true) 0 (Nat.zero_le _) (.inl ⟨rfl, rfl⟩) (fun i hi _ => hdg i hi) (fun i hi h => by cases h))
  have HDG := hida (hdg 0 (by have := HRl.out; omega))
  clear hdg
  go_wp2_with fail
  refine HRN.out.mono ?_
  rintro e w5 hro
  obtain ⟨v1, v2, L1, L2, nb, rfl, g1, g2, hn, o1, o2⟩ := hro.yes fun _ _ _ => rfl
  have hsub : RS.length - 0 = 1 := by have := HRl.out; omega
  rw [hsub] at g1 g2 ⊢
  have b5 := hro.bel
  rw [← HRS.out] at g1 g2
  obtain rfl : L1 = [(1, 1, 1, 1)] := g1.same wk_T
  obtain rfl : L2 = [(2, 1)] := g2.same wk_D
  obtain ⟨x1, y1, rfl⟩ := owns_val7' o1
  obtain ⟨x2, y2, rfl, hD⟩ := adAt_sl o2
  have hfd : fdCells (.slice x1 1 y1) (.slice x2 1 y2) (redoL (placeOf RS RS.length) [(2, 1)]) (heardTo RS (fun _ => chgR 2 wkO) 0 1) = #[.slice x1 1 y1, .slice x2 1 y2, .int .u64 1, .int .i64 1, .int .i64 1] := rfl
  simp only [List.length_cons, List.length_nil, Nat.zero_add] at hfd ⊢
  rw [hfd]
  obtain ⟨W6, HW6⟩ : ∃ W6, Hid (W6 = w5.alloc (.cells #[.slice x1 1 y1, .slice x2 1 y2, .int .u64 1, .int .i64 1, .int .i64 1] 43)) := ⟨_, rfl⟩
  have b6 : Below w5.heap.size w5 W6 := by rw [HW6.out]; exact (Below.refl _ _).alloc (Nat.le_refl _) _
  have b46 := below_chain b5 b6
  have hr6 : RdS w W6 p q A3 l3 d3 [wkS] RS.length 2 := by
    rw [HRS.out]
    exact HR4.out.1.below b46
  have hdg0 : DecGood wkS (chgR 2 wkO) := by
    have := HDG.out.1
    rw [← HRS.out] at this
    exact this
  have HRU : Hid (Calls Tryz.prog 14 #[.pointer (some ⟨qp, 0, none⟩), .agg #[.slice x1 1 y1, .slice x2 1 y2, .int .u64 1, .int .i64 1, .int .i64 1]] W6 (RgOut w W6 p q qp l3 d3 wkS RS.length 2 (pool0 p q 4) (chgR 2 wkO) [(2, 1)] { wkY with lsn := 1 })) :=
    redo_good hr6 (HR4.out.2.below b46) (by omega) x1 x2 1 y1 y2 [(2, 1)] 1 1 (hD.below b6) (by decide) (fun x hx => by rw [List.mem_singleton.1 hx]; decide) (chgR 2 wkO) hdg0 (by show 2 < 4294967296; omega)
      (fun _ => ⟨by show 1 ≤ 2; omega, by show 2 ≤ 64; omega, rfl, by show 0 < 4; omega, Nat.zero_le _, by show 4 ≤ 256; omega, Nat.zero_le _, wkY, wk_apply, rfl⟩)
  have HB6 : Hid (Blk W6 w5.heap.size #[.slice x1 1 y1, .slice x2 1 y2, .int .u64 1, .int .i64 1, .int .i64 1] 43) := by rw [HW6.out]; exact Blk.made _ _ _
  clear hro g1 g2 hn o1 o2 hD hfd b5 b6 b46 hr6 hdg0 HRN HR4 HDG hsub HRS HRl
  go_upto_region 6 with fail
  rw [← HW6.out]
  clear HW6
  generalize w5.heap.size = fb at *
  generalize RS.length = sr at *
  have f0 : W6.cell? ⟨fb, 0, none⟩ = some (.slice x1 1 y1) := HB6.out.cell 0
  have f1 : W6.cell? ⟨fb, 1, none⟩ = some (.slice x2 1 y2) := HB6.out.cell 1
  have f2 : W6.cell? ⟨fb, 2, none⟩ = some (.int .u64 1) := HB6.out.cell 2
  have f3 : W6.cell? ⟨fb, 3, none⟩ = some (.int .i64 1) := HB6.out.cell 3
  have f4 : W6.cell? ⟨fb, 4, none⟩ = some (.int .i64 1) := HB6.out.cell 4
  go_wp2_with fail
  refine HRU.out.mono ?_
  rintro e w7 ho
  obtain ⟨rfl, A7, S7, r7, p7⟩ := ho.yes wk_hit
  have hP7 : ∃ P7, P7 = putP (ofG (pool0 p q 4) (chgR 2 wkO).page) { wkY with lsn := 1 } := ⟨_, rfl⟩
  obtain ⟨P7, hP7⟩ := hP7
  rw [← hP7] at p7
  have hsh : shOf P7 2 = { wkY with lsn := 1 } := by rw [hP7]; rfl
  have hF7 : P7.F 2 ≠ none := by
    rw [hP7]
    exact Option.some_ne_none _
  have hG := rd_get r7 p7 2 (by omega) (by omega) (fun e => absurd e hF7) (by rw [hP7]; show 4 ≤ 256; omega) (by rw [hP7]; show 1 ≤ 100000; omega)
  rw [hsh] at hG
  have HG := hida hG
  clear HRU HB6 ho r7 p7 hP7 hsh hF7 hG f0 f1 f2 f3 f4
  go_wp2_with fail
  refine HG.out.mono ?_
  rintro e w8 ⟨a, c, rfl, -, A8, S8, r8, -, -⟩
  have HBE := hida r8.bel
  clear HG r8
  rw [show (({ wkY with lsn := 1 } : SheetV).val a c) = .agg #[.int .u32 2, .int .u64 1, .int .i64 0, .string ⟨#[]⟩, .slice a 1 c] from rfl]
  go_wp2_with fail
  go_ret
  exact ⟨rfl, HBE.out.alloc HBE.out.size _⟩

end Go.Proofs.YtgkfdakieebnmaaGreat
