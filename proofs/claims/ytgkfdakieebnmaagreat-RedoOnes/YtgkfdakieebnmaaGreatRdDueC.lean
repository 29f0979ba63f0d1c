/-
  The walk of redo.due over a log of one text.
-/
import Derived.Test.YtgkfdakieebnmaaGreatNilMathJ
import Derived.Test.YtgkfdakieebnmaaGreatRdPageC
import Derived.Test.YtgkfdakieebnmaaGreatRowOpsJ
import Derived.Deep.CutRange
import Derived.Deep.MidRow
import Derived.Deep.AppendLies
set_option linter.unusedVariables false
set_option linter.unusedSimpArgs false
namespace Go.Proofs.YtgkfdakieebnmaaGreat
open Go.RowKit Go.Sort Go.Shelf Go.Lib

theorem infoPl : (Tryz.prog.info? 178).map (fun i => (i.zero, i.size, i.bytes)) = some (some (.agg #[.int .u64 0, .int .i64 0, .int .i64 0, .int .u64 0, .int .u64 0, .int .u32 0, .int .i64 0, .int .i64 0, .string ⟨#[]⟩, .string ⟨#[]⟩, .int .i64 0, .int .i64 0, .string ⟨#[]⟩, .int .u32 0, .int .i64 0, .bool false, .slice none 0 0, .slice none 0 0]), 18, 200) := by kernel_rfl

def hitR (r : RecV) (M : List DiV) : Prop := (r.kind = 1 ∨ r.kind = 2) ∧ ∃ n, ersF M r.page = some n ∧ n ≤ 1

def plCells (at' : Nat) (r : RecV) (ta da : Option Addr) (tc dc : Nat) : List Value := .int .u64 (at' : Nat) :: (r.cells ta da tc dc).toList

def DueIs (W w' : World) (r : RecV) (M : List DiV) (v : Value) : Prop :=
  Below W.heap.size W w' ∧ ((hitR r M ∧ ∃ b c ta da tc dc, v = .slice (some ⟨b, 0, none⟩) 1 c ∧ (W.heap.size ≤ b ∧ b < w'.heap.size) ∧ w'.rangeAt b 0 (plCells 1 r ta da tc dc)) ∨ (¬ hitR r M ∧ v = .slice none 0 0))

structure DueOut (W : World) (r : RecV) (M : List DiV) (B : Bool) (e : Ending) (w' : World) : Prop where
  yes : B = true → ∃ v, e = .returned (.tuple #[v, .int .i64 0]) ∧ DueIs W w' r M v
  no : B = false → e = .returned (.tuple #[.slice none 0 0, .int .i64 40])
  bel : Below W.heap.size W w'

set_option maxHeartbeats 12800000 in
set_option maxRecDepth 20000 in
theorem due1_bad {w W : World} {p q : Nat} {A : Nat → Prop} {l : LG} {d : DG} {s : ByteArray} {sure j : Nat} (h : RdS w W p q A l d [s] sure j) (hj : j ≤ 1000) (x1 x2 : Option Addr) (n1 y1 y2 : Nat) (M : List DiV) (mo rc : Int) (hM : DisAt W x2 M) (hl : M.length ≤ 100000) (hr : ∀ x ∈ M, x.1 < 4294967296) (r : RecV) (hb : DecBad s) :
    Calls Tryz.prog 39 #[.pointer (some ⟨q, 0, none⟩), .agg #[.slice x1 n1 y1, .slice x2 M.length y2, .int .u64 1, .int .i64 mo, .int .i64 rc]] W (DueOut W r M false) := by
  obtain ⟨S, D, hw, -⟩ := h.ex
  have hlen : l.bytes.length + 1 = placeOf [s] 1 := hw.long
  have HEN : Hid (∀ wx, Below W.heap.size W wx → Calls Tryz.prog 26 #[.pointer (some ⟨q, 0, none⟩)] wx fun e w' => e = .returned (.int .u64 ((placeOf [s] 1 : Nat) : Int)) ∧ w' = wx) := fun wx b => by
    have := end_out (hw.below b).log hw.blen
    rw [hlen] at this
    exact this
  have HGE : Hid (∀ wx, Below W.heap.size W wx → Calls Tryz.prog 36 #[.pointer (some ⟨q, 0, none⟩), .int .u64 1] wx fun e w' => e = .returned (.tuple #[.string s, .int .u64 (placeOf [s] 1 : Nat), .bool true]) ∧ ∃ q, w' = wx.drewN q) := fun wx b => get_recs (hw.below b).log hw.recs (by simp) hw.blen 0 (by simp)
  have HP : Hid (1 < placeOf [s] 1) := by have := placeOf_mono [s] (i := 0) (j := 1) (by omega); have : placeOf [s] 0 = 1 := rfl; show _ < _; omega
  obtain ⟨W1, HW1⟩ : ∃ W1, Hid (W1 = W.alloc (.cells #[.slice x1 n1 y1, .slice x2 M.length y2, .int .u64 1, .int .i64 mo, .int .i64 rc] 43)) := ⟨_, rfl⟩
  have b1 : Below W.heap.size W W1 := by rw [HW1.out]; exact (Below.refl _ _).alloc (Nat.le_refl _) _
  have hB1 : Blk W1 W.heap.size #[.slice x1 n1 y1, .slice x2 M.length y2, .int .u64 1, .int .i64 mo, .int .i64 rc] 43 := by rw [HW1.out]; exact Blk.made _ _ _
  have H1 := hida (show Below W.heap.size W W1 ∧ Blk W1 W.heap.size #[.slice x1 n1 y1, .slice x2 M.length y2, .int .u64 1, .int .i64 mo, .int .i64 rc] 43 from ⟨b1, hB1⟩)
  have HER := hida (earliest_any M x2 y2 W1 (hM.below b1) hl hr)
  have HBA := hida hb
  clear h hw hlen b1 hB1 hb hM
  go_enter Tryz.func39, Tryz.ntmps39
  go_upto_region 1 with fail
  rw [← HW1.out]
  clear HW1
  have c1 : W1.cell? ⟨W.heap.size, 1, none⟩ = some (.slice x2 M.length y2) := H1.out.2.cell 1
  go_wp2_with fail
  refine HER.out.mono ?_
  rintro e w2 ⟨mb, rfl, hmb, hdm, b2⟩
  have H2 := hida (show Below W.heap.size W w2 ∧ DmAt w2 mb M.length (ersF M) ∧ Blk w2 W.heap.size #[.slice x1 n1 y1, .slice x2 M.length y2, .int .u64 1, .int .i64 mo, .int .i64 rc] 43 ∧ W1.heap.size ≤ mb from ⟨below_chain H1.out.1 b2, hdm, H1.out.2.same (b2.block _ H1.out.2.lt), hmb⟩)
  have hm2 : w2.cell? ⟨W.heap.size, 2, none⟩ = some (.int .u64 1) := H2.out.2.2.1.cell 2
  clear HER hmb hdm b2 c1 H1
  go_wp2_with fail
  clear hm2
  go_loopw [7, 8] (fun v a wr => (a = .int .u64 1 ∧ v = .slice none 0 0 ∧ Hid (Below W.heap.size W wr ∧ DmAt wr mb M.length (ersF M)))) (fun _ a _ => placeOf [s] 1 - (intOf a).toNat)
  case atStart => exact ⟨rfl, rfl, H2.out.1, H2.out.2.1⟩
  case round =>
    clear H2
    obtain ⟨rfl, rfl, HB⟩ := hrel
    · have HE1 := hida (HEN.out wr HB.out.1)
      have HG1 := hida (HGE.out wr HB.out.1)
      have d1 : decide ((1 : Int) < (placeOf [s] 1 : Nat)) = true := decide_eq_true (by have := HP.out; omega)
      go_wp2_with fail
      refine HE1.out.mono ?_
      rintro e w6 ⟨rfl, hw6⟩
      rw [hw6]
      clear hw6
      go_wp2_with fail
      refine HG1.out.mono ?_
      rintro e w6 ⟨rfl, n6, hw6⟩
      have HB6 := hida (show Below W.heap.size W w6 ∧ DmAt w6 mb M.length (ersF M) from by
        rw [hw6]
        exact ⟨below_chain HB.out.1 (below_drewN (Below.refl _ _) n6), HB.out.2.below (below_drewN (Below.refl _ _) n6)⟩)
      clear HE1 HG1 HB hw6
      have HD := hida HBA.out
      have HZC : Hid (zeroCellsR = #[.int .i64 0, .int .i64 0, .int .u64 0, .int .u64 0, .int .u32 0, .int .i64 0, .int .i64 0, .string ⟨#[]⟩, .string ⟨#[]⟩, .int .i64 0, .int .i64 0, .string ⟨#[]⟩, .int .u32 0, .int .i64 0, .bool false, .slice none 0 0, .slice none 0 0]) := rfl
      clear HBA
      go_wp2_with fail
      refine (HD.out _).mono ?_
      rintro e w7 ⟨rfl, b7⟩
      have HB7 := hida (below_chain HB6.out.1 b7)
      rw [HZC.out]
      clear HD b7 HB6
      go_wp2_with fail
      refine bodyPost_ret (v := .tuple #[.slice none 0 0, .int .i64 40]) (by simp [results, Tryz.results39, go_sem]) rfl ?_
      exact ⟨fun h => (by cases h), fun _ => rfl, HB7.out.alloc HB7.out.size _⟩

set_option maxHeartbeats 12800000 in
set_option maxRecDepth 20000 in
theorem due1_good {w W : World} {p q : Nat} {A : Nat → Prop} {l : LG} {d : DG} {s : ByteArray} {sure j : Nat} (h : RdS w W p q A l d [s] sure j) (hj : j ≤ 1000) (x1 x2 : Option Addr) (n1 y1 y2 : Nat) (M : List DiV) (mo rc : Int) (hM : DisAt W x2 M) (hl : M.length ≤ 100000) (hr : ∀ x ∈ M, x.1 < 4294967296) (r : RecV) (hg : DecGood s r) (hpg : r.page < 4294967296) :
    Calls Tryz.prog 39 #[.pointer (some ⟨q, 0, none⟩), .agg #[.slice x1 n1 y1, .slice x2 M.length y2, .int .u64 1, .int .i64 mo, .int .i64 rc]] W (DueOut W r M true) := by
  obtain ⟨i1, hi1, hz1⟩ := Option.map_eq_some_iff.1 infoPl
  simp only [Prod.mk.injEq] at hz1
  obtain ⟨hz10, hz11, hz12⟩ := hz1
  obtain ⟨S, D, hw, -⟩ := h.ex
  have hlen : l.bytes.length + 1 = placeOf [s] 1 := hw.long
  have HEN : Hid (∀ wx, Below W.heap.size W wx → Calls Tryz.prog 26 #[.pointer (some ⟨q, 0, none⟩)] wx fun e w' => e = .returned (.int .u64 ((placeOf [s] 1 : Nat) : Int)) ∧ w' = wx) := fun wx b => by
    have := end_out (hw.below b).log hw.blen
    rw [hlen] at this
    exact this
  have HGE : Hid (∀ wx, Below W.heap.size W wx → Calls Tryz.prog 36 #[.pointer (some ⟨q, 0, none⟩), .int .u64 1] wx fun e w' => e = .returned (.tuple #[.string s, .int .u64 (placeOf [s] 1 : Nat), .bool true]) ∧ ∃ q, w' = wx.drewN q) := fun wx b => get_recs (hw.below b).log hw.recs (by simp) hw.blen 0 (by simp)
  have HP : Hid (1 < placeOf [s] 1) := by have := placeOf_mono [s] (i := 0) (j := 1) (by omega); have : placeOf [s] 0 = 1 := rfl; show _ < _; omega
  obtain ⟨W1, HW1⟩ : ∃ W1, Hid (W1 = W.alloc (.cells #[.slice x1 n1 y1, .slice x2 M.length y2, .int .u64 1, .int .i64 mo, .int .i64 rc] 43)) := ⟨_, rfl⟩
  have b1 : Below W.heap.size W W1 := by rw [HW1.out]; exact (Below.refl _ _).alloc (Nat.le_refl _) _
  have hB1 : Blk W1 W.heap.size #[.slice x1 n1 y1, .slice x2 M.length y2, .int .u64 1, .int .i64 mo, .int .i64 rc] 43 := by rw [HW1.out]; exact Blk.made _ _ _
  have H1 := hida (show Below W.heap.size W W1 ∧ Blk W1 W.heap.size #[.slice x1 n1 y1, .slice x2 M.length y2, .int .u64 1, .int .i64 mo, .int .i64 rc] 43 from ⟨b1, hB1⟩)
  have HER := hida (earliest_any M x2 y2 W1 (hM.below b1) hl hr)
  have HGO := hida hg
  clear h hw hlen b1 hB1 hg hM
  go_enter Tryz.func39, Tryz.ntmps39
  go_upto_region 1 with fail
  rw [← HW1.out]
  clear HW1
  have c1 : W1.cell? ⟨W.heap.size, 1, none⟩ = some (.slice x2 M.length y2) := H1.out.2.cell 1
  go_wp2_with fail
  refine HER.out.mono ?_
  rintro e w2 ⟨mb, rfl, hmb, hdm, b2⟩
  have H2 := hida (show Below W.heap.size W w2 ∧ DmAt w2 mb M.length (ersF M) ∧ Blk w2 W.heap.size #[.slice x1 n1 y1, .slice x2 M.length y2, .int .u64 1, .int .i64 mo, .int .i64 rc] 43 ∧ W1.heap.size ≤ mb from ⟨below_chain H1.out.1 b2, hdm, H1.out.2.same (b2.block _ H1.out.2.lt), hmb⟩)
  have hm2 : w2.cell? ⟨W.heap.size, 2, none⟩ = some (.int .u64 1) := H2.out.2.2.1.cell 2
  clear HER hmb hdm b2 c1 H1
  go_wp2_with fail
  clear hm2
  go_loopw [7, 8] (fun v a wr => (a = .int .u64 1 ∧ v = .slice none 0 0 ∧ Hid (Below W.heap.size W wr ∧ DmAt wr mb M.length (ersF M))) ∨ (a = .int .u64 (placeOf [s] 1 : Nat) ∧ Hid (DueIs W wr r M v))) (fun _ a _ => placeOf [s] 1 - (intOf a).toNat)
  case atStart => exact .inl ⟨rfl, rfl, H2.out.1, H2.out.2.1⟩
  case round =>
    clear H2
    rcases hrel with ⟨rfl, rfl, HB⟩ | ⟨rfl, HD⟩
    · have HE1 := hida (HEN.out wr HB.out.1)
      have HG1 := hida (HGE.out wr HB.out.1)
      have d1 : decide ((1 : Int) < (placeOf [s] 1 : Nat)) = true := decide_eq_true (by have := HP.out; omega)
      go_wp2_with fail
      refine HE1.out.mono ?_
      rintro e w6 ⟨rfl, hw6⟩
      rw [hw6]
      clear hw6
      go_wp2_with fail
      refine HG1.out.mono ?_
      rintro e w6 ⟨rfl, n6, hw6⟩
      have HB6 := hida (show Below W.heap.size W w6 ∧ DmAt w6 mb M.length (ersF M) from by
        rw [hw6]
        exact ⟨below_chain HB.out.1 (below_drewN (Below.refl _ _) n6), HB.out.2.below (below_drewN (Below.refl _ _) n6)⟩)
      clear HE1 HG1 HB hw6
      have HD := hida HGO.out
      clear HGO
      go_upto_region 6 with fail
      go_cut [12, 13] from 22 to 67 (fun v12 v13 wx => ∃ (rb : Nat) (ta da : Option Addr) (tc dc : Nat), v12 = .pointer (some ⟨rb, 0, none⟩) ∧ v13 = .int .i64 0 ∧ Hid (Below W.heap.size W wx ∧ DmAt wx mb M.length (ersF M) ∧ BlkR wx rb (r.cells ta da tc dc) 64))
      case first =>
        go_wp2_with fail
        refine (HD.out _).mono ?_
        rintro e w7 ⟨ta, da, tc, dc, rfl, b7, hT, hDi⟩
        have HDB := hida (below_chain HB6.out.1 b7)
        obtain ⟨W8, HW8⟩ : ∃ W8, Hid (W8 = w7.alloc (.cells (r.cells ta da tc dc) 64)) := ⟨_, rfl⟩
        have b8 : Below w7.heap.size w7 W8 := by rw [HW8.out]; exact (Below.refl _ _).alloc (Nat.le_refl _) _
        have H8 := hida (show Below W.heap.size W W8 ∧ DmAt W8 mb M.length (ersF M) ∧ BlkR W8 w7.heap.size (r.cells ta da tc dc) 64 from ⟨below_chain HDB.out b8, (HB6.out.2.below b7).below b8, by rw [HW8.out]; exact heap_alloc_new w7 _⟩)
        have HPAR : Hid (r.cells ta da tc dc = #[.int .i64 r.kind, .int .i64 r.tx, .int .u64 r.prev, .int .u64 r.next, .int .u32 r.page, .int .i64 r.op.kind, .int .i64 r.op.at', .string r.op.S, .string r.op.old, .int .i64 r.undo, .int .i64 r.index, .string r.key, .int .u32 r.rpage, .int .i64 r.rslot, .bool r.live, .slice ta r.txs.length tc, .slice da r.dirty.length dc]) := rfl
        clear HD b7 HB6 HDB b8 hT hDi
        rw [HPAR.out] at HW8 ⊢
        go_wp2_with fail
        rw [← HW8.out]
        go_meet
        case rel => exact ⟨_, ta, da, tc, dc, rfl, rfl, H8⟩
      clear HD HB6
      obtain ⟨rb, ta, da, tc, dc, rfl, rfl, H8⟩ := hcut
      have k4 : wc.cell? ⟨rb, 4, none⟩ = some (.int .u32 (r.page : Nat)) := H8.out.2.2.cell 4
      have hlk := H8.out.2.1.look r.page hpg
      cases hF : ersF M r.page with
      | none =>
        rw [hF] at hlk
        dsimp only [Option.getD, Option.isSome] at hlk
        have HNH := hida (show ¬ hitR r M from fun hh => by obtain ⟨_, n, e, _⟩ := hh; rw [hF] at e; cases e)
        have HBL := hida H8.out.1
        clear H8 hF
        go_wp2_with fail
        go_roundw
        case rel => exact .inr ⟨rfl, HBL.out, .inr ⟨HNH.out, rfl⟩⟩
        case measure => simp [intOf]; have := HP.out; omega
      | some n =>
        rw [hF] at hlk
        dsimp only [Option.getD, Option.isSome] at hlk
        have HCH := hida (changes_any r ta da tc dc wc)
        go_upto_region 10 with fail
        go_wp2_with (refine wpList_loadRowG (by rfl) _ _ rfl rb rfl (r.cells ta da tc dc) _ (0, 0) H8.out.2.2 _ Tryz.underlying64 rfl (by kernel_rfl) ?_)
        refine HCH.out.mono ?_
        rintro e w9 ⟨rfl, b9⟩
        have HB9 := hida (show Below W.heap.size W w9 ∧ BlkR w9 rb (r.cells ta da tc dc) 64 from ⟨below_chain H8.out.1 b9, (b9.block _ H8.out.2.2.lt).trans H8.out.2.2⟩)
        clear HCH b9 H8 hlk k4
        by_cases hk : r.kind = 1 ∨ r.kind = 2
        rotate_left
        · rw [decide_eq_false hk]
          have HNH := hida (show ¬ hitR r M from fun hh => hk hh.1)
          have HBL := hida HB9.out.1
          clear HB9 hF
          go_wp2_with fail
          go_roundw
          case rel => exact .inr ⟨rfl, HBL.out, .inr ⟨HNH.out, rfl⟩⟩
          case measure => simp [intOf]; have := HP.out; omega
        rw [decide_eq_true hk]
        by_cases hn : n ≤ 1
        rotate_left
        · have d2 : decide ((n : Int) ≤ 1) = false := decide_eq_false (by omega)
          have HNH := hida (show ¬ hitR r M from fun hh => by obtain ⟨_, m, e, hm⟩ := hh; rw [hF] at e; cases e; exact hn hm)
          have HBL := hida HB9.out.1
          clear HB9 hF
          go_wp2_with fail
          go_roundw
          case rel => exact .inr ⟨rfl, HBL.out, .inr ⟨HNH.out, rfl⟩⟩
          case measure => simp [intOf]; have := HP.out; omega
        have d2 : decide ((n : Int) ≤ 1) = true := decide_eq_true (by omega)
        have HHI := hida (show hitR r M from ⟨hk, n, hF, hn⟩)
        have HPAR : Hid (r.cells ta da tc dc = #[.int .i64 r.kind, .int .i64 r.tx, .int .u64 r.prev, .int .u64 r.next, .int .u32 r.page, .int .i64 r.op.kind, .int .i64 r.op.at', .string r.op.S, .string r.op.old, .int .i64 r.undo, .int .i64 r.index, .string r.key, .int .u32 r.rpage, .int .i64 r.rslot, .bool r.live, .slice ta r.txs.length tc, .slice da r.dirty.length dc]) := rfl
        clear hF
        go_upto_if 60 with fail
        go_cut [7] from 22 to 67 (fun v7 wx => Hid (DueIs W wx r M v7))
        case first =>
          go_upto_region 11 with fail
          refine wp_region_lit ?_
          refine wpList_moveL rfl _ rfl ?_
          refine wpList_moveL rfl _ rfl ?_
          refine wpList_loadRow rfl _ _ rfl rb rfl (r.cells ta da tc dc) _ (0, 0) HB9.out.2 _ Tryz.underlying64 rfl (by kernel_rfl) ?_
          rw [HPAR.out]
          obtain ⟨V, HV⟩ : ∃ V, Hid (V = w9.alloc (.cells #[.int .u64 1, .int .i64 r.kind, .int .i64 r.tx, .int .u64 r.prev, .int .u64 r.next, .int .u32 r.page, .int .i64 r.op.kind, .int .i64 r.op.at', .string r.op.S, .string r.op.old, .int .i64 r.undo, .int .i64 r.index, .string r.key, .int .u32 r.rpage, .int .i64 r.rslot, .bool r.live, .slice ta r.txs.length tc, .slice da r.dirty.length dc] 178)) := ⟨_, rfl⟩
          have bV : Below w9.heap.size w9 V := by rw [HV.out]; exact (Below.refl _ _).alloc (Nat.le_refl _) _
          have hnews : Hid (∀ j u, [Value.int .u64 1, .int .i64 r.kind, .int .i64 r.tx, .int .u64 r.prev, .int .u64 r.next, .int .u32 r.page, .int .i64 r.op.kind, .int .i64 r.op.at', .string r.op.S, .string r.op.old, .int .i64 r.undo, .int .i64 r.index, .string r.key, .int .u32 r.rpage, .int .i64 r.rslot, .bool r.live, .slice ta r.txs.length tc, .slice da r.dirty.length dc][j]? = some u → V.cell? ((⟨w9.heap.size, 0, none⟩ : Addr).add j) = some u) := by
            show ∀ j u, _
            rw [HV.out]
            exact World.news_of_block (heap_alloc_new _ _)
          have HOW : Hid (V.ownsRow W.heap.size 178 18 (.slice none 0 0) 0 []) := World.ownsRow_nil _ _ _ _
          have HBV := hida (below_chain HB9.out.1 bV)
          have HPU : Hid (∀ (g2 cap2 : Nat) w2, w2.ownsRow W.heap.size 178 18 (.slice (some ⟨g2, 0, none⟩) (0 + 1 : Nat) cap2) (0 + 1) ([] ++ [.int .u64 1, .int .i64 r.kind, .int .i64 r.tx, .int .u64 r.prev, .int .u64 r.next, .int .u32 r.page, .int .i64 r.op.kind, .int .i64 r.op.at', .string r.op.S, .string r.op.old, .int .i64 r.undo, .int .i64 r.index, .string r.key, .int .u32 r.rpage, .int .i64 r.rslot, .bool r.live, .slice ta r.txs.length tc, .slice da r.dirty.length dc]) → V.grownBy w2 (Value.ownBlock (.slice none 0 0)) → DueIs W w2 r M (.slice (some ⟨g2, 0, none⟩) (0 + 1 : Nat) cap2)) := by
            intro g2 cap2 w2 own2 grow2
            refine ⟨HBV.out.grown grow2 HBV.out.size fun z hz => (by cases hz), .inl ⟨HHI.out, g2, cap2, ta, da, tc, dc, rfl, World.ownsRow.lt own2 g2 rfl, fun j v hv => ?_⟩⟩
            have hj : j < 18 := by
              have := (List.getElem?_eq_some_iff.1 hv).1
              exact this
            have := World.ownsRow.cellAt own2 j (by omega)
            rw [Nat.zero_add]
            rw [this]
            exact hv
          have HOK : Hid (W.heap.size ≤ V.heap.size) := HBV.out.size
          have H1S : Hid (∀ u' ∈ ([.int .u64 1, .int .i64 r.kind, .int .i64 r.tx, .int .u64 r.prev, .int .u64 r.next, .int .u32 r.page, .int .i64 r.op.kind, .int .i64 r.op.at', .string r.op.S, .string r.op.old, .int .i64 r.undo, .int .i64 r.index, .string r.key, .int .u32 r.rpage, .int .i64 r.rslot, .bool r.live, .slice ta r.txs.length tc, .slice da r.dirty.length dc] : List Value), u'.oneCell' = true) := by
            intro u' hu'
            simp only [List.mem_cons, List.not_mem_nil, or_false] at hu'
            rcases hu' with rfl | rfl | rfl | rfl | rfl | rfl | rfl | rfl | rfl | rfl | rfl | rfl | rfl | rfl | rfl | rfl | rfl | rfl <;> rfl
          clear HBV bV HB9
          rw [HV.out] at hnews HOW HPU HOK
          clear HV
          go_wp2_with (at_builtin; refine wpList_append_lies _ rfl _ _ 113 rfl W.heap.size 178 i1 _ 18 200 Tryz.underlying113 hi1 hz10 hz11 hz12 rfl (by decide) (.slice none 0 0) 0 [] rfl HOW.out ⟨w9.heap.size, 0, none⟩ 1 1 [.int .u64 1, .int .i64 r.kind, .int .i64 r.tx, .int .u64 r.prev, .int .u64 r.next, .int .u32 r.page, .int .i64 r.op.kind, .int .i64 r.op.at', .string r.op.S, .string r.op.old, .int .i64 r.undo, .int .i64 r.index, .string r.key, .int .u32 r.rpage, .int .i64 r.rslot, .bool r.live, .slice ta r.txs.length tc, .slice da r.dirty.length dc] rfl rfl hnews.out H1S.out (by decide) (by unfold maxLen; omega) (by omega) HOK.out _ rfl ?_; intro g2 cap2 w2 own2 grow2 loc2 lt2; have HN := hida (HPU.out g2 cap2 w2 own2 grow2); clear own2 grow2 loc2 lt2)
          go_meet
          case rel => exact HN
        have HDU := hcut
        clear HB9
        go_wp2_with fail
        go_roundw
        case rel => exact .inr ⟨rfl, HDU⟩
        case measure => simp [intOf]; have := HP.out; omega
    · have HE1 := hida (HEN.out wr HD.out.1)
      have d1 : decide (((placeOf [s] 1 : Nat) : Int) < (placeOf [s] 1 : Nat)) = false := decide_eq_false (by omega)
      go_wp2_with fail
      refine HE1.out.mono ?_
      rintro e w6 ⟨rfl, hw6⟩
      rw [hw6]
      clear hw6 HE1
      go_wp2_with fail
      refine bodyPost_ret (v := .tuple #[u7, .int .i64 0]) (by simp [results, Tryz.results39, go_sem]) rfl ?_
      exact ⟨fun _ => ⟨_, rfl, HD.out⟩, fun h => (by cases h), HD.out.1⟩

end Go.Proofs.YtgkfdakieebnmaaGreat
