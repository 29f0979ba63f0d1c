/-
  The walk of rec.Check of a record whose kind names neither a change nor lists.
-/
import Derived.Test.YtgkfdakieebnmaaGreatRecNamedC
import Derived.Test.YtgkfdakieebnmaaGreatRowOpsJ
import Derived.Lib.QuietBelow
import Derived.BigQuiet
import Derived.Deep.CutRange
set_option linter.unusedVariables false
set_option linter.unusedSimpArgs false
namespace Go.Proofs.YtgkfdakieebnmaaGreat
open Go.RowKit Go.Sort

theorem cmixed : Tryz.prog.follows .mixedOrders = true := by kernel_rfl

theorem namedV_ok {r : RecV} {w : World} {ta da : Option Addr} (h : r.Ok w ta da) : (namedV r).Ok w (if listsB r then ta else none) (if listsB r then da else none) := by
  refine ⟨h.kind, h.tx, h.prev, ?_, ?_, ?_, ?_, ?_, ?_, ?_, ?_, ?_, ?_, ?_, ?_⟩
  · show (if nextB r then r.next else 0) < _; split; exact h.next; omega
  · show (if changeB r then r.page else 0) < _; split; exact h.page; omega
  · show (if changeB r then r.op else _).Ok; split; exact h.op; exact ⟨by decide, by decide, by decide, by decide⟩
  · show _ ≤ (if changeB r then r.undo else 0) ∧ (if changeB r then r.undo else 0) ≤ _; split; exact h.undo; omega
  · show _ ≤ (if keyB r then r.index else 0) ∧ (if keyB r then r.index else 0) ≤ _; split; exact h.index; omega
  · show (if keyB r then r.key else ⟨#[]⟩).size ≤ _; split; exact h.key; exact Nat.zero_le _
  · show (if keyB r then r.rpage else 0) < _; split; exact h.rpage; omega
  · show _ ≤ (if keyB r then r.rslot else 0) ∧ (if keyB r then r.rslot else 0) ≤ _; split; exact h.rslot; omega
  · show (if listsB r then r.txs else []).length * 32 ≤ _; split; exact h.tlen; exact Nat.zero_le _
  · show (if listsB r then r.dirty else []).length * 16 ≤ _; split; exact h.dlen; exact Nat.zero_le _
  · show TxsAt w _ (if listsB r then r.txs else []); split; exact h.txs; exact .inl rfl
  · show DisAt w _ (if listsB r then r.dirty else []); split; exact h.dirty; exact .inl rfl

end Go.Proofs.YtgkfdakieebnmaaGreat

namespace Go.Proofs.YtgkfdakieebnmaaGreat
open Go.RowKit Go.Sort

def cmayB (r : RecV) : Bool := decide (r.page ≠ 0) && (chkB r.op && (if r.kind = 2 then decide (r.undo = 0) else decide (0 ≤ r.undo ∧ r.undo ≤ 2)))

def kmayB (r : RecV) : Bool := decide (0 ≤ r.index ∧ r.index ≤ 65535) && (decide (r.key.size ≤ 64) && decide (0 ≤ r.rslot ∧ r.rslot ≤ 65535))

set_option maxHeartbeats 1600000 in
set_option maxRecDepth 8000 in
theorem changeMay_any (r : RecV) (ta da : Option Addr) (tc dc : Nat) (w : World) (h : r.Ok w ta da) :
    Calls Tryz.prog 133 #[.agg (r.cells ta da tc dc)] w fun e w' => e = .returned (.bool (cmayB r)) ∧ Below w.heap.size w w' := by
  obtain ⟨R, HR⟩ : ∃ R, Hid (cmayB r = R) := ⟨_, rfl⟩
  rw [HR.out]
  obtain ⟨W, HW⟩ : ∃ W, Hid (W = w.alloc (.cells (r.cells ta da tc dc) 64)) := ⟨_, rfl⟩
  have HB : Hid (Below w.heap.size w W) := by show Below _ _ _; rw [HW.out]; exact (Below.refl _ _).alloc (Nat.le_refl _) _
  have HP : Hid (BlkR W w.heap.size (r.cells ta da tc dc) 64) := by show BlkR _ _ _ _; rw [HW.out]; exact heap_alloc_new w _
  have HPAR : Hid (r.cells ta da tc dc = #[.int .i64 r.kind, .int .i64 r.tx, .int .u64 r.prev, .int .u64 r.next, .int .u32 r.page, .int .i64 r.op.kind, .int .i64 r.op.at', .string r.op.S, .string r.op.old, .int .i64 r.undo, .int .i64 r.index, .string r.key, .int .u32 r.rpage, .int .i64 r.rslot, .bool r.live, .slice ta r.txs.length tc, .slice da r.dirty.length dc]) := rfl
  have HCK : Hid (Calls Tryz.prog 52 #[.agg #[.int .i64 r.op.kind, .int .i64 r.op.at', .string r.op.S, .string r.op.old]] W fun e w' => e = .returned (.int .i64 (chkE r.op)) ∧ Below W.heap.size W w') := check_any r.op W h.op
  have hpg := h.page
  clear h
  rw [HPAR.out]
  go_enter Tryz.func133, Tryz.ntmps133
  go_upto_region 1 with fail
  rw [← HPAR.out, show w.alloc (.cells (r.cells ta da tc dc) 64) = W from HW.out.symm]
  clear HW
  have c4 : W.cell? ⟨w.heap.size, 4, none⟩ = some (.int .u32 r.page) := HP.out.cell 4
  have c5 : W.cell? ⟨w.heap.size, 5, none⟩ = some (.int .i64 r.op.kind) := HP.out.cell 5
  have c6 : W.cell? ⟨w.heap.size, 6, none⟩ = some (.int .i64 r.op.at') := HP.out.cell 6
  have c7 : W.cell? ⟨w.heap.size, 7, none⟩ = some (.string r.op.S) := HP.out.cell 7
  have c8 : W.cell? ⟨w.heap.size, 8, none⟩ = some (.string r.op.old) := HP.out.cell 8
  by_cases h0 : r.page = 0
  · have e0 : ((r.page : Int) == 0) = true := by rw [h0]; rfl
    have HR' : Hid (R = false) := by show _ = _; rw [← HR.out]; unfold cmayB; simp [h0]
    clear h0
    go_wp2_with fail
    go_ret
    exact ⟨by rw [HR'.out]; rfl, HB.out⟩
  · have e0 : ((r.page : Int) == 0) = false := by rw [beq_eq_false_iff_ne]; omega
    have HN0 := hidr h0
    clear h0
    go_wp2_with fail
    refine HCK.out.mono ?_
    rintro e w1 ⟨rfl, b1⟩
    have HP1 : Hid (BlkR w1 w.heap.size (r.cells ta da tc dc) 64) := (b1.block _ HP.out.lt).trans HP.out
    have HB1 := hidr (below_chain HB.out b1)
    clear HP HB b1 HCK c4 c5 c6 c7 c8
    by_cases hc : chkB r.op = true
    · have ec : chkE r.op = 0 := by unfold chkE; rw [if_pos hc]
      rw [ec]
      have c0 : w1.cell? ⟨w.heap.size, 0, none⟩ = some (.int .i64 r.kind) := HP1.out.cell 0
      have c9 : w1.cell? ⟨w.heap.size, 9, none⟩ = some (.int .i64 r.undo) := HP1.out.cell 9
      have HC := hidr hc
      clear hc ec
      by_cases hk : r.kind = 2
      · have ek : (r.kind == 2) = true := by rw [beq_iff_eq]; exact hk
        have HR' : Hid (R = (r.undo == 0)) := by
          show _ = _
          rw [← HR.out]
          unfold cmayB
          rw [decide_eq_true HN0.out, HC.out, if_pos hk]
          rfl
        clear hk
        go_wp2_with fail
        go_ret
        exact ⟨by rw [HR'.out]; rfl, HB1.out⟩
      · have ek : (r.kind == 2) = false := by rw [beq_eq_false_iff_ne]; exact hk
        have HR' : Hid (R = decide (0 ≤ r.undo ∧ r.undo ≤ 2)) := by
          show _ = _
          rw [← HR.out]
          unfold cmayB
          rw [decide_eq_true HN0.out, HC.out, if_neg hk]
          rfl
        clear hk
        by_cases hu : 0 ≤ r.undo ∧ r.undo ≤ 2
        · have HU := hidr (rwithin_yes r.undo 0 2 w1 hu)
          have HD := hidr (decide_eq_true hu)
          clear hu
          go_wp2_with fail
          refine HU.out.mono ?_
          rintro e w2 ⟨rfl, hw2⟩
          obtain rfl := hw2.symm
          go_wp2_with fail
          go_ret
          exact ⟨by rw [HR'.out, HD.out]; rfl, HB1.out⟩
        · have HU := hidr (rwithin_no r.undo 0 2 w1 hu)
          have HD := hidr (decide_eq_false hu)
          clear hu
          go_wp2_with fail
          refine HU.out.mono ?_
          rintro e w2 ⟨rfl, hw2⟩
          obtain rfl := hw2.symm
          go_wp2_with fail
          go_ret
          exact ⟨by rw [HR'.out, HD.out]; rfl, HB1.out⟩
    · have ec : chkE r.op = 33 := by unfold chkE; rw [if_neg hc]
      rw [ec]
      have HR' : Hid (R = false) := by
        show _ = _
        rw [← HR.out]
        unfold cmayB
        rw [show chkB r.op = false by simpa using hc]
        simp
      clear hc ec
      go_wp2_with fail
      go_ret
      exact ⟨by rw [HR'.out]; rfl, HB1.out⟩

set_option maxHeartbeats 1600000 in
set_option maxRecDepth 8000 in
theorem keyMay_any (r : RecV) (ta da : Option Addr) (tc dc : Nat) (w : World) (h : r.Ok w ta da) :
    Calls Tryz.prog 134 #[.agg (r.cells ta da tc dc)] w fun e w' => e = .returned (.bool (kmayB r)) ∧ Below w.heap.size w w' := by
  obtain ⟨R, HR⟩ : ∃ R, Hid (kmayB r = R) := ⟨_, rfl⟩
  rw [HR.out]
  obtain ⟨W, HW⟩ : ∃ W, Hid (W = w.alloc (.cells (r.cells ta da tc dc) 64)) := ⟨_, rfl⟩
  have HB : Hid (Below w.heap.size w W) := by show Below _ _ _; rw [HW.out]; exact (Below.refl _ _).alloc (Nat.le_refl _) _
  have HP : Hid (BlkR W w.heap.size (r.cells ta da tc dc) 64) := by show BlkR _ _ _ _; rw [HW.out]; exact heap_alloc_new w _
  have HPAR : Hid (r.cells ta da tc dc = #[.int .i64 r.kind, .int .i64 r.tx, .int .u64 r.prev, .int .u64 r.next, .int .u32 r.page, .int .i64 r.op.kind, .int .i64 r.op.at', .string r.op.S, .string r.op.old, .int .i64 r.undo, .int .i64 r.index, .string r.key, .int .u32 r.rpage, .int .i64 r.rslot, .bool r.live, .slice ta r.txs.length tc, .slice da r.dirty.length dc]) := rfl
  have hky := h.key
  clear h
  rw [HPAR.out]
  go_enter Tryz.func134, Tryz.ntmps134
  go_upto_region 1 with fail
  rw [← HPAR.out, show w.alloc (.cells (r.cells ta da tc dc) 64) = W from HW.out.symm]
  clear HW
  have c10 : W.cell? ⟨w.heap.size, 10, none⟩ = some (.int .i64 r.index) := HP.out.cell 10
  have c11 : W.cell? ⟨w.heap.size, 11, none⟩ = some (.string r.key) := HP.out.cell 11
  have c13 : W.cell? ⟨w.heap.size, 13, none⟩ = some (.int .i64 r.rslot) := HP.out.cell 13
  by_cases hi : 0 ≤ r.index ∧ r.index ≤ 65535
  · have HU := hidr (rwithin_yes r.index 0 65535 W hi)
    have HI := hidr (decide_eq_true hi)
    clear hi
    by_cases hk : r.key.size ≤ 64
    · have ek : decide ((r.key.size : Int) ≤ 64) = true := by simp; omega
      have HK := hidr (decide_eq_true hk)
      clear hk
      by_cases hs : 0 ≤ r.rslot ∧ r.rslot ≤ 65535
      · have HV := hidr (rwithin_yes r.rslot 0 65535 W hs)
        have HR' : Hid (R = true) := by show _ = _; rw [← HR.out]; unfold kmayB; rw [HI.out, HK.out, decide_eq_true hs]; rfl
        clear hs
        go_wp2_with fail
        refine HU.out.mono ?_
        rintro e w1 ⟨rfl, hw1⟩
        obtain rfl := hw1.symm
        go_wp2_with fail
        refine HV.out.mono ?_
        rintro e w2 ⟨rfl, hw2⟩
        obtain rfl := hw2.symm
        go_wp2_with fail
        go_ret
        exact ⟨by rw [HR'.out]; rfl, HB.out⟩
      · have HV := hidr (rwithin_no r.rslot 0 65535 W hs)
        have HR' : Hid (R = false) := by show _ = _; rw [← HR.out]; unfold kmayB; rw [HI.out, HK.out, decide_eq_false hs]; rfl
        clear hs
        go_wp2_with fail
        refine HU.out.mono ?_
        rintro e w1 ⟨rfl, hw1⟩
        obtain rfl := hw1.symm
        go_wp2_with fail
        refine HV.out.mono ?_
        rintro e w2 ⟨rfl, hw2⟩
        obtain rfl := hw2.symm
        go_wp2_with fail
        go_ret
        exact ⟨by rw [HR'.out]; rfl, HB.out⟩
    · have ek : decide ((r.key.size : Int) ≤ 64) = false := by simp; omega
      have HR' : Hid (R = false) := by show _ = _; rw [← HR.out]; unfold kmayB; rw [HI.out, decide_eq_false hk]; rfl
      clear hk
      go_wp2_with fail
      refine HU.out.mono ?_
      rintro e w1 ⟨rfl, hw1⟩
      obtain rfl := hw1.symm
      go_wp2_with fail
      go_ret
      exact ⟨by rw [HR'.out]; rfl, HB.out⟩
  · have HU := hidr (rwithin_no r.index 0 65535 W hi)
    have HR' : Hid (R = false) := by show _ = _; rw [← HR.out]; unfold kmayB; rw [decide_eq_false hi]; rfl
    clear hi
    go_wp2_with fail
    refine HU.out.mono ?_
    rintro e w1 ⟨rfl, hw1⟩
    obtain rfl := hw1.symm
    go_wp2_with fail
    go_ret
    exact ⟨by rw [HR'.out]; rfl, HB.out⟩

end Go.Proofs.YtgkfdakieebnmaaGreat

namespace Go.Proofs.YtgkfdakieebnmaaGreat
open Go.RowKit Go.Sort

def txMay (t : TxV) : Bool := decide (0 ≤ t.1 ∧ t.1 ≤ 2147483647) && decide (1 ≤ t.2.1 ∧ t.2.1 ≤ 3)

def lmayB (r : RecV) : Bool := decide (r.txs.length ≤ 64) && (decide (r.dirty.length ≤ 256) && r.txs.all txMay)

set_option maxHeartbeats 1600000 in
set_option maxRecDepth 8000 in
theorem listsMay_any (r : RecV) (ta da : Option Addr) (tc dc : Nat) (w : World) (h : r.Ok w ta da) :
    Calls Tryz.prog 135 #[.agg (r.cells ta da tc dc)] w fun e w' => e = .returned (.bool (lmayB r)) ∧ Below w.heap.size w w' := by
  obtain ⟨R, HR⟩ : ∃ R, Hid (lmayB r = R) := ⟨_, rfl⟩
  rw [HR.out]
  obtain ⟨W, HW⟩ : ∃ W, Hid (W = w.alloc (.cells (r.cells ta da tc dc) 64)) := ⟨_, rfl⟩
  have HB : Hid (Below w.heap.size w W) := by show Below _ _ _; rw [HW.out]; exact (Below.refl _ _).alloc (Nat.le_refl _) _
  have HP : Hid (BlkR W w.heap.size (r.cells ta da tc dc) 64) := by show BlkR _ _ _ _; rw [HW.out]; exact heap_alloc_new w _
  have HPAR : Hid (r.cells ta da tc dc = #[.int .i64 r.kind, .int .i64 r.tx, .int .u64 r.prev, .int .u64 r.next, .int .u32 r.page, .int .i64 r.op.kind, .int .i64 r.op.at', .string r.op.S, .string r.op.old, .int .i64 r.undo, .int .i64 r.index, .string r.key, .int .u32 r.rpage, .int .i64 r.rslot, .bool r.live, .slice ta r.txs.length tc, .slice da r.dirty.length dc]) := rfl
  have htl := h.tlen
  have hdl := h.dlen
  have HTX := hidr h.txs
  clear h
  rw [HPAR.out]
  go_enter Tryz.func135, Tryz.ntmps135
  go_upto_region 1 with fail
  rw [← HPAR.out, show w.alloc (.cells (r.cells ta da tc dc) 64) = W from HW.out.symm]
  clear HW
  have c15 : W.cell? ⟨w.heap.size, 15, none⟩ = some (.slice ta r.txs.length tc) := HP.out.cell 15
  have c16 : W.cell? ⟨w.heap.size, 16, none⟩ = some (.slice da r.dirty.length dc) := HP.out.cell 16
  by_cases h1 : 64 < r.txs.length
  · have e1 : decide ((64 : Int) < (r.txs.length : Int)) = true := by simp; omega
    have HR' : Hid (R = false) := by show _ = _; rw [← HR.out]; unfold lmayB; rw [decide_eq_false (by omega : ¬ r.txs.length ≤ 64)]; rfl
    go_wp2_with fail
    go_ret
    exact ⟨by rw [HR'.out]; rfl, HB.out⟩
  · have e1 : decide ((64 : Int) < (r.txs.length : Int)) = false := by simp; omega
    by_cases h2 : 256 < r.dirty.length
    · have e2 : decide ((256 : Int) < (r.dirty.length : Int)) = true := by simp; omega
      have HR' : Hid (R = false) := by show _ = _; rw [← HR.out]; unfold lmayB; rw [decide_eq_false (by omega : ¬ r.dirty.length ≤ 256)]; simp
      go_wp2_with fail
      go_ret
      exact ⟨by rw [HR'.out]; rfl, HB.out⟩
    · have e2 : decide ((256 : Int) < (r.dirty.length : Int)) = false := by simp; omega
      have HR2 : Hid (R = r.txs.all txMay) := by show _ = _; rw [← HR.out]; unfold lmayB; rw [decide_eq_true (by omega : r.txs.length ≤ 64), decide_eq_true (by omega : r.dirty.length ≤ 256)]; rfl
      go_wp2_with fail
      go_loopw [18] (fun x wr => ∃ k : Nat, x = .int .i64 k ∧ k ≤ r.txs.length ∧ Hid (Below w.heap.size w wr) ∧ Hid (∀ i (hi : i < r.txs.length), i < k → txMay r.txs[i] = true)) (fun x _ => r.txs.length - (intOf x).toNat)
      case atStart => exact ⟨0, rfl, Nat.zero_le _, HB, fun i hi h0 => absurd h0 (Nat.not_lt_zero _)⟩
      case round =>
        obtain ⟨k, rfl, hk, HBR, HA⟩ := hrel
        by_cases hlt : k < r.txs.length
        · have d1 : decide ((k : Int) < (r.txs.length : Int)) = true := by simp; omega
          have i1 : (0 : Int) ≤ (k : Int) := by omega
          have i2 : (k : Int) < (r.txs.length : Int) := by omega
          obtain ⟨b1, o1, rfl, hb1, g1⟩ : ∃ b1 o1, ta = some ⟨b1, o1, none⟩ ∧ b1 < wr.heap.size ∧ TxAt wr b1 (o1 + k * 4) r.txs[k] := by
            rcases HTX.out.below HBR.out with h | ⟨b1, o1, e, hb, h⟩
            · rw [h] at hlt; simp at hlt
            · exact ⟨b1, o1, e, hb, h k hlt⟩
          have HT1 : Hid (txMay r.txs[k] = true → ∀ i (hi : i < r.txs.length), i < k + 1 → txMay r.txs[i] = true) := fun ht i hi h' => by
            by_cases e : i = k
            · subst e; exact ht
            · exact HA.out i hi (by omega)
          have HT2 : Hid (txMay r.txs[k] = false → r.txs.all txMay = false) := fun ht => by
            rw [Bool.eq_false_iff]
            intro h
            have := (List.all_eq_true.1 h) _ (List.getElem_mem hlt)
            rw [ht] at this
            cases this
          generalize r.txs[k] = t at *
          obtain ⟨t0, t1, t2, t3⟩ := t
          obtain ⟨p0, p1, p2, p3⟩ := g1
          simp only at p0 p1 p2 p3
          have HBA : Hid (Below w.heap.size w (wr.alloc (.cells #[.int .i64 t0, .int .i64 t1, .int .u64 t2, .int .u64 t3] 161))) := HBR.out.alloc HBR.out.size _
          by_cases ha : 0 ≤ t0 ∧ t0 ≤ 2147483647
          · have HU : Hid (∀ wx, Calls Tryz.prog 130 #[.int .i64 t0, .int .i64 0, .int .i64 2147483647] wx fun e w' => e = .returned (.bool true) ∧ w' = wx) := fun wx => rwithin_yes t0 0 2147483647 wx ha
            by_cases hb : 1 ≤ t1 ∧ t1 ≤ 3
            · have HV : Hid (∀ wx, Calls Tryz.prog 130 #[.int .i64 t1, .int .i64 1, .int .i64 3] wx fun e w' => e = .returned (.bool true) ∧ w' = wx) := fun wx => rwithin_yes t1 1 3 wx hb
              have HM : Hid (txMay (t0, t1, t2, t3) = true) := by show _ = _; unfold txMay; rw [decide_eq_true ha, decide_eq_true hb]; rfl
              clear ha hb HT2
              go_wp2_with fail
              refine (HU.out _).mono ?_
              rintro e w1 ⟨rfl, hw1⟩
              subst hw1
              go_wp2_with fail
              refine (HV.out _).mono ?_
              rintro e w2 ⟨rfl, hw2⟩
              subst hw2
              go_wp2_with fail
              go_roundw
              case rel => exact ⟨k + 1, by go_num, by omega, HBA, HT1.out HM.out⟩
              case measure => simp [intOf]; omega
            · have HV : Hid (∀ wx, Calls Tryz.prog 130 #[.int .i64 t1, .int .i64 1, .int .i64 3] wx fun e w' => e = .returned (.bool false) ∧ w' = wx) := fun wx => rwithin_no t1 1 3 wx hb
              have HM : Hid (R = false) := by show _ = _; rw [HR2.out]; exact HT2.out (by unfold txMay; rw [decide_eq_false hb]; simp)
              clear ha hb HT1 HT2
              go_wp2_with fail
              refine (HU.out _).mono ?_
              rintro e w1 ⟨rfl, hw1⟩
              subst hw1
              go_wp2_with fail
              refine (HV.out _).mono ?_
              rintro e w2 ⟨rfl, hw2⟩
              subst hw2
              go_wp2_with fail
              go_ret
              exact ⟨by rw [HM.out]; rfl, HBA.out⟩
          · have HU : Hid (∀ wx, Calls Tryz.prog 130 #[.int .i64 t0, .int .i64 0, .int .i64 2147483647] wx fun e w' => e = .returned (.bool false) ∧ w' = wx) := fun wx => rwithin_no t0 0 2147483647 wx ha
            have HM : Hid (R = false) := by show _ = _; rw [HR2.out]; exact HT2.out (by unfold txMay; rw [decide_eq_false ha]; rfl)
            clear ha HT1 HT2
            go_wp2_with fail
            refine (HU.out _).mono ?_
            rintro e w1 ⟨rfl, hw1⟩
            subst hw1
            go_wp2_with fail
            go_ret
            exact ⟨by rw [HM.out]; rfl, HBA.out⟩
        · have d1 : decide ((k : Int) < (r.txs.length : Int)) = false := by simp; omega
          have HM : Hid (R = true) := by
            show _ = _
            rw [HR2.out, List.all_eq_true]
            intro x hx
            obtain ⟨i, hi, rfl⟩ := List.getElem_of_mem hx
            exact HA.out i hi (by omega)
          go_wp2_with fail
          go_ret
          exact ⟨by rw [HM.out]; rfl, HBR.out⟩

end Go.Proofs.YtgkfdakieebnmaaGreat

namespace Go.Proofs.YtgkfdakieebnmaaGreat
open Go.RowKit Go.Sort

section
variable {P : Program} {ops : Array Oper} {C : World → Prop} {Qa : Act → Prop} {Q : Exit → Act → World → Prop}

theorem wpList_of_quiet (hQ : ∀ a' w', C w' → Qa a' → Q .normal a' w') : ∀ (l : List Oper) (a : Act) (w : World), C w → wpQuiet P ops C Qa l a → wpList P ops Q l a w
  | [], a, w, hC, h => wpList_nil (hQ a w hC h)
  | o :: rest, a, w, hC, h => by
    unfold wpQuiet at h
    by_cases hw : Region.wanted o (yielded ops a.tmps) = true
    · rw [if_pos hw] at h
      obtain ⟨v, hv, hn⟩ := h
      have hq := hv w hC
      refine wpList_step fun K hK => ?_
      rw [if_pos hw]
      unfold Oper.quietAt at hq
      unfold Oper.wp
      generalize (execOp a.eval o).run P w = res at hq ⊢
      unfold Oper.quietUpon at hq
      split at hq
      · obtain ⟨rfl, rfl⟩ := hq
        exact hK _ _ (wpList_of_quiet hQ rest _ _ hC hn)
      · obtain ⟨rfl, rfl⟩ := hq
        exact hK _ _ (wpList_of_quiet hQ rest _ _ hC hn)
      · obtain ⟨rfl, hc⟩ := hq
        refine hc.mono ?_
        rintro e w'' ⟨rfl, hC''⟩
        exact hK _ _ (wpList_of_quiet hQ rest _ _ hC'' hn)
      · exact absurd hq id
    · rw [if_neg hw] at h
      exact wpList_skip (by simpa using hw) (wpList_of_quiet hQ rest _ w hC h)

end

section
variable {P : Program} {l : List Oper} {Q : Exit → Act → World → Prop} {a : Act} {w : World}

theorem wp_plain_below {id : Nat} (h : wpQuiet P l.toArray (fun w' => ∃ p : Regrown, w' = grow (redrawn w p.d) p.os) (fun a' => ∀ w', (∃ p : Regrown, w' = grow (redrawn w p.d) p.os) → Q .normal a' w') l a) : (Code.region id l.toArray false).wp P Q a w :=
  wp_region_lit (wpList_of_quiet (fun a' w' hC hQ => hQ w' hC) l a w ⟨⟨w.drawn, #[]⟩, by rw [grow_empty]; rfl⟩ h)

variable {ops : Array Oper} {rest : List Oper} {o : Oper}

theorem wpQuiet_loadRowG {V : World} {Q' : Act → Prop} (hw : Region.wanted o (yielded ops a.tmps) = true) (x : Operand) (t : TypeId) (ho : o.op = .load t x) (b : Nat) (hx : a.eval x = .pointer (some ⟨b, 0, none⟩)) (c : Array Value) (t' : TypeId) (fr : Nat × Nat) (hb : V.heap[b]? = some (.cells c t' fr))
    (d : TypeDesc) (hu : P.underlying t = some d) (hd : (match d with | .struct _ | .array _ _ => true | _ => false) = true) (hi : (P.info? t).map (·.size) = some c.size)
    (h : wpQuiet P ops (fun w' => ∃ p : Regrown, w' = grow (redrawn V p.d) p.os) Q' rest (a.put o.dst (.agg c))) : wpQuiet P ops (fun w' => ∃ p : Regrown, w' = grow (redrawn V p.d) p.os) Q' (o :: rest) a := by
  refine BigFrame.wpQuiet_want hw (fun K hK => ?_)
  refine ⟨.agg c, fun w hw => ?_, hK _ h⟩
  obtain ⟨p, rfl⟩ := hw
  have hlt : b < V.heap.size := (Array.getElem?_eq_some_iff.1 hb).1
  have hb' : (grow (redrawn V p.d) p.os).heap[b]? = some (.cells c t' fr) := ((below_regrown V p.d p.os).block b hlt).trans hb
  have hr := run_loadVar_row (P := P) (grow (redrawn V p.d) p.os) b t' t c fr d hb' hu hd hi
  unfold Oper.quietAt execOp
  simp only [ho, hx, Instr.loadAt, Instr.sureAddr, Sem.run_bind, Sem.run_pure, Result.andThen_ok, hr]
  exact ⟨rfl, rfl⟩

end

end Go.Proofs.YtgkfdakieebnmaaGreat

namespace Go.Proofs.YtgkfdakieebnmaaGreat
open Go.RowKit Go.Sort

def mayR (r : RecV) : Bool := decide (1 ≤ r.kind ∧ r.kind ≤ 8) && (decide (0 ≤ r.tx ∧ r.tx ≤ 2147483647) && (sameR r (namedV r) && ((!changeB r || cmayB r) && ((!keyB r || kmayB r) && (!listsB r || lmayB r)))))

def rcheckE (r : RecV) : Int := if mayR r then 0 else 40

set_option maxHeartbeats 1600000 in
set_option maxRecDepth 8000 in
theorem rcheck_any (r : RecV) (ta da : Option Addr) (tc dc : Nat) (w : World) (h : r.Ok w ta da) :
    Calls Tryz.prog 69 #[.agg (r.cells ta da tc dc)] w fun e w' => e = .returned (.int .i64 (rcheckE r)) ∧ Below w.heap.size w w' := by
  obtain ⟨E, HE⟩ : ∃ E, Hid (rcheckE r = E) := ⟨_, rfl⟩
  rw [HE.out]
  obtain ⟨W, HW⟩ : ∃ W, Hid (W = w.alloc (.cells (r.cells ta da tc dc) 64)) := ⟨_, rfl⟩
  have HB : Hid (Below w.heap.size w W) := by show Below _ _ _; rw [HW.out]; exact (Below.refl _ _).alloc (Nat.le_refl _) _
  have HP : Hid (BlkR W w.heap.size (r.cells ta da tc dc) 64) := by show BlkR _ _ _ _; rw [HW.out]; exact heap_alloc_new w _
  have HPAR : Hid (r.cells ta da tc dc = #[.int .i64 r.kind, .int .i64 r.tx, .int .u64 r.prev, .int .u64 r.next, .int .u32 r.page, .int .i64 r.op.kind, .int .i64 r.op.at', .string r.op.S, .string r.op.old, .int .i64 r.undo, .int .i64 r.index, .string r.key, .int .u32 r.rpage, .int .i64 r.rslot, .bool r.live, .slice ta r.txs.length tc, .slice da r.dirty.length dc]) := rfl
  have HOK := hidr h
  have HNO : Hid (∀ wx, Below w.heap.size w wx → (namedV r).Ok wx (if listsB r then ta else none) (if listsB r then da else none)) := fun wx b => (namedV_ok h).below b
  clear h
  obtain ⟨ta', Hta⟩ : ∃ x, Hid ((if listsB r then ta else none) = x) := ⟨_, rfl⟩
  obtain ⟨da', Hda⟩ : ∃ x, Hid ((if listsB r then da else none) = x) := ⟨_, rfl⟩
  obtain ⟨tc', Htc⟩ : ∃ x, Hid ((if listsB r then tc else 0) = x) := ⟨_, rfl⟩
  obtain ⟨dc', Hdc⟩ : ∃ x, Hid ((if listsB r then dc else 0) = x) := ⟨_, rfl⟩
  rw [Hta.out, Hda.out] at HNO
  have HNM : Hid (∀ wx, Calls Tryz.prog 132 #[.agg (r.cells ta da tc dc)] wx fun e w' => e = .returned (.agg ((namedV r).cells ta' da' tc' dc')) ∧ Below wx.heap.size wx w') := fun wx => by
    have := rnamed_any r ta da tc dc wx
    rw [Hta.out, Hda.out, Htc.out, Hdc.out] at this
    exact this
  have HSM : Hid (∀ wx, Below w.heap.size w wx → Calls Tryz.prog 131 #[.agg (r.cells ta da tc dc), .agg ((namedV r).cells ta' da' tc' dc')] wx fun e w' => e = .returned (.bool (sameR r (namedV r))) ∧ Below wx.heap.size wx w') := fun wx b => recSame_any r (namedV r) ta da ta' da' tc dc tc' dc' wx (HOK.out.below b) (HNO.out wx b)
  rw [HPAR.out]
  go_enter Tryz.func69, Tryz.ntmps69
  go_upto_region 1 with fail
  rw [← HPAR.out, show w.alloc (.cells (r.cells ta da tc dc) 64) = W from HW.out.symm]
  clear HW
  have c0 : W.cell? ⟨w.heap.size, 0, none⟩ = some (.int .i64 r.kind) := HP.out.cell 0
  have c1 : W.cell? ⟨w.heap.size, 1, none⟩ = some (.int .i64 r.tx) := HP.out.cell 1
  by_cases h1 : 1 ≤ r.kind ∧ r.kind ≤ 8
  rotate_left
  · have HU := hidr (rwithin_no r.kind 1 8 W h1)
    have HE' : Hid (E = 40) := by show _ = _; rw [← HE.out]; unfold rcheckE mayR; rw [decide_eq_false h1]; rfl
    clear h1
    go_wp2_with fail
    refine HU.out.mono ?_
    rintro e w1 ⟨rfl, hw1⟩
    obtain rfl := hw1.symm
    go_wp2_with fail
    go_ret
    exact ⟨by rw [HE'.out]; rfl, HB.out⟩
  have HU := hidr (rwithin_yes r.kind 1 8 W h1)
  have H1 := hidr (decide_eq_true h1)
  clear h1
  by_cases h2 : 0 ≤ r.tx ∧ r.tx ≤ 2147483647
  rotate_left
  · have HV := hidr (rwithin_no r.tx 0 2147483647 W h2)
    have HE' : Hid (E = 40) := by show _ = _; rw [← HE.out]; unfold rcheckE mayR; rw [decide_eq_false h2]; simp
    clear h2
    go_wp2_with fail
    refine HU.out.mono ?_
    rintro e w1 ⟨rfl, hw1⟩
    obtain rfl := hw1.symm
    go_wp2_with fail
    refine HV.out.mono ?_
    rintro e w1 ⟨rfl, hw1⟩
    obtain rfl := hw1.symm
    go_wp2_with fail
    go_ret
    exact ⟨by rw [HE'.out]; rfl, HB.out⟩
  have HV := hidr (rwithin_yes r.tx 0 2147483647 W h2)
  have H2 := hidr (decide_eq_true h2)
  clear h2
  go_wp2_with fail
  refine HU.out.mono ?_
  rintro e w1 ⟨rfl, hw1⟩
  obtain rfl := hw1.symm
  go_wp2_with fail
  refine HV.out.mono ?_
  rintro e w1 ⟨rfl, hw1⟩
  obtain rfl := hw1.symm
  clear HU HV
  have cN : ∀ dd os, Calls Tryz.prog 132 #[.agg (r.cells ta da tc dc)] (grow (redrawn W dd) os) fun e w'' => e = .returned (.agg ((namedV r).cells ta' da' tc' dc')) ∧ ∃ p : Regrown, w'' = grow (redrawn W p.d) p.os := fun dd os => Calls.regrown_of (HNM.out _)
  have cS : ∀ dd os, Calls Tryz.prog 131 #[.agg (r.cells ta da tc dc), .agg ((namedV r).cells ta' da' tc' dc')] (grow (redrawn W dd) os) fun e w'' => e = .returned (.bool (sameR r (namedV r))) ∧ ∃ p : Regrown, w'' = grow (redrawn W p.d) p.os := fun dd os => Calls.regrown_of (HSM.out _ (below_chain HB.out (below_regrown W dd os)))
  obtain ⟨S3, HS3⟩ : ∃ S3, Hid (sameR r (namedV r) = S3) := ⟨_, rfl⟩
  rw [HS3.out] at cS
  go_upto_region 3 with fail
  refine wp_region_quiet_below cmixed (by kernel_rfl) ?_
  refine wpQuiet_loadRow rfl _ _ rfl w.heap.size rfl (r.cells ta da tc dc) _ (0, 0) HP.out _ Tryz.underlying64 rfl (by kernel_rfl) ?_
  refine wpQuiet_loadRow rfl _ _ rfl w.heap.size rfl (r.cells ta da tc dc) _ (0, 0) HP.out _ Tryz.underlying64 rfl (by kernel_rfl) ?_
  repeat (first | go_big_quiet_step (first | (go_at_call 132; exact cN _ _) | (go_at_call 131; exact cS _ _)) | quiet_step (first | (go_at_call 132; exact cN _ _) | (go_at_call 131; exact cS _ _)))
  refine wpQuiet_nil ?_
  intro _ hw'
  obtain ⟨⟨dq, osq⟩, hw''⟩ := hw'
  subst hw''
  have hbx := below_regrown W dq osq
  obtain ⟨X, HX⟩ : ∃ X, Hid (X = grow (redrawn W dq) osq) := ⟨_, rfl⟩
  rw [← HX.out] at hbx ⊢
  have HPX : Hid (BlkR X w.heap.size (r.cells ta da tc dc) 64) := (hbx.block _ HP.out.lt).trans HP.out
  have HBX := hidr (below_chain HB.out hbx)
  clear HX hbx cN cS HNM HSM HNO HP HB c0 c1 Hta Hda Htc Hdc
  cases S3 with
  | false =>
    have HE' : Hid (E = 40) := by show _ = _; rw [← HE.out]; unfold rcheckE mayR; rw [HS3.out]; simp
    go_wp2_with fail
    go_ret
    exact ⟨by rw [HE'.out]; rfl, HBX.out⟩
  | true =>
    have HE3 : Hid (E = if ((!changeB r || cmayB r) && ((!keyB r || kmayB r) && (!listsB r || lmayB r))) = true then 0 else 40) := by
      show _ = _
      rw [← HE.out]
      unfold rcheckE mayR
      rw [H1.out, H2.out, HS3.out]
      rfl
    clear H1 H2 HS3 HE
    have HC : Hid (∀ wx, Calls Tryz.prog 61 #[.agg (r.cells ta da tc dc)] wx fun e w' => e = .returned (.bool (changeB r)) ∧ Below wx.heap.size wx w') := fun wx => hasChange_any r ta da tc dc wx
    have HK : Hid (∀ wx, Calls Tryz.prog 63 #[.agg (r.cells ta da tc dc)] wx fun e w' => e = .returned (.bool (keyB r)) ∧ Below wx.heap.size wx w') := fun wx => hasKey_any r ta da tc dc wx
    have HL : Hid (∀ wx, Calls Tryz.prog 65 #[.agg (r.cells ta da tc dc)] wx fun e w' => e = .returned (.bool (listsB r)) ∧ Below wx.heap.size wx w') := fun wx => hasLists_any r ta da tc dc wx
    have HCM : Hid (∀ wx, Below w.heap.size w wx → Calls Tryz.prog 133 #[.agg (r.cells ta da tc dc)] wx fun e w' => e = .returned (.bool (cmayB r)) ∧ Below wx.heap.size wx w') := fun wx b => changeMay_any r ta da tc dc wx (HOK.out.below b)
    have HKM : Hid (∀ wx, Below w.heap.size w wx → Calls Tryz.prog 134 #[.agg (r.cells ta da tc dc)] wx fun e w' => e = .returned (.bool (kmayB r)) ∧ Below wx.heap.size wx w') := fun wx b => keyMay_any r ta da tc dc wx (HOK.out.below b)
    have HLM : Hid (∀ wx, Below w.heap.size w wx → Calls Tryz.prog 135 #[.agg (r.cells ta da tc dc)] wx fun e w' => e = .returned (.bool (lmayB r)) ∧ Below wx.heap.size wx w') := fun wx b => listsMay_any r ta da tc dc wx (HOK.out.below b)
    generalize changeB r = b1 at *
    generalize cmayB r = b2 at *
    generalize keyB r = b3 at *
    generalize kmayB r = b4 at *
    generalize listsB r = b5 at *
    generalize lmayB r = b6 at *
    clear HOK
    -- the three tests
    have cH1 : ∀ dd os, Calls Tryz.prog 61 #[.agg (r.cells ta da tc dc)] (grow (redrawn X dd) os) fun e w'' => e = .returned (.bool b1) ∧ ∃ p : Regrown, w'' = grow (redrawn X p.d) p.os := fun dd os => Calls.regrown_of (HC.out _)
    have cM1 : ∀ dd os, Calls Tryz.prog 133 #[.agg (r.cells ta da tc dc)] (grow (redrawn X dd) os) fun e w'' => e = .returned (.bool b2) ∧ ∃ p : Regrown, w'' = grow (redrawn X p.d) p.os := fun dd os => Calls.regrown_of (HCM.out _ (below_chain HBX.out (below_regrown X dd os)))
    go_upto_region 5 with fail
    go_cut [24] from 18 to 23 (fun v wx => v = .bool (b1 && !b2) ∧ Hid (Below X.heap.size X wx))
    case first =>
      cases b1 with
      | false =>
        refine wp_plain_below ?_
        refine wpQuiet_loadRow rfl _ _ rfl w.heap.size rfl (r.cells ta da tc dc) _ (0, 0) HPX.out _ Tryz.underlying64 rfl (by kernel_rfl) ?_
        try simp only [Act.put, List.setIfInBounds_toArray, List.set_cons_zero, List.set_cons_succ]
        go_big_quiet_step ((go_at_call 61; exact cH1 _ _))
        repeat (first | go_big_quiet_step (fail) | quiet_step (fail))
        refine wpQuiet_nil ?_
        intro _ hw'
        obtain ⟨⟨dq, osq⟩, hw''⟩ := hw'
        subst hw''
        have hbx : Hid (Below X.heap.size X (grow (redrawn X dq) osq)) := below_regrown X dq osq
        generalize grow (redrawn X dq) osq = XX at *
        go_wp2_with fail
        go_meet
        case rel => exact ⟨rfl, hbx⟩
      | true =>
        refine wp_plain_below ?_
        refine wpQuiet_loadRow rfl _ _ rfl w.heap.size rfl (r.cells ta da tc dc) _ (0, 0) HPX.out _ Tryz.underlying64 rfl (by kernel_rfl) ?_
        try simp only [Act.put, List.setIfInBounds_toArray, List.set_cons_zero, List.set_cons_succ]
        go_big_quiet_step ((go_at_call 61; exact cH1 _ _))
        go_big_quiet_step (fail)
        refine wpQuiet_loadRowG (by rfl) _ _ rfl w.heap.size rfl (r.cells ta da tc dc) _ (0, 0) HPX.out _ Tryz.underlying64 rfl (by kernel_rfl) ?_
        try simp only [Act.put, List.setIfInBounds_toArray, List.set_cons_zero, List.set_cons_succ]
        go_big_quiet_step ((go_at_call 133; exact cM1 _ _))
        repeat (first | go_big_quiet_step (fail) | quiet_step (fail))
        refine wpQuiet_nil ?_
        intro _ hw'
        obtain ⟨⟨dq, osq⟩, hw''⟩ := hw'
        subst hw''
        have hbx : Hid (Below X.heap.size X (grow (redrawn X dq) osq)) := below_regrown X dq osq
        generalize grow (redrawn X dq) osq = XX at *
        go_wp2_with fail
        go_meet
        case rel => exact ⟨by simp, hbx⟩
    case rest =>
      obtain ⟨hv, hb⟩ := hcut
      subst hv
      generalize wc = Y1 at *
      have HP1 : Hid (BlkR Y1 w.heap.size (r.cells ta da tc dc) 64) := (hb.out.block _ HPX.out.lt).trans HPX.out
      have HB1 := hidr (below_chain HBX.out hb.out)
      clear hb HPX HBX cH1 cM1
      cases hbm1 : (b1 && !b2) with
      | true =>
        have HE' : Hid (E = 40) := by
          show _ = _
          rw [HE3.out]
          revert hbm1
          cases b1 <;> cases b2 <;> simp
        go_wp2_with fail
        go_ret
        exact ⟨by rw [HE'.out]; rfl, HB1.out⟩
      | false =>
        have cH2 : ∀ dd os, Calls Tryz.prog 63 #[.agg (r.cells ta da tc dc)] (grow (redrawn Y1 dd) os) fun e w'' => e = .returned (.bool b3) ∧ ∃ p : Regrown, w'' = grow (redrawn Y1 p.d) p.os := fun dd os => Calls.regrown_of (HK.out _)
        have cM2 : ∀ dd os, Calls Tryz.prog 134 #[.agg (r.cells ta da tc dc)] (grow (redrawn Y1 dd) os) fun e w'' => e = .returned (.bool b4) ∧ ∃ p : Regrown, w'' = grow (redrawn Y1 p.d) p.os := fun dd os => Calls.regrown_of (HKM.out _ (below_chain HB1.out (below_regrown Y1 dd os)))
        go_upto_region 7 with fail
        go_cut [31] from 25 to 30 (fun v wx => v = .bool (b3 && !b4) ∧ Hid (Below Y1.heap.size Y1 wx))
        case first =>
          cases b3 with
          | false =>
            refine wp_plain_below ?_
            refine wpQuiet_loadRow rfl _ _ rfl w.heap.size rfl (r.cells ta da tc dc) _ (0, 0) HP1.out _ Tryz.underlying64 rfl (by kernel_rfl) ?_
            try simp only [Act.put, List.setIfInBounds_toArray, List.set_cons_zero, List.set_cons_succ]
            go_big_quiet_step ((go_at_call 63; exact cH2 _ _))
            repeat (first | go_big_quiet_step (fail) | quiet_step (fail))
            refine wpQuiet_nil ?_
            intro _ hw'
            obtain ⟨⟨dq, osq⟩, hw''⟩ := hw'
            subst hw''
            have hbx : Hid (Below Y1.heap.size Y1 (grow (redrawn Y1 dq) osq)) := below_regrown Y1 dq osq
            generalize grow (redrawn Y1 dq) osq = XX at *
            go_wp2_with fail
            go_meet
            case rel => exact ⟨rfl, hbx⟩
          | true =>
            refine wp_plain_below ?_
            refine wpQuiet_loadRow rfl _ _ rfl w.heap.size rfl (r.cells ta da tc dc) _ (0, 0) HP1.out _ Tryz.underlying64 rfl (by kernel_rfl) ?_
            try simp only [Act.put, List.setIfInBounds_toArray, List.set_cons_zero, List.set_cons_succ]
            go_big_quiet_step ((go_at_call 63; exact cH2 _ _))
            go_big_quiet_step (fail)
            refine wpQuiet_loadRowG (by rfl) _ _ rfl w.heap.size rfl (r.cells ta da tc dc) _ (0, 0) HP1.out _ Tryz.underlying64 rfl (by kernel_rfl) ?_
            try simp only [Act.put, List.setIfInBounds_toArray, List.set_cons_zero, List.set_cons_succ]
            go_big_quiet_step ((go_at_call 134; exact cM2 _ _))
            repeat (first | go_big_quiet_step (fail) | quiet_step (fail))
            refine wpQuiet_nil ?_
            intro _ hw'
            obtain ⟨⟨dq, osq⟩, hw''⟩ := hw'
            subst hw''
            have hbx : Hid (Below Y1.heap.size Y1 (grow (redrawn Y1 dq) osq)) := below_regrown Y1 dq osq
            generalize grow (redrawn Y1 dq) osq = XX at *
            go_wp2_with fail
            go_meet
            case rel => exact ⟨by simp, hbx⟩
        case rest =>
          obtain ⟨hv, hb⟩ := hcut
          subst hv
          generalize wc = Y2 at *
          have HP2 : Hid (BlkR Y2 w.heap.size (r.cells ta da tc dc) 64) := (hb.out.block _ HP1.out.lt).trans HP1.out
          have HB2 := hidr (below_chain HB1.out hb.out)
          clear hb HP1 HB1 cH2 cM2
          cases hbm2 : (b3 && !b4) with
          | true =>
            have HE' : Hid (E = 40) := by
              show _ = _
              rw [HE3.out]
              revert hbm2
              cases b3 <;> cases b4 <;> simp
            go_wp2_with fail
            go_ret
            exact ⟨by rw [HE'.out]; rfl, HB2.out⟩
          | false =>
            have cH3 : ∀ dd os, Calls Tryz.prog 65 #[.agg (r.cells ta da tc dc)] (grow (redrawn Y2 dd) os) fun e w'' => e = .returned (.bool b5) ∧ ∃ p : Regrown, w'' = grow (redrawn Y2 p.d) p.os := fun dd os => Calls.regrown_of (HL.out _)
            have cM3 : ∀ dd os, Calls Tryz.prog 135 #[.agg (r.cells ta da tc dc)] (grow (redrawn Y2 dd) os) fun e w'' => e = .returned (.bool b6) ∧ ∃ p : Regrown, w'' = grow (redrawn Y2 p.d) p.os := fun dd os => Calls.regrown_of (HLM.out _ (below_chain HB2.out (below_regrown Y2 dd os)))
            go_upto_region 9 with fail
            go_cut [38] from 32 to 37 (fun v wx => v = .bool (b5 && !b6) ∧ Hid (Below Y2.heap.size Y2 wx))
            case first =>
              cases b5 with
              | false =>
                refine wp_plain_below ?_
                refine wpQuiet_loadRow rfl _ _ rfl w.heap.size rfl (r.cells ta da tc dc) _ (0, 0) HP2.out _ Tryz.underlying64 rfl (by kernel_rfl) ?_
                try simp only [Act.put, List.setIfInBounds_toArray, List.set_cons_zero, List.set_cons_succ]
                go_big_quiet_step ((go_at_call 65; exact cH3 _ _))
                repeat (first | go_big_quiet_step (fail) | quiet_step (fail))
                refine wpQuiet_nil ?_
                intro _ hw'
                obtain ⟨⟨dq, osq⟩, hw''⟩ := hw'
                subst hw''
                have hbx : Hid (Below Y2.heap.size Y2 (grow (redrawn Y2 dq) osq)) := below_regrown Y2 dq osq
                generalize grow (redrawn Y2 dq) osq = XX at *
                go_wp2_with fail
                go_meet
                case rel => exact ⟨rfl, hbx⟩
              | true =>
                refine wp_plain_below ?_
                refine wpQuiet_loadRow rfl _ _ rfl w.heap.size rfl (r.cells ta da tc dc) _ (0, 0) HP2.out _ Tryz.underlying64 rfl (by kernel_rfl) ?_
                try simp only [Act.put, List.setIfInBounds_toArray, List.set_cons_zero, List.set_cons_succ]
                go_big_quiet_step ((go_at_call 65; exact cH3 _ _))
                go_big_quiet_step (fail)
                refine wpQuiet_loadRowG (by rfl) _ _ rfl w.heap.size rfl (r.cells ta da tc dc) _ (0, 0) HP2.out _ Tryz.underlying64 rfl (by kernel_rfl) ?_
                try simp only [Act.put, List.setIfInBounds_toArray, List.set_cons_zero, List.set_cons_succ]
                go_big_quiet_step ((go_at_call 135; exact cM3 _ _))
                repeat (first | go_big_quiet_step (fail) | quiet_step (fail))
                refine wpQuiet_nil ?_
                intro _ hw'
                obtain ⟨⟨dq, osq⟩, hw''⟩ := hw'
                subst hw''
                have hbx : Hid (Below Y2.heap.size Y2 (grow (redrawn Y2 dq) osq)) := below_regrown Y2 dq osq
                generalize grow (redrawn Y2 dq) osq = XX at *
                go_wp2_with fail
                go_meet
                case rel => exact ⟨by simp, hbx⟩
            case rest =>
              obtain ⟨hv, hb⟩ := hcut
              subst hv
              generalize wc = Y3 at *
              have HP3 : Hid (BlkR Y3 w.heap.size (r.cells ta da tc dc) 64) := (hb.out.block _ HP2.out.lt).trans HP2.out
              have HB3 := hidr (below_chain HB2.out hb.out)
              clear hb HP2 HB2 cH3 cM3
              cases hbm3 : (b5 && !b6) with
              | true =>
                have HE' : Hid (E = 40) := by
                  show _ = _
                  rw [HE3.out]
                  revert hbm3
                  cases b5 <;> cases b6 <;> simp
                go_wp2_with fail
                go_ret
                exact ⟨by rw [HE'.out]; rfl, HB3.out⟩
              | false =>
                have HE' : Hid (E = 0) := by
                  show _ = _
                  rw [HE3.out]
                  revert hbm1 hbm2 hbm3
                  cases b1 <;> cases b2 <;> cases b3 <;> cases b4 <;> cases b5 <;> cases b6 <;> simp
                go_wp2_with fail
                go_ret
                exact ⟨by rw [HE'.out]; rfl, HB3.out⟩

end Go.Proofs.YtgkfdakieebnmaaGreat

namespace Go.Proofs.YtgkfdakieebnmaaGreat
open Go.RowKit Go.Sort

theorem long1 : longOf 1 = 1 := by decide
theorem long2 : longOf 2 = 2 := by decide
theorem long4 : longOf 4 = 4 := by decide
theorem long8 : longOf 8 = 8 := by decide

theorem BlkR.under {w w' : World} {p b : Nat} {cs : Array Value} {t : TypeId} (h : BlkR w p cs t) (k : Below b w w') (hp : p < b) : BlkR w' p cs t := (k.block p hp).trans h

end Go.Proofs.YtgkfdakieebnmaaGreat
