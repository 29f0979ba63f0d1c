/-
  The walks of rec.changeMayBe and rec.keyMayBe.
-/
import Derived.Test.YtndfjjcflbpdnaaRecCheck0C
namespace Go.Proofs.Ytndfjjcflbpdnaa
open Go.RowKit Go.Sort
set_option linter.unusedVariables false

/-- May a record's change be, with how it is undone? -/
def cmayB (r : RecV) : Bool := decide (r.page ≠ 0) && (chkB r.op && (if r.kind = 2 then decide (r.undo = 0) else decide (0 ≤ r.undo ∧ r.undo ≤ 2)))

/-- May a record's index and entry be? -/
def kmayB (r : RecV) : Bool := decide (0 ≤ r.index ∧ r.index ≤ 65535) && (decide (r.key.size ≤ 64) && decide (0 ≤ r.rslot ∧ r.rslot ≤ 65535))

set_option maxHeartbeats 1600000 in
set_option maxRecDepth 8000 in
theorem changeMay_any (r : RecV) (ta da : Option Addr) (tc dc : Nat) (w : World) (h : r.Ok w ta da) :
    Calls Try.prog 44 #[.agg (r.cells ta da tc dc)] w fun e w' => e = .returned (.bool (cmayB r)) ∧ Below w.heap.size w w' := by
  obtain ⟨R, HR⟩ : ∃ R, Hid (cmayB r = R) := ⟨_, rfl⟩
  rw [HR.out]
  obtain ⟨W, HW⟩ : ∃ W, Hid (W = w.alloc (.cells (r.cells ta da tc dc) 35)) := ⟨_, rfl⟩
  have HB : Hid (Below w.heap.size w W) := by show Below _ _ _; rw [HW.out]; exact (Below.refl _ _).alloc (Nat.le_refl _) _
  have HP : Hid (BlkR W w.heap.size (r.cells ta da tc dc) 35) := by show BlkR _ _ _ _; rw [HW.out]; exact heap_alloc_new w _
  have HPAR : Hid (r.cells ta da tc dc = #[.int .i64 r.kind, .int .i64 r.tx, .int .u64 r.prev, .int .u64 r.next, .int .u32 r.page, .int .i64 r.op.kind, .int .i64 r.op.at', .string r.op.S, .string r.op.old, .int .i64 r.undo, .int .i64 r.index, .string r.key, .int .u32 r.rpage, .int .i64 r.rslot, .bool r.live, .slice ta r.txs.length tc, .slice da r.dirty.length dc]) := rfl
  have HCK : Hid (Calls Try.prog 60 #[.agg #[.int .i64 r.op.kind, .int .i64 r.op.at', .string r.op.S, .string r.op.old]] W fun e w' => e = .returned (.int .i64 (chkE r.op)) ∧ Below W.heap.size W w') := check_any r.op W h.op
  have hpg := h.page
  clear h
  rw [HPAR.out]
  go_enter Try.func44, Try.ntmps44
  go_upto_region 1 with fail
  rw [← HPAR.out, show w.alloc (.cells (r.cells ta da tc dc) 35) = W from HW.out.symm]
  clear HW
  have c4 : W.cell? ⟨w.heap.size, 4, none⟩ = some (.int .u32 r.page) := HP.out.cell 4
  have c5 : W.cell? ⟨w.heap.size, 5, none⟩ = some (.int .i64 r.op.kind) := HP.out.cell 5
  have c6 : W.cell? ⟨w.heap.size, 6, none⟩ = some (.int .i64 r.op.at') := HP.out.cell 6
  have c7 : W.cell? ⟨w.heap.size, 7, none⟩ = some (.string r.op.S) := HP.out.cell 7
  have c8 : W.cell? ⟨w.heap.size, 8, none⟩ = some (.string r.op.old) := HP.out.cell 8
  by_cases h0 : r.page = 0
  · have e0 : ((r.page : Int) == 0) = true := by rw [h0]; rfl
    have HR' : Hid (R = false) := by show _ = _; rw [← HR.out]; unfold cmayB; simp [h0]
    clear h0
    go_wp2_with fail
    go_ret
    exact ⟨by rw [HR'.out]; rfl, HB.out⟩
  · have e0 : ((r.page : Int) == 0) = false := by rw [beq_eq_false_iff_ne]; omega
    have HN0 := hidr h0
    clear h0
    go_wp2_with fail
    refine HCK.out.mono ?_
    rintro e w1 ⟨rfl, b1⟩
    have HP1 : Hid (BlkR w1 w.heap.size (r.cells ta da tc dc) 35) := (b1.block _ HP.out.lt).trans HP.out
    have HB1 := hidr (below_chain HB.out b1)
    clear HP HB b1 HCK c4 c5 c6 c7 c8
    by_cases hc : chkB r.op = true
    · have ec : chkE r.op = 0 := by unfold chkE; rw [if_pos hc]
      rw [ec]
      have c0 : w1.cell? ⟨w.heap.size, 0, none⟩ = some (.int .i64 r.kind) := HP1.out.cell 0
      have c9 : w1.cell? ⟨w.heap.size, 9, none⟩ = some (.int .i64 r.undo) := HP1.out.cell 9
      have HC := hidr hc
      clear hc ec
      by_cases hk : r.kind = 2
      · have ek : (r.kind == 2) = true := by rw [beq_iff_eq]; exact hk
        have HR' : Hid (R = (r.undo == 0)) := by
          show _ = _
          rw [← HR.out]
          unfold cmayB
          rw [decide_eq_true HN0.out, HC.out, if_pos hk]
          rfl
        clear hk
        go_wp2_with fail
        go_ret
        exact ⟨by rw [HR'.out]; rfl, HB1.out⟩
      · have ek : (r.kind == 2) = false := by rw [beq_eq_false_iff_ne]; exact hk
        have HR' : Hid (R = decide (0 ≤ r.undo ∧ r.undo ≤ 2)) := by
          show _ = _
          rw [← HR.out]
          unfold cmayB
          rw [decide_eq_true HN0.out, HC.out, if_neg hk]
          rfl
        clear hk
        by_cases hu : 0 ≤ r.undo ∧ r.undo ≤ 2
        · have HU := hidr (rwithin_yes r.undo 0 2 w1 hu)
          have HD := hidr (decide_eq_true hu)
          clear hu
          go_wp2_with fail
          refine HU.out.mono ?_
          rintro e w2 ⟨rfl, hw2⟩
          obtain rfl := hw2.symm
          go_wp2_with fail
          go_ret
          exact ⟨by rw [HR'.out, HD.out]; rfl, HB1.out⟩
        · have HU := hidr (rwithin_no r.undo 0 2 w1 hu)
          have HD := hidr (decide_eq_false hu)
          clear hu
          go_wp2_with fail
          refine HU.out.mono ?_
          rintro e w2 ⟨rfl, hw2⟩
          obtain rfl := hw2.symm
          go_wp2_with fail
          go_ret
          exact ⟨by rw [HR'.out, HD.out]; rfl, HB1.out⟩
    · have ec : chkE r.op = 33 := by unfold chkE; rw [if_neg hc]
      rw [ec]
      have HR' : Hid (R = false) := by
        show _ = _
        rw [← HR.out]
        unfold cmayB
        rw [show chkB r.op = false by simpa using hc]
        simp
      clear hc ec
      go_wp2_with fail
      go_ret
      exact ⟨by rw [HR'.out]; rfl, HB1.out⟩

set_option maxHeartbeats 1600000 in
set_option maxRecDepth 8000 in
theorem keyMay_any (r : RecV) (ta da : Option Addr) (tc dc : Nat) (w : World) (h : r.Ok w ta da) :
    Calls Try.prog 45 #[.agg (r.cells ta da tc dc)] w fun e w' => e = .returned (.bool (kmayB r)) ∧ Below w.heap.size w w' := by
  obtain ⟨R, HR⟩ : ∃ R, Hid (kmayB r = R) := ⟨_, rfl⟩
  rw [HR.out]
  obtain ⟨W, HW⟩ : ∃ W, Hid (W = w.alloc (.cells (r.cells ta da tc dc) 35)) := ⟨_, rfl⟩
  have HB : Hid (Below w.heap.size w W) := by show Below _ _ _; rw [HW.out]; exact (Below.refl _ _).alloc (Nat.le_refl _) _
  have HP : Hid (BlkR W w.heap.size (r.cells ta da tc dc) 35) := by show BlkR _ _ _ _; rw [HW.out]; exact heap_alloc_new w _
  have HPAR : Hid (r.cells ta da tc dc = #[.int .i64 r.kind, .int .i64 r.tx, .int .u64 r.prev, .int .u64 r.next, .int .u32 r.page, .int .i64 r.op.kind, .int .i64 r.op.at', .string r.op.S, .string r.op.old, .int .i64 r.undo, .int .i64 r.index, .string r.key, .int .u32 r.rpage, .int .i64 r.rslot, .bool r.live, .slice ta r.txs.length tc, .slice da r.dirty.length dc]) := rfl
  have hky := h.key
  clear h
  rw [HPAR.out]
  go_enter Try.func45, Try.ntmps45
  go_upto_region 1 with fail
  rw [← HPAR.out, show w.alloc (.cells (r.cells ta da tc dc) 35) = W from HW.out.symm]
  clear HW
  have c10 : W.cell? ⟨w.heap.size, 10, none⟩ = some (.int .i64 r.index) := HP.out.cell 10
  have c11 : W.cell? ⟨w.heap.size, 11, none⟩ = some (.string r.key) := HP.out.cell 11
  have c13 : W.cell? ⟨w.heap.size, 13, none⟩ = some (.int .i64 r.rslot) := HP.out.cell 13
  by_cases hi : 0 ≤ r.index ∧ r.index ≤ 65535
  · have HU := hidr (rwithin_yes r.index 0 65535 W hi)
    have HI := hidr (decide_eq_true hi)
    clear hi
    by_cases hk : r.key.size ≤ 64
    · have ek : decide ((r.key.size : Int) ≤ 64) = true := by simp; omega
      have HK := hidr (decide_eq_true hk)
      clear hk
      by_cases hs : 0 ≤ r.rslot ∧ r.rslot ≤ 65535
      · have HV := hidr (rwithin_yes r.rslot 0 65535 W hs)
        have HR' : Hid (R = true) := by show _ = _; rw [← HR.out]; unfold kmayB; rw [HI.out, HK.out, decide_eq_true hs]; rfl
        clear hs
        go_wp2_with fail
        refine HU.out.mono ?_
        rintro e w1 ⟨rfl, hw1⟩
        obtain rfl := hw1.symm
        go_wp2_with fail
        refine HV.out.mono ?_
        rintro e w2 ⟨rfl, hw2⟩
        obtain rfl := hw2.symm
        go_wp2_with fail
        go_ret
        exact ⟨by rw [HR'.out]; rfl, HB.out⟩
      · have HV := hidr (rwithin_no r.rslot 0 65535 W hs)
        have HR' : Hid (R = false) := by show _ = _; rw [← HR.out]; unfold kmayB; rw [HI.out, HK.out, decide_eq_false hs]; rfl
        clear hs
        go_wp2_with fail
        refine HU.out.mono ?_
        rintro e w1 ⟨rfl, hw1⟩
        obtain rfl := hw1.symm
        go_wp2_with fail
        refine HV.out.mono ?_
        rintro e w2 ⟨rfl, hw2⟩
        obtain rfl := hw2.symm
        go_wp2_with fail
        go_ret
        exact ⟨by rw [HR'.out]; rfl, HB.out⟩
    · have ek : decide ((r.key.size : Int) ≤ 64) = false := by simp; omega
      have HR' : Hid (R = false) := by show _ = _; rw [← HR.out]; unfold kmayB; rw [HI.out, decide_eq_false hk]; rfl
      clear hk
      go_wp2_with fail
      refine HU.out.mono ?_
      rintro e w1 ⟨rfl, hw1⟩
      obtain rfl := hw1.symm
      go_wp2_with fail
      go_ret
      exact ⟨by rw [HR'.out]; rfl, HB.out⟩
  · have HU := hidr (rwithin_no r.index 0 65535 W hi)
    have HR' : Hid (R = false) := by show _ = _; rw [← HR.out]; unfold kmayB; rw [decide_eq_false hi]; rfl
    clear hi
    go_wp2_with fail
    refine HU.out.mono ?_
    rintro e w1 ⟨rfl, hw1⟩
    obtain rfl := hw1.symm
    go_wp2_with fail
    go_ret
    exact ⟨by rw [HR'.out]; rfl, HB.out⟩

end Go.Proofs.Ytndfjjcflbpdnaa
