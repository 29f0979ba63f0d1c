/-
  The walk of rec.listsMayBe.
-/
import Derived.Test.YtndfjjcflbpdnaaRecMayC
namespace Go.Proofs.Ytndfjjcflbpdnaa
open Go.RowKit Go.Sort
set_option linter.unusedVariables false

def txMay (t : TxV) : Bool := decide (0 ≤ t.1 ∧ t.1 ≤ 2147483647) && decide (1 ≤ t.2.1 ∧ t.2.1 ≤ 3)

/-- May a record's lists be? -/
def lmayB (r : RecV) : Bool := decide (r.txs.length ≤ 64) && (decide (r.dirty.length ≤ 256) && r.txs.all txMay)

set_option maxHeartbeats 1600000 in
set_option maxRecDepth 8000 in
theorem listsMay_any (r : RecV) (ta da : Option Addr) (tc dc : Nat) (w : World) (h : r.Ok w ta da) :
    Calls Try.prog 46 #[.agg (r.cells ta da tc dc)] w fun e w' => e = .returned (.bool (lmayB r)) ∧ Below w.heap.size w w' := by
  obtain ⟨R, HR⟩ : ∃ R, Hid (lmayB r = R) := ⟨_, rfl⟩
  rw [HR.out]
  obtain ⟨W, HW⟩ : ∃ W, Hid (W = w.alloc (.cells (r.cells ta da tc dc) 35)) := ⟨_, rfl⟩
  have HB : Hid (Below w.heap.size w W) := by show Below _ _ _; rw [HW.out]; exact (Below.refl _ _).alloc (Nat.le_refl _) _
  have HP : Hid (BlkR W w.heap.size (r.cells ta da tc dc) 35) := by show BlkR _ _ _ _; rw [HW.out]; exact heap_alloc_new w _
  have HPAR : Hid (r.cells ta da tc dc = #[.int .i64 r.kind, .int .i64 r.tx, .int .u64 r.prev, .int .u64 r.next, .int .u32 r.page, .int .i64 r.op.kind, .int .i64 r.op.at', .string r.op.S, .string r.op.old, .int .i64 r.undo, .int .i64 r.index, .string r.key, .int .u32 r.rpage, .int .i64 r.rslot, .bool r.live, .slice ta r.txs.length tc, .slice da r.dirty.length dc]) := rfl
  have htl := h.tlen
  have hdl := h.dlen
  have HTX := hidr h.txs
  clear h
  rw [HPAR.out]
  go_enter Try.func46, Try.ntmps46
  go_upto_region 1 with fail
  rw [← HPAR.out, show w.alloc (.cells (r.cells ta da tc dc) 35) = W from HW.out.symm]
  clear HW
  have c15 : W.cell? ⟨w.heap.size, 15, none⟩ = some (.slice ta r.txs.length tc) := HP.out.cell 15
  have c16 : W.cell? ⟨w.heap.size, 16, none⟩ = some (.slice da r.dirty.length dc) := HP.out.cell 16
  by_cases h1 : 64 < r.txs.length
  · have e1 : decide ((64 : Int) < (r.txs.length : Int)) = true := by simp; omega
    have HR' : Hid (R = false) := by show _ = _; rw [← HR.out]; unfold lmayB; rw [decide_eq_false (by omega : ¬ r.txs.length ≤ 64)]; rfl
    go_wp2_with fail
    go_ret
    exact ⟨by rw [HR'.out]; rfl, HB.out⟩
  · have e1 : decide ((64 : Int) < (r.txs.length : Int)) = false := by simp; omega
    by_cases h2 : 256 < r.dirty.length
    · have e2 : decide ((256 : Int) < (r.dirty.length : Int)) = true := by simp; omega
      have HR' : Hid (R = false) := by show _ = _; rw [← HR.out]; unfold lmayB; rw [decide_eq_false (by omega : ¬ r.dirty.length ≤ 256)]; simp
      go_wp2_with fail
      go_ret
      exact ⟨by rw [HR'.out]; rfl, HB.out⟩
    · have e2 : decide ((256 : Int) < (r.dirty.length : Int)) = false := by simp; omega
      have HR2 : Hid (R = r.txs.all txMay) := by show _ = _; rw [← HR.out]; unfold lmayB; rw [decide_eq_true (by omega : r.txs.length ≤ 64), decide_eq_true (by omega : r.dirty.length ≤ 256)]; rfl
      go_wp2_with fail
      go_loopw [18] (fun x wr => ∃ k : Nat, x = .int .i64 k ∧ k ≤ r.txs.length ∧ Hid (Below w.heap.size w wr) ∧ Hid (∀ i (hi : i < r.txs.length), i < k → txMay r.txs[i] = true)) (fun x _ => r.txs.length - (intOf x).toNat)
      case atStart => exact ⟨0, rfl, Nat.zero_le _, HB, fun i hi h0 => absurd h0 (Nat.not_lt_zero _)⟩
      case round =>
        obtain ⟨k, rfl, hk, HBR, HA⟩ := hrel
        by_cases hlt : k < r.txs.length
        · have d1 : decide ((k : Int) < (r.txs.length : Int)) = true := by simp; omega
          have i1 : (0 : Int) ≤ (k : Int) := by omega
          have i2 : (k : Int) < (r.txs.length : Int) := by omega
          obtain ⟨b1, o1, rfl, hb1, g1⟩ : ∃ b1 o1, ta = some ⟨b1, o1, none⟩ ∧ b1 < wr.heap.size ∧ TxAt wr b1 (o1 + k * 4) r.txs[k] := by
            rcases HTX.out.below HBR.out with h | ⟨b1, o1, e, hb, h⟩
            · rw [h] at hlt; simp at hlt
            · exact ⟨b1, o1, e, hb, h k hlt⟩
          have HT1 : Hid (txMay r.txs[k] = true → ∀ i (hi : i < r.txs.length), i < k + 1 → txMay r.txs[i] = true) := fun ht i hi h' => by
            by_cases e : i = k
            · subst e; exact ht
            · exact HA.out i hi (by omega)
          have HT2 : Hid (txMay r.txs[k] = false → r.txs.all txMay = false) := fun ht => by
            rw [Bool.eq_false_iff]
            intro h
            have := (List.all_eq_true.1 h) _ (List.getElem_mem hlt)
            rw [ht] at this
            cases this
          generalize r.txs[k] = t at *
          obtain ⟨t0, t1, t2, t3⟩ := t
          obtain ⟨p0, p1, p2, p3⟩ := g1
          simp only at p0 p1 p2 p3
          have HBA : Hid (Below w.heap.size w (wr.alloc (.cells #[.int .i64 t0, .int .i64 t1, .int .u64 t2, .int .u64 t3] 72))) := HBR.out.alloc HBR.out.size _
          by_cases ha : 0 ≤ t0 ∧ t0 ≤ 2147483647
          · have HU : Hid (∀ wx, Calls Try.prog 42 #[.int .i64 t0, .int .i64 0, .int .i64 2147483647] wx fun e w' => e = .returned (.bool true) ∧ w' = wx) := fun wx => rwithin_yes t0 0 2147483647 wx ha
            by_cases hb : 1 ≤ t1 ∧ t1 ≤ 3
            · have HV : Hid (∀ wx, Calls Try.prog 42 #[.int .i64 t1, .int .i64 1, .int .i64 3] wx fun e w' => e = .returned (.bool true) ∧ w' = wx) := fun wx => rwithin_yes t1 1 3 wx hb
              have HM : Hid (txMay (t0, t1, t2, t3) = true) := by show _ = _; unfold txMay; rw [decide_eq_true ha, decide_eq_true hb]; rfl
              clear ha hb HT2
              go_wp2_with fail
              refine (HU.out _).mono ?_
              rintro e w1 ⟨rfl, hw1⟩
              subst hw1
              go_wp2_with fail
              refine (HV.out _).mono ?_
              rintro e w2 ⟨rfl, hw2⟩
              subst hw2
              go_wp2_with fail
              go_roundw
              case rel => exact ⟨k + 1, by go_num, by omega, HBA, HT1.out HM.out⟩
              case measure => simp [intOf]; omega
            · have HV : Hid (∀ wx, Calls Try.prog 42 #[.int .i64 t1, .int .i64 1, .int .i64 3] wx fun e w' => e = .returned (.bool false) ∧ w' = wx) := fun wx => rwithin_no t1 1 3 wx hb
              have HM : Hid (R = false) := by show _ = _; rw [HR2.out]; exact HT2.out (by unfold txMay; rw [decide_eq_false hb]; simp)
              clear ha hb HT1 HT2
              go_wp2_with fail
              refine (HU.out _).mono ?_
              rintro e w1 ⟨rfl, hw1⟩
              subst hw1
              go_wp2_with fail
              refine (HV.out _).mono ?_
              rintro e w2 ⟨rfl, hw2⟩
              subst hw2
              go_wp2_with fail
              go_ret
              exact ⟨by rw [HM.out]; rfl, HBA.out⟩
          · have HU : Hid (∀ wx, Calls Try.prog 42 #[.int .i64 t0, .int .i64 0, .int .i64 2147483647] wx fun e w' => e = .returned (.bool false) ∧ w' = wx) := fun wx => rwithin_no t0 0 2147483647 wx ha
            have HM : Hid (R = false) := by show _ = _; rw [HR2.out]; exact HT2.out (by unfold txMay; rw [decide_eq_false ha]; rfl)
            clear ha HT1 HT2
            go_wp2_with fail
            refine (HU.out _).mono ?_
            rintro e w1 ⟨rfl, hw1⟩
            subst hw1
            go_wp2_with fail
            go_ret
            exact ⟨by rw [HM.out]; rfl, HBA.out⟩
        · have d1 : decide ((k : Int) < (r.txs.length : Int)) = false := by simp; omega
          have HM : Hid (R = true) := by
            show _ = _
            rw [HR2.out, List.all_eq_true]
            intro x hx
            obtain ⟨i, hi, rfl⟩ := List.getElem_of_mem hx
            exact HA.out i hi (by omega)
          go_wp2_with fail
          go_ret
          exact ⟨by rw [HM.out]; rfl, HBR.out⟩

end Go.Proofs.Ytndfjjcflbpdnaa
