/-
  The walk of rec.Check of a record whose kind names neither a change nor lists.
-/
import Derived.Test.YtndfjjcflbpdnaaRecNamedC
import Derived.Test.YtndfjjcflbpdnaaBase4C
import Derived.Lib.QuietBelow
import Derived.BigQuiet
namespace Go.Proofs.Ytndfjjcflbpdnaa
open Go.RowKit Go.Sort
set_option linter.unusedVariables false

theorem cmixed : Try.prog.follows .mixedOrders = true := by kernel_rfl

theorem namedV_ok {r : RecV} {w : World} {ta da : Option Addr} (h : r.Ok w ta da) : (namedV r).Ok w (if listsB r then ta else none) (if listsB r then da else none) := by
  refine ⟨h.kind, h.tx, h.prev, ?_, ?_, ?_, ?_, ?_, ?_, ?_, ?_, ?_, ?_, ?_, ?_⟩
  · show (if nextB r then r.next else 0) < _; split; exact h.next; omega
  · show (if changeB r then r.page else 0) < _; split; exact h.page; omega
  · show (if changeB r then r.op else _).Ok; split; exact h.op; exact ⟨by decide, by decide, by decide, by decide⟩
  · show _ ≤ (if changeB r then r.undo else 0) ∧ (if changeB r then r.undo else 0) ≤ _; split; exact h.undo; omega
  · show _ ≤ (if keyB r then r.index else 0) ∧ (if keyB r then r.index else 0) ≤ _; split; exact h.index; omega
  · show (if keyB r then r.key else ⟨#[]⟩).size ≤ _; split; exact h.key; exact Nat.zero_le _
  · show (if keyB r then r.rpage else 0) < _; split; exact h.rpage; omega
  · show _ ≤ (if keyB r then r.rslot else 0) ∧ (if keyB r then r.rslot else 0) ≤ _; split; exact h.rslot; omega
  · show (if listsB r then r.txs else []).length * 32 ≤ _; split; exact h.tlen; exact Nat.zero_le _
  · show (if listsB r then r.dirty else []).length * 16 ≤ _; split; exact h.dlen; exact Nat.zero_le _
  · show TxsAt w _ (if listsB r then r.txs else []); split; exact h.txs; exact .inl rfl
  · show DisAt w _ (if listsB r then r.dirty else []); split; exact h.dirty; exact .inl rfl

set_option maxHeartbeats 1600000 in
set_option maxRecDepth 8000 in
theorem check_plain (r : RecV) (ta da : Option Addr) (tc dc : Nat) (w : World) (h : r.Ok w ta da) (h1 : 1 ≤ r.kind ∧ r.kind ≤ 8) (h2 : 0 ≤ r.tx ∧ r.tx ≤ 2147483647) (h3 : sameR r (namedV r) = true) (h4 : changeB r = false) (h5 : keyB r = false) (h6 : listsB r = false) :
    Calls Try.prog 22 #[.agg (r.cells ta da tc dc)] w fun e w' => e = .returned (.int .i64 0) ∧ Below w.heap.size w w' := by
  obtain ⟨W, HW⟩ : ∃ W, Hid (W = w.alloc (.cells (r.cells ta da tc dc) 35)) := ⟨_, rfl⟩
  have HB : Hid (Below w.heap.size w W) := by show Below _ _ _; rw [HW.out]; exact (Below.refl _ _).alloc (Nat.le_refl _) _
  have HP : Hid (BlkR W w.heap.size (r.cells ta da tc dc) 35) := by show BlkR _ _ _ _; rw [HW.out]; exact heap_alloc_new w _
  have HPAR : Hid (r.cells ta da tc dc = #[.int .i64 r.kind, .int .i64 r.tx, .int .u64 r.prev, .int .u64 r.next, .int .u32 r.page, .int .i64 r.op.kind, .int .i64 r.op.at', .string r.op.S, .string r.op.old, .int .i64 r.undo, .int .i64 r.index, .string r.key, .int .u32 r.rpage, .int .i64 r.rslot, .bool r.live, .slice ta r.txs.length tc, .slice da r.dirty.length dc]) := rfl
  rw [HPAR.out]
  go_enter Try.func22, Try.ntmps22
  go_upto_region 1 with fail
  rw [← HPAR.out, show w.alloc (.cells (r.cells ta da tc dc) 35) = W from HW.out.symm]
  clear HW
  have c0 : W.cell? ⟨w.heap.size, 0, none⟩ = some (.int .i64 r.kind) := HP.out.cell 0
  have c1 : W.cell? ⟨w.heap.size, 1, none⟩ = some (.int .i64 r.tx) := HP.out.cell 1
  have hw1 := rwithin_yes r.kind 1 8 W h1
  have hw2 := rwithin_yes r.tx 0 2147483647 W h2
  have HW1 := hidr hw1
  have HW2 := hidr hw2
  clear hw1 hw2 h1 h2
  go_wp2_with fail
  refine HW1.out.mono ?_
  rintro e w1 ⟨rfl, hw1⟩
  obtain rfl := hw1.symm
  go_wp2_with fail
  refine HW2.out.mono ?_
  rintro e w1 ⟨rfl, hw1⟩
  obtain rfl := hw1.symm
  clear HW1 HW2
  go_upto_region 3 with fail
  have HNM : Hid (∀ wx, Calls Try.prog 43 #[.agg (r.cells ta da tc dc)] wx fun e w' => e = .returned (.agg ((namedV r).cells none none 0 0)) ∧ Below wx.heap.size wx w') := fun wx => by
    have := named_any r ta da tc dc wx
    simp only [h6, Bool.false_eq_true, if_false] at this
    exact this
  have HSM : Hid (∀ wx, Below w.heap.size w wx → Calls Try.prog 7 #[.agg (r.cells ta da tc dc), .agg ((namedV r).cells none none 0 0)] wx fun e w' => e = .returned (.bool true) ∧ Below wx.heap.size wx w') := fun wx b => by
    have hk := (namedV_ok h).below b
    simp only [h6, Bool.false_eq_true, if_false] at hk
    have := recSame_any r (namedV r) ta da none none tc dc 0 0 wx (h.below b) hk
    rw [h3] at this
    exact this
  have cN : ∀ dd os, Calls Try.prog 43 #[.agg (r.cells ta da tc dc)] (grow (redrawn W dd) os) fun e w'' => e = .returned (.agg ((namedV r).cells none none 0 0)) ∧ ∃ p : Regrown, w'' = grow (redrawn W p.d) p.os := fun dd os => Calls.regrown_of (HNM.out _)
  have cS : ∀ dd os, Calls Try.prog 7 #[.agg (r.cells ta da tc dc), .agg ((namedV r).cells none none 0 0)] (grow (redrawn W dd) os) fun e w'' => e = .returned (.bool true) ∧ ∃ p : Regrown, w'' = grow (redrawn W p.d) p.os := fun dd os => Calls.regrown_of (HSM.out _ (below_chain HB.out (below_regrown W dd os)))
  refine wp_region_quiet_below cmixed (by kernel_rfl) ?_
  refine wpQuiet_loadRow rfl _ _ rfl w.heap.size rfl (r.cells ta da tc dc) _ (0, 0) HP.out _ Try.underlying35 rfl (by kernel_rfl) ?_
  refine wpQuiet_loadRow rfl _ _ rfl w.heap.size rfl (r.cells ta da tc dc) _ (0, 0) HP.out _ Try.underlying35 rfl (by kernel_rfl) ?_
  repeat (first | go_big_quiet_step (first | (go_at_call 43; exact cN _ _) | (go_at_call 7; exact cS _ _)) | quiet_step (first | (go_at_call 43; exact cN _ _) | (go_at_call 7; exact cS _ _)))
  refine wpQuiet_nil ?_
  intro _ hw'
  obtain ⟨⟨dq, osq⟩, hw''⟩ := hw'
  subst hw''
  have hbx := below_regrown W dq osq
  obtain ⟨X, HX⟩ : ∃ X, Hid (X = grow (redrawn W dq) osq) := ⟨_, rfl⟩
  rw [← HX.out] at hbx ⊢
  have HPX : Hid (BlkR X w.heap.size (r.cells ta da tc dc) 35) := (hbx.block _ HP.out.lt).trans HP.out
  have HBX := hidr (below_chain HB.out hbx)
  clear HX hbx cN cS HNM HSM HP HB c0 c1
  have HC : Hid (∀ wx, Calls Try.prog 14 #[.agg (r.cells ta da tc dc)] wx fun e w' => e = .returned (.bool false) ∧ Below wx.heap.size wx w') := fun wx => by have := hasChange_any r ta da tc dc wx; rw [h4] at this; exact this
  have HK : Hid (∀ wx, Calls Try.prog 16 #[.agg (r.cells ta da tc dc)] wx fun e w' => e = .returned (.bool false) ∧ Below wx.heap.size wx w') := fun wx => by have := hasKey_any r ta da tc dc wx; rw [h5] at this; exact this
  have HL : Hid (∀ wx, Calls Try.prog 18 #[.agg (r.cells ta da tc dc)] wx fun e w' => e = .returned (.bool false) ∧ Below wx.heap.size wx w') := fun wx => by have := hasLists_any r ta da tc dc wx; rw [h6] at this; exact this
  clear h3 h4 h5 h6 h
  go_upto_region 5 with fail
  refine wp_region_lit ?_
  refine wpList_loadRow rfl _ _ rfl w.heap.size rfl (r.cells ta da tc dc) _ (0, 0) HPX.out _ Try.underlying35 rfl (by kernel_rfl) ?_
  go_wp2_with fail
  refine (HC.out _).mono ?_
  rintro e x1 ⟨rfl, b1⟩
  have HP1 : Hid (BlkR x1 w.heap.size (r.cells ta da tc dc) 35) := (b1.block _ HPX.out.lt).trans HPX.out
  have HB1 := hidr (below_chain HBX.out b1)
  clear HPX HBX b1
  go_upto_region 7 with fail
  refine wp_region_lit ?_
  refine wpList_loadRow rfl _ _ rfl w.heap.size rfl (r.cells ta da tc dc) _ (0, 0) HP1.out _ Try.underlying35 rfl (by kernel_rfl) ?_
  go_wp2_with fail
  refine (HK.out _).mono ?_
  rintro e x2 ⟨rfl, b2⟩
  have HP2 : Hid (BlkR x2 w.heap.size (r.cells ta da tc dc) 35) := (b2.block _ HP1.out.lt).trans HP1.out
  have HB2 := hidr (below_chain HB1.out b2)
  clear HP1 HB1 b2
  go_upto_region 9 with fail
  refine wp_region_lit ?_
  refine wpList_loadRow rfl _ _ rfl w.heap.size rfl (r.cells ta da tc dc) _ (0, 0) HP2.out _ Try.underlying35 rfl (by kernel_rfl) ?_
  go_wp2_with fail
  refine (HL.out _).mono ?_
  rintro e x3 ⟨rfl, b3⟩
  have HB3 := hidr (below_chain HB2.out b3)
  clear HP2 HB2 b3
  go_wp2_with fail
  go_ret
  exact ⟨rfl, HB3.out⟩

end Go.Proofs.Ytndfjjcflbpdnaa
