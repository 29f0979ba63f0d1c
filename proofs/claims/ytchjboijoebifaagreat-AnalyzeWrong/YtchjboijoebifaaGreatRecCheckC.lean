/-
  The walk of rec.Check of any record.
-/
import Derived.Test.YtchjboijoebifaaGreatRecCheck0J
import Derived.Deep.CutRange
set_option linter.unusedVariables false
set_option linter.unusedSimpArgs false
namespace Go.Proofs.YtchjboijoebifaaGreat
open Go.RowKit Go.Sort

def mayR (r : RecV) : Bool := decide (1 ≤ r.kind ∧ r.kind ≤ 8) && (decide (0 ≤ r.tx ∧ r.tx ≤ 2147483647) && (sameR r (namedV r) && ((!changeB r || cmayB r) && ((!keyB r || kmayB r) && (!listsB r || lmayB r)))))

def rcheckE (r : RecV) : Int := if mayR r then 0 else 40

set_option maxHeartbeats 1600000 in
set_option maxRecDepth 8000 in
theorem rcheck_any (r : RecV) (ta da : Option Addr) (tc dc : Nat) (w : World) (h : r.Ok w ta da) :
    Calls Tryz.prog 41 #[.agg (r.cells ta da tc dc)] w fun e w' => e = .returned (.int .i64 (rcheckE r)) ∧ Below w.heap.size w w' := by
  obtain ⟨E, HE⟩ : ∃ E, Hid (rcheckE r = E) := ⟨_, rfl⟩
  rw [HE.out]
  obtain ⟨W, HW⟩ : ∃ W, Hid (W = w.alloc (.cells (r.cells ta da tc dc) 63)) := ⟨_, rfl⟩
  have HB : Hid (Below w.heap.size w W) := by show Below _ _ _; rw [HW.out]; exact (Below.refl _ _).alloc (Nat.le_refl _) _
  have HP : Hid (BlkR W w.heap.size (r.cells ta da tc dc) 63) := by show BlkR _ _ _ _; rw [HW.out]; exact heap_alloc_new w _
  have HPAR : Hid (r.cells ta da tc dc = #[.int .i64 r.kind, .int .i64 r.tx, .int .u64 r.prev, .int .u64 r.next, .int .u32 r.page, .int .i64 r.op.kind, .int .i64 r.op.at', .string r.op.S, .string r.op.old, .int .i64 r.undo, .int .i64 r.index, .string r.key, .int .u32 r.rpage, .int .i64 r.rslot, .bool r.live, .slice ta r.txs.length tc, .slice da r.dirty.length dc]) := rfl
  have HOK := hidr h
  have HNO : Hid (∀ wx, Below w.heap.size w wx → (namedV r).Ok wx (if listsB r then ta else none) (if listsB r then da else none)) := fun wx b => (namedV_ok h).below b
  clear h
  obtain ⟨ta', Hta⟩ : ∃ x, Hid ((if listsB r then ta else none) = x) := ⟨_, rfl⟩
  obtain ⟨da', Hda⟩ : ∃ x, Hid ((if listsB r then da else none) = x) := ⟨_, rfl⟩
  obtain ⟨tc', Htc⟩ : ∃ x, Hid ((if listsB r then tc else 0) = x) := ⟨_, rfl⟩
  obtain ⟨dc', Hdc⟩ : ∃ x, Hid ((if listsB r then dc else 0) = x) := ⟨_, rfl⟩
  rw [Hta.out, Hda.out] at HNO
  have HNM : Hid (∀ wx, Calls Tryz.prog 85 #[.agg (r.cells ta da tc dc)] wx fun e w' => e = .returned (.agg ((namedV r).cells ta' da' tc' dc')) ∧ Below wx.heap.size wx w') := fun wx => by
    have := rnamed_any r ta da tc dc wx
    rw [Hta.out, Hda.out, Htc.out, Hdc.out] at this
    exact this
  have HSM : Hid (∀ wx, Below w.heap.size w wx → Calls Tryz.prog 84 #[.agg (r.cells ta da tc dc), .agg ((namedV r).cells ta' da' tc' dc')] wx fun e w' => e = .returned (.bool (sameR r (namedV r))) ∧ Below wx.heap.size wx w') := fun wx b => recSame_any r (namedV r) ta da ta' da' tc dc tc' dc' wx (HOK.out.below b) (HNO.out wx b)
  rw [HPAR.out]
  go_enter Tryz.func41, Tryz.ntmps41
  go_upto_region 1 with fail
  rw [← HPAR.out, show w.alloc (.cells (r.cells ta da tc dc) 63) = W from HW.out.symm]
  clear HW
  have c0 : W.cell? ⟨w.heap.size, 0, none⟩ = some (.int .i64 r.kind) := HP.out.cell 0
  have c1 : W.cell? ⟨w.heap.size, 1, none⟩ = some (.int .i64 r.tx) := HP.out.cell 1
  by_cases h1 : 1 ≤ r.kind ∧ r.kind ≤ 8
  rotate_left
  · have HU := hidr (rwithin_no r.kind 1 8 W h1)
    have HE' : Hid (E = 40) := by show _ = _; rw [← HE.out]; unfold rcheckE mayR; rw [decide_eq_false h1]; rfl
    clear h1
    go_wp2_with fail
    refine HU.out.mono ?_
    rintro e w1 ⟨rfl, hw1⟩
    obtain rfl := hw1.symm
    go_wp2_with fail
    go_ret
    exact ⟨by rw [HE'.out]; rfl, HB.out⟩
  have HU := hidr (rwithin_yes r.kind 1 8 W h1)
  have H1 := hidr (decide_eq_true h1)
  clear h1
  by_cases h2 : 0 ≤ r.tx ∧ r.tx ≤ 2147483647
  rotate_left
  · have HV := hidr (rwithin_no r.tx 0 2147483647 W h2)
    have HE' : Hid (E = 40) := by show _ = _; rw [← HE.out]; unfold rcheckE mayR; rw [decide_eq_false h2]; simp
    clear h2
    go_wp2_with fail
    refine HU.out.mono ?_
    rintro e w1 ⟨rfl, hw1⟩
    obtain rfl := hw1.symm
    go_wp2_with fail
    refine HV.out.mono ?_
    rintro e w1 ⟨rfl, hw1⟩
    obtain rfl := hw1.symm
    go_wp2_with fail
    go_ret
    exact ⟨by rw [HE'.out]; rfl, HB.out⟩
  have HV := hidr (rwithin_yes r.tx 0 2147483647 W h2)
  have H2 := hidr (decide_eq_true h2)
  clear h2
  go_wp2_with fail
  refine HU.out.mono ?_
  rintro e w1 ⟨rfl, hw1⟩
  obtain rfl := hw1.symm
  go_wp2_with fail
  refine HV.out.mono ?_
  rintro e w1 ⟨rfl, hw1⟩
  obtain rfl := hw1.symm
  clear HU HV
  have cN : ∀ dd os, Calls Tryz.prog 85 #[.agg (r.cells ta da tc dc)] (grow (redrawn W dd) os) fun e w'' => e = .returned (.agg ((namedV r).cells ta' da' tc' dc')) ∧ ∃ p : Regrown, w'' = grow (redrawn W p.d) p.os := fun dd os => Calls.regrown_of (HNM.out _)
  have cS : ∀ dd os, Calls Tryz.prog 84 #[.agg (r.cells ta da tc dc), .agg ((namedV r).cells ta' da' tc' dc')] (grow (redrawn W dd) os) fun e w'' => e = .returned (.bool (sameR r (namedV r))) ∧ ∃ p : Regrown, w'' = grow (redrawn W p.d) p.os := fun dd os => Calls.regrown_of (HSM.out _ (below_chain HB.out (below_regrown W dd os)))
  obtain ⟨S3, HS3⟩ : ∃ S3, Hid (sameR r (namedV r) = S3) := ⟨_, rfl⟩
  rw [HS3.out] at cS
  go_upto_region 3 with fail
  refine wp_region_quiet_below cmixed (by kernel_rfl) ?_
  refine wpQuiet_loadRow rfl _ _ rfl w.heap.size rfl (r.cells ta da tc dc) _ (0, 0) HP.out _ Tryz.underlying63 rfl (by kernel_rfl) ?_
  refine wpQuiet_loadRow rfl _ _ rfl w.heap.size rfl (r.cells ta da tc dc) _ (0, 0) HP.out _ Tryz.underlying63 rfl (by kernel_rfl) ?_
  repeat (first | go_big_quiet_step (first | (go_at_call 85; exact cN _ _) | (go_at_call 84; exact cS _ _)) | quiet_step (first | (go_at_call 85; exact cN _ _) | (go_at_call 84; exact cS _ _)))
  refine wpQuiet_nil ?_
  intro _ hw'
  obtain ⟨⟨dq, osq⟩, hw''⟩ := hw'
  subst hw''
  have hbx := below_regrown W dq osq
  obtain ⟨X, HX⟩ : ∃ X, Hid (X = grow (redrawn W dq) osq) := ⟨_, rfl⟩
  rw [← HX.out] at hbx ⊢
  have HPX : Hid (BlkR X w.heap.size (r.cells ta da tc dc) 63) := (hbx.block _ HP.out.lt).trans HP.out
  have HBX := hidr (below_chain HB.out hbx)
  clear HX hbx cN cS HNM HSM HNO HP HB c0 c1 Hta Hda Htc Hdc
  cases S3 with
  | false =>
    have HE' : Hid (E = 40) := by show _ = _; rw [← HE.out]; unfold rcheckE mayR; rw [HS3.out]; simp
    go_wp2_with fail
    go_ret
    exact ⟨by rw [HE'.out]; rfl, HBX.out⟩
  | true =>
    have HE3 : Hid (E = if ((!changeB r || cmayB r) && ((!keyB r || kmayB r) && (!listsB r || lmayB r))) = true then 0 else 40) := by
      show _ = _
      rw [← HE.out]
      unfold rcheckE mayR
      rw [H1.out, H2.out, HS3.out]
      rfl
    clear H1 H2 HS3 HE
    have HC : Hid (∀ wx, Calls Tryz.prog 33 #[.agg (r.cells ta da tc dc)] wx fun e w' => e = .returned (.bool (changeB r)) ∧ Below wx.heap.size wx w') := fun wx => hasChange_any r ta da tc dc wx
    have HK : Hid (∀ wx, Calls Tryz.prog 35 #[.agg (r.cells ta da tc dc)] wx fun e w' => e = .returned (.bool (keyB r)) ∧ Below wx.heap.size wx w') := fun wx => hasKey_any r ta da tc dc wx
    have HL : Hid (∀ wx, Calls Tryz.prog 37 #[.agg (r.cells ta da tc dc)] wx fun e w' => e = .returned (.bool (listsB r)) ∧ Below wx.heap.size wx w') := fun wx => hasLists_any r ta da tc dc wx
    have HCM : Hid (∀ wx, Below w.heap.size w wx → Calls Tryz.prog 86 #[.agg (r.cells ta da tc dc)] wx fun e w' => e = .returned (.bool (cmayB r)) ∧ Below wx.heap.size wx w') := fun wx b => changeMay_any r ta da tc dc wx (HOK.out.below b)
    have HKM : Hid (∀ wx, Below w.heap.size w wx → Calls Tryz.prog 87 #[.agg (r.cells ta da tc dc)] wx fun e w' => e = .returned (.bool (kmayB r)) ∧ Below wx.heap.size wx w') := fun wx b => keyMay_any r ta da tc dc wx (HOK.out.below b)
    have HLM : Hid (∀ wx, Below w.heap.size w wx → Calls Tryz.prog 88 #[.agg (r.cells ta da tc dc)] wx fun e w' => e = .returned (.bool (lmayB r)) ∧ Below wx.heap.size wx w') := fun wx b => listsMay_any r ta da tc dc wx (HOK.out.below b)
    generalize changeB r = b1 at *
    generalize cmayB r = b2 at *
    generalize keyB r = b3 at *
    generalize kmayB r = b4 at *
    generalize listsB r = b5 at *
    generalize lmayB r = b6 at *
    clear HOK
    -- the three tests
    have cH1 : ∀ dd os, Calls Tryz.prog 33 #[.agg (r.cells ta da tc dc)] (grow (redrawn X dd) os) fun e w'' => e = .returned (.bool b1) ∧ ∃ p : Regrown, w'' = grow (redrawn X p.d) p.os := fun dd os => Calls.regrown_of (HC.out _)
    have cM1 : ∀ dd os, Calls Tryz.prog 86 #[.agg (r.cells ta da tc dc)] (grow (redrawn X dd) os) fun e w'' => e = .returned (.bool b2) ∧ ∃ p : Regrown, w'' = grow (redrawn X p.d) p.os := fun dd os => Calls.regrown_of (HCM.out _ (below_chain HBX.out (below_regrown X dd os)))
    go_upto_region 5 with fail
    go_cut [24] from 18 to 23 (fun v wx => v = .bool (b1 && !b2) ∧ Hid (Below X.heap.size X wx))
    case first =>
      cases b1 with
      | false =>
        refine wp_plain_below ?_
        refine wpQuiet_loadRow rfl _ _ rfl w.heap.size rfl (r.cells ta da tc dc) _ (0, 0) HPX.out _ Tryz.underlying63 rfl (by kernel_rfl) ?_
        try simp only [Act.put, List.setIfInBounds_toArray, List.set_cons_zero, List.set_cons_succ]
        go_big_quiet_step ((go_at_call 33; exact cH1 _ _))
        repeat (first | go_big_quiet_step (fail) | quiet_step (fail))
        refine wpQuiet_nil ?_
        intro _ hw'
        obtain ⟨⟨dq, osq⟩, hw''⟩ := hw'
        subst hw''
        have hbx : Hid (Below X.heap.size X (grow (redrawn X dq) osq)) := below_regrown X dq osq
        generalize grow (redrawn X dq) osq = XX at *
        go_wp2_with fail
        go_meet
        case rel => exact ⟨rfl, hbx⟩
      | true =>
        refine wp_plain_below ?_
        refine wpQuiet_loadRow rfl _ _ rfl w.heap.size rfl (r.cells ta da tc dc) _ (0, 0) HPX.out _ Tryz.underlying63 rfl (by kernel_rfl) ?_
        try simp only [Act.put, List.setIfInBounds_toArray, List.set_cons_zero, List.set_cons_succ]
        go_big_quiet_step ((go_at_call 33; exact cH1 _ _))
        go_big_quiet_step (fail)
        refine wpQuiet_loadRowG (by rfl) _ _ rfl w.heap.size rfl (r.cells ta da tc dc) _ (0, 0) HPX.out _ Tryz.underlying63 rfl (by kernel_rfl) ?_
        try simp only [Act.put, List.setIfInBounds_toArray, List.set_cons_zero, List.set_cons_succ]
        go_big_quiet_step ((go_at_call 86; exact cM1 _ _))
        repeat (first | go_big_quiet_step (fail) | quiet_step (fail))
        refine wpQuiet_nil ?_
        intro _ hw'
        obtain ⟨⟨dq, osq⟩, hw''⟩ := hw'
        subst hw''
        have hbx : Hid (Below X.heap.size X (grow (redrawn X dq) osq)) := below_regrown X dq osq
        generalize grow (redrawn X dq) osq = XX at *
        go_wp2_with fail
        go_meet
        case rel => exact ⟨by simp, hbx⟩
    case rest =>
      obtain ⟨hv, hb⟩ := hcut
      subst hv
      generalize wc = Y1 at *
      have HP1 : Hid (BlkR Y1 w.heap.size (r.cells ta da tc dc) 63) := (hb.out.block _ HPX.out.lt).trans HPX.out
      have HB1 := hidr (below_chain HBX.out hb.out)
      clear hb HPX HBX cH1 cM1
      cases hbm1 : (b1 && !b2) with
      | true =>
        have HE' : Hid (E = 40) := by
          show _ = _
          rw [HE3.out]
          revert hbm1
          cases b1 <;> cases b2 <;> simp
        go_wp2_with fail
        go_ret
        exact ⟨by rw [HE'.out]; rfl, HB1.out⟩
      | false =>
        have cH2 : ∀ dd os, Calls Tryz.prog 35 #[.agg (r.cells ta da tc dc)] (grow (redrawn Y1 dd) os) fun e w'' => e = .returned (.bool b3) ∧ ∃ p : Regrown, w'' = grow (redrawn Y1 p.d) p.os := fun dd os => Calls.regrown_of (HK.out _)
        have cM2 : ∀ dd os, Calls Tryz.prog 87 #[.agg (r.cells ta da tc dc)] (grow (redrawn Y1 dd) os) fun e w'' => e = .returned (.bool b4) ∧ ∃ p : Regrown, w'' = grow (redrawn Y1 p.d) p.os := fun dd os => Calls.regrown_of (HKM.out _ (below_chain HB1.out (below_regrown Y1 dd os)))
        go_upto_region 7 with fail
        go_cut [31] from 25 to 30 (fun v wx => v = .bool (b3 && !b4) ∧ Hid (Below Y1.heap.size Y1 wx))
        case first =>
          cases b3 with
          | false =>
            refine wp_plain_below ?_
            refine wpQuiet_loadRow rfl _ _ rfl w.heap.size rfl (r.cells ta da tc dc) _ (0, 0) HP1.out _ Tryz.underlying63 rfl (by kernel_rfl) ?_
            try simp only [Act.put, List.setIfInBounds_toArray, List.set_cons_zero, List.set_cons_succ]
            go_big_quiet_step ((go_at_call 35; exact cH2 _ _))
            repeat (first | go_big_quiet_step (fail) | quiet_step (fail))
            refine wpQuiet_nil ?_
            intro _ hw'
            obtain ⟨⟨dq, osq⟩, hw''⟩ := hw'
            subst hw''
            have hbx : Hid (Below Y1.heap.size Y1 (grow (redrawn Y1 dq) osq)) := below_regrown Y1 dq osq
            generalize grow (redrawn Y1 dq) osq = XX at *
            go_wp2_with fail
            go_meet
            case rel => exact ⟨rfl, hbx⟩
          | true =>
            refine wp_plain_below ?_
            refine wpQuiet_loadRow rfl _ _ rfl w.heap.size rfl (r.cells ta da tc dc) _ (0, 0) HP1.out _ Tryz.underlying63 rfl (by kernel_rfl) ?_
            try simp only [Act.put, List.setIfInBounds_toArray, List.set_cons_zero, List.set_cons_succ]
            go_big_quiet_step ((go_at_call 35; exact cH2 _ _))
            go_big_quiet_step (fail)
            refine wpQuiet_loadRowG (by rfl) _ _ rfl w.heap.size rfl (r.cells ta da tc dc) _ (0, 0) HP1.out _ Tryz.underlying63 rfl (by kernel_rfl) ?_
            try simp only [Act.put, List.setIfInBounds_toArray, List.set_cons_zero, List.set_cons_succ]
            go_big_quiet_step ((go_at_call 87; exact cM2 _ _))
            repeat (first | go_big_quiet_step (fail) | quiet_step (fail))
            refine wpQuiet_nil ?_
            intro _ hw'
            obtain ⟨⟨dq, osq⟩, hw''⟩ := hw'
            subst hw''
            have hbx : Hid (Below Y1.heap.size Y1 (grow (redrawn Y1 dq) osq)) := below_regrown Y1 dq osq
            generalize grow (redrawn Y1 dq) osq = XX at *
            go_wp2_with fail
            go_meet
            case rel => exact ⟨by simp, hbx⟩
        case rest =>
          obtain ⟨hv, hb⟩ := hcut
          subst hv
          generalize wc = Y2 at *
          have HP2 : Hid (BlkR Y2 w.heap.size (r.cells ta da tc dc) 63) := (hb.out.block _ HP1.out.lt).trans HP1.out
          have HB2 := hidr (below_chain HB1.out hb.out)
          clear hb HP1 HB1 cH2 cM2
          cases hbm2 : (b3 && !b4) with
          | true =>
            have HE' : Hid (E = 40) := by
              show _ = _
              rw [HE3.out]
              revert hbm2
              cases b3 <;> cases b4 <;> simp
            go_wp2_with fail
            go_ret
            exact ⟨by rw [HE'.out]; rfl, HB2.out⟩
          | false =>
            have cH3 : ∀ dd os, Calls Tryz.prog 37 #[.agg (r.cells ta da tc dc)] (grow (redrawn Y2 dd) os) fun e w'' => e = .returned (.bool b5) ∧ ∃ p : Regrown, w'' = grow (redrawn Y2 p.d) p.os := fun dd os => Calls.regrown_of (HL.out _)
            have cM3 : ∀ dd os, Calls Tryz.prog 88 #[.agg (r.cells ta da tc dc)] (grow (redrawn Y2 dd) os) fun e w'' => e = .returned (.bool b6) ∧ ∃ p : Regrown, w'' = grow (redrawn Y2 p.d) p.os := fun dd os => Calls.regrown_of (HLM.out _ (below_chain HB2.out (below_regrown Y2 dd os)))
            go_upto_region 9 with fail
            go_cut [38] from 32 to 37 (fun v wx => v = .bool (b5 && !b6) ∧ Hid (Below Y2.heap.size Y2 wx))
            case first =>
              cases b5 with
              | false =>
                refine wp_plain_below ?_
                refine wpQuiet_loadRow rfl _ _ rfl w.heap.size rfl (r.cells ta da tc dc) _ (0, 0) HP2.out _ Tryz.underlying63 rfl (by kernel_rfl) ?_
                try simp only [Act.put, List.setIfInBounds_toArray, List.set_cons_zero, List.set_cons_succ]
                go_big_quiet_step ((go_at_call 37; exact cH3 _ _))
                repeat (first | go_big_quiet_step (fail) | quiet_step (fail))
                refine wpQuiet_nil ?_
                intro _ hw'
                obtain ⟨⟨dq, osq⟩, hw''⟩ := hw'
                subst hw''
                have hbx : Hid (Below Y2.heap.size Y2 (grow (redrawn Y2 dq) osq)) := below_regrown Y2 dq osq
                generalize grow (redrawn Y2 dq) osq = XX at *
                go_wp2_with fail
                go_meet
                case rel => exact ⟨rfl, hbx⟩
              | true =>
                refine wp_plain_below ?_
                refine wpQuiet_loadRow rfl _ _ rfl w.heap.size rfl (r.cells ta da tc dc) _ (0, 0) HP2.out _ Tryz.underlying63 rfl (by kernel_rfl) ?_
                try simp only [Act.put, List.setIfInBounds_toArray, List.set_cons_zero, List.set_cons_succ]
                go_big_quiet_step ((go_at_call 37; exact cH3 _ _))
                go_big_quiet_step (fail)
                refine wpQuiet_loadRowG (by rfl) _ _ rfl w.heap.size rfl (r.cells ta da tc dc) _ (0, 0) HP2.out _ Tryz.underlying63 rfl (by kernel_rfl) ?_
                try simp only [Act.put, List.setIfInBounds_toArray, List.set_cons_zero, List.set_cons_succ]
                go_big_quiet_step ((go_at_call 88; exact cM3 _ _))
                repeat (first | go_big_quiet_step (fail) | quiet_step (fail))
                refine wpQuiet_nil ?_
                intro _ hw'
                obtain ⟨⟨dq, osq⟩, hw''⟩ := hw'
                subst hw''
                have hbx : Hid (Below Y2.heap.size Y2 (grow (redrawn Y2 dq) osq)) := below_regrown Y2 dq osq
                generalize grow (redrawn Y2 dq) osq = XX at *
                go_wp2_with fail
                go_meet
                case rel => exact ⟨by simp, hbx⟩
            case rest =>
              obtain ⟨hv, hb⟩ := hcut
              subst hv
              generalize wc = Y3 at *
              have HP3 : Hid (BlkR Y3 w.heap.size (r.cells ta da tc dc) 63) := (hb.out.block _ HP2.out.lt).trans HP2.out
              have HB3 := hidr (below_chain HB2.out hb.out)
              clear hb HP2 HB2 cH3 cM3
              cases hbm3 : (b5 && !b6) with
              | true =>
                have HE' : Hid (E = 40) := by
                  show _ = _
                  rw [HE3.out]
                  revert hbm3
                  cases b5 <;> cases b6 <;> simp
                go_wp2_with fail
                go_ret
                exact ⟨by rw [HE'.out]; rfl, HB3.out⟩
              | false =>
                have HE' : Hid (E = 0) := by
                  show _ = _
                  rw [HE3.out]
                  revert hbm1 hbm2 hbm3
                  cases b1 <;> cases b2 <;> cases b3 <;> cases b4 <;> cases b5 <;> cases b6 <;> simp
                go_wp2_with fail
                go_ret
                exact ⟨by rw [HE'.out]; rfl, HB3.out⟩

end Go.Proofs.YtchjboijoebifaaGreat
