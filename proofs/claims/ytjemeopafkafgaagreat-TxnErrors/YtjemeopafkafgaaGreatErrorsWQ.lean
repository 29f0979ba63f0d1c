/-
  The walk of girderlaw09.TxnErrors.
  An argument of type api.Sheet, opened: a page as plain data, its slots in memory.
  An argument of type api.Change, opened.
  Proved: for every number n and any change c the call TxnErrors(n, c) returns true, and the arguments read afterwards as they read before. No condition.
-/
import Derived.Test.YtjemeopafkafgaaGreatTxNoQ
import Derived.Test.YtjemeopafkafgaaGreatTxGetQ
import Derived.Test.YtjemeopafkafgaaGreatTxLogRQ
import Derived.Test.YtjemeopafkafgaaGreatTxNewQ
import Derived.Test.YtjemeopafkafgaaGreatRowOpsQ
import Derived.Test.YtjemeopafkafgaaGreatCrcWalksQ
import Derived.ProofKit
import Derived.OpenShut
import Derived.ShutString
import Derived.ChangeOld
import Derived.SizedLaws
import Derived.SliceStrings
import Derived.Test.YtjemeopafkafgaaGreatRecValV
import Derived.Test.YtjemeopafkafgaaGreatTxUpdateV
import Derived.Deep.Slices
import Derived.Lib.SmallJoins
import Derived.ChangeSame
import Derived.Test.YtjemeopafkafgaaGreatRows
namespace Go.Proofs.YtjemeopafkafgaaGreat
open Go.RowKit Go.Sort
set_option linter.unusedVariables false
set_option linter.unusedSimpArgs false

section
variable {P : Program} {ops : Array Oper} {rest : List Oper} {o : Oper} {a : Act} {Q : Exit → Act → World → Prop} {W : World}

theorem wpList_buildAny (hgd : o.guard = none) (t : TypeId) (es : Array (Nat × Operand)) (ho : o.op = .build t es) (parts : List (Nat × Value)) (hp : (es.map fun (i, x) => (i, a.eval x)).toList = parts) (C : Array Value) (hb : P.built t parts = some C) (h : wpList P ops Q rest (a.put o.dst (.agg C)) W) : wpList P ops Q (o :: rest) a W := by
  refine wpList_plain hgd fun K hK => ?_
  have hr := run_build (P := P) W t _ C (by rw [hp]; exact hb)
  unfold Oper.wp execOp
  simp only [ho, Sem.run_bind, Sem.run_pure, Result.andThen_ok, hr]
  exact hK _ _ h

theorem wpList_allocRow (hgd : o.guard = none) (t : TypeId) (ho : o.op = .alloc t) (C : Array Value) (hz : (P.info? t).map (fun i => i.zero) = some (some (.agg C))) (h : wpList P ops Q rest (a.put o.dst (.pointer (some ⟨W.heap.size, 0, none⟩))) (W.alloc (.cells C t))) : wpList P ops Q (o :: rest) a W := by
  obtain ⟨i, hi, hz'⟩ := Option.map_eq_some_iff.1 hz
  exact wpList_allocBig hgd t ho C i hi hz' h

end

def updParts (c : ChgV) : List (Nat × Value) := [(0, .int .i64 1), (1, .int .i64 1), (4, .int .u32 c.page), (5, .agg #[.int .i64 c.op.kind, .int .i64 c.op.at', .string c.op.S, .string c.op.old]), (6, .int .i64 c.undo), (7, .int .i64 c.index), (8, .agg #[.string c.key, .int .u32 c.rpage, .int .i64 c.rslot]), (9, .bool c.live)]

theorem built_upd (c : ChgV) : Tryz.prog.built 56 (updParts c) = some ((recU (fresh 1) c).cells none none 0 0) := by kernel_rfl

/-- What is known of a change that was handed in. -/
structure ChgOk (c : ChgV) : Prop where
  ok : ∀ wx, (recU (fresh 1) c).Ok wx none none
  op : c.op.Ok
  page : c.page < 4294967296

set_option maxHeartbeats 12800000 in
set_option maxRecDepth 20000 in
theorem errors_walk (n : Int) (hn1 : -9223372036854775808 ≤ n) (hn2 : n ≤ 9223372036854775807) (c : ChgV) (hc : ChgOk c) (w : World) :
    Calls Tryz.prog 4 #[.int .i64 n, .agg c.cells] w fun e w' => e = .returned (.bool true) ∧ Below w.heap.size w w' := by
  obtain ⟨W, HW⟩ : ∃ W, Hid (W = w.alloc (.cells c.cells 64)) := ⟨_, rfl⟩
  have bW : Below w.heap.size w W := by rw [HW.out]; exact (Below.refl _ _).alloc (Nat.le_refl _) _
  have xW : BlkR W w.heap.size c.cells 64 := by rw [HW.out]; exact Blk.made _ _ _
  have HPAR : Hid (c.cells = #[.int .u32 c.page, .int .i64 c.op.kind, .int .i64 c.op.at', .string c.op.S, .string c.op.old, .int .i64 c.undo, .int .i64 c.index, .string c.key, .int .u32 c.rpage, .int .i64 c.rslot, .bool c.live]) := rfl
  have HC := hidx hc
  have HBW := hidx bW
  have HXW := hidx xW
  have HL := hidx (log_no (w := W) (n := n) (E := 1) none (fun wx _ => find_nil n wx) rfl c)
  have HBN := hidx (begin_nil W)
  clear hc bW xW
  rw [HPAR.out]
  go_enter Tryz.func4, Tryz.ntmps4
  go_upto_region 1 with fail
  rw [← HPAR.out, ← HW.out]
  clear HW
  obtain ⟨b3, Hb3⟩ : ∃ b, Hid (w.heap.size = b) := ⟨_, rfl⟩
  rw [Hb3.out] at HXW ⊢
  go_wp2_with fail
  refine HBN.out.mono ?_
  rintro e v1 ⟨rfl, rfl⟩
  clear HBN
  go_upto_region 3 with fail
  refine wp_region_lit ?_
  refine wpList_plain rfl fun K hK => ?_
  go_simp
  refine hK _ _ ?_
  clear hK K
  refine wpList_plain rfl fun K hK => ?_
  go_simp
  refine hK _ _ ?_
  clear hK K
  refine wpList_loadRow rfl _ _ rfl b3 rfl c.cells _ (0, 0) HXW.out _ Tryz.underlying64 rfl (by kernel_rfl) ?_
  go_wp2_with fail
  refine HL.out.mono ?_
  rintro e v1 ⟨rfl, b1⟩
  have B1 := hidx (below_chain HBW.out b1)
  have X1 := hidx (HXW.out.under b1 HXW.out.lt)
  have HSV := hidx (save_no (find_nil n v1) rfl)
  have HTP := hidx (top_no (find_nil n v1) rfl 1)
  have HNX := hidx (next_nil n v1)
  clear HL b1 HBW HXW
  go_wp2_with fail
  refine HSV.out.mono ?_
  rintro e v2 ⟨rfl, rfl⟩
  clear HSV
  go_wp2_with fail
  refine HTP.out.mono ?_
  rintro e v2 ⟨rfl, rfl⟩
  clear HTP
  have HRC : Hid (rec0.cells none none 0 0 = #[.int .i64 0, .int .i64 0, .int .u64 0, .int .u64 0, .int .u32 0, .int .i64 0, .int .i64 0, .string ⟨#[]⟩, .string ⟨#[]⟩, .int .i64 0, .int .i64 0, .string ⟨#[]⟩, .int .u32 0, .int .i64 0, .bool false, .slice none 0 0, .slice none 0 0]) := rfl
  go_wp2_with fail
  refine HNX.out.mono ?_
  rintro e v2 ⟨rfl, b2⟩
  obtain ⟨W3, HW3⟩ : ∃ W', Hid (W' = v2.alloc (.cells (rec0.cells none none 0 0) 56)) := ⟨_, rfl⟩
  have b3' : Below v2.heap.size v2 W3 := by rw [HW3.out]; exact (Below.refl _ _).alloc (Nat.le_refl _) _
  have b23 := below_chain b2 b3'
  have B3 := hidx (below_chain B1.out b23)
  have X3 := hidx (X1.out.under b23 X1.out.lt)
  rw [HRC.out]
  clear HNX b2 b3' b23 B1 X1
  go_upto_region 7 with fail
  rw [← HRC.out, ← HW3.out]
  clear HW3 HRC
  have HST := hidx (state_no (w := W3) (rv := .pointer none) (n := n) (E := 1) (fun wx _ => find_nil n wx) rfl)
  go_wp2_with fail
  refine HST.out.mono ?_
  rintro e v4 ⟨rfl, b4⟩
  clear HST
  obtain ⟨W5, HW5⟩ : ∃ W', Hid (W' = v4.alloc (.cells #[.int .i64 0, .int .i64 0, .int .u64 0, .int .u64 0] 74)) := ⟨_, rfl⟩
  have b5 : Below v4.heap.size v4 W5 := by rw [HW5.out]; exact (Below.refl _ _).alloc (Nat.le_refl _) _
  have b45 := below_chain b4 b5
  have B5 := hidx (below_chain B3.out b45)
  have X5 := hidx (X3.out.under b45 X3.out.lt)
  have HAW := hidx (tawake_any W5)
  clear b4 b5 b45 B3 X3
  go_wp2_with fail
  rw [← HW5.out]
  clear HW5
  refine HAW.out.mono ?_
  rintro e v6 ⟨rfl, b6⟩
  have B6 := hidx (below_chain B5.out b6)
  have X6 := hidx (X5.out.under b6 X5.out.lt)
  clear HAW b6 B5 X5
  have HTN := hidx (tnew_nil v6)
  have HCM := hidx (commit_no (find_nil n v6) rfl)
  have HAB := hidx (abort_no (find_nil n v6) rfl .nilFunc)
  have HRB := hidx (roll_no (find_nil n v6) rfl 0 .nilFunc)
  have HFN := hidx (finish_no (find_nil n v6) rfl)
  have HLD := hidx (load_nil 1 v6)
  have HAL := hidx (all_nil v6)
  have HDN := hidx (done_nil v6)
  have HCO := hidx (coming_nil v6)
  have HPL := hidx (pool_nil v6)
  go_wp2_with fail
  refine HTN.out.mono ?_
  rintro e v7 ⟨rfl, rfl⟩
  clear HTN
  go_wp2_with fail
  refine HCM.out.mono ?_
  rintro e v7 ⟨rfl, rfl⟩
  clear HCM
  go_wp2_with fail
  refine HAB.out.mono ?_
  rintro e v7 ⟨rfl, rfl⟩
  clear HAB
  go_wp2_with fail
  refine HRB.out.mono ?_
  rintro e v7 ⟨rfl, rfl⟩
  clear HRB
  go_wp2_with fail
  refine HFN.out.mono ?_
  rintro e v7 ⟨rfl, rfl⟩
  clear HFN
  go_wp2_with fail
  refine HLD.out.mono ?_
  rintro e v7 ⟨rfl, rfl⟩
  clear HLD
  go_wp2_with fail
  refine HAL.out.mono ?_
  rintro e v7 ⟨rfl, rfl⟩
  clear HAL
  go_wp2_with fail
  refine HDN.out.mono ?_
  rintro e v7 ⟨rfl, rfl⟩
  clear HDN
  go_wp2_with fail
  refine HCO.out.mono ?_
  rintro e v7 ⟨rfl, rfl⟩
  clear HCO
  go_wp2_with fail
  refine HPL.out.mono ?_
  rintro e v7 ⟨rfl, rfl⟩
  clear HPL
  have HBG := hidx (tbegun_any v6)
  go_upto_region 10 with fail
  go_wp2_with fail
  refine HBG.out.mono ?_
  rintro e v8 ⟨⟨m, p, dp, lp, A1, rfl, h1, hA1, b8⟩⟩
  have B8 := hidx (below_chain B6.out b8)
  have X8 := hidx (X6.out.under b8 X6.out.lt)
  have HA8 : Hid (∀ k, A1 k → b3 < k) := hidx fun k hk => Nat.lt_of_lt_of_le X6.out.lt (hA1 k hk)
  have HBE := hidx (begin_ok h1 (by show (1 : Nat) ≤ _; omega) rfl (by show (0 : Nat) < 64; omega) (by show (0 : Nat) ≤ _; omega) (by show (0 : Nat) + 128 + 0 ≤ _; omega))
  clear HBG h1 hA1 b8 B6 X6
  go_wp2_with fail
  refine HBE.out.mono ?_
  rintro e v9 ⟨rfl, A9, bX, h9, mv9⟩
  have hx9 := (mv9.off X8.out.lt (fun y => by have := HA8.out _ y; omega))
  have X9 : Hid (BlkR v9 b3 c.cells 64) := hidx (X8.out.same hx9.1)
  have B9 : Hid (Below w.heap.size w v9) := hidx ⟨mv9.1.os.trans B8.out.os, mv9.1.tape.trans B8.out.tape, mv9.1.output.trans B8.out.output, Nat.le_trans B8.out.size mv9.1.size, fun k hk => (mv9.1.block k (by have := B8.out.size; omega) (fun y => by have := HA8.out _ y; have := Hb3.out; omega)).trans (B8.out.block k hk)⟩
  obtain ⟨X, HX⟩ : ∃ X, X = bornX (fun _ => 0) mg0.next bX := ⟨_, rfl⟩
  rw [← HX] at h9
  have H9 : Hid (MSys v9 m p X A9 (begP dp lp 5) (log1 dp) (newD 64) mg0.born) := hidx h9
  have HA9 : Hid (∀ k, A9 k → b3 < k) := hidx fun k hk => by
    rcases mv9.2 k hk with y | y
    · exact HA8.out _ y
    · exact Nat.lt_of_lt_of_le X8.out.lt y
  clear HBE h9 mv9 hx9 HX X8 B8 HA8
  rw [show (mg0.next : Int) = 1 from rfl]
  go_upto_region 14 with fail
  refine wp_region_lit ?_
  refine wpList_plain rfl fun K hK => ?_
  go_simp
  refine hK _ _ ?_
  clear hK K
  refine wpList_plain rfl fun K hK => ?_
  go_simp
  refine hK _ _ ?_
  clear hK K
  refine wpList_loadRow rfl _ _ rfl b3 rfl c.cells _ (0, 0) X9.out _ Tryz.underlying64 rfl (by kernel_rfl) ?_
  by_cases hn : n = 1
  · subst hn
    by_cases hmay : mayR (recU (fresh 1) c) = true
    · have HLG := hidx (log_any H9.out c HC.out.ok HC.out.op hmay HC.out.page)
      have HMY := hidx hmay
      clear hmay
      go_wp2_with fail
      refine HLG.out.mono ?_
      rintro e v10 ⟨⟨v, E, A', P', l', d', t', rfl, g, ht', mv⟩⟩
      clear HLG
      as_aux_lemma =>
      have H10 := hidx g
      have HT := hidx ht'
      have B10 : Hid (Below w.heap.size w v10) := hidx ⟨mv.1.os.trans B9.out.os, mv.1.tape.trans B9.out.tape, mv.1.output.trans B9.out.output, Nat.le_trans B9.out.size mv.1.size, fun k hk => (mv.1.block k (by have := B9.out.size; omega) (fun y => by have := HA9.out _ y; have := Hb3.out; omega)).trans (B9.out.block k hk)⟩
      have X10 : Hid (BlkR v10 b3 c.cells 64) := hidx (X9.out.same (mv.off X9.out.lt (fun y => by have := HA9.out _ y; omega)).1)
      clear g ht' mv X9 B9 HA9 H9
      have e0 : v10.cell? ⟨b3, 0, none⟩ = some (.int .u32 c.page) := BlkR.cell X10.out 0
      have e1 : v10.cell? ⟨b3, 1, none⟩ = some (.int .i64 c.op.kind) := BlkR.cell X10.out 1
      have e2 : v10.cell? ⟨b3, 2, none⟩ = some (.int .i64 c.op.at') := BlkR.cell X10.out 2
      have e3 : v10.cell? ⟨b3, 3, none⟩ = some (.string c.op.S) := BlkR.cell X10.out 3
      have e4 : v10.cell? ⟨b3, 4, none⟩ = some (.string c.op.old) := BlkR.cell X10.out 4
      have e5 : v10.cell? ⟨b3, 5, none⟩ = some (.int .i64 c.undo) := BlkR.cell X10.out 5
      have e6 : v10.cell? ⟨b3, 6, none⟩ = some (.int .i64 c.index) := BlkR.cell X10.out 6
      have e7 : v10.cell? ⟨b3, 7, none⟩ = some (.string c.key) := BlkR.cell X10.out 7
      have e8 : v10.cell? ⟨b3, 8, none⟩ = some (.int .u32 c.rpage) := BlkR.cell X10.out 8
      have e9 : v10.cell? ⟨b3, 9, none⟩ = some (.int .i64 c.rslot) := BlkR.cell X10.out 9
      have e10 : v10.cell? ⟨b3, 10, none⟩ = some (.bool c.live) := BlkR.cell X10.out 10
      obtain ⟨W11, HW11⟩ : ∃ W', Hid (W' = (v10.alloc (.cells zeroCellsR 56)).setRow v10.heap.size ((recU (fresh 1) c).cells none none 0 0)) := ⟨_, rfl⟩
      have b11 : Below v10.heap.size v10 W11 := by rw [HW11.out]; exact below_setRow ((Below.refl _ _).alloc (Nat.le_refl _) _) (Nat.le_refl _) _
      have x11 : BlkR W11 v10.heap.size ((recU (fresh 1) c).cells none none 0 0) 56 := by rw [HW11.out]; exact setRow_heap _ _ _ _ _ _ (heap_alloc_new v10 _)
      have X11 := hidx x11
      have B11 := hidx (below_chain B10.out b11)
      have H11 := hidx (H10.out.below b11)
      have HCK : Hid (Calls Tryz.prog 29 #[.agg ((recU (fresh 1) c).cells none none 0 0)] W11 fun e w' => e = .returned (.int .i64 0) ∧ Below W11.heap.size W11 w') := by
        have := rcheck_any (recU (fresh 1) c) none none 0 0 W11 (HC.out.ok W11)
        unfold rcheckE at this
        rw [HMY.out] at this
        exact this
      clear b11 x11 H10 B10
      go_upto_region 17 with fail
      refine wp_region_lit ?_
      refine wpList_plain rfl fun K hK => ?_
      go_simp
      refine hK _ _ ?_
      clear hK K
      refine wpList_plain rfl fun K hK => ?_
      go_simp
      refine hK _ _ ?_
      clear hK K
      refine wpList_plain rfl fun K hK => ?_
      go_simp
      refine hK _ _ ?_
      clear hK K
      refine wpList_plain rfl fun K hK => ?_
      go_simp
      refine hK _ _ ?_
      clear hK K
      refine wpList_plain rfl fun K hK => ?_
      go_simp
      refine hK _ _ ?_
      clear hK K
      refine wpList_plain rfl fun K hK => ?_
      go_simp
      refine hK _ _ ?_
      clear hK K
      refine wpList_plain rfl fun K hK => ?_
      go_simp
      refine hK _ _ ?_
      clear hK K
      refine wpList_plain rfl fun K hK => ?_
      go_simp
      refine hK _ _ ?_
      clear hK K
      refine wpList_plain rfl fun K hK => ?_
      go_simp
      refine hK _ _ ?_
      clear hK K
      refine wpList_plain rfl fun K hK => ?_
      go_simp
      refine hK _ _ ?_
      clear hK K
      refine wpList_plain rfl fun K hK => ?_
      go_simp
      refine hK _ _ ?_
      clear hK K
      refine wpList_plain rfl fun K hK => ?_
      go_simp
      refine hK _ _ ?_
      clear hK K
      refine wpList_plain rfl fun K hK => ?_
      go_simp
      refine hK _ _ ?_
      clear hK K
      refine wpList_buildAny rfl 56 _ rfl (updParts c) (by simp only [List.map_toArray, List.map_cons, List.map_nil]; rfl) _ (built_upd c) ?_
      refine wpList_allocRow rfl 56 rfl zeroCellsR (by kernel_rfl) ?_
      refine wpList_storeRow rfl _ _ 56 rfl rfl v10.heap.size rfl ((recU (fresh 1) c).cells none none 0 0) zeroCellsR rfl _ (heap_alloc_new v10 _) (by kernel_rfl) rfl (ref_one (recU (fresh 1) c) none none 0 0 0 0) ?_
      rw [← HW11.out]
      clear HW11 e0 e1 e2 e3 e4 e5 e6 e7 e8 e9 e10 X10
      go_upto_region 18 with fail
      refine wp_region_lit ?_
      refine wpList_loadRow rfl _ _ rfl v10.heap.size rfl ((recU (fresh 1) c).cells none none 0 0) _ (0, 0) X11.out _ Tryz.underlying56 rfl (by kernel_rfl) ?_
      go_wp2_with fail
      refine HCK.out.mono ?_
      rintro e v12 ⟨rfl, b12⟩
      have B12 := hidx (below_chain B11.out b12)
      have H12 := hidx (H11.out.below b12)
      clear HCK b12 X11 B11 H11
      have HFI := hidx (finish_active H12.out 1 (by omega) (by omega) (MgG.set_get _ _ _) HT.out)
      have HAB := hidx (abort_nilF H12.out 1 (by omega) (by omega) (MgG.set_get _ _ _) HT.out)
      go_wp2_with fail
      refine HFI.out.mono ?_
      rintro e v13 ⟨rfl, rfl⟩
      clear HFI
      go_wp2_with fail
      refine HAB.out.mono ?_
      rintro e v13 ⟨rfl, rfl⟩
      clear HAB
      go_wp2
      go_ret
      exact ⟨rfl, B12.out⟩
    · have hmay' : mayR (recU (fresh 1) c) = false := by simpa using hmay
      have HLG := hidx (tlog_rec H9.out 1 (by omega) (by omega) born_T rfl c HC.out.ok hmay')
      have HMY := hidx hmay'
      clear hmay hmay'
      go_wp2_with fail
      refine HLG.out.mono ?_
      rintro e v10 ⟨rfl, b10⟩
      clear HLG
      as_aux_lemma =>
      have H10 := hidx (H9.out.below b10)
      have B10 := hidx (below_chain B9.out b10)
      have X10 := hidx (X9.out.under b10 X9.out.lt)
      clear b10 X9 B9 HA9 H9
      have e0 : v10.cell? ⟨b3, 0, none⟩ = some (.int .u32 c.page) := BlkR.cell X10.out 0
      have e1 : v10.cell? ⟨b3, 1, none⟩ = some (.int .i64 c.op.kind) := BlkR.cell X10.out 1
      have e2 : v10.cell? ⟨b3, 2, none⟩ = some (.int .i64 c.op.at') := BlkR.cell X10.out 2
      have e3 : v10.cell? ⟨b3, 3, none⟩ = some (.string c.op.S) := BlkR.cell X10.out 3
      have e4 : v10.cell? ⟨b3, 4, none⟩ = some (.string c.op.old) := BlkR.cell X10.out 4
      have e5 : v10.cell? ⟨b3, 5, none⟩ = some (.int .i64 c.undo) := BlkR.cell X10.out 5
      have e6 : v10.cell? ⟨b3, 6, none⟩ = some (.int .i64 c.index) := BlkR.cell X10.out 6
      have e7 : v10.cell? ⟨b3, 7, none⟩ = some (.string c.key) := BlkR.cell X10.out 7
      have e8 : v10.cell? ⟨b3, 8, none⟩ = some (.int .u32 c.rpage) := BlkR.cell X10.out 8
      have e9 : v10.cell? ⟨b3, 9, none⟩ = some (.int .i64 c.rslot) := BlkR.cell X10.out 9
      have e10 : v10.cell? ⟨b3, 10, none⟩ = some (.bool c.live) := BlkR.cell X10.out 10
      obtain ⟨W11, HW11⟩ : ∃ W', Hid (W' = (v10.alloc (.cells zeroCellsR 56)).setRow v10.heap.size ((recU (fresh 1) c).cells none none 0 0)) := ⟨_, rfl⟩
      have b11 : Below v10.heap.size v10 W11 := by rw [HW11.out]; exact below_setRow ((Below.refl _ _).alloc (Nat.le_refl _) _) (Nat.le_refl _) _
      have x11 : BlkR W11 v10.heap.size ((recU (fresh 1) c).cells none none 0 0) 56 := by rw [HW11.out]; exact setRow_heap _ _ _ _ _ _ (heap_alloc_new v10 _)
      have X11 := hidx x11
      have B11 := hidx (below_chain B10.out b11)
      have H11 := hidx (H10.out.below b11)
      have HCK : Hid (Calls Tryz.prog 29 #[.agg ((recU (fresh 1) c).cells none none 0 0)] W11 fun e w' => e = .returned (.int .i64 40) ∧ Below W11.heap.size W11 w') := by
        have := rcheck_any (recU (fresh 1) c) none none 0 0 W11 (HC.out.ok W11)
        unfold rcheckE at this
        rw [HMY.out] at this
        exact this
      clear b11 x11 H10 B10
      go_upto_region 17 with fail
      refine wp_region_lit ?_
      refine wpList_plain rfl fun K hK => ?_
      go_simp
      refine hK _ _ ?_
      clear hK K
      refine wpList_plain rfl fun K hK => ?_
      go_simp
      refine hK _ _ ?_
      clear hK K
      refine wpList_plain rfl fun K hK => ?_
      go_simp
      refine hK _ _ ?_
      clear hK K
      refine wpList_plain rfl fun K hK => ?_
      go_simp
      refine hK _ _ ?_
      clear hK K
      refine wpList_plain rfl fun K hK => ?_
      go_simp
      refine hK _ _ ?_
      clear hK K
      refine wpList_plain rfl fun K hK => ?_
      go_simp
      refine hK _ _ ?_
      clear hK K
      refine wpList_plain rfl fun K hK => ?_
      go_simp
      refine hK _ _ ?_
      clear hK K
      refine wpList_plain rfl fun K hK => ?_
      go_simp
      refine hK _ _ ?_
      clear hK K
      refine wpList_plain rfl fun K hK => ?_
      go_simp
      refine hK _ _ ?_
      clear hK K
      refine wpList_plain rfl fun K hK => ?_
      go_simp
      refine hK _ _ ?_
      clear hK K
      refine wpList_plain rfl fun K hK => ?_
      go_simp
      refine hK _ _ ?_
      clear hK K
      refine wpList_plain rfl fun K hK => ?_
      go_simp
      refine hK _ _ ?_
      clear hK K
      refine wpList_plain rfl fun K hK => ?_
      go_simp
      refine hK _ _ ?_
      clear hK K
      refine wpList_buildAny rfl 56 _ rfl (updParts c) (by simp only [List.map_toArray, List.map_cons, List.map_nil]; rfl) _ (built_upd c) ?_
      refine wpList_allocRow rfl 56 rfl zeroCellsR (by kernel_rfl) ?_
      refine wpList_storeRow rfl _ _ 56 rfl rfl v10.heap.size rfl ((recU (fresh 1) c).cells none none 0 0) zeroCellsR rfl _ (heap_alloc_new v10 _) (by kernel_rfl) rfl (ref_one (recU (fresh 1) c) none none 0 0 0 0) ?_
      rw [← HW11.out]
      clear HW11 e0 e1 e2 e3 e4 e5 e6 e7 e8 e9 e10 X10
      go_upto_region 18 with fail
      refine wp_region_lit ?_
      refine wpList_loadRow rfl _ _ rfl v10.heap.size rfl ((recU (fresh 1) c).cells none none 0 0) _ (0, 0) X11.out _ Tryz.underlying56 rfl (by kernel_rfl) ?_
      go_wp2_with fail
      refine HCK.out.mono ?_
      rintro e v12 ⟨rfl, b12⟩
      have B12 := hidx (below_chain B11.out b12)
      have H12 := hidx (H11.out.below b12)
      clear HCK b12 X11 B11 H11
      have HFI := hidx (finish_active H12.out 1 (by omega) (by omega) born_T rfl)
      have HRB := hidx (roll_nilF H12.out 1 (by omega) (by omega) born_T 0)
      have HLD := hidx (load_on H12.out (by show 1 ≤ 1; omega) (by show 1 ≤ 64; omega) 1)
      go_wp2_with fail
      refine HFI.out.mono ?_
      rintro e v13 ⟨rfl, rfl⟩
      clear HFI
      go_wp2_with fail
      refine HRB.out.mono ?_
      rintro e v13 ⟨rfl, rfl⟩
      clear HRB
      go_wp2_with fail
      refine HLD.out.mono ?_
      rintro e v13 ⟨rfl, rfl⟩
      clear HLD
      go_wp2
      go_ret
      exact ⟨rfl, B12.out⟩
  · have hT : mg0.born.T n = none := by
      show (if n = ((1 : Nat) : Int) then some (fresh 1) else none) = none
      rw [if_neg (by simpa using hn)]
    have HNO : Hid (∀ wx, Below v9.heap.size v9 wx → FindNo (.pointer (some ⟨m, 0, none⟩)) n 90 wx) := hidx fun wx b => find_no (H9.out.below b) n hn1 hn2 hT
    have HLG := hidx (log_no (w := v9) (n := n) (E := 90) (some ⟨m, 0, none⟩) HNO.out rfl c)
    have HN := hidx hn
    clear hT hn
    go_wp2_with fail
    refine HLG.out.mono ?_
    rintro e v10 ⟨rfl, b10⟩
    clear HLG
    as_aux_lemma =>
    have B10 := hidx (below_chain B9.out b10)
    have hbe : ((n == 1) : Bool) = false := by rw [beq_eq_false_iff_ne]; exact HN.out
    have HCM := hidx (commit_no (HNO.out v10 b10) rfl)
    have HB1 := hidx (back_any (w := v10) m)
    have bA1 : Below v10.heap.size v10 (v10.alloc (.cells #[.pointer (some ⟨m, 0, none⟩)] 23)) := (Below.refl _ _).alloc (Nat.le_refl _) _
    obtain ⟨W11, HW11⟩ : ∃ W', Hid (W' = v10.alloc (.cells #[.pointer (some ⟨m, 0, none⟩)] 23)) := ⟨_, rfl⟩
    rw [← HW11.out] at bA1
    have HAB := hidx (abort_no (HNO.out W11 (below_chain b10 bA1)) rfl (.func (.func 75) #[] #[.pointer (some ⟨v10.heap.size, 0, none⟩)]))
    have HB2 := hidx (back_any (w := W11) m)
    have bA2 : Below W11.heap.size W11 (W11.alloc (.cells #[.pointer (some ⟨m, 0, none⟩)] 23)) := (Below.refl _ _).alloc (Nat.le_refl _) _
    obtain ⟨W12, HW12⟩ : ∃ W', Hid (W' = W11.alloc (.cells #[.pointer (some ⟨m, 0, none⟩)] 23)) := ⟨_, rfl⟩
    rw [← HW12.out] at bA2
    have HRB := hidx (roll_no (HNO.out W12 (below_chain (below_chain b10 bA1) bA2)) rfl 0 (.func (.func 75) #[] #[.pointer (some ⟨W11.heap.size, 0, none⟩)]))
    have HFN := hidx (finish_no (HNO.out W12 (below_chain (below_chain b10 bA1) bA2)) rfl)
    have HF := hidx (below_chain (below_chain B10.out bA1) bA2)
    clear b10 bA1 bA2 HNO H9 B9 X9 HA9 B10
    go_wp2_with fail
    refine HCM.out.mono ?_
    rintro e v13 ⟨rfl, rfl⟩
    clear HCM
    go_wp2_with fail
    refine HB1.out.mono ?_
    rintro e v13 ⟨rfl, rfl⟩
    rw [← HW11.out]
    clear HB1 HW11
    go_wp2_with fail
    refine HAB.out.mono ?_
    rintro e v13 ⟨rfl, rfl⟩
    clear HAB
    go_wp2_with fail
    refine HB2.out.mono ?_
    rintro e v13 ⟨rfl, rfl⟩
    rw [← HW12.out]
    clear HB2 HW12
    go_wp2_with fail
    refine HRB.out.mono ?_
    rintro e v13 ⟨rfl, rfl⟩
    clear HRB
    go_wp2_with fail
    refine HFN.out.mono ?_
    rintro e v13 ⟨rfl, rfl⟩
    clear HFN
    go_wp2
    go_ret
    exact ⟨rfl, HF.out⟩

end Go.Proofs.YtjemeopafkafgaaGreat

namespace Go.Proofs.YtjemeopafkafgaaGreat
open Go.ChangeShapes Go.WideShapes Go.ChangeAt Go.RowKit
set_option linter.unusedVariables false

theorem bounds_u32 {n : Int} (h : Lit.wf (.int .u32 n) = true) : 0 ≤ n ∧ n ≤ 4294967295 := by
  have e1 : IntKind.u32.min = 0 := by decide
  have e2 : IntKind.u32.max = 4294967295 := by decide
  simpa [Lit.wf, e1, e2] using h
theorem bounds_u64' {n : Int} (h : Lit.wf (.int .u64 n) = true) : 0 ≤ n ∧ n ≤ 18446744073709551615 := by
  have e1 : IntKind.u64.min = 0 := by decide
  have e2 : IntKind.u64.max = 18446744073709551615 := by decide
  simpa [Lit.wf, e1, e2] using h
theorem bounds_i64' {n : Int} (h : Lit.wf (.int .i64 n) = true) : -9223372036854775808 ≤ n ∧ n ≤ 9223372036854775807 := by
  have e1 : IntKind.i64.min = -9223372036854775808 := by decide
  have e2 : IntKind.i64.max = 9223372036854775807 := by decide
  simpa [Lit.wf, e1, e2] using h

end Go.Proofs.YtjemeopafkafgaaGreat

namespace Go.Proofs.YtjemeopafkafgaaGreat
open Go.ChangeShapes Go.WideShapes Go.ChangeAt Go.RowKit Go.Deep
set_option linter.unusedVariables false

theorem ocellsChg : Tryz.prog.cellsOf 64 = 11 := by kernel_rfl
theorem ocellsOp : Tryz.prog.cellsOf 48 = 4 := by kernel_rfl
theorem ocellsEntry : Tryz.prog.cellsOf 52 = 3 := by kernel_rfl
theorem ocellsRID : Tryz.prog.cellsOf 50 = 2 := by kernel_rfl
theorem ocellsBool : Tryz.prog.cellsOf 4 = 1 := by kernel_rfl
theorem ocellsInt : Tryz.prog.cellsOf 3 = 1 := by kernel_rfl
theorem ocellsPage : Tryz.prog.cellsOf 46 = 1 := by kernel_rfl
theorem ocellsString : Tryz.prog.cellsOf 9 = 1 := by kernel_rfl

theorem trod_struct6 {H : Type} {enc : TypeId × Value → H} {P : Program} {w : World} {base : Nat} {spare : Nat → Bool} {held : Bool} {t : TypeId} {f0 f1 f2 f3 f4 f5 : Field} {fuel : Nat} {cs : List Value} {x : DataW H × List MemPlace}
    (ht : P.underlying t = some (.struct #[f0, f1, f2, f3, f4, f5])) (h : DataW.trod enc P w base spare held fuel t cs = some x) :
    ∃ y0 y1 y2 y3 y4 y5 n, x.1 = .agg [y0.1, y1.1, y2.1, y3.1, y4.1, y5.1] ∧
      DataW.trod enc P w base spare held n f0.type ((cs.drop f0.offset).take (P.cellsOf f0.type)) = some y0 ∧ DataW.trod enc P w base spare held n f1.type ((cs.drop f1.offset).take (P.cellsOf f1.type)) = some y1 ∧
      DataW.trod enc P w base spare held n f2.type ((cs.drop f2.offset).take (P.cellsOf f2.type)) = some y2 ∧ DataW.trod enc P w base spare held n f3.type ((cs.drop f3.offset).take (P.cellsOf f3.type)) = some y3 ∧
      DataW.trod enc P w base spare held n f4.type ((cs.drop f4.offset).take (P.cellsOf f4.type)) = some y4 ∧ DataW.trod enc P w base spare held n f5.type ((cs.drop f5.offset).take (P.cellsOf f5.type)) = some y5 := by
  obtain ⟨xs, n, _, rfl, hl, hlen, hf⟩ := DataW.trod_struct ht h
  match xs, hlen with
  | [y0, y1, y2, y3, y4, y5], _ => exact ⟨y0, y1, y2, y3, y4, y5, n, by simp, by simpa using hf 0 f0 rfl, by simpa using hf 1 f1 rfl, by simpa using hf 2 f2 rfl, by simpa using hf 3 f3 rfl, by simpa using hf 4 f4 rfl, by simpa using hf 5 f5 rfl⟩

/-- What is known of a change that was handed in, as plain data. -/
structure ChgIn (c : ChgV) : Prop where
  page : c.page < 4294967296
  op : c.op.Ok
  undo : -9223372036854775808 ≤ c.undo ∧ c.undo ≤ 9223372036854775807
  index : -9223372036854775808 ≤ c.index ∧ c.index ≤ 9223372036854775807
  key : c.key.size ≤ 140737488351232
  rpage : c.rpage < 4294967296
  rslot : -9223372036854775808 ≤ c.rslot ∧ c.rslot ≤ 9223372036854775807

set_option maxHeartbeats 800000 in
set_option maxRecDepth 100000 in
theorem open_chg {H : Type} {enc : TypeId × Value → H} {w : World} {base b0 : Nat} {r : Reach} {spare : Nat → Bool} {held : Bool} {v : Value} {d : DataW H} {pl : List MemPlace}
    (hv : Value.okWide Tryz.prog w r b0 64 v) (h : DataW.Trod enc Tryz.prog w base spare held 64 v d pl) (hw : ∀ n ∈ d.weights Tryz.prog 64, n ≤ reachBytes) :
    ∃ c : ChgV, v = .agg c.cells ∧ ChgIn c := by
  obtain ⟨fuel, hf⟩ := h
  obtain ⟨cs, rfl, hsz⟩ := okWide_struct Tryz.underlying64 hv
  rw [ocellsChg] at hsz
  obtain ⟨l⟩ := cs
  obtain ⟨v0, v1, v2, v3, v4, v5, v6, v7, v8, v9, v10, rfl⟩ : ∃ v0 v1 v2 v3 v4 v5 v6 v7 v8 v9 v10, l = [v0, v1, v2, v3, v4, v5, v6, v7, v8, v9, v10] := by
    match l, hsz with
    | [v0, v1, v2, v3, v4, v5, v6, v7, v8, v9, v10], _ => exact ⟨_, _, _, _, _, _, _, _, _, _, _, rfl⟩
  simp only [Value.cells] at hf
  obtain ⟨y0, y1, y2, y3, y4, y5, n, hx, g0, g1, g2, g3, g4, g5⟩ := trod_struct6 Tryz.underlying64 hf
  simp only [ocellsInt, ocellsPage, ocellsOp, ocellsEntry, ocellsBool] at g0 g1 g2 g3 g4 g5
  obtain ⟨x0, e0, rfl, w0⟩ := DataW.trod_int Tryz.underlying46 g0
  obtain ⟨x2, e2, rfl, w2⟩ := DataW.trod_int Tryz.underlying3 g2
  obtain ⟨x3, e3, rfl, w3⟩ := DataW.trod_int Tryz.underlying3 g3
  obtain ⟨x5, e5, rfl⟩ := DataW.trod_bool Tryz.underlying4 g5
  obtain ⟨z0, z1, z2, z3, n1, hx1, _, o0, o1, o2, o3⟩ := Joins.trod_struct4 Tryz.underlying48 g1
  simp only [ocellsInt, ocellsString] at o0 o1 o2 o3
  obtain ⟨q0, f0, rfl, u0⟩ := DataW.trod_int Tryz.underlying3 o0
  obtain ⟨q1, f1, rfl, u1⟩ := DataW.trod_int Tryz.underlying3 o1
  obtain ⟨q2, f2, rfl, u2⟩ := DataW.trod_string Tryz.underlying9 o2
  obtain ⟨q3, f3, rfl, u3⟩ := DataW.trod_string Tryz.underlying9 o3
  obtain ⟨s0, s1, n4, hx4, _, p0, p1⟩ := Go.ChangeShapes.trod_struct2 Tryz.underlying52 g4
  simp only [ocellsString, ocellsRID] at p0 p1
  obtain ⟨t0, h0, rfl, m0⟩ := DataW.trod_string Tryz.underlying9 p0
  obtain ⟨s2, s3, n9, hx9, _, p2, p3⟩ := Go.ChangeShapes.trod_struct2 Tryz.underlying50 p1
  simp only [ocellsPage, ocellsInt] at p2 p3
  obtain ⟨t1, h1, rfl, m1⟩ := DataW.trod_int Tryz.underlying46 p2
  obtain ⟨t2, h2, rfl, m2⟩ := DataW.trod_int Tryz.underlying3 p3
  simp at e0 e2 e3 e5 f0 f1 f2 f3 h0 h1 h2
  subst e0 e2 e3 e5 f0 f1 f2 f3 h0 h1 h2
  simp only at hx
  subst hx
  have hS : q2.size ≤ 140737488351232 := by
    have := hw q2.data.toList.length (by rw [hx1]; simp [DataW.weights, Tryz.underlying64, Tryz.underlying48, DataW.weightsEach])
    simpa [reachBytes] using this
  have hO : q3.size ≤ 140737488351232 := by
    have := hw q3.data.toList.length (by rw [hx1]; simp [DataW.weights, Tryz.underlying64, Tryz.underlying48, DataW.weightsEach])
    simpa [reachBytes] using this
  have hK : t0.size ≤ 140737488351232 := by
    have := hw t0.data.toList.length (by rw [hx4]; simp [DataW.weights, Tryz.underlying64, Tryz.underlying52, DataW.weightsEach])
    simpa [reachBytes] using this
  obtain ⟨k4, k4'⟩ := bounds_u32 w0
  obtain ⟨k5, k5'⟩ := bounds_u32 m1
  obtain ⟨n0, rfl⟩ := Int.eq_ofNat_of_zero_le k4
  obtain ⟨n6, rfl⟩ := Int.eq_ofNat_of_zero_le k5
  exact ⟨⟨n0, ⟨q0, q1, q2, q3⟩, x2, x3, t0, n6, t2, x5⟩, rfl, ⟨by show n0 < _; omega, ⟨bounds_i64' u0, bounds_i64' u1, hS, hO⟩, bounds_i64' w2, bounds_i64' w3, hK, by show n6 < _; omega, bounds_i64' m2⟩⟩

end Go.Proofs.YtjemeopafkafgaaGreat

namespace Go.Proofs.YtjemeopafkafgaaGreat.LawTxnErrors
open Go.ChangeShapes Go.WideShapes Go.ChangeAt Go.RowKit
open Go.ChangeMaps (open_string shut_string)
set_option linter.unusedVariables false

theorem own : ownKnob Tryz.prog.godebug = none := by kernel_rfl
theorem laidOut : laidOutB Tryz.prog = true := by kernel_rfl

theorem chg_ok {c : ChgV} (h : ChgIn c) : ChgOk c :=
  ⟨fun wx => ⟨by show (-9223372036854775808 : Int) ≤ 1 ∧ (1 : Int) ≤ 9223372036854775807; omega, by show (-9223372036854775808 : Int) ≤ ((1 : Nat) : Int) ∧ ((1 : Nat) : Int) ≤ 9223372036854775807; omega, by show (0 : Nat) < 18446744073709551616; omega, by show (0 : Nat) < 18446744073709551616; omega, h.page, h.op, h.undo, h.index, h.key, h.rpage, h.rslot, by show ([] : List TxV).length * 32 ≤ _; simp, by show ([] : List DiV).length * 16 ≤ _; simp, .inl rfl, .inl rfl⟩, h.op, h.page⟩

set_option maxRecDepth 100000 in
theorem lifted (os : Os) (started : os.Started) (H : Type) (enc : TypeId × Value → H) :
    ReturnsInHanded {} Tryz.checked os 4 .any (Rows.txnErrorsSpec.pre6 enc Tryz.prog Tryz.f4 Rows.txnErrorsRow.domain false) (Rows.txnErrorsSpec.post enc Tryz.prog Tryz.f4 false true false false) := by
  refine returnsInHanded_of_change_sized (C := Tryz.checked) own started (by kernel_rfl) Tryz.func4
    (ChangeSpec.witness6 (enc := enc) (C := Tryz.checked) false ⟨#[], #[.int .i64 0, .agg #[.int .u32 0, .int .i64 0, .int .i64 0, .string ⟨#[]⟩, .string ⟨#[]⟩, .int .i64 0, .int .i64 0, .string ⟨#[]⟩, .int .u32 0, .int .i64 0, .bool false]], []⟩ 8 (by kernel_rfl) (by kernel_rfl) (by kernel_rfl) (by kernel_rfl)) ?_
  intro W base args ds gs before hval0 hW hcnd hsz0 _
  have hval : ∀ (j : Nat) t v, Tryz.f4.params[j]? = some t → args[j]? = some v → Value.okWide Tryz.prog W .any base t v := hval0
  have hsz : (DataW.weightsEach Tryz.prog (Tryz.f4.params.toList ++ Rows.txnErrorsSpec.plain.varTypes Tryz.prog) (ds ++ gs)).all (· ≤ reachBytes) = true := hsz0
  have hW' := hW
  obtain ⟨p, q, hA0, hV, rfl, hfz, hnd⟩ := hW
  have hA : DataW.TrodAll enc Tryz.prog W 0 (fun _ => true) true Tryz.f4.params.toList args.toList ds p := hA0
  rw [Tryz.params4] at hA hval hsz
  obtain ⟨v0, v1, d0, d1, p0, p1, rfl, rfl, rfl, h0, h1⟩ := trodAll_two hA
  obtain ⟨rfl, rfl⟩ := trodVars_none hV
  have k1 := h1
  have lt1 : ∀ x ∈ p1, x.block < W.heap.size := by obtain ⟨m, hm⟩ := k1; exact DataW.trod_lt m _ _ _ hm
  have s1 : ∀ n ∈ d1.weights Tryz.prog 64, n ≤ reachBytes := fun n hn => by simpa using List.all_eq_true.1 hsz _ (DataW.weights_mem_each (j := 1) rfl rfl n hn)
  obtain ⟨n0, rfl, rfl, rfl, wn0⟩ := open_int Tryz.underlying3 (hval 0 3 v0 rfl rfl) h0
  have hx := bounds_i64' wn0
  obtain ⟨c, rfl, hc⟩ := open_chg (hval 1 64 v1 rfl rfl) h1 s1
  clear hA0 hval0 hsz hsz0
  refine (errors_walk n0 hx.1 hx.2 c (chg_ok hc) W).mono fun e W' ⟨he, bel⟩ => ?_
  subst he
  exact ⟨_, rfl, _, _, _, [], _, [], hW', trodAll_mk1 (shut_bool Tryz.underlying4 _), trodAll_mk2 (shut_int Tryz.underlying3 wn0) (Below.trod laidOut (by kernel_rfl) (of_decide_eq_true (by kernel_rfl)) k1 bel lt1), rfl, bel.frame _, fun h => by cases h⟩

theorem over : Rows.txnErrorsRow.holds Tryz.pinned (OpenSpec.ofChange Rows.txnErrorsSpec) :=
  OpenClaim.holds_of_wide 4 Tryz.f4 rfl rfl rfl rfl rfl rfl rfl ⟨rfl, rfl, rfl, rfl, rfl⟩ rfl rfl rfl rfl rfl (by kernel_rfl) Tryz.func4 (by kernel_rfl)
    (of_decide_eq_true (by kernel_rfl)) (by unfold Func.isWrapper; first | (rw [if_pos (by decide +kernel)]; kernel_rfl) | (rw [if_neg (by decide +kernel)]; exact ⟨rfl, rfl⟩))
    (fun os started H enc _ => lifted os started H enc)

end Go.Proofs.YtjemeopafkafgaaGreat.LawTxnErrors

namespace Go.Proofs.YtjemeopafkafgaaGreat
theorem txnErrors_holds : Rows.TxnErrorsSaid := LawTxnErrors.over
#print axioms txnErrors_holds
end Go.Proofs.YtjemeopafkafgaaGreat
