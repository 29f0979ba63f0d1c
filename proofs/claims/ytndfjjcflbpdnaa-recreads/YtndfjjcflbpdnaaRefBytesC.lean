/-
  The walk of girderref04.Bytes, of a record that may be.
-/
import Derived.Test.YtndfjjcflbpdnaaRefTextC
import Derived.Deep.RegionWith
import Derived.Lib.QuietBelow
namespace Go.Proofs.Ytndfjjcflbpdnaa
open Go.RowKit Go.Sort
set_option linter.unusedVariables false
set_option linter.unusedSimpArgs false

theorem textB_is (s : ByteArray) (h : s.size ≤ 65535) : textB s = putL s.size 2 ++ s.data.toList := by
  unfold textB
  rw [if_pos h]

set_option maxHeartbeats 12800000 in
set_option maxRecDepth 20000 in
theorem rbytes_any (r : RecV) (ta da : Option Addr) (tc dc : Nat) (w : World) (h : r.Ok w ta da) (hmr : mayR r = true) (hwd : r.Wide) :
    Calls Try.prog 8 #[.agg (r.cells ta da tc dc)] w fun e w' => e = .returned (.string ⟨(encR r).toArray⟩) ∧ Below w.heap.size w w' := by
  have hm := may_parts hmr
  have HU0 : Hid (r.kind = 2 → r.undo = 0) := fun hk => by
    have h4 : cmayB r = true := by
      unfold mayR at hmr
      simp only [Bool.and_eq_true, Bool.or_eq_true, Bool.not_eq_true', decide_eq_true_eq] at hmr
      exact hmr.2.2.2.1.resolve_left (by unfold changeB; rw [hk]; simp)
    unfold cmayB at h4
    simp only [Bool.and_eq_true, decide_eq_true_eq] at h4
    have := h4.2.2
    rw [if_pos hk] at this
    simpa using this
  have HM := hidr hm
  have HWD := hidr hwd
  have HTX := hidr h.txs
  have HDI := hidr h.dirty
  have hprev := h.prev
  have hnext := h.next
  have hpage := h.page
  have hrpage := h.rpage
  obtain ⟨kn, hkn⟩ : ∃ kn : Nat, r.kind = (kn : Int) := ⟨r.kind.toNat, by have := hm.kind; omega⟩
  obtain ⟨tn, htn⟩ : ∃ tn : Nat, r.tx = (tn : Int) := ⟨r.tx.toNat, by have := hm.tx; omega⟩
  have hkb : 1 ≤ kn ∧ kn ≤ 8 := by have := hm.kind; omega
  have htb : tn ≤ 2147483647 := by have := hm.tx; omega
  have HKN := hidr hkn
  have HTN := hidr htn
  clear hkn htn h hm hmr hwd
  obtain ⟨W, HW⟩ : ∃ W, Hid (W = w.alloc (.cells (r.cells ta da tc dc) 43)) := ⟨_, rfl⟩
  have HB : Hid (Below w.heap.size w W ∧ w.heap.size < W.heap.size ∧ BlkR W w.heap.size (r.cells ta da tc dc) 43) := by rw [HW.out]; exact ⟨(Below.refl _ _).alloc (Nat.le_refl _) _, by simp, heap_alloc_new w _⟩
  have HPAR : Hid (r.cells ta da tc dc = #[.int .i64 r.kind, .int .i64 r.tx, .int .u64 r.prev, .int .u64 r.next, .int .u32 r.page, .int .i64 r.op.kind, .int .i64 r.op.at', .string r.op.S, .string r.op.old, .int .i64 r.undo, .int .i64 r.index, .string r.key, .int .u32 r.rpage, .int .i64 r.rslot, .bool r.live, .slice ta r.txs.length tc, .slice da r.dirty.length dc]) := rfl
  obtain ⟨E, HE⟩ : ∃ E, Hid (encR r = E) := ⟨_, rfl⟩
  rw [HE.out]
  rw [HPAR.out]
  go_enter Try.func8, Try.ntmps8
  go_upto_region 1 with fail
  rw [← HPAR.out, show w.alloc (.cells (r.cells ta da tc dc) 43) = W from HW.out.symm]
  clear HW HPAR
  obtain ⟨z0, z1, z2⟩ : W.cell? ⟨w.heap.size, 0, none⟩ = some (.int .i64 (kn : Int)) ∧ W.cell? ⟨w.heap.size, 1, none⟩ = some (.int .i64 (tn : Int)) ∧ W.cell? ⟨w.heap.size, 2, none⟩ = some (.int .u64 r.prev) := by
    rw [← HKN.out, ← HTN.out]
    exact ⟨HB.out.2.2.cell 0, HB.out.2.2.cell 1, HB.out.2.2.cell 2⟩
  have gx0 := cell_regrown z0
  have gx1 := cell_regrown z1
  have gx2 := cell_regrown z2
  obtain ⟨A1, HA1⟩ : ∃ A : ByteArray, Hid (A = ⟨(putL kn 1).toArray⟩) := ⟨_, rfl⟩
  have s1 : A1.size = 1 := by rw [HA1.out, bytes_size, putL_length]
  have q1 : ∀ dd os, Calls Try.prog 29 #[.int .u64 kn, .int .i64 1] (grow (redrawn W dd) os) fun e w'' => e = .returned (.string A1) ∧ ∃ p : Regrown, w'' = grow (redrawn W p.d) p.os := fun dd os => Calls.regrown_of (by rw [HA1.out]; exact rput4 kn 1 _ (by omega) (by omega))
  obtain ⟨A2, HA2⟩ : ∃ A : ByteArray, Hid (A = ⟨(putL tn 4).toArray⟩) := ⟨_, rfl⟩
  have s2 : A2.size = 4 := by rw [HA2.out, bytes_size, putL_length]
  have q2 : ∀ dd os, Calls Try.prog 29 #[.int .u64 tn, .int .i64 4] (grow (redrawn W dd) os) fun e w'' => e = .returned (.string A2) ∧ ∃ p : Regrown, w'' = grow (redrawn W p.d) p.os := fun dd os => Calls.regrown_of (by rw [HA2.out]; exact rput4 tn 4 _ (by omega) (by omega))
  obtain ⟨A3, HA3⟩ : ∃ A : ByteArray, Hid (A = ⟨(putL r.prev 8).toArray⟩) := ⟨_, rfl⟩
  have s3 : A3.size = 8 := by rw [HA3.out, bytes_size, putL_length]
  have q3 : ∀ dd os, Calls Try.prog 29 #[.int .u64 r.prev, .int .i64 8] (grow (redrawn W dd) os) fun e w'' => e = .returned (.string A3) ∧ ∃ p : Regrown, w'' = grow (redrawn W p.d) p.os := fun dd os => Calls.regrown_of (by rw [HA3.out]; exact rput4 r.prev 8 _ (by omega) (by omega))
  have u1 : IntKind.u64.wrap (kn : Int) = (kn : Int) := by rw [IntKind.wrap_u64]; omega
  have u2 : IntKind.u64.wrap (tn : Int) = (tn : Int) := by rw [IntKind.wrap_u64]; omega
  refine wp_region_quiet_below mixed (by kernel_rfl) ?_
  iterate 4 (quiet_step (first | (go_at_call 29; exact q1 _ _)))
  iterate 5 (quiet_step (first | (go_at_call 29; exact q2 _ _)))
  iterate 5 (quiet_step (first | (go_at_call 29; exact q3 _ _)))
  refine wpQuiet_nil ?_
  intro _ hw'
  obtain ⟨⟨dq, osq⟩, hw''⟩ := hw'
  subst hw''
  have HG := hidr (below_regrown W dq osq)
  obtain ⟨w1, HW2⟩ : ∃ x, Hid (x = grow (redrawn W dq) osq) := ⟨_, rfl⟩
  rw [← HW2.out] at HG ⊢
  have HB1 : Hid (Below w.heap.size w w1 ∧ w.heap.size < w1.heap.size ∧ BlkR w1 w.heap.size (r.cells ta da tc dc) 43) := ⟨below_chain HB.out.1 HG.out, Nat.lt_of_lt_of_le HB.out.2.1 HG.out.size, HB.out.2.2.same (HG.out.block _ HB.out.2.1)⟩
  obtain ⟨T0, HT0⟩ : ∃ x, Hid (x = A1 ++ A2 ++ A3) := ⟨_, rfl⟩
  have hT0s : T0.size = 13 := by rw [HT0.out]; simp only [ByteArray.size_append, s1, s2, s3] <;> omega
  have HT0d : Hid (T0.data.toList = putL kn 1 ++ (putL tn 4 ++ putL r.prev 8)) := by
    show _ = _
    rw [HT0.out]
    simp only [ByteArray.data_append, Array.toList_append, HA1.out, HA2.out, HA3.out, List.append_assoc]
  rw [← HT0.out]
  try simp only
  clear HW2 HG HT0 HA1 HA2 HA3 q1 q2 q3 s1 s2 s3 u1 u2 gx0 gx1 gx2 z0 z1 z2 HB
  have z0 : w1.cell? ⟨w.heap.size, 0, none⟩ = some (.int .i64 (kn : Int)) := by rw [← HKN.out]; exact HB1.out.2.2.cell 0
  have HEN : Hid (E = T0.data.toList ++ ((if nextB r then putL r.next 8 else []) ++ ((if changeB r then changeL r else []) ++ ((if keyB r then keyL r else []) ++ (if listsB r then txsL r.txs ++ disL r.dirty else []))))) := by
    show _ = _
    rw [← HE.out, HT0d.out]
    unfold encR
    rw [HKN.out, HTN.out]
    simp only [Int.toNat_natCast, List.append_assoc]
  clear HE HT0d
  have HFIN : Hid (∀ T : ByteArray, T.data.toList = E → Ending.returned (.string T) = .returned (.string ⟨E.toArray⟩)) := fun T hT => by rw [← hT, bytes_self]
  have hcases : kn = 1 ∨ kn = 2 ∨ kn = 3 ∨ kn = 8 ∨ (4 ≤ kn ∧ kn ≤ 7) := by omega
  rcases hcases with hk | hk | hk | hk | hk
  · subst hk
    go_wp2_with fail
    clear z0
    obtain ⟨hpz, hok, hoa, hoS, hoT, hou⟩ := HM.out.change (by unfold changeB; rw [HKN.out]; rfl)
    obtain ⟨ok, hokn⟩ : ∃ n : Nat, r.op.kind = (n : Int) := ⟨r.op.kind.toNat, by omega⟩
    obtain ⟨oa, hoan⟩ : ∃ n : Nat, r.op.at' = (n : Int) := ⟨r.op.at'.toNat, by omega⟩
    obtain ⟨un, hun⟩ : ∃ n : Nat, r.undo = (n : Int) := ⟨r.undo.toNat, by omega⟩
    rw [hokn] at hok
    rw [hoan] at hoa
    rw [hun] at hou
    have HOK := hidr hokn
    have HOA := hidr hoan
    have HUN := hidr hun
    clear hokn hoan hun hpz
    obtain ⟨y4, y5, y6, y7, y8, y9⟩ : w1.cell? ⟨w.heap.size, 4, none⟩ = some (.int .u32 r.page) ∧ w1.cell? ⟨w.heap.size, 5, none⟩ = some (.int .i64 (ok : Int)) ∧ w1.cell? ⟨w.heap.size, 6, none⟩ = some (.int .i64 (oa : Int)) ∧ w1.cell? ⟨w.heap.size, 7, none⟩ = some (.string r.op.S) ∧ w1.cell? ⟨w.heap.size, 8, none⟩ = some (.string r.op.old) ∧ w1.cell? ⟨w.heap.size, 9, none⟩ = some (.int .i64 (un : Int)) := by
      rw [← HOK.out, ← HOA.out, ← HUN.out]
      exact ⟨HB1.out.2.2.cell 4, HB1.out.2.2.cell 5, HB1.out.2.2.cell 6, HB1.out.2.2.cell 7, HB1.out.2.2.cell 8, HB1.out.2.2.cell 9⟩
    have gx4 := cell_regrown y4
    have gx5 := cell_regrown y5
    have gx6 := cell_regrown y6
    have gx7 := cell_regrown y7
    have gx8 := cell_regrown y8
    have gx9 := cell_regrown y9
    obtain ⟨A1, HA1⟩ : ∃ A : ByteArray, Hid (A = ⟨(putL r.page 4).toArray⟩) := ⟨_, rfl⟩
    have s1 : A1.size = 4 := by rw [HA1.out, bytes_size, putL_length]
    have q1 : ∀ dd os, Calls Try.prog 29 #[.int .u64 r.page, .int .i64 4] (grow (redrawn w1 dd) os) fun e w'' => e = .returned (.string A1) ∧ ∃ p : Regrown, w'' = grow (redrawn w1 p.d) p.os := fun dd os => Calls.regrown_of (by rw [HA1.out]; exact rput4 r.page 4 _ (by omega) (by omega))
    obtain ⟨A2, HA2⟩ : ∃ A : ByteArray, Hid (A = ⟨(putL ok 1).toArray⟩) := ⟨_, rfl⟩
    have s2 : A2.size = 1 := by rw [HA2.out, bytes_size, putL_length]
    have q2 : ∀ dd os, Calls Try.prog 29 #[.int .u64 ok, .int .i64 1] (grow (redrawn w1 dd) os) fun e w'' => e = .returned (.string A2) ∧ ∃ p : Regrown, w'' = grow (redrawn w1 p.d) p.os := fun dd os => Calls.regrown_of (by rw [HA2.out]; exact rput4 ok 1 _ (by omega) (by omega))
    obtain ⟨A3, HA3⟩ : ∃ A : ByteArray, Hid (A = ⟨(putL oa 2).toArray⟩) := ⟨_, rfl⟩
    have s3 : A3.size = 2 := by rw [HA3.out, bytes_size, putL_length]
    have q3 : ∀ dd os, Calls Try.prog 29 #[.int .u64 oa, .int .i64 2] (grow (redrawn w1 dd) os) fun e w'' => e = .returned (.string A3) ∧ ∃ p : Regrown, w'' = grow (redrawn w1 p.d) p.os := fun dd os => Calls.regrown_of (by rw [HA3.out]; exact rput4 oa 2 _ (by omega) (by omega))
    obtain ⟨A6, HA6⟩ : ∃ A : ByteArray, Hid (A = ⟨(putL un 1).toArray⟩) := ⟨_, rfl⟩
    have s6 : A6.size = 1 := by rw [HA6.out, bytes_size, putL_length]
    have q6 : ∀ dd os, Calls Try.prog 29 #[.int .u64 un, .int .i64 1] (grow (redrawn w1 dd) os) fun e w'' => e = .returned (.string A6) ∧ ∃ p : Regrown, w'' = grow (redrawn w1 p.d) p.os := fun dd os => Calls.regrown_of (by rw [HA6.out]; exact rput4 un 1 _ (by omega) (by omega))
    obtain ⟨A4, HA4⟩ : ∃ A : ByteArray, Hid (A = ⟨(putL r.op.S.size 2).toArray⟩ ++ r.op.S) := ⟨_, rfl⟩
    obtain ⟨xS, s4⟩ : ∃ x : Nat, A4.size = x := ⟨_, rfl⟩
    have b4 : xS ≤ 514 := by rw [← s4, HA4.out, ByteArray.size_append, bytes_size, putL_length]; omega
    have q4 : ∀ dd os, Calls Try.prog 30 #[.string r.op.S] (grow (redrawn w1 dd) os) fun e w'' => e = .returned (.string A4) ∧ ∃ p : Regrown, w'' = grow (redrawn w1 p.d) p.os := fun dd os => Calls.regrown_of (by rw [HA4.out]; exact r4text_any r.op.S _ (by omega))
    obtain ⟨A5, HA5⟩ : ∃ A : ByteArray, Hid (A = ⟨(putL r.op.old.size 2).toArray⟩ ++ r.op.old) := ⟨_, rfl⟩
    obtain ⟨xT, s5⟩ : ∃ x : Nat, A5.size = x := ⟨_, rfl⟩
    have b5 : xT ≤ 514 := by rw [← s5, HA5.out, ByteArray.size_append, bytes_size, putL_length]; omega
    have q5 : ∀ dd os, Calls Try.prog 30 #[.string r.op.old] (grow (redrawn w1 dd) os) fun e w'' => e = .returned (.string A5) ∧ ∃ p : Regrown, w'' = grow (redrawn w1 p.d) p.os := fun dd os => Calls.regrown_of (by rw [HA5.out]; exact r4text_any r.op.old _ (by omega))
    have u1 : IntKind.u64.wrap (r.page : Int) = (r.page : Int) := by rw [IntKind.wrap_u64]; omega
    have u2 : IntKind.u64.wrap (ok : Int) = (ok : Int) := by rw [IntKind.wrap_u64]; omega
    have u3 : IntKind.u64.wrap (oa : Int) = (oa : Int) := by rw [IntKind.wrap_u64]; omega
    have u6 : IntKind.u64.wrap (un : Int) = (un : Int) := by rw [IntKind.wrap_u64]; omega
    have n1 : ¬ (9223372036854775807 < 4 + 1 + 2 + xS) := by omega
    have n2 : ¬ (9223372036854775807 < 4 + 1 + 2 + xS + xT) := by omega
    have n3 : ¬ (9223372036854775807 < 4 + 1 + 2 + xS + xT + 1) := by omega
    have n4 : ¬ (9223372036854775807 < T0.size + (4 + 1 + 2 + xS + xT + 1)) := by omega
    have n5 : ¬ (9223372036854775807 < 13 + (4 + 1 + 2 + xS + xT + 1)) := by omega
    refine wp_region_quiet_below mixed (by kernel_rfl) ?_
    iterate 5 (quiet_step (first | (go_at_call 29; exact q1 _ _)))
    iterate 5 (quiet_step (first | (go_at_call 29; exact q2 _ _)))
    iterate 6 (quiet_step (first | (go_at_call 29; exact q3 _ _)))
    iterate 5 (quiet_step (first | (go_at_call 30; exact q4 _ _)))
    iterate 5 (quiet_step (first | (go_at_call 30; exact q5 _ _)))
    iterate 5 (quiet_step (first | (go_at_call 29; exact q6 _ _)))
    iterate 3 (quiet_step (first | (exact q6 _ _)))
    refine wpQuiet_nil ?_
    intro _ hw'
    obtain ⟨⟨dq, osq⟩, hw''⟩ := hw'
    subst hw''
    have HG := hidr (below_regrown w1 dq osq)
    obtain ⟨w2, HW2⟩ : ∃ x, Hid (x = grow (redrawn w1 dq) osq) := ⟨_, rfl⟩
    rw [← HW2.out] at HG ⊢
    have HB2 : Hid (Below w.heap.size w w2 ∧ w.heap.size < w2.heap.size ∧ BlkR w2 w.heap.size (r.cells ta da tc dc) 43) := ⟨below_chain HB1.out.1 HG.out, Nat.lt_of_lt_of_le HB1.out.2.1 HG.out.size, HB1.out.2.2.same (HG.out.block _ HB1.out.2.1)⟩
    obtain ⟨T1, HT1⟩ : ∃ x, Hid (x = T0 ++ (A1 ++ A2 ++ A3 ++ A4 ++ A5 ++ A6)) := ⟨_, rfl⟩
    have hT1s : T1.size ≤ 2000 := by rw [HT1.out]; simp only [ByteArray.size_append, hT0s, s1, s2, s3, s4, s5, s6] <;> omega
    have HT1d : Hid (T1.data.toList = T0.data.toList ++ changeL r) := by
      show _ = _
      rw [HT1.out]
      simp only [ByteArray.data_append, Array.toList_append, HA1.out, HA2.out, HA3.out, HA4.out, HA5.out, HA6.out, changeL, HOK.out, HOA.out, HUN.out, Int.toNat_natCast, textB_is _ (show r.op.S.size ≤ 65535 by omega), textB_is _ (show r.op.old.size ≤ 65535 by omega), List.append_assoc]
    rw [← HT1.out]
    try simp only
    clear HW2 HG HT1 HA1 HA2 HA3 HA4 HA5 HA6 q1 q2 q3 q4 q5 q6 s1 s2 s3 s4 s5 s6 u1 u2 u3 u6 n1 n2 n3 n4 n5 b4 b5 gx4 gx5 gx6 gx7 gx8 gx9 y4 y5 y6 y7 y8 y9 HOK HOA
    have z0 : w2.cell? ⟨w.heap.size, 0, none⟩ = some (.int .i64 1) := by
      have := HB2.out.2.2.cell 0
      rw [show (r.cells ta da tc dc)[0]? = some (.int .i64 r.kind) from rfl, HKN.out] at this
      exact this
    have z9 : w2.cell? ⟨w.heap.size, 9, none⟩ = some (.int .i64 (un : Int)) := by rw [← HUN.out]; exact HB2.out.2.2.cell 9
    have hnb : nextB r = false := by unfold nextB; rw [HKN.out]; rfl
    have hcb : changeB r = true := by unfold changeB; rw [HKN.out]; rfl
    have hlb : listsB r = false := by unfold listsB; rw [HKN.out]; rfl
    by_cases hu2 : un = 2
    rotate_left
    · have hu2' : ((un : Int) == 2) = false := by rw [beq_eq_false_iff_ne]; omega
      have hkb : keyB r = false := by
        unfold keyB
        rw [HUN.out]
        simp only [decide_eq_false_iff_not]
        omega
      have HEQ : Hid (T1.data.toList = E) := by
        show _ = _
        rw [HEN.out, HT1d.out, hnb, hcb, hkb, hlb]
        simp
      clear HEN HT1d hnb hcb hkb hlb hu2
      go_wp2_with fail
      go_ret
      exact ⟨HFIN.out _ HEQ.out, HB2.out.1⟩
    · subst hu2
      have hkb : keyB r = true := by unfold keyB; rw [HUN.out, HKN.out]; rfl
      obtain ⟨hix, hky, hrs⟩ := HM.out.key hkb
      obtain ⟨ix, hixn⟩ : ∃ n : Nat, r.index = (n : Int) := ⟨r.index.toNat, by omega⟩
      obtain ⟨rs, hrsn⟩ : ∃ n : Nat, r.rslot = (n : Int) := ⟨r.rslot.toNat, by omega⟩
      rw [hixn] at hix
      rw [hrsn] at hrs
      have HIX := hidr hixn
      have HRS := hidr hrsn
      clear hixn hrsn
      have z14 : w2.cell? ⟨w.heap.size, 14, none⟩ = some (.bool r.live) := HB2.out.2.2.cell 14
      have HEK : Hid (E = T1.data.toList ++ keyL r) := by
        show _ = _
        rw [HEN.out, HT1d.out, hnb, hcb, hkb, hlb]
        simp
      clear HEN HT1d hnb hcb hkb hlb
      cases hlv : r.live
      case false =>
        rw [hlv] at z14
        have HLV := hidr hlv
        clear hlv
        go_wp2_with fail
        obtain ⟨y10, y11, y12, y13⟩ : w2.cell? ⟨w.heap.size, 10, none⟩ = some (.int .i64 (ix : Int)) ∧ w2.cell? ⟨w.heap.size, 11, none⟩ = some (.string r.key) ∧ w2.cell? ⟨w.heap.size, 12, none⟩ = some (.int .u32 r.rpage) ∧ w2.cell? ⟨w.heap.size, 13, none⟩ = some (.int .i64 (rs : Int)) := by
          rw [← HIX.out, ← HRS.out]
          exact ⟨HB2.out.2.2.cell 10, HB2.out.2.2.cell 11, HB2.out.2.2.cell 12, HB2.out.2.2.cell 13⟩
        have gx0 := cell_regrown y10
        have gx1 := cell_regrown y11
        have gx2 := cell_regrown y12
        have gx3 := cell_regrown y13
        obtain ⟨A1, HA1⟩ : ∃ A : ByteArray, Hid (A = ⟨(putL ix 2).toArray⟩) := ⟨_, rfl⟩
        have s1 : A1.size = 2 := by rw [HA1.out, bytes_size, putL_length]
        have q1 : ∀ dd os, Calls Try.prog 29 #[.int .u64 ix, .int .i64 2] (grow (redrawn w2 dd) os) fun e w'' => e = .returned (.string A1) ∧ ∃ p : Regrown, w'' = grow (redrawn w2 p.d) p.os := fun dd os => Calls.regrown_of (by rw [HA1.out]; exact rput4 ix 2 _ (by omega) (by omega))
        obtain ⟨A3, HA3⟩ : ∃ A : ByteArray, Hid (A = ⟨(putL r.rpage 4).toArray⟩) := ⟨_, rfl⟩
        have s3 : A3.size = 4 := by rw [HA3.out, bytes_size, putL_length]
        have q3 : ∀ dd os, Calls Try.prog 29 #[.int .u64 r.rpage, .int .i64 4] (grow (redrawn w2 dd) os) fun e w'' => e = .returned (.string A3) ∧ ∃ p : Regrown, w'' = grow (redrawn w2 p.d) p.os := fun dd os => Calls.regrown_of (by rw [HA3.out]; exact rput4 r.rpage 4 _ (by omega) (by omega))
        obtain ⟨A4, HA4⟩ : ∃ A : ByteArray, Hid (A = ⟨(putL rs 2).toArray⟩) := ⟨_, rfl⟩
        have s4 : A4.size = 2 := by rw [HA4.out, bytes_size, putL_length]
        have q4 : ∀ dd os, Calls Try.prog 29 #[.int .u64 rs, .int .i64 2] (grow (redrawn w2 dd) os) fun e w'' => e = .returned (.string A4) ∧ ∃ p : Regrown, w'' = grow (redrawn w2 p.d) p.os := fun dd os => Calls.regrown_of (by rw [HA4.out]; exact rput4 rs 2 _ (by omega) (by omega))
        obtain ⟨A5, HA5⟩ : ∃ A : ByteArray, Hid (A = ⟨(putL 0 1).toArray⟩) := ⟨_, rfl⟩
        have s5 : A5.size = 1 := by rw [HA5.out, bytes_size, putL_length]
        have q5 : ∀ dd os, Calls Try.prog 29 #[.int .u64 0, .int .i64 1] (grow (redrawn w2 dd) os) fun e w'' => e = .returned (.string A5) ∧ ∃ p : Regrown, w'' = grow (redrawn w2 p.d) p.os := fun dd os => Calls.regrown_of (by rw [HA5.out]; exact rput4 0 1 _ (by omega) (by omega))
        obtain ⟨A2, HA2⟩ : ∃ A : ByteArray, Hid (A = ⟨(putL r.key.size 2).toArray⟩ ++ r.key) := ⟨_, rfl⟩
        obtain ⟨xK, s2⟩ : ∃ x : Nat, A2.size = x := ⟨_, rfl⟩
        have b2 : xK ≤ 66 := by rw [← s2, HA2.out, ByteArray.size_append, bytes_size, putL_length]; omega
        have q2 : ∀ dd os, Calls Try.prog 30 #[.string r.key] (grow (redrawn w2 dd) os) fun e w'' => e = .returned (.string A2) ∧ ∃ p : Regrown, w'' = grow (redrawn w2 p.d) p.os := fun dd os => Calls.regrown_of (by rw [HA2.out]; exact r4text_any r.key _ (by omega))
        have u1 : IntKind.u64.wrap (ix : Int) = (ix : Int) := by rw [IntKind.wrap_u64]; omega
        have u3 : IntKind.u64.wrap (r.rpage : Int) = (r.rpage : Int) := by rw [IntKind.wrap_u64]; omega
        have u4 : IntKind.u64.wrap (rs : Int) = (rs : Int) := by rw [IntKind.wrap_u64]; omega
        have n1 : ¬ (9223372036854775807 < 2 + xK) := by omega
        have n2 : ¬ (9223372036854775807 < 2 + xK + 4) := by omega
        have n3 : ¬ (9223372036854775807 < 2 + xK + 4 + 2) := by omega
        have n4 : ¬ (9223372036854775807 < 2 + xK + 4 + 2 + 1) := by omega
        have n5 : ¬ (9223372036854775807 < T1.size + (2 + xK + 4 + 2 + 1)) := by omega
        refine wp_region_quiet_below mixed (by kernel_rfl) ?_
        iterate 5 (quiet_step (first | (go_at_call 29; exact q1 _ _)))
        iterate 3 (quiet_step (first | (go_at_call 30; exact q2 _ _)))
        iterate 5 (quiet_step (first | (go_at_call 29; exact q3 _ _)))
        iterate 5 (quiet_step (first | (go_at_call 29; exact q4 _ _)))
        iterate 3 (quiet_step (first | (go_at_call 29; exact q5 _ _)))
        iterate 3 (quiet_step (first | (exact q5 _ _)))
        refine wpQuiet_nil ?_
        intro _ hw'
        obtain ⟨⟨dq, osq⟩, hw''⟩ := hw'
        subst hw''
        have HG := hidr (below_regrown w2 dq osq)
        obtain ⟨w3, HW2⟩ : ∃ x, Hid (x = grow (redrawn w2 dq) osq) := ⟨_, rfl⟩
        rw [← HW2.out] at HG ⊢
        have HB3 : Hid (Below w.heap.size w w3 ∧ w.heap.size < w3.heap.size ∧ BlkR w3 w.heap.size (r.cells ta da tc dc) 43) := ⟨below_chain HB2.out.1 HG.out, Nat.lt_of_lt_of_le HB2.out.2.1 HG.out.size, HB2.out.2.2.same (HG.out.block _ HB2.out.2.1)⟩
        obtain ⟨T2, HT2⟩ : ∃ x, Hid (x = T1 ++ (A1 ++ A2 ++ A3 ++ A4 ++ A5)) := ⟨_, rfl⟩
        have hT2s : T2.size ≤ 3000 := by rw [HT2.out]; simp only [ByteArray.size_append, s1, s2, s3, s4, s5] <;> omega
        have HT2d : Hid (T2.data.toList = E) := by
          show _ = _
          rw [HT2.out]
          simp only [ByteArray.data_append, Array.toList_append, HA1.out, HA2.out, HA3.out, HA4.out, HA5.out, HEK.out, keyL, HIX.out, HRS.out, HLV.out, Int.toNat_natCast, Bool.toNat_true, Bool.toNat_false, textB_is _ (show r.key.size ≤ 65535 by omega), List.append_assoc]
        rw [← HT2.out]
        try simp only
        clear HW2 HG HT2 HA1 HA2 HA3 HA4 HA5 q1 q2 q3 q4 q5 s1 s2 s3 s4 s5 u1 u3 u4 n1 n2 n3 n4 n5 b2 gx0 gx1 gx2 gx3 y10 y11 y12 y13 HEK z0 z9 z14
        have z0 : w3.cell? ⟨w.heap.size, 0, none⟩ = some (.int .i64 1) := by
          have := HB3.out.2.2.cell 0
          rw [show (r.cells ta da tc dc)[0]? = some (.int .i64 r.kind) from rfl, HKN.out] at this
          exact this
        go_wp2_with fail
        go_ret
        exact ⟨HFIN.out _ HT2d.out, HB3.out.1⟩
      case true =>
        rw [hlv] at z14
        have HLV := hidr hlv
        clear hlv
        go_wp2_with fail
        obtain ⟨y10, y11, y12, y13⟩ : w2.cell? ⟨w.heap.size, 10, none⟩ = some (.int .i64 (ix : Int)) ∧ w2.cell? ⟨w.heap.size, 11, none⟩ = some (.string r.key) ∧ w2.cell? ⟨w.heap.size, 12, none⟩ = some (.int .u32 r.rpage) ∧ w2.cell? ⟨w.heap.size, 13, none⟩ = some (.int .i64 (rs : Int)) := by
          rw [← HIX.out, ← HRS.out]
          exact ⟨HB2.out.2.2.cell 10, HB2.out.2.2.cell 11, HB2.out.2.2.cell 12, HB2.out.2.2.cell 13⟩
        have gx0 := cell_regrown y10
        have gx1 := cell_regrown y11
        have gx2 := cell_regrown y12
        have gx3 := cell_regrown y13
        obtain ⟨A1, HA1⟩ : ∃ A : ByteArray, Hid (A = ⟨(putL ix 2).toArray⟩) := ⟨_, rfl⟩
        have s1 : A1.size = 2 := by rw [HA1.out, bytes_size, putL_length]
        have q1 : ∀ dd os, Calls Try.prog 29 #[.int .u64 ix, .int .i64 2] (grow (redrawn w2 dd) os) fun e w'' => e = .returned (.string A1) ∧ ∃ p : Regrown, w'' = grow (redrawn w2 p.d) p.os := fun dd os => Calls.regrown_of (by rw [HA1.out]; exact rput4 ix 2 _ (by omega) (by omega))
        obtain ⟨A3, HA3⟩ : ∃ A : ByteArray, Hid (A = ⟨(putL r.rpage 4).toArray⟩) := ⟨_, rfl⟩
        have s3 : A3.size = 4 := by rw [HA3.out, bytes_size, putL_length]
        have q3 : ∀ dd os, Calls Try.prog 29 #[.int .u64 r.rpage, .int .i64 4] (grow (redrawn w2 dd) os) fun e w'' => e = .returned (.string A3) ∧ ∃ p : Regrown, w'' = grow (redrawn w2 p.d) p.os := fun dd os => Calls.regrown_of (by rw [HA3.out]; exact rput4 r.rpage 4 _ (by omega) (by omega))
        obtain ⟨A4, HA4⟩ : ∃ A : ByteArray, Hid (A = ⟨(putL rs 2).toArray⟩) := ⟨_, rfl⟩
        have s4 : A4.size = 2 := by rw [HA4.out, bytes_size, putL_length]
        have q4 : ∀ dd os, Calls Try.prog 29 #[.int .u64 rs, .int .i64 2] (grow (redrawn w2 dd) os) fun e w'' => e = .returned (.string A4) ∧ ∃ p : Regrown, w'' = grow (redrawn w2 p.d) p.os := fun dd os => Calls.regrown_of (by rw [HA4.out]; exact rput4 rs 2 _ (by omega) (by omega))
        obtain ⟨A5, HA5⟩ : ∃ A : ByteArray, Hid (A = ⟨(putL 1 1).toArray⟩) := ⟨_, rfl⟩
        have s5 : A5.size = 1 := by rw [HA5.out, bytes_size, putL_length]
        have q5 : ∀ dd os, Calls Try.prog 29 #[.int .u64 1, .int .i64 1] (grow (redrawn w2 dd) os) fun e w'' => e = .returned (.string A5) ∧ ∃ p : Regrown, w'' = grow (redrawn w2 p.d) p.os := fun dd os => Calls.regrown_of (by rw [HA5.out]; exact rput4 1 1 _ (by omega) (by omega))
        obtain ⟨A2, HA2⟩ : ∃ A : ByteArray, Hid (A = ⟨(putL r.key.size 2).toArray⟩ ++ r.key) := ⟨_, rfl⟩
        obtain ⟨xK, s2⟩ : ∃ x : Nat, A2.size = x := ⟨_, rfl⟩
        have b2 : xK ≤ 66 := by rw [← s2, HA2.out, ByteArray.size_append, bytes_size, putL_length]; omega
        have q2 : ∀ dd os, Calls Try.prog 30 #[.string r.key] (grow (redrawn w2 dd) os) fun e w'' => e = .returned (.string A2) ∧ ∃ p : Regrown, w'' = grow (redrawn w2 p.d) p.os := fun dd os => Calls.regrown_of (by rw [HA2.out]; exact r4text_any r.key _ (by omega))
        have u1 : IntKind.u64.wrap (ix : Int) = (ix : Int) := by rw [IntKind.wrap_u64]; omega
        have u3 : IntKind.u64.wrap (r.rpage : Int) = (r.rpage : Int) := by rw [IntKind.wrap_u64]; omega
        have u4 : IntKind.u64.wrap (rs : Int) = (rs : Int) := by rw [IntKind.wrap_u64]; omega
        have n1 : ¬ (9223372036854775807 < 2 + xK) := by omega
        have n2 : ¬ (9223372036854775807 < 2 + xK + 4) := by omega
        have n3 : ¬ (9223372036854775807 < 2 + xK + 4 + 2) := by omega
        have n4 : ¬ (9223372036854775807 < 2 + xK + 4 + 2 + 1) := by omega
        have n5 : ¬ (9223372036854775807 < T1.size + (2 + xK + 4 + 2 + 1)) := by omega
        refine wp_region_quiet_below mixed (by kernel_rfl) ?_
        iterate 5 (quiet_step (first | (go_at_call 29; exact q1 _ _)))
        iterate 3 (quiet_step (first | (go_at_call 30; exact q2 _ _)))
        iterate 5 (quiet_step (first | (go_at_call 29; exact q3 _ _)))
        iterate 5 (quiet_step (first | (go_at_call 29; exact q4 _ _)))
        iterate 3 (quiet_step (first | (go_at_call 29; exact q5 _ _)))
        iterate 3 (quiet_step (first | (exact q5 _ _)))
        refine wpQuiet_nil ?_
        intro _ hw'
        obtain ⟨⟨dq, osq⟩, hw''⟩ := hw'
        subst hw''
        have HG := hidr (below_regrown w2 dq osq)
        obtain ⟨w3, HW2⟩ : ∃ x, Hid (x = grow (redrawn w2 dq) osq) := ⟨_, rfl⟩
        rw [← HW2.out] at HG ⊢
        have HB3 : Hid (Below w.heap.size w w3 ∧ w.heap.size < w3.heap.size ∧ BlkR w3 w.heap.size (r.cells ta da tc dc) 43) := ⟨below_chain HB2.out.1 HG.out, Nat.lt_of_lt_of_le HB2.out.2.1 HG.out.size, HB2.out.2.2.same (HG.out.block _ HB2.out.2.1)⟩
        obtain ⟨T2, HT2⟩ : ∃ x, Hid (x = T1 ++ (A1 ++ A2 ++ A3 ++ A4 ++ A5)) := ⟨_, rfl⟩
        have hT2s : T2.size ≤ 3000 := by rw [HT2.out]; simp only [ByteArray.size_append, s1, s2, s3, s4, s5] <;> omega
        have HT2d : Hid (T2.data.toList = E) := by
          show _ = _
          rw [HT2.out]
          simp only [ByteArray.data_append, Array.toList_append, HA1.out, HA2.out, HA3.out, HA4.out, HA5.out, HEK.out, keyL, HIX.out, HRS.out, HLV.out, Int.toNat_natCast, Bool.toNat_true, Bool.toNat_false, textB_is _ (show r.key.size ≤ 65535 by omega), List.append_assoc]
        rw [← HT2.out]
        try simp only
        clear HW2 HG HT2 HA1 HA2 HA3 HA4 HA5 q1 q2 q3 q4 q5 s1 s2 s3 s4 s5 u1 u3 u4 n1 n2 n3 n4 n5 b2 gx0 gx1 gx2 gx3 y10 y11 y12 y13 HEK z0 z9 z14
        have z0 : w3.cell? ⟨w.heap.size, 0, none⟩ = some (.int .i64 1) := by
          have := HB3.out.2.2.cell 0
          rw [show (r.cells ta da tc dc)[0]? = some (.int .i64 r.kind) from rfl, HKN.out] at this
          exact this
        go_wp2_with fail
        go_ret
        exact ⟨HFIN.out _ HT2d.out, HB3.out.1⟩
  · subst hk
    have y3 : w1.cell? ⟨w.heap.size, 3, none⟩ = some (.int .u64 r.next) := HB1.out.2.2.cell 3
    obtain ⟨A0, HA0⟩ : ∃ A : ByteArray, Hid (A = ⟨(putL r.next 8).toArray⟩) := ⟨_, rfl⟩
    have s0 : A0.size = 8 := by rw [HA0.out, bytes_size, putL_length]
    have HP : Hid (∀ wx, Calls Try.prog 29 #[.int .u64 r.next, .int .i64 8] wx fun e w' => e = .returned (.string A0) ∧ Below wx.heap.size wx w') := fun wx => by rw [HA0.out]; exact rput4 r.next 8 wx (by omega) (by omega)
    go_wp2_with fail
    refine (HP.out _).mono ?_
    rintro e wn ⟨rfl, bn⟩
    have HBN : Hid (Below w.heap.size w wn ∧ w.heap.size < wn.heap.size ∧ BlkR wn w.heap.size (r.cells ta da tc dc) 43) := ⟨below_chain HB1.out.1 bn, Nat.lt_of_lt_of_le HB1.out.2.1 bn.size, HB1.out.2.2.same (bn.block _ HB1.out.2.1)⟩
    clear HB1 HP bn y3 z0
    have z0 : wn.cell? ⟨w.heap.size, 0, none⟩ = some (.int .i64 2) := by
      have := HBN.out.2.2.cell 0
      rw [show (r.cells ta da tc dc)[0]? = some (.int .i64 r.kind) from rfl, HKN.out] at this
      exact this
    go_upto_region 5 with fail
    obtain ⟨TN, HTN'⟩ : ∃ x, Hid (x = T0 ++ A0) := ⟨_, rfl⟩
    have hTNs : TN.size = 21 := by rw [HTN'.out, ByteArray.size_append, hT0s, s0]
    have HTNd : Hid (TN.data.toList = T0.data.toList ++ putL r.next 8) := by show _ = _; rw [HTN'.out, ByteArray.data_append, Array.toList_append, HA0.out]
    rw [← HTN'.out]
    clear HTN' HA0 s0 z0
    obtain ⟨hpz, hok, hoa, hoS, hoT, hou⟩ := HM.out.change (by unfold changeB; rw [HKN.out]; rfl)
    obtain ⟨ok, hokn⟩ : ∃ n : Nat, r.op.kind = (n : Int) := ⟨r.op.kind.toNat, by omega⟩
    obtain ⟨oa, hoan⟩ : ∃ n : Nat, r.op.at' = (n : Int) := ⟨r.op.at'.toNat, by omega⟩
    obtain ⟨un, hun⟩ : ∃ n : Nat, r.undo = (n : Int) := ⟨r.undo.toNat, by omega⟩
    rw [hokn] at hok
    rw [hoan] at hoa
    rw [hun] at hou
    have HOK := hidr hokn
    have HOA := hidr hoan
    have HUN := hidr hun
    clear hokn hoan hun hpz
    obtain ⟨y4, y5, y6, y7, y8, y9⟩ : wn.cell? ⟨w.heap.size, 4, none⟩ = some (.int .u32 r.page) ∧ wn.cell? ⟨w.heap.size, 5, none⟩ = some (.int .i64 (ok : Int)) ∧ wn.cell? ⟨w.heap.size, 6, none⟩ = some (.int .i64 (oa : Int)) ∧ wn.cell? ⟨w.heap.size, 7, none⟩ = some (.string r.op.S) ∧ wn.cell? ⟨w.heap.size, 8, none⟩ = some (.string r.op.old) ∧ wn.cell? ⟨w.heap.size, 9, none⟩ = some (.int .i64 (un : Int)) := by
      rw [← HOK.out, ← HOA.out, ← HUN.out]
      exact ⟨HBN.out.2.2.cell 4, HBN.out.2.2.cell 5, HBN.out.2.2.cell 6, HBN.out.2.2.cell 7, HBN.out.2.2.cell 8, HBN.out.2.2.cell 9⟩
    have gx4 := cell_regrown y4
    have gx5 := cell_regrown y5
    have gx6 := cell_regrown y6
    have gx7 := cell_regrown y7
    have gx8 := cell_regrown y8
    have gx9 := cell_regrown y9
    obtain ⟨A1, HA1⟩ : ∃ A : ByteArray, Hid (A = ⟨(putL r.page 4).toArray⟩) := ⟨_, rfl⟩
    have s1 : A1.size = 4 := by rw [HA1.out, bytes_size, putL_length]
    have q1 : ∀ dd os, Calls Try.prog 29 #[.int .u64 r.page, .int .i64 4] (grow (redrawn wn dd) os) fun e w'' => e = .returned (.string A1) ∧ ∃ p : Regrown, w'' = grow (redrawn wn p.d) p.os := fun dd os => Calls.regrown_of (by rw [HA1.out]; exact rput4 r.page 4 _ (by omega) (by omega))
    obtain ⟨A2, HA2⟩ : ∃ A : ByteArray, Hid (A = ⟨(putL ok 1).toArray⟩) := ⟨_, rfl⟩
    have s2 : A2.size = 1 := by rw [HA2.out, bytes_size, putL_length]
    have q2 : ∀ dd os, Calls Try.prog 29 #[.int .u64 ok, .int .i64 1] (grow (redrawn wn dd) os) fun e w'' => e = .returned (.string A2) ∧ ∃ p : Regrown, w'' = grow (redrawn wn p.d) p.os := fun dd os => Calls.regrown_of (by rw [HA2.out]; exact rput4 ok 1 _ (by omega) (by omega))
    obtain ⟨A3, HA3⟩ : ∃ A : ByteArray, Hid (A = ⟨(putL oa 2).toArray⟩) := ⟨_, rfl⟩
    have s3 : A3.size = 2 := by rw [HA3.out, bytes_size, putL_length]
    have q3 : ∀ dd os, Calls Try.prog 29 #[.int .u64 oa, .int .i64 2] (grow (redrawn wn dd) os) fun e w'' => e = .returned (.string A3) ∧ ∃ p : Regrown, w'' = grow (redrawn wn p.d) p.os := fun dd os => Calls.regrown_of (by rw [HA3.out]; exact rput4 oa 2 _ (by omega) (by omega))
    obtain ⟨A6, HA6⟩ : ∃ A : ByteArray, Hid (A = ⟨(putL un 1).toArray⟩) := ⟨_, rfl⟩
    have s6 : A6.size = 1 := by rw [HA6.out, bytes_size, putL_length]
    have q6 : ∀ dd os, Calls Try.prog 29 #[.int .u64 un, .int .i64 1] (grow (redrawn wn dd) os) fun e w'' => e = .returned (.string A6) ∧ ∃ p : Regrown, w'' = grow (redrawn wn p.d) p.os := fun dd os => Calls.regrown_of (by rw [HA6.out]; exact rput4 un 1 _ (by omega) (by omega))
    obtain ⟨A4, HA4⟩ : ∃ A : ByteArray, Hid (A = ⟨(putL r.op.S.size 2).toArray⟩ ++ r.op.S) := ⟨_, rfl⟩
    obtain ⟨xS, s4⟩ : ∃ x : Nat, A4.size = x := ⟨_, rfl⟩
    have b4 : xS ≤ 514 := by rw [← s4, HA4.out, ByteArray.size_append, bytes_size, putL_length]; omega
    have q4 : ∀ dd os, Calls Try.prog 30 #[.string r.op.S] (grow (redrawn wn dd) os) fun e w'' => e = .returned (.string A4) ∧ ∃ p : Regrown, w'' = grow (redrawn wn p.d) p.os := fun dd os => Calls.regrown_of (by rw [HA4.out]; exact r4text_any r.op.S _ (by omega))
    obtain ⟨A5, HA5⟩ : ∃ A : ByteArray, Hid (A = ⟨(putL r.op.old.size 2).toArray⟩ ++ r.op.old) := ⟨_, rfl⟩
    obtain ⟨xT, s5⟩ : ∃ x : Nat, A5.size = x := ⟨_, rfl⟩
    have b5 : xT ≤ 514 := by rw [← s5, HA5.out, ByteArray.size_append, bytes_size, putL_length]; omega
    have q5 : ∀ dd os, Calls Try.prog 30 #[.string r.op.old] (grow (redrawn wn dd) os) fun e w'' => e = .returned (.string A5) ∧ ∃ p : Regrown, w'' = grow (redrawn wn p.d) p.os := fun dd os => Calls.regrown_of (by rw [HA5.out]; exact r4text_any r.op.old _ (by omega))
    have u1 : IntKind.u64.wrap (r.page : Int) = (r.page : Int) := by rw [IntKind.wrap_u64]; omega
    have u2 : IntKind.u64.wrap (ok : Int) = (ok : Int) := by rw [IntKind.wrap_u64]; omega
    have u3 : IntKind.u64.wrap (oa : Int) = (oa : Int) := by rw [IntKind.wrap_u64]; omega
    have u6 : IntKind.u64.wrap (un : Int) = (un : Int) := by rw [IntKind.wrap_u64]; omega
    have n1 : ¬ (9223372036854775807 < 4 + 1 + 2 + xS) := by omega
    have n2 : ¬ (9223372036854775807 < 4 + 1 + 2 + xS + xT) := by omega
    have n3 : ¬ (9223372036854775807 < 4 + 1 + 2 + xS + xT + 1) := by omega
    have n4 : ¬ (9223372036854775807 < TN.size + (4 + 1 + 2 + xS + xT + 1)) := by omega
    have n5 : ¬ (9223372036854775807 < 21 + (4 + 1 + 2 + xS + xT + 1)) := by omega
    refine wp_region_quiet_below mixed (by kernel_rfl) ?_
    iterate 5 (quiet_step (first | (go_at_call 29; exact q1 _ _)))
    iterate 5 (quiet_step (first | (go_at_call 29; exact q2 _ _)))
    iterate 6 (quiet_step (first | (go_at_call 29; exact q3 _ _)))
    iterate 5 (quiet_step (first | (go_at_call 30; exact q4 _ _)))
    iterate 5 (quiet_step (first | (go_at_call 30; exact q5 _ _)))
    iterate 5 (quiet_step (first | (go_at_call 29; exact q6 _ _)))
    iterate 3 (quiet_step (first | (exact q6 _ _)))
    refine wpQuiet_nil ?_
    intro _ hw'
    obtain ⟨⟨dq, osq⟩, hw''⟩ := hw'
    subst hw''
    have HG := hidr (below_regrown wn dq osq)
    obtain ⟨w2, HW2⟩ : ∃ x, Hid (x = grow (redrawn wn dq) osq) := ⟨_, rfl⟩
    rw [← HW2.out] at HG ⊢
    have HB2 : Hid (Below w.heap.size w w2 ∧ w.heap.size < w2.heap.size ∧ BlkR w2 w.heap.size (r.cells ta da tc dc) 43) := ⟨below_chain HBN.out.1 HG.out, Nat.lt_of_lt_of_le HBN.out.2.1 HG.out.size, HBN.out.2.2.same (HG.out.block _ HBN.out.2.1)⟩
    obtain ⟨T1, HT1⟩ : ∃ x, Hid (x = TN ++ (A1 ++ A2 ++ A3 ++ A4 ++ A5 ++ A6)) := ⟨_, rfl⟩
    have hT1s : T1.size ≤ 2000 := by rw [HT1.out]; simp only [ByteArray.size_append, hTNs, s1, s2, s3, s4, s5, s6] <;> omega
    have HT1d : Hid (T1.data.toList = TN.data.toList ++ changeL r) := by
      show _ = _
      rw [HT1.out]
      simp only [ByteArray.data_append, Array.toList_append, HA1.out, HA2.out, HA3.out, HA4.out, HA5.out, HA6.out, changeL, HOK.out, HOA.out, HUN.out, Int.toNat_natCast, textB_is _ (show r.op.S.size ≤ 65535 by omega), textB_is _ (show r.op.old.size ≤ 65535 by omega), List.append_assoc]
    rw [← HT1.out]
    try simp only
    clear HW2 HG HT1 HA1 HA2 HA3 HA4 HA5 HA6 q1 q2 q3 q4 q5 q6 s1 s2 s3 s4 s5 s6 u1 u2 u3 u6 n1 n2 n3 n4 n5 b4 b5 gx4 gx5 gx6 gx7 gx8 gx9 y4 y5 y6 y7 y8 y9 HOK HOA
    have z0 : w2.cell? ⟨w.heap.size, 0, none⟩ = some (.int .i64 2) := by
      have := HB2.out.2.2.cell 0
      rw [show (r.cells ta da tc dc)[0]? = some (.int .i64 r.kind) from rfl, HKN.out] at this
      exact this
    have z9 : w2.cell? ⟨w.heap.size, 9, none⟩ = some (.int .i64 (un : Int)) := by rw [← HUN.out]; exact HB2.out.2.2.cell 9
    have hun0 : r.undo = 0 := HU0.out (by rw [HKN.out]; rfl)
    have hun : un = 0 := by rw [HUN.out] at hun0; omega
    subst hun
    have hnb : nextB r = true := by unfold nextB; rw [HKN.out]; rfl
    have hcb : changeB r = true := by unfold changeB; rw [HKN.out]; rfl
    have hlb : listsB r = false := by unfold listsB; rw [HKN.out]; rfl
    have hkb : keyB r = false := by unfold keyB; rw [HUN.out]; simp
    have HEQ : Hid (T1.data.toList = E) := by
      show _ = _
      rw [HEN.out, HT1d.out, HTNd.out, hnb, hcb, hkb, hlb]
      simp
    clear HEN HT1d hnb hcb hkb hlb HTNd hun0
    go_wp2_with fail
    go_ret
    exact ⟨HFIN.out _ HEQ.out, HB2.out.1⟩
  · subst hk
    have y3 : w1.cell? ⟨w.heap.size, 3, none⟩ = some (.int .u64 r.next) := HB1.out.2.2.cell 3
    obtain ⟨A0, HA0⟩ : ∃ A : ByteArray, Hid (A = ⟨(putL r.next 8).toArray⟩) := ⟨_, rfl⟩
    have s0 : A0.size = 8 := by rw [HA0.out, bytes_size, putL_length]
    have HP : Hid (∀ wx, Calls Try.prog 29 #[.int .u64 r.next, .int .i64 8] wx fun e w' => e = .returned (.string A0) ∧ Below wx.heap.size wx w') := fun wx => by rw [HA0.out]; exact rput4 r.next 8 wx (by omega) (by omega)
    go_wp2_with fail
    refine (HP.out _).mono ?_
    rintro e wn ⟨rfl, bn⟩
    have HBN : Hid (Below w.heap.size w wn ∧ w.heap.size < wn.heap.size ∧ BlkR wn w.heap.size (r.cells ta da tc dc) 43) := ⟨below_chain HB1.out.1 bn, Nat.lt_of_lt_of_le HB1.out.2.1 bn.size, HB1.out.2.2.same (bn.block _ HB1.out.2.1)⟩
    clear HB1 HP bn y3 z0
    have z0 : wn.cell? ⟨w.heap.size, 0, none⟩ = some (.int .i64 3) := by
      have := HBN.out.2.2.cell 0
      rw [show (r.cells ta da tc dc)[0]? = some (.int .i64 r.kind) from rfl, HKN.out] at this
      exact this
    have HEQ : Hid ((T0 ++ A0).data.toList = E) := by
      show _ = _
      rw [HEN.out, ByteArray.data_append, Array.toList_append, HA0.out]
      unfold nextB changeB keyB listsB
      rw [HKN.out]
      simp
    clear HEN HA0
    go_wp2_with fail
    go_ret
    exact ⟨HFIN.out _ HEQ.out, HBN.out.1⟩
  · subst hk
    obtain ⟨htl, hdl, hall⟩ := HM.out.lists (by unfold listsB; rw [HKN.out]; rfl)
    have HALL := hidr hall
    clear hall
    have HEL : Hid (E = T0.data.toList ++ (putL r.txs.length 2 ++ (r.txs.flatMap txL ++ (putL r.dirty.length 2 ++ r.dirty.flatMap diL)))) := by
      show _ = _
      rw [HEN.out]
      unfold nextB changeB keyB listsB txsL disL
      rw [HKN.out]
      simp
    clear HEN
    have y15 : w1.cell? ⟨w.heap.size, 15, none⟩ = some (.slice ta r.txs.length tc) := HB1.out.2.2.cell 15
    obtain ⟨A0, HA0⟩ : ∃ A : ByteArray, Hid (A = ⟨(putL r.txs.length 2).toArray⟩) := ⟨_, rfl⟩
    have s0 : A0.size = 2 := by rw [HA0.out, bytes_size, putL_length]
    have HP : Hid (∀ wx, Calls Try.prog 29 #[.int .u64 r.txs.length, .int .i64 2] wx fun e w' => e = .returned (.string A0) ∧ Below wx.heap.size wx w') := fun wx => by rw [HA0.out]; exact rput4 r.txs.length 2 wx (by omega) (by omega)
    have u0 : IntKind.u64.wrap (r.txs.length : Int) = (r.txs.length : Int) := by rw [IntKind.wrap_u64]; omega
    go_wp2_with fail
    refine (HP.out _).mono ?_
    rintro e wn ⟨rfl, bn⟩
    have HBN : Hid (Below w.heap.size w wn ∧ w.heap.size < wn.heap.size ∧ BlkR wn w.heap.size (r.cells ta da tc dc) 43) := ⟨below_chain HB1.out.1 bn, Nat.lt_of_lt_of_le HB1.out.2.1 bn.size, HB1.out.2.2.same (bn.block _ HB1.out.2.1)⟩
    clear HB1 HP bn y15 z0 u0
    go_wp2_with fail
    obtain ⟨T1, HT1⟩ : ∃ x, Hid (x = T0 ++ A0) := ⟨_, rfl⟩
    have hT1s : T1.size = 15 := by rw [HT1.out, ByteArray.size_append, hT0s, s0]
    have HT1d : Hid (T1.data.toList = T0.data.toList ++ putL r.txs.length 2) := by show _ = _; rw [HT1.out, ByteArray.data_append, Array.toList_append, HA0.out]
    rw [← HT1.out]
    clear HT1 HA0 s0 hT0s
    go_loopw [3, 5] (fun t i wr => ∃ (k : Nat) (T : ByteArray), k ≤ r.txs.length ∧ i = .int .i64 k ∧ t = .string T ∧ T.size = 15 + 21 * k ∧ Hid (T.data.toList = T1.data.toList ++ (r.txs.take k).flatMap txL) ∧ Hid (Below w.heap.size w wr ∧ w.heap.size < wr.heap.size ∧ BlkR wr w.heap.size (r.cells ta da tc dc) 43)) (fun _ i _ => r.txs.length - (intOf i).toNat)
    case atStart => exact ⟨0, T1, Nat.zero_le _, rfl, rfl, by omega, by show _ = _; simp, HBN⟩
    case round =>
      clear HBN
      obtain ⟨k, T, hk, rfl, rfl, hTs, HTd, HBR⟩ := hrel
      have y15 : wr.cell? ⟨w.heap.size, 15, none⟩ = some (.slice ta r.txs.length tc) := HBR.out.2.2.cell 15
      by_cases hlt : k < r.txs.length
      · have d1 : decide ((k : Int) < (r.txs.length : Int)) = true := by simp; omega
        have i1 : (0 : Int) ≤ (k : Int) := by omega
        have i2 : (k : Int) < (r.txs.length : Int) := by omega
        obtain ⟨b1, o1, hta, hb1, g1⟩ : ∃ b1 o1, ta = some ⟨b1, o1, none⟩ ∧ b1 < wr.heap.size ∧ TxAt wr b1 (o1 + k * 4) r.txs[k] := by
          rcases HTX.out.below HBR.out.1 with h | ⟨b1, o1, e, hb, h⟩
          · rw [h] at hlt; simp at hlt
          · exact ⟨b1, o1, e, hb, h k hlt⟩
        obtain ⟨⟨t0n, t0b⟩, t1n, t1b⟩ := HALL.out _ (List.getElem_mem hlt)
        obtain ⟨t2b, t3b⟩ := HWD.out.txs k hlt
        have HSN : Hid ((r.txs.take (k + 1)).flatMap txL = (r.txs.take k).flatMap txL ++ txL r.txs[k]) := by
          show _ = _
          rw [List.take_succ_eq_append_getElem hlt, List.flatMap_append]
          simp
        generalize r.txs[k] = t at *
        obtain ⟨t0, t1, t2, t3⟩ := t
        obtain ⟨p0, p1, p2, p3⟩ := g1
        simp only at p0 p1 p2 p3 t0n t0b t1n t1b t2b t3b
        obtain ⟨m0, rfl⟩ := Int.eq_ofNat_of_zero_le t0n
        obtain ⟨m1, rfl⟩ := Int.eq_ofNat_of_zero_le (show (0 : Int) ≤ t1 by omega)
        rw [hta] at y15
        have HTA := hidr hta
        clear hta
        go_upto_region 17 with fail
        obtain ⟨wz, HWZ⟩ : ∃ x, Hid (x = wr.alloc (.cells #[.int .i64 (m0 : Int), .int .i64 (m1 : Int), .int .u64 t2, .int .u64 t3] 79)) := ⟨_, rfl⟩
        have HBZ : Hid (Below w.heap.size w wz ∧ w.heap.size < wz.heap.size ∧ BlkR wz w.heap.size (r.cells ta da tc dc) 43) := by
          have hb := (Below.refl wr.heap.size wr).alloc (Nat.le_refl _) (.cells #[.int .i64 (m0 : Int), .int .i64 (m1 : Int), .int .u64 t2, .int .u64 t3] 79)
          rw [← HWZ.out] at hb
          exact ⟨below_chain HBR.out.1 hb, Nat.lt_of_lt_of_le HBR.out.2.1 hb.size, HBR.out.2.2.same (hb.block _ HBR.out.2.1)⟩
        obtain ⟨v0, v1, v2, v3⟩ : wz.cell? ⟨wr.heap.size, 0, none⟩ = some (.int .i64 (m0 : Int)) ∧ wz.cell? ⟨wr.heap.size, 1, none⟩ = some (.int .i64 (m1 : Int)) ∧ wz.cell? ⟨wr.heap.size, 2, none⟩ = some (.int .u64 t2) ∧ wz.cell? ⟨wr.heap.size, 3, none⟩ = some (.int .u64 t3) := by
          have hz : BlkR wz wr.heap.size #[.int .i64 (m0 : Int), .int .i64 (m1 : Int), .int .u64 t2, .int .u64 t3] 79 := by rw [HWZ.out]; exact heap_alloc_new wr _
          exact ⟨hz.cell 0, hz.cell 1, hz.cell 2, hz.cell 3⟩
        rw [← HWZ.out]
        clear HWZ HBR y15 p0 p1 p2 p3 d1 i1 i2
        have gx0 := cell_regrown v0
        have gx1 := cell_regrown v1
        have gx2 := cell_regrown v2
        have gx3 := cell_regrown v3
        obtain ⟨A1, HA1⟩ : ∃ A : ByteArray, Hid (A = ⟨(putL m0 4).toArray⟩) := ⟨_, rfl⟩
        have s1 : A1.size = 4 := by rw [HA1.out, bytes_size, putL_length]
        have q1 : ∀ dd os, Calls Try.prog 29 #[.int .u64 m0, .int .i64 4] (grow (redrawn wz dd) os) fun e w'' => e = .returned (.string A1) ∧ ∃ p : Regrown, w'' = grow (redrawn wz p.d) p.os := fun dd os => Calls.regrown_of (by rw [HA1.out]; exact rput4 m0 4 _ (by omega) (by omega))
        obtain ⟨A2, HA2⟩ : ∃ A : ByteArray, Hid (A = ⟨(putL m1 1).toArray⟩) := ⟨_, rfl⟩
        have s2 : A2.size = 1 := by rw [HA2.out, bytes_size, putL_length]
        have q2 : ∀ dd os, Calls Try.prog 29 #[.int .u64 m1, .int .i64 1] (grow (redrawn wz dd) os) fun e w'' => e = .returned (.string A2) ∧ ∃ p : Regrown, w'' = grow (redrawn wz p.d) p.os := fun dd os => Calls.regrown_of (by rw [HA2.out]; exact rput4 m1 1 _ (by omega) (by omega))
        obtain ⟨A3, HA3⟩ : ∃ A : ByteArray, Hid (A = ⟨(putL t2 8).toArray⟩) := ⟨_, rfl⟩
        have s3 : A3.size = 8 := by rw [HA3.out, bytes_size, putL_length]
        have q3 : ∀ dd os, Calls Try.prog 29 #[.int .u64 t2, .int .i64 8] (grow (redrawn wz dd) os) fun e w'' => e = .returned (.string A3) ∧ ∃ p : Regrown, w'' = grow (redrawn wz p.d) p.os := fun dd os => Calls.regrown_of (by rw [HA3.out]; exact rput4 t2 8 _ (by omega) (by omega))
        obtain ⟨A4, HA4⟩ : ∃ A : ByteArray, Hid (A = ⟨(putL t3 8).toArray⟩) := ⟨_, rfl⟩
        have s4 : A4.size = 8 := by rw [HA4.out, bytes_size, putL_length]
        have q4 : ∀ dd os, Calls Try.prog 29 #[.int .u64 t3, .int .i64 8] (grow (redrawn wz dd) os) fun e w'' => e = .returned (.string A4) ∧ ∃ p : Regrown, w'' = grow (redrawn wz p.d) p.os := fun dd os => Calls.regrown_of (by rw [HA4.out]; exact rput4 t3 8 _ (by omega) (by omega))
        have u1 : IntKind.u64.wrap (m0 : Int) = (m0 : Int) := by rw [IntKind.wrap_u64]; omega
        have u2 : IntKind.u64.wrap (m1 : Int) = (m1 : Int) := by rw [IntKind.wrap_u64]; omega
        have n4 : ¬ (9223372036854775807 < T.size + (4 + 1 + 8 + 8)) := by omega
        have n5 : ¬ (9223372036854775807 < 15 + 21 * k + (4 + 1 + 8 + 8)) := by omega
        have n6 : ¬ (9223372036854775807 < 15 + 21 * k + 21) := by omega
        have n7 : ¬ (9223372036854775807 < T.size + 21) := by omega
        refine wp_region_quiet_below mixed (by kernel_rfl) ?_
        iterate 5 (quiet_step (first | (go_at_call 29; exact q1 _ _)))
        iterate 4 (quiet_step (first | (go_at_call 29; exact q2 _ _)))
        iterate 4 (quiet_step (first | (go_at_call 29; exact q3 _ _)))
        iterate 4 (quiet_step (first | (go_at_call 29; exact q4 _ _)))
        iterate 3 (quiet_step (first | (exact q4 _ _)))
        refine wpQuiet_nil ?_
        intro _ hw'
        obtain ⟨⟨dq, osq⟩, hw''⟩ := hw'
        subst hw''
        have HG := hidr (below_regrown wz dq osq)
        obtain ⟨w3, HW2⟩ : ∃ x, Hid (x = grow (redrawn wz dq) osq) := ⟨_, rfl⟩
        rw [← HW2.out] at HG ⊢
        have HB3 : Hid (Below w.heap.size w w3 ∧ w.heap.size < w3.heap.size ∧ BlkR w3 w.heap.size (r.cells ta da tc dc) 43) := ⟨below_chain HBZ.out.1 HG.out, Nat.lt_of_lt_of_le HBZ.out.2.1 HG.out.size, HBZ.out.2.2.same (HG.out.block _ HBZ.out.2.1)⟩
        obtain ⟨T2, HT2⟩ : ∃ x, Hid (x = T ++ (A1 ++ A2 ++ A3 ++ A4)) := ⟨_, rfl⟩
        have hT2s : T2.size = 15 + 21 * (k + 1) := by rw [HT2.out]; simp only [ByteArray.size_append, hTs, s1, s2, s3, s4] <;> omega
        have HT2d : Hid (T2.data.toList = T1.data.toList ++ (r.txs.take (k + 1)).flatMap txL) := by
          show _ = _
          rw [HT2.out]
          simp only [ByteArray.data_append, Array.toList_append, HA1.out, HA2.out, HA3.out, HA4.out, HTd.out, HSN.out, txL, Int.toNat_natCast, List.append_assoc]
        rw [← HT2.out]
        try simp only
        clear HW2 HG HT2 HA1 HA2 HA3 HA4 q1 q2 q3 q4 s1 s2 s3 s4 u1 u2 n4 n5 n6 n7 gx0 gx1 gx2 gx3 v0 v1 v2 v3 HSN
        go_wp2
        go_roundw
        case rel => exact ⟨k + 1, T2, by omega, by go_num, rfl, hT2s, HT2d, HB3⟩
        case measure => simp [intOf]; omega
      · obtain rfl : k = r.txs.length := by omega
        have d1 : decide ((r.txs.length : Int) < (r.txs.length : Int)) = false := by simp
        rw [List.take_length] at HTd
        have y16 : wr.cell? ⟨w.heap.size, 16, none⟩ = some (.slice da r.dirty.length dc) := HBR.out.2.2.cell 16
        obtain ⟨A0, HA0⟩ : ∃ A : ByteArray, Hid (A = ⟨(putL r.dirty.length 2).toArray⟩) := ⟨_, rfl⟩
        have s0 : A0.size = 2 := by rw [HA0.out, bytes_size, putL_length]
        have HP : Hid (∀ wx, Calls Try.prog 29 #[.int .u64 r.dirty.length, .int .i64 2] wx fun e w' => e = .returned (.string A0) ∧ Below wx.heap.size wx w') := fun wx => by rw [HA0.out]; exact rput4 r.dirty.length 2 wx (by omega) (by omega)
        have u0 : IntKind.u64.wrap (r.dirty.length : Int) = (r.dirty.length : Int) := by rw [IntKind.wrap_u64]; omega
        go_wp2_with fail
        refine (HP.out _).mono ?_
        rintro e wm ⟨rfl, bm⟩
        have HBM : Hid (Below w.heap.size w wm ∧ w.heap.size < wm.heap.size ∧ BlkR wm w.heap.size (r.cells ta da tc dc) 43) := ⟨below_chain HBR.out.1 bm, Nat.lt_of_lt_of_le HBR.out.2.1 bm.size, HBR.out.2.2.same (bm.block _ HBR.out.2.1)⟩
        clear HBR HP bm y15 y16 u0 d1
        obtain ⟨T3, HT3⟩ : ∃ x, Hid (x = T ++ A0) := ⟨_, rfl⟩
        have n0 : ¬ (9223372036854775807 < T.size + 2) := by omega
        have hT3s : T3.size ≤ 2000 := by rw [HT3.out, ByteArray.size_append, hTs, s0]; omega
        have HT3d : Hid (E = T3.data.toList ++ r.dirty.flatMap diL) := by
          show _ = _
          rw [HT3.out, ByteArray.data_append, Array.toList_append, HEL.out, HTd.out, HT1d.out, HA0.out]
          simp only [List.append_assoc]
        go_wp2_with fail
        rw [← HT3.out]
        clear HT3 HA0 s0 HTd HT1d HEL n0 hTs hT1s
        go_loopw [3, 7] (fun t i wr => ∃ (k : Nat) (T : ByteArray), k ≤ r.dirty.length ∧ i = .int .i64 k ∧ t = .string T ∧ T.size ≤ 2000 + 12 * k ∧ Hid (T.data.toList = T3.data.toList ++ (r.dirty.take k).flatMap diL) ∧ Hid (Below w.heap.size w wr ∧ w.heap.size < wr.heap.size ∧ BlkR wr w.heap.size (r.cells ta da tc dc) 43)) (fun _ i _ => r.dirty.length - (intOf i).toNat)
        case atStart => exact ⟨0, T3, Nat.zero_le _, rfl, rfl, by omega, by show _ = _; simp, HBM⟩
        case round =>
          clear HBM
          obtain ⟨k, T, hk, rfl, rfl, hTs, HTd, HBR⟩ := hrel
          have y16 : wr.cell? ⟨w.heap.size, 16, none⟩ = some (.slice da r.dirty.length dc) := HBR.out.2.2.cell 16
          by_cases hlt : k < r.dirty.length
          · have d1 : decide ((k : Int) < (r.dirty.length : Int)) = true := by simp; omega
            have i1 : (0 : Int) ≤ (k : Int) := by omega
            have i2 : (k : Int) < (r.dirty.length : Int) := by omega
            obtain ⟨b1, o1, hda, hb1, g1⟩ : ∃ b1 o1, da = some ⟨b1, o1, none⟩ ∧ b1 < wr.heap.size ∧ DiAt wr b1 (o1 + k * 2) r.dirty[k] := by
              rcases HDI.out.below HBR.out.1 with h | ⟨b1, o1, e, hb, h⟩
              · rw [h] at hlt; simp at hlt
              · exact ⟨b1, o1, e, hb, h k hlt⟩
            obtain ⟨t0b, t1b⟩ := HWD.out.dirty k hlt
            have HSN : Hid ((r.dirty.take (k + 1)).flatMap diL = (r.dirty.take k).flatMap diL ++ diL r.dirty[k]) := by
              show _ = _
              rw [List.take_succ_eq_append_getElem hlt, List.flatMap_append]
              simp
            generalize r.dirty[k] = t at *
            obtain ⟨t0, t1⟩ := t
            obtain ⟨p0, p1⟩ := g1
            simp only at p0 p1 t0b t1b
            rw [hda] at y16
            have HDA := hidr hda
            clear hda
            go_upto_region 22 with fail
            have gx0 := cell_regrown p0
            have gx1 := cell_regrown p1
            have gx16 := cell_regrown y16
            obtain ⟨A1, HA1⟩ : ∃ A : ByteArray, Hid (A = ⟨(putL t0 4).toArray⟩) := ⟨_, rfl⟩
            have s1 : A1.size = 4 := by rw [HA1.out, bytes_size, putL_length]
            have q1 : ∀ dd os, Calls Try.prog 29 #[.int .u64 t0, .int .i64 4] (grow (redrawn wr dd) os) fun e w'' => e = .returned (.string A1) ∧ ∃ p : Regrown, w'' = grow (redrawn wr p.d) p.os := fun dd os => Calls.regrown_of (by rw [HA1.out]; exact rput4 t0 4 _ (by omega) (by omega))
            obtain ⟨A2, HA2⟩ : ∃ A : ByteArray, Hid (A = ⟨(putL t1 8).toArray⟩) := ⟨_, rfl⟩
            have s2 : A2.size = 8 := by rw [HA2.out, bytes_size, putL_length]
            have q2 : ∀ dd os, Calls Try.prog 29 #[.int .u64 t1, .int .i64 8] (grow (redrawn wr dd) os) fun e w'' => e = .returned (.string A2) ∧ ∃ p : Regrown, w'' = grow (redrawn wr p.d) p.os := fun dd os => Calls.regrown_of (by rw [HA2.out]; exact rput4 t1 8 _ (by omega) (by omega))
            have u1 : IntKind.u64.wrap (t0 : Int) = (t0 : Int) := by rw [IntKind.wrap_u64]; omega
            have n4 : ¬ (9223372036854775807 < T.size + (4 + 8)) := by omega
            have n7 : ¬ (9223372036854775807 < T.size + 12) := by omega
            refine wp_region_quiet_below mixed (by kernel_rfl) ?_
            iterate 9 (quiet_step (first | (go_at_call 29; exact q1 _ _)))
            iterate 7 (quiet_step (first | (go_at_call 29; exact q2 _ _)))
            iterate 3 (quiet_step (first | (exact q2 _ _)))
            refine wpQuiet_nil ?_
            intro _ hw'
            obtain ⟨⟨dq, osq⟩, hw''⟩ := hw'
            subst hw''
            have HG := hidr (below_regrown wr dq osq)
            obtain ⟨w3, HW2⟩ : ∃ x, Hid (x = grow (redrawn wr dq) osq) := ⟨_, rfl⟩
            rw [← HW2.out] at HG ⊢
            have HB3 : Hid (Below w.heap.size w w3 ∧ w.heap.size < w3.heap.size ∧ BlkR w3 w.heap.size (r.cells ta da tc dc) 43) := ⟨below_chain HBR.out.1 HG.out, Nat.lt_of_lt_of_le HBR.out.2.1 HG.out.size, HBR.out.2.2.same (HG.out.block _ HBR.out.2.1)⟩
            obtain ⟨T2, HT2⟩ : ∃ x, Hid (x = T ++ (A1 ++ A2)) := ⟨_, rfl⟩
            have hT2s : T2.size ≤ 2000 + 12 * (k + 1) := by rw [HT2.out]; simp only [ByteArray.size_append, s1, s2] <;> omega
            have HT2d : Hid (T2.data.toList = T3.data.toList ++ (r.dirty.take (k + 1)).flatMap diL) := by
              show _ = _
              rw [HT2.out]
              simp only [ByteArray.data_append, Array.toList_append, HA1.out, HA2.out, HTd.out, HSN.out, diL, Int.toNat_natCast, List.append_assoc]
            rw [← HT2.out]
            try simp only
            clear HW2 HG HT2 HA1 HA2 q1 q2 s1 s2 u1 n4 n7 gx0 gx1 gx16 HSN y16 p0 p1
            go_wp2
            go_roundw
            case rel => exact ⟨k + 1, T2, by omega, by go_num, rfl, hT2s, HT2d, HB3⟩
            case measure => simp [intOf]; omega
          · obtain rfl : k = r.dirty.length := by omega
            have d1 : decide ((r.dirty.length : Int) < (r.dirty.length : Int)) = false := by simp
            rw [List.take_length] at HTd
            go_wp2_with fail
            go_ret
            exact ⟨HFIN.out _ (HTd.out.trans HT3d.out.symm), HBR.out.1⟩
  · have HEQ : Hid (T0.data.toList = E) := by
      show _ = _
      rw [HEN.out]
      unfold nextB changeB keyB listsB
      rw [HKN.out]
      have e1 : ¬ (((kn : Nat) : Int) = 2 ∨ ((kn : Nat) : Int) = 3) := by omega
      have e2 : ¬ (((kn : Nat) : Int) = 1 ∨ ((kn : Nat) : Int) = 2) := by omega
      have e3 : ¬ (((kn : Nat) : Int) = 8) := by omega
      simp [e1, e2, e3]
    have j1 : ((kn : Int) == 1) = false := by rw [beq_eq_false_iff_ne]; omega
    have j2 : ((kn : Int) == 2) = false := by rw [beq_eq_false_iff_ne]; omega
    have j3 : ((kn : Int) == 3) = false := by rw [beq_eq_false_iff_ne]; omega
    have j8 : ((kn : Int) == 8) = false := by rw [beq_eq_false_iff_ne]; omega
    clear HEN hk hkb
    go_wp2_with fail
    go_ret
    exact ⟨HFIN.out _ HEQ.out, HB1.out.1⟩

end Go.Proofs.Ytndfjjcflbpdnaa
