/-
  The walks of analyze's behind, known and hearChange.
-/
import Derived.Test.YtgkfdakieebnmaaGreatAnMJ
import Derived.Test.YtgkfdakieebnmaaGreatRecHasJ
import Derived.Test.YtgkfdakieebnmaaGreatPageCopyJ
set_option linter.unusedVariables false
set_option linter.unusedSimpArgs false
namespace Go.Proofs.YtgkfdakieebnmaaGreat
open Go.RowKit Go.Sort

def ast4 (w : World) (b : Nat) (v0 v1 v2 v3 : Value) : World := (((w.setCell ⟨b, 0, none⟩ v0).setCell ⟨b, 1, none⟩ v1).setCell ⟨b, 2, none⟩ v2).setCell ⟨b, 3, none⟩ v3

theorem RowV.aput4 {w : World} {b : Nat} {u0 u1 u2 u3 : Value} (h : RowV w b 4 (four u0 u1 u2 u3)) (v0 v1 v2 v3 : Value) : RowV (ast4 w b v0 v1 v2 v3) b 4 (four v0 v1 v2 v3) :=
  (((h.set0_4 v0).set1_4 v1).set2_4 v2).set3_4 v3

theorem abel4 {B : Nat} {w wx : World} {b : Nat} (h : Below B w wx) (hb : B ≤ b) (v0 v1 v2 v3 : Value) : Below B w (ast4 wx b v0 v1 v2 v3) :=
  (((h.setCell (p := ⟨b, 0, none⟩) hb v0).setCell (p := ⟨b, 1, none⟩) hb v1).setCell (p := ⟨b, 2, none⟩) hb v2).setCell (p := ⟨b, 3, none⟩) hb v3

set_option maxHeartbeats 3200000 in
set_option maxRecDepth 20000 in
theorem behind_any (x : TxV) (at' : Nat) (r : RecV) (ta da : Option Addr) (tc dc : Nat) (w : World) :
    Calls Tryz.prog 86 #[txVal x, .int .u64 at', .agg (r.cells ta da tc dc)] w fun e w' => e = .returned (txVal (behindF x at' r.kind r.next)) ∧ Below w.heap.size w w' := by
  obtain ⟨x1, x2, x3, x4⟩ := x
  have HPAR : Hid (r.cells ta da tc dc = #[.int .i64 r.kind, .int .i64 r.tx, .int .u64 r.prev, .int .u64 r.next, .int .u32 r.page, .int .i64 r.op.kind, .int .i64 r.op.at', .string r.op.S, .string r.op.old, .int .i64 r.undo, .int .i64 r.index, .string r.key, .int .u32 r.rpage, .int .i64 r.rslot, .bool r.live, .slice ta r.txs.length tc, .slice da r.dirty.length dc]) := rfl
  obtain ⟨W, HW⟩ : ∃ W, Hid (W = ((w.alloc (.cells #[.int .i64 x1, .int .i64 x2, .int .u64 x3, .int .u64 x4] 161)).alloc (.cells (r.cells ta da tc dc) 64)).alloc (.cells #[.int .i64 0, .int .i64 0, .int .u64 0, .int .u64 0] 161)) := ⟨_, rfl⟩
  have k1 : Below w.heap.size w (w.alloc (.cells #[.int .i64 x1, .int .i64 x2, .int .u64 x3, .int .u64 x4] 161)) := (Below.refl _ _).alloc (Nat.le_refl _) _
  have r0 : RowV W w.heap.size 4 (four (.int .i64 x1) (.int .i64 x2) (.int .u64 x3) (.int .u64 x4)) := by
    rw [HW.out]
    exact ((RowV.four_new w _ _ _ _ _).below ((Below.refl _ _).alloc (Nat.le_refl _) _) (by simp)).below ((Below.refl _ _).alloc (Nat.le_refl _) _) (by simp; omega)
  have r1 : BlkR W (w.heap.size + 1) (r.cells ta da tc dc) 64 := by
    rw [HW.out]
    have h1 := Blk.made (w.alloc (.cells #[.int .i64 x1, .int .i64 x2, .int .u64 x3, .int .u64 x4] 161)) (r.cells ta da tc dc) 64
    rw [show (w.alloc (.cells #[.int .i64 x1, .int .i64 x2, .int .u64 x3, .int .u64 x4] 161)).heap.size = w.heap.size + 1 by simp] at h1
    exact h1.same (heap_old _ _ (by simp))
  have r2 : RowV W (w.heap.size + 1 + 1) 4 (four (.int .i64 0) (.int .i64 0) (.int .u64 0) (.int .u64 0)) := by
    rw [HW.out]
    have := RowV.four_new ((w.alloc (.cells #[.int .i64 x1, .int .i64 x2, .int .u64 x3, .int .u64 x4] 161)).alloc (.cells (r.cells ta da tc dc) 64)) (.int .i64 0) (.int .i64 0) (.int .u64 0) (.int .u64 0) 161
    simpa using this
  have bW : Below w.heap.size w W := by rw [HW.out]; exact (k1.alloc (by simp) _).alloc (by simp; omega) _
  obtain ⟨B, HBB⟩ : ∃ B, Hid (w.heap.size = B) := ⟨_, rfl⟩
  have HF : Hid (∀ (wx : World), Kept (fun k => k = B ∨ k = B + 1 + 1) W wx → Below w.heap.size w wx) := by
   rw [← HBB.out]
   exact fun wx k => ⟨k.os.trans bW.os, k.tape.trans bW.tape, k.output.trans bW.output, Nat.le_trans bW.size k.size, fun i hi => (k.block i (Nat.lt_of_lt_of_le hi bW.size) (by rintro (e | e) <;> omega)).trans (bW.block i hi)⟩
  have e1 : W.cell? ⟨w.heap.size + 1, 0, none⟩ = some (.int .i64 r.kind) := r1.cell 0
  have e2 : W.cell? ⟨w.heap.size + 1, 3, none⟩ = some (.int .u64 r.next) := r1.cell 3
  obtain ⟨a0, a1, a2, a3⟩ := r0.cells4
  obtain ⟨f0, f1, f2, f3⟩ := r0.open4
  obtain ⟨b0, b1, b2, b3⟩ := r2.cells4
  obtain ⟨g0, g1, g2, g3⟩ := r2.open4
  have HR2 := hida r2
  clear r0 r1 r2 bW k1
  obtain ⟨y2, HY2⟩ : ∃ y2 : Int, Hid ((if r.kind = 4 then 2 else if r.kind = 5 then 3 else x2) = y2) := ⟨_, rfl⟩
  obtain ⟨y4, HY4⟩ : ∃ y4 : Nat, Hid ((if r.kind = 1 then at' else if r.kind = 2 ∨ r.kind = 3 then r.next else x4) = y4) := ⟨_, rfl⟩
  rw [show behindF (x1, x2, x3, x4) at' r.kind r.next = (x1, y2, at', y4) by unfold behindF; rw [← HY2.out, ← HY4.out]]
  unfold txVal
  rw [HPAR.out]
  go_enter Tryz.func86, Tryz.ntmps86
  go_upto_region 1 with fail
  rw [← HPAR.out, ← HW.out]
  clear HW HPAR
  generalize r.kind = K at *
  generalize r.next = NX at *
  rw [HBB.out] at a0 a1 a2 a3 f0 f1 f2 f3 b0 b1 b2 b3 g0 g1 g2 g3 e1 e2 HR2 ⊢
  have e5 : B ≠ B + 1 := by omega
  have e6 : B ≠ B + 1 + 1 := by omega
  have HC : Hid (∀ (wx : World) (b i : Nat) (v : Value), (b = B ∨ b = B + 1 + 1) → Kept (fun k => k = B ∨ k = B + 1 + 1) W wx → Kept (fun k => k = B ∨ k = B + 1 + 1) W (wx.setCell ⟨b, i, none⟩ v)) := fun wx b i v hb h => h.trans (Kept.setCell _ _ _ _ _ hb)
  by_cases k1 : K = 1
  · have q2 : (x2 : Int) = y2 := by rw [← HY2.out]; simp [k1]
    have q4 : at' = y4 := by rw [← HY4.out]; simp [k1]
    clear HY2 HY4
    subst q2 q4 k1
    obtain ⟨r0, r1, r2, r3⟩ := (RowV.aput4 (w := ((W.setCell ⟨B, 2, none⟩ (.int .u64 at')).setCell ⟨B, 3, none⟩ (.int .u64 at'))) (b := B + 1 + 1) ((HR2.out.set_other e6 _).set_other e6 _) (.int .i64 x1) (.int .i64 x2) (.int .u64 at') (.int .u64 at')).cells4
    unfold ast4 at r0 r1 r2 r3
    go_wp2
    refine bodyPost_ret (v := .agg #[.int .i64 x1, .int .i64 x2, .int .u64 at', .int .u64 at']) (by simp [results, Tryz.results86, go_sem, r0, r1, r2, r3]) rfl ?_
    exact ⟨rfl, by rw [HBB.out] at HF ⊢; exact HF.out _ (by repeat (first | with_reducible exact Kept.refl _ _ | with_reducible refine HC.out _ _ _ _ (by first | with_reducible exact .inl rfl | with_reducible exact .inr rfl) ?_))⟩
  · skip
    by_cases k2 : K = 2
    · have q2 : (x2 : Int) = y2 := by rw [← HY2.out]; simp [k2]
      have q4 : NX = y4 := by rw [← HY4.out]; simp [k2]
      clear HY2 HY4
      subst q2 q4 k2
      obtain ⟨r0, r1, r2, r3⟩ := (RowV.aput4 (w := ((W.setCell ⟨B, 2, none⟩ (.int .u64 at')).setCell ⟨B, 3, none⟩ (.int .u64 NX))) (b := B + 1 + 1) ((HR2.out.set_other e6 _).set_other e6 _) (.int .i64 x1) (.int .i64 x2) (.int .u64 at') (.int .u64 NX)).cells4
      unfold ast4 at r0 r1 r2 r3
      go_wp2
      refine bodyPost_ret (v := .agg #[.int .i64 x1, .int .i64 x2, .int .u64 at', .int .u64 NX]) (by simp [results, Tryz.results86, go_sem, r0, r1, r2, r3]) rfl ?_
      exact ⟨rfl, by rw [HBB.out] at HF ⊢; exact HF.out _ (by repeat (first | with_reducible exact Kept.refl _ _ | with_reducible refine HC.out _ _ _ _ (by first | with_reducible exact .inl rfl | with_reducible exact .inr rfl) ?_))⟩
    · skip
      by_cases k3 : K = 3
      · have q2 : (x2 : Int) = y2 := by rw [← HY2.out]; simp [k3]
        have q4 : NX = y4 := by rw [← HY4.out]; simp [k3]
        clear HY2 HY4
        subst q2 q4 k3
        obtain ⟨r0, r1, r2, r3⟩ := (RowV.aput4 (w := ((W.setCell ⟨B, 2, none⟩ (.int .u64 at')).setCell ⟨B, 3, none⟩ (.int .u64 NX))) (b := B + 1 + 1) ((HR2.out.set_other e6 _).set_other e6 _) (.int .i64 x1) (.int .i64 x2) (.int .u64 at') (.int .u64 NX)).cells4
        unfold ast4 at r0 r1 r2 r3
        go_wp2
        refine bodyPost_ret (v := .agg #[.int .i64 x1, .int .i64 x2, .int .u64 at', .int .u64 NX]) (by simp [results, Tryz.results86, go_sem, r0, r1, r2, r3]) rfl ?_
        exact ⟨rfl, by rw [HBB.out] at HF ⊢; exact HF.out _ (by repeat (first | with_reducible exact Kept.refl _ _ | with_reducible refine HC.out _ _ _ _ (by first | with_reducible exact .inl rfl | with_reducible exact .inr rfl) ?_))⟩
      · skip
        by_cases k4 : K = 4
        · have q2 : (2 : Int) = y2 := by rw [← HY2.out]; simp [k4]
          have q4 : x4 = y4 := by rw [← HY4.out]; simp [k4]
          clear HY2 HY4
          subst q2 q4 k4
          obtain ⟨r0, r1, r2, r3⟩ := (RowV.aput4 (w := ((W.setCell ⟨B, 2, none⟩ (.int .u64 at')).setCell ⟨B, 1, none⟩ (.int .i64 2))) (b := B + 1 + 1) ((HR2.out.set_other e6 _).set_other e6 _) (.int .i64 x1) (.int .i64 2) (.int .u64 at') (.int .u64 x4)).cells4
          unfold ast4 at r0 r1 r2 r3
          go_wp2
          refine bodyPost_ret (v := .agg #[.int .i64 x1, .int .i64 2, .int .u64 at', .int .u64 x4]) (by simp [results, Tryz.results86, go_sem, r0, r1, r2, r3]) rfl ?_
          exact ⟨rfl, by rw [HBB.out] at HF ⊢; exact HF.out _ (by repeat (first | with_reducible exact Kept.refl _ _ | with_reducible refine HC.out _ _ _ _ (by first | with_reducible exact .inl rfl | with_reducible exact .inr rfl) ?_))⟩
        · skip
          by_cases k5 : K = 5
          · have q2 : (3 : Int) = y2 := by rw [← HY2.out]; simp [k5]
            have q4 : x4 = y4 := by rw [← HY4.out]; simp [k5]
            clear HY2 HY4
            subst q2 q4 k5
            obtain ⟨r0, r1, r2, r3⟩ := (RowV.aput4 (w := ((W.setCell ⟨B, 2, none⟩ (.int .u64 at')).setCell ⟨B, 1, none⟩ (.int .i64 3))) (b := B + 1 + 1) ((HR2.out.set_other e6 _).set_other e6 _) (.int .i64 x1) (.int .i64 3) (.int .u64 at') (.int .u64 x4)).cells4
            unfold ast4 at r0 r1 r2 r3
            go_wp2
            refine bodyPost_ret (v := .agg #[.int .i64 x1, .int .i64 3, .int .u64 at', .int .u64 x4]) (by simp [results, Tryz.results86, go_sem, r0, r1, r2, r3]) rfl ?_
            exact ⟨rfl, by rw [HBB.out] at HF ⊢; exact HF.out _ (by repeat (first | with_reducible exact Kept.refl _ _ | with_reducible refine HC.out _ _ _ _ (by first | with_reducible exact .inl rfl | with_reducible exact .inr rfl) ?_))⟩
          · skip
            have q2 : x2 = y2 := by rw [← HY2.out]; simp [k4, k5]
            have q4 : x4 = y4 := by rw [← HY4.out]; simp [k1, k2, k3]
            have d1 : (K == 1) = false := beq_eq_false_iff_ne.2 k1
            have d2 : (K == 2) = false := beq_eq_false_iff_ne.2 k2
            have d3 : (K == 3) = false := beq_eq_false_iff_ne.2 k3
            have d4 : (K == 4) = false := beq_eq_false_iff_ne.2 k4
            have d5 : (K == 5) = false := beq_eq_false_iff_ne.2 k5
            clear HY2 HY4
            subst q2 q4
            obtain ⟨r0, r1, r2, r3⟩ := (RowV.aput4 (w := (W.setCell ⟨B, 2, none⟩ (.int .u64 at'))) (b := B + 1 + 1) (HR2.out.set_other e6 _) (.int .i64 x1) (.int .i64 x2) (.int .u64 at') (.int .u64 x4)).cells4
            unfold ast4 at r0 r1 r2 r3
            go_wp2
            refine bodyPost_ret (v := .agg #[.int .i64 x1, .int .i64 x2, .int .u64 at', .int .u64 x4]) (by simp [results, Tryz.results86, go_sem, r0, r1, r2, r3]) rfl ?_
            exact ⟨rfl, by rw [HBB.out] at HF ⊢; exact HF.out _ (by repeat (first | with_reducible exact Kept.refl _ _ | with_reducible refine HC.out _ _ _ _ (by first | with_reducible exact .inl rfl | with_reducible exact .inr rfl) ?_))⟩

set_option maxHeartbeats 3200000 in
set_option maxRecDepth 20000 in
theorem known_any {w : World} {hb tb db N : Nat} {g : HearG} (h : HearAt w hb tb db N g) (n : Int) (h1 : -9223372036854775808 ≤ n) (h2 : n ≤ 9223372036854775807) :
    Calls Tryz.prog 87 #[.pointer (some ⟨hb, 0, none⟩), .int .i64 n] w fun e w' => e = .returned (txVal (knownF g n)) ∧ Below w.heap.size w w' := by
  obtain ⟨W, HW⟩ : ∃ W, Hid (W = w.alloc (.cells #[.int .i64 0, .int .i64 0, .int .u64 0, .int .u64 0] 161)) := ⟨_, rfl⟩
  have bW : Below w.heap.size w W := by rw [HW.out]; exact (Below.refl _ _).alloc (Nat.le_refl _) _
  have zW : w.heap.size < W.heap.size := by rw [HW.out]; simp
  have rW : RowV W w.heap.size 4 (four (.int .i64 0) (.int .i64 0) (.int .u64 0) (.int .u64 0)) := by rw [HW.out]; exact RowV.four_new _ _ _ _ _ _
  have hw := h.below bW
  have hlk := hw.lookT n h1 h2
  have c0 : W.cell? ⟨hb, 0, none⟩ = some (.map (some tb)) := by obtain ⟨TD, DD, nt, nd, hh⟩ := hw; exact hh.blk.cell 0
  have HS := hida bW
  clear h hw bW
  unfold knownF
  go_enter Tryz.func87, Tryz.ntmps87
  go_upto_region 1 with fail
  rw [← HW.out]
  clear HW
  cases e : g.T n with
  | none =>
    rw [e] at hlk
    have hlk' : (Instr.lookup 104 (.map (some tb)) (.int .i64 n) true).run Tryz.prog W = .ok (.tuple #[.agg #[.int .i64 0, .int .i64 0, .int .u64 0, .int .u64 0], .bool false]) W := hlk
    have HE := hida e
    clear hlk e
    obtain ⟨V, HV⟩ : ∃ V, Hid (V = W.alloc (.cells #[.int .i64 0, .int .i64 0, .int .u64 0, .int .u64 0] 161)) := ⟨_, rfl⟩
    have bV : Below W.heap.size W V := by rw [HV.out]; exact (Below.refl _ _).alloc (Nat.le_refl _) _
    have rV := rW.below bV zW
    obtain ⟨b0, b1, b2, b3⟩ := rV.cells4
    obtain ⟨g0, g1, g2, g3⟩ := rV.open4
    have HR := hida (rV.aput4 (.int .i64 n) (.int .i64 1) (.int .u64 0) (.int .u64 0))
    have HB := hida (abel4 (below_chain HS.out bV) (b := w.heap.size) (Nat.le_refl _) (.int .i64 n) (.int .i64 1) (.int .u64 0) (.int .u64 0))
    clear rV bV rW HS
    go_upto_region 2 with fail
    rw [← HV.out]
    clear HV
    go_wp2
    obtain ⟨r0, r1, r2, r3⟩ := HR.out.cells4
    unfold ast4 at r0 r1 r2 r3 HB
    refine bodyPost_ret (v := .agg #[.int .i64 n, .int .i64 1, .int .u64 0, .int .u64 0]) (by simp [results, Tryz.results87, go_sem, r0, r1, r2, r3]) rfl ?_
    exact ⟨by rw [HE.out]; rfl, HB.out⟩
  | some x =>
    obtain ⟨x1, x2, x3, x4⟩ := x
    rw [e] at hlk
    have hlk' : (Instr.lookup 104 (.map (some tb)) (.int .i64 n) true).run Tryz.prog W = .ok (.tuple #[.agg #[.int .i64 x1, .int .i64 x2, .int .u64 x3, .int .u64 x4], .bool true]) W := hlk
    have HE := hida e
    clear hlk e
    obtain ⟨V, HV⟩ : ∃ V, Hid (V = W.alloc (.cells #[.int .i64 x1, .int .i64 x2, .int .u64 x3, .int .u64 x4] 161)) := ⟨_, rfl⟩
    have bV : Below W.heap.size W V := by rw [HV.out]; exact (Below.refl _ _).alloc (Nat.le_refl _) _
    have rV := rW.below bV zW
    have rN : RowV V W.heap.size 4 (four (.int .i64 x1) (.int .i64 x2) (.int .u64 x3) (.int .u64 x4)) := by rw [HV.out]; exact RowV.four_new _ _ _ _ _ _
    obtain ⟨b0, b1, b2, b3⟩ := rV.cells4
    obtain ⟨g0, g1, g2, g3⟩ := rV.open4
    obtain ⟨n0, n1, n2, n3⟩ := rN.cells4
    have HR := hida (rV.aput4 (.int .i64 x1) (.int .i64 x2) (.int .u64 x3) (.int .u64 x4))
    have HB := hida (abel4 (below_chain HS.out bV) (b := w.heap.size) (Nat.le_refl _) (.int .i64 x1) (.int .i64 x2) (.int .u64 x3) (.int .u64 x4))
    have hne : w.heap.size ≠ W.heap.size := by omega
    clear rV bV rW HS rN
    go_upto_region 2 with fail
    rw [← HV.out]
    clear HV
    go_wp2
    obtain ⟨r0, r1, r2, r3⟩ := HR.out.cells4
    unfold ast4 at r0 r1 r2 r3 HB
    refine bodyPost_ret (v := .agg #[.int .i64 x1, .int .i64 x2, .int .u64 x3, .int .u64 x4]) (by simp [results, Tryz.results87, go_sem, r0, r1, r2, r3]) rfl ?_
    exact ⟨by rw [HE.out]; rfl, HB.out⟩

set_option maxHeartbeats 3200000 in
set_option maxRecDepth 20000 in
theorem hearChange_any {w : World} {hb tb db N : Nat} {g : HearG} (h : HearAt w hb tb db N g) (p at' : Nat) (hp : p < 4294967296) (hN : N ≤ 900000) :
    Calls Tryz.prog 88 #[.pointer (some ⟨hb, 0, none⟩), .int .u32 p, .int .u64 at'] w fun e w' => e = .returned (.tuple #[]) ∧ HearAt w' hb tb db (N + 1) (hearChg g p at') ∧ Kept (fun k => k = db) w w' := by
  have hlk := h.lookD p hp
  have c1 : w.cell? ⟨hb, 1, none⟩ = some (.map (some db)) := by obtain ⟨TD, DD, nt, nd, hh⟩ := h; exact hh.blk.cell 1
  obtain ⟨u, hu⟩ := h.putD (p, at') hp hN
  obtain ⟨hrun, hx⟩ := hu w (fun _ _ => rfl)
  have HX := hida hx
  have H0 := hida h
  clear h hx hu
  unfold hearChg
  cases e : g.D p with
  | none =>
    rw [e] at hlk
    have hlk' : (Instr.lookup 105 (.map (some db)) (.int .u32 p) true).run Tryz.prog w = .ok (.tuple #[.int .u64 0, .bool false]) w := hlk
    have hrun' : (Instr.mapUpdate 105 (.map (some db)) (.int .u32 p) (.int .u64 at')).run Tryz.prog w = .ok () (u w) := hrun
    clear hlk e hrun
    go_enter Tryz.func88, Tryz.ntmps88
    go_wp2
    go_end0
    exact ⟨rfl, HX.out⟩
  | some x =>
    rw [e] at hlk
    have hlk' : (Instr.lookup 105 (.map (some db)) (.int .u32 p) true).run Tryz.prog w = .ok (.tuple #[.int .u64 (x.2 : Nat), .bool true]) w := hlk
    clear hlk e hrun
    go_enter Tryz.func88, Tryz.ntmps88
    go_wp2
    go_end0
    exact ⟨rfl, H0.out.more (by omega), Kept.refl _ _⟩

end Go.Proofs.YtgkfdakieebnmaaGreat
