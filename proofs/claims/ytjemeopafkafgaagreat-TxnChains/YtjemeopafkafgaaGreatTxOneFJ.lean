/-
  The walk of girderlaw09.one: TxOneF.
  The walk of girderlaw09.one: TxOneG.
  The walk of girderlaw09.one: TxOneH.
  The walk of girderlaw09.one: TxOneH0.
  The walk of girderlaw09.one: TxOneI.
  girderlaw09.one, whole.
  Where girderlaw09.TxnPlays and TxnChains stand: the three transactions' data in an array.
-/
import Derived.Test.YtjemeopafkafgaaGreatTxNoJ
import Derived.Deep.RegionHeld3
import Derived.BigQuiet
import Derived.Test.YtjemeopafkafgaaGreatTxNewJ
namespace Go.Proofs.YtjemeopafkafgaaGreat
open Go.RowKit Go.Sort
set_option linter.unusedVariables false
set_option linter.unusedSimpArgs false

section
variable {w we wx wy w' : World} {A0 A A' : Nat → Prop} {m p lp : Nat} {H : Nat → List ByteArray → Fk → Prop} {os os' : Nat → OwnV} {T T' : Nat → ByteArray} {F F' N N' who : Nat}

theorem TxOneFmixed : Tryz.prog.follows .mixedOrders = true := by kernel_rfl

set_option maxHeartbeats 3200000 in
set_option maxRecDepth 20000 in
theorem one_commit (hH : HOk H) (h : PI w we A m p lp H os T F N) (hw : who < 3) (hF : F + 1000 ≤ 4194304) (hN : N ≤ 80000) (hn : (os who).n ≠ 0) (wv : Int) (S : ByteArray) (hS : S.size ≤ 9223372036854775807) :
    Calls Tryz.prog 7 #[.pointer (some ⟨m, 0, none⟩), .int .i64 who, .agg (os who).cells, .agg #[.int .i64 6, .int .i64 wv, .string S]] we (OneOut w we A m p lp H os F N who) := by
  obtain ⟨n, now, was, saved, save, has, ahead, aheadS, HO⟩ : ∃ n now was saved save has ahead aheadS, Hid (os who = ⟨n, now, was, saved, save, has, ahead, aheadS⟩) := ⟨_, _, _, _, _, _, _, _, rfl⟩
  have HPAR : Hid ((os who).cells = #[.int .i64 n, .string now, .string was, .string saved, .int .u64 save, .bool has, .bool ahead, .bool aheadS]) := by show _ = _; rw [HO.out]; rfl
  have HZO : Hid (own0.cells = #[.int .i64 0, .string ⟨#[]⟩, .string ⟨#[]⟩, .string ⟨#[]⟩, .int .u64 0, .bool false, .bool false, .bool false]) := rfl
  obtain ⟨W, HW⟩ : ∃ W, Hid (W = (((we.alloc (.cells (os who).cells 30)).alloc (.cells #[.int .i64 6, .int .i64 wv, .string S] 33)).alloc (.cells own0.cells 30))) := ⟨_, rfl⟩
  have H0 : Hid (OnAt w we W A A m p lp H os T F N (os who).cells #[.int .i64 6, .int .i64 wv, .string S] own0.cells) := by show OnAt _ _ _ _ _ _ _ _ _ _ _ _ _ _ _ _; rw [HW.out]; exact OnAt.start h
  have f2 : W.frozen? ⟨we.heap.size + 1, 2, none⟩ = false := H0.out.x7.frozen 2
  have hw0 : w.heap.size ≤ we.heap.size := h.bel.size
  have c2 : W.cell? ⟨we.heap.size + 1, 2, none⟩ = some (.string S) := H0.out.x7.cell 2
  have HH := hidx h
  clear h
  rw [HPAR.out]
  go_enter Tryz.func7, Tryz.ntmps7
  go_upto_region 1 with fail
  rw [← HPAR.out, ← HZO.out, ← HW.out]
  clear HW
  have HCE : Hid ((os who).cells = #[.int .i64 n, .string now, .string was, .string saved, .int .u64 save, .bool has, .bool ahead, .bool aheadS]) := HPAR
  clear HPAR
  go_upto_if 31 with fail
  go_cut [] from 28 to 35 (fun wx => ∃ S' : ByteArray, S'.size ≤ 20 ∧ Hid (OnAt w we wx A A m p lp H os T F N (os who).cells #[.int .i64 6, .int .i64 wv, .string S'] own0.cells))
  case first =>
    by_cases hlong : 20 < S.size
    · have s1 : decide ((20 : Int) < (S.size : Int)) = true := by simp; omega
      have s1' : decide (20 < S.size) = true := by simp; omega
      have s2 : (20 : Int) ≤ (S.size : Int) := by omega
      have s3 : 20 ≤ S.size := by omega
      obtain ⟨S', HS'⟩ : ∃ S', Hid (S' = S.extract 0 20) := ⟨_, rfl⟩
      have HE : Hid (OnAt w we (W.setCell ⟨we.heap.size + 1, 2, none⟩ (.string S')) A A m p lp H os T F N (os who).cells #[.int .i64 6, .int .i64 wv, .string S'] own0.cells) := hidx (H0.out.set7 hw0 2 (.string S'))
      go_wp2_with fail
      try rw [← HS'.out]
      go_meet
      case rel => exact ⟨S', by rw [HS'.out]; simp; omega, HE⟩
    · have s1 : decide ((20 : Int) < (S.size : Int)) = false := by simp; omega
      have s1' : decide (20 < S.size) = false := by simp; omega
      go_wp2_with fail
      go_meet
      case rel => exact ⟨S, by omega, H0⟩
  obtain ⟨S', hS', HA⟩ := hcut
  clear H0 c2 f2 hS
  have hn0 : ¬ (n = 0) := by have := hn; rw [HO.out] at this; exact this
  have hn1 : ¬ ((n : Int) = 0) := by omega
  have hnn : (os who).n = n := by rw [HO.out]
  have hq : IntKind.i64.wrap ((who : Int) + 1) = (who : Int) + 1 := by rw [IntKind.wrap_i64]; omega
  have hcw : ((who + 1 : Nat) : Int) = (who : Int) + 1 := by omega
  obtain ⟨hnow, hnle, hne⟩ := pi_now HA.out.pi hw hn
  have HNE : Hid (∀ k, k < 3 → (setK os who own0 k).n ≠ 0 → (n : Int) ≠ ((setK os who own0 k).n : Int)) := by rw [hnn] at hne; exact hne
  have HNOW : Hid (T (who + 1) = now) := by rw [HO.out] at hnow; exact hnow.symm
  rw [hnn] at hnle
  clear hne hnow
  have k0 : wc.cell? ⟨we.heap.size + 1, 0, none⟩ = some (.int .i64 6) := HA.out.x7.cell 0
  have k2 : wc.cell? ⟨we.heap.size + 1, 2, none⟩ = some (.string S') := HA.out.x7.cell 2
  have c60 : wc.cell? ⟨we.heap.size, 0, none⟩ = some (.int .i64 n) := by have := HA.out.x6.cell 0; rw [HCE.out] at this; exact this
  have HCM := hidx (pi_commit hH HA.out.pi hw hn (by omega) (by omega))
  rw [hnn] at HCM
  go_wp2_with fail
  refine HCM.out.mono ?_
  rintro e w4 ⟨rfl, A4, pi4, mv4⟩
  have HA4 := hidx (HA.out.step pi4 mv4)
  rw [HCE.out] at HA4
  clear HCM pi4 mv4 k0 k2 c60
  have HA5 := hidx HA4.out
  have HST := hidx (state_no (n := (n : Int)) (pi_no HA5.out.pi (n : Int) (by omega) (by omega) HNE.out) (by decide))
  clear HA4
  have h60 : w4.cell? ⟨we.heap.size, 0, none⟩ = some (.int .i64 n) := HA5.out.x6.cell 0
  go_wp2_with fail
  refine HST.out.mono ?_
  rintro e ws ⟨rfl, bs⟩
  obtain ⟨W6, HW6⟩ : ∃ W, Hid (W = ws.alloc (.cells #[.int .i64 0, .int .i64 0, .int .u64 0, .int .u64 0] 74)) := ⟨_, rfl⟩
  have HA6 := hidx (HA5.out.below (wy := W6) (below_chain bs (by rw [HW6.out]; exact (Below.refl _ _).alloc (Nat.le_refl _) _)))
  have HSL := hidx (pi_slot (HA6.out.below (wy := W6.drew) ((Below.refl _ _).drew)).pi who (by omega))
  rw [hcw, HNOW.out] at HSL
  clear HST bs HA5 h60
  go_upto_region 26 with fail
  rw [← HW6.out]
  clear HW6
  refine wp_region_noPanic ?_
  refine wp_region_held_drew (S := (fun wy : World => BlkR wy (we.heap.size) #[.int .i64 n, .string now, .string was, .string saved, .int .u64 save, .bool has, .bool ahead, .bool aheadS] 30)) TxOneFmixed (HA6.out.below (wy := W6.drew) ((Below.refl _ _).drew)).x6 (fun hH => ?_)
  refine wpAnyH_take (i := 0) (v := (.agg #[.int .i64 0, .string ⟨#[]⟩, .string ⟨#[]⟩, .string ⟨#[]⟩, .int .u64 0, .bool false, .bool false, .bool false])) (by simp only [List.getElem?_toArray, List.getElem?_cons_zero]; rfl) (by kernel_rfl) (by kernel_rfl) (by kernel_rfl) (fun _ _ _ h => h) (Or.inl ⟨by rfl, ?_⟩) hH ?_
  · intro wz hSw
    clear hSw
    go_simp
  try simp only [Act.put, List.setIfInBounds_toArray, List.set_cons_zero, List.set_cons_succ]
  refine wpAnyH_take (i := 1) (v := (.int .i64 0)) (by simp only [List.getElem?_toArray, List.getElem?_cons_succ, List.getElem?_cons_zero]; rfl) (by kernel_rfl) (by kernel_rfl) (by kernel_rfl) (fun _ _ _ h => h) (Or.inl ⟨by rfl, ?_⟩) hH ?_
  · intro wz hSw
    clear hSw
    go_simp
  try simp only [Act.put, List.setIfInBounds_toArray, List.set_cons_zero, List.set_cons_succ]
  refine wpAnyH_take (i := 2) (v := (.bool true)) (by simp only [List.getElem?_toArray, List.getElem?_cons_succ, List.getElem?_cons_zero]; rfl) (by kernel_rfl) (by kernel_rfl) (by kernel_rfl) (fun _ _ _ h => h) (Or.inl ⟨by rfl, ?_⟩) hH ?_
  · intro wz hSw
    clear hSw
    go_simp
  try simp only [Act.put, List.setIfInBounds_toArray, List.set_cons_zero, List.set_cons_succ]
  refine wpAnyH_take (i := 3) (v := (.bool true)) (by simp only [List.getElem?_toArray, List.getElem?_cons_succ, List.getElem?_cons_zero]; rfl) (by kernel_rfl) (by kernel_rfl) (by kernel_rfl) (fun _ _ _ h => h) (Or.inl ⟨by rfl, ?_⟩) hH ?_
  · intro wz hSw
    clear hSw
    go_simp
  try simp only [Act.put, List.setIfInBounds_toArray, List.set_cons_zero, List.set_cons_succ]
  refine wpAnyH_take (i := 4) (v := (.bool false)) (by simp only [List.getElem?_toArray, List.getElem?_cons_succ, List.getElem?_cons_zero]; rfl) (by kernel_rfl) (by kernel_rfl) (by kernel_rfl) (fun _ _ _ h => h) (Or.inl ⟨by rfl, ?_⟩) hH ?_
  · intro wz hSw
    clear hSw
    go_simp
  try simp only [Act.put, List.setIfInBounds_toArray, List.set_cons_zero, List.set_cons_succ]
  refine wpAnyH_take (i := 5) (v := (.bool true)) (by simp only [List.getElem?_toArray, List.getElem?_cons_succ, List.getElem?_cons_zero]; rfl) (by kernel_rfl) (by kernel_rfl) (by kernel_rfl) (fun _ _ _ h => h) (Or.inl ⟨by rfl, ?_⟩) hH ?_
  · intro wz hSw
    clear hSw
    go_simp
  try simp only [Act.put, List.setIfInBounds_toArray, List.set_cons_zero, List.set_cons_succ]
  refine wpAnyH_take (i := 6) (v := (.bool true)) (by simp only [List.getElem?_toArray, List.getElem?_cons_succ, List.getElem?_cons_zero]; rfl) (by kernel_rfl) (by kernel_rfl) (by kernel_rfl) (fun _ _ _ h => h) (Or.inl ⟨by rfl, ?_⟩) hH ?_
  · intro wz hSw
    clear hSw
    go_simp
  try simp only [Act.put, List.setIfInBounds_toArray, List.set_cons_zero, List.set_cons_succ]
  refine wpAnyH_take (i := 7) (v := (.bool true)) (by simp only [List.getElem?_toArray, List.getElem?_cons_succ, List.getElem?_cons_zero]; rfl) (by kernel_rfl) (by kernel_rfl) (by kernel_rfl) (fun _ _ _ h => h) (Or.inl ⟨by rfl, ?_⟩) hH ?_
  · intro wz hSw
    clear hSw
    go_simp
  try simp only [Act.put, List.setIfInBounds_toArray, List.set_cons_zero, List.set_cons_succ]
  refine wpAnyH_take (i := 8) (v := (.pointer (some ⟨m, 0, none⟩))) (by simp only [List.getElem?_toArray, List.getElem?_cons_succ, List.getElem?_cons_zero]; rfl) (by kernel_rfl) (by kernel_rfl) (by kernel_rfl) (fun _ _ _ h => h) (Or.inl ⟨by rfl, ?_⟩) hH ?_
  · intro wz hSw
    clear hSw
    go_simp
  try simp only [Act.put, List.setIfInBounds_toArray, List.set_cons_zero, List.set_cons_succ]
  refine wpAnyH_take (i := 9) (v := (.int .i64 who)) (by simp only [List.getElem?_toArray, List.getElem?_cons_succ, List.getElem?_cons_zero]; rfl) (by kernel_rfl) (by kernel_rfl) (by kernel_rfl) (fun _ _ _ h => h) (Or.inl ⟨by rfl, ?_⟩) hH ?_
  · intro wz hSw
    clear hSw
    go_simp
  try simp only [Act.put, List.setIfInBounds_toArray, List.set_cons_zero, List.set_cons_succ]
  refine wpAnyH_take (i := 10) (v := (.int .i64 ((who : Int) + 1))) (by simp only [List.getElem?_toArray, List.getElem?_cons_succ, List.getElem?_cons_zero]; rfl) (by kernel_rfl) (by kernel_rfl) (by kernel_rfl) (fun _ _ _ h => h) (Or.inl ⟨by rfl, ?_⟩) hH ?_
  · intro wz hSw
    clear hSw
    go_simp
  try simp only [Act.put, List.setIfInBounds_toArray, List.set_cons_zero, List.set_cons_succ]
  refine wpAnyH_take (i := 12) (v := (.pointer (some ⟨we.heap.size, 1, none⟩))) (by simp only [List.getElem?_toArray, List.getElem?_cons_succ, List.getElem?_cons_zero]; rfl) (by kernel_rfl) (by kernel_rfl) (by kernel_rfl) (fun _ _ _ h => h) (Or.inl ⟨by rfl, ?_⟩) hH ?_
  · intro wz hSw
    clear hSw
    go_simp
  try simp only [Act.put, List.setIfInBounds_toArray, List.set_cons_zero, List.set_cons_succ]
  refine wpAnyH_take (i := 13) (v := (.string now)) (by simp only [List.getElem?_toArray, List.getElem?_cons_succ, List.getElem?_cons_zero]; rfl) (by kernel_rfl) (by kernel_rfl) (by kernel_rfl) (fun _ _ _ h => h) (Or.inl ⟨by rfl, ?_⟩) hH ?_
  · intro wz hSw
    have s1 : wz.cell? ⟨we.heap.size, 1, none⟩ = some (.string now) := BlkR.cell hSw 1
    clear hSw
    go_simp
  try simp only [Act.put, List.setIfInBounds_toArray, List.set_cons_zero, List.set_cons_succ]
  refine wpAnyH_ready (rs := [11]) (by kernel_rfl) (by simp) ?_
  refine AllReadyH.cons (i := 11) (by simp only [List.getElem?_toArray, List.getElem?_cons_succ, List.getElem?_cons_zero]; rfl) (fun K hK => ?_) AllReadyH.nil
  go_simp
  refine HSL.out.mono ?_
  rintro e wv ⟨rfl, bv⟩
  have HAV := hidx (HA6.out.below ((Below.refl _ _).drew.trans bv))
  clear bv
  refine hK.out _ _ (HAV.out.x6) (fun hH1 => ?_)
  clear hK K hH
  try simp only [Act.put, List.setIfInBounds_toArray, List.set_cons_zero, List.set_cons_succ]
  refine wpAnyH_take (i := 14) (v := (.bool true)) (by simp only [List.getElem?_toArray, List.getElem?_cons_succ, List.getElem?_cons_zero]; rfl) (by kernel_rfl) (by kernel_rfl) (by kernel_rfl) (fun _ _ _ h => h) (Or.inl ⟨by rfl, ?_⟩) hH1 ?_
  · intro wz hSw
    clear hSw
    go_simp
  try simp only [Act.put, List.setIfInBounds_toArray, List.set_cons_zero, List.set_cons_succ]
  refine wpAnyH_take (i := 15) (v := (.bool true)) (by simp only [List.getElem?_toArray, List.getElem?_cons_succ, List.getElem?_cons_zero]; rfl) (by kernel_rfl) (by kernel_rfl) (by kernel_rfl) (fun _ _ _ h => h) (Or.inl ⟨by rfl, ?_⟩) hH1 ?_
  · intro wz hSw
    clear hSw
    go_simp
  try simp only [Act.put, List.setIfInBounds_toArray, List.set_cons_zero, List.set_cons_succ]
  refine wpAnyH_ready (rs := [16]) (by kernel_rfl) (by simp) ?_
  refine AllReadyH.cons (i := 16) (by simp only [List.getElem?_toArray, List.getElem?_cons_succ, List.getElem?_cons_zero]; rfl) (fun K hK => ?_) AllReadyH.nil
  have HZ := hidx (HAV.out.row8 hw0 (.int .i64 0) (.string ⟨#[]⟩) (.string ⟨#[]⟩) (.string ⟨#[]⟩) (.int .u64 0) (.bool false) (.bool false) (.bool false))
  have g80 : wv.cell? ⟨we.heap.size + 1 + 1, 0, none⟩ = some (.int .i64 0) := HAV.out.x8.cell 0
  have g81 : wv.cell? ⟨we.heap.size + 1 + 1, 1, none⟩ = some (.string ⟨#[]⟩) := HAV.out.x8.cell 1
  have g82 : wv.cell? ⟨we.heap.size + 1 + 1, 2, none⟩ = some (.string ⟨#[]⟩) := HAV.out.x8.cell 2
  have g83 : wv.cell? ⟨we.heap.size + 1 + 1, 3, none⟩ = some (.string ⟨#[]⟩) := HAV.out.x8.cell 3
  have g84 : wv.cell? ⟨we.heap.size + 1 + 1, 4, none⟩ = some (.int .u64 0) := HAV.out.x8.cell 4
  have g85 : wv.cell? ⟨we.heap.size + 1 + 1, 5, none⟩ = some (.bool false) := HAV.out.x8.cell 5
  have g86 : wv.cell? ⟨we.heap.size + 1 + 1, 6, none⟩ = some (.bool false) := HAV.out.x8.cell 6
  have g87 : wv.cell? ⟨we.heap.size + 1 + 1, 7, none⟩ = some (.bool false) := HAV.out.x8.cell 7
  have f80 : wv.frozen? ⟨we.heap.size + 1 + 1, 0, none⟩ = false := HAV.out.x8.frozen 0
  have f81 : wv.frozen? ⟨we.heap.size + 1 + 1, 1, none⟩ = false := HAV.out.x8.frozen 1
  have f82 : wv.frozen? ⟨we.heap.size + 1 + 1, 2, none⟩ = false := HAV.out.x8.frozen 2
  have f83 : wv.frozen? ⟨we.heap.size + 1 + 1, 3, none⟩ = false := HAV.out.x8.frozen 3
  have f84 : wv.frozen? ⟨we.heap.size + 1 + 1, 4, none⟩ = false := HAV.out.x8.frozen 4
  have f85 : wv.frozen? ⟨we.heap.size + 1 + 1, 5, none⟩ = false := HAV.out.x8.frozen 5
  have f86 : wv.frozen? ⟨we.heap.size + 1 + 1, 6, none⟩ = false := HAV.out.x8.frozen 6
  have f87 : wv.frozen? ⟨we.heap.size + 1 + 1, 7, none⟩ = false := HAV.out.x8.frozen 7
  go_simp
  refine hK.out _ _ (HZ.out.x6) (fun hH2 => ?_)
  clear hK K hH1
  try simp only [Act.put, List.setIfInBounds_toArray, List.set_cons_zero, List.set_cons_succ]
  refine wpAnyH_take (i := 17) (v := (.bool true)) (by simp only [List.getElem?_toArray, List.getElem?_cons_succ, List.getElem?_cons_zero]; rfl) (by kernel_rfl) (by kernel_rfl) (by kernel_rfl) (fun _ _ _ h => h) (Or.inl ⟨by rfl, ?_⟩) hH2 ?_
  · intro wz hSw
    clear hSw
    go_simp
  try simp only [Act.put, List.setIfInBounds_toArray, List.set_cons_zero, List.set_cons_succ]
  refine wpAnyH_done (by kernel_rfl) ?_ _
  refine NoPanic.normal ?_
  have z0 : (stored8 wv (we.heap.size + 1 + 1) (.int .i64 0) (.string ⟨#[]⟩) (.string ⟨#[]⟩) (.string ⟨#[]⟩) (.int .u64 0) (.bool false) (.bool false) (.bool false)).cell? ⟨we.heap.size + 1 + 1, 0, none⟩ = some (.int .i64 0) := HZ.out.x8.cell 0
  have z1 : (stored8 wv (we.heap.size + 1 + 1) (.int .i64 0) (.string ⟨#[]⟩) (.string ⟨#[]⟩) (.string ⟨#[]⟩) (.int .u64 0) (.bool false) (.bool false) (.bool false)).cell? ⟨we.heap.size + 1 + 1, 1, none⟩ = some (.string ⟨#[]⟩) := HZ.out.x8.cell 1
  have z2 : (stored8 wv (we.heap.size + 1 + 1) (.int .i64 0) (.string ⟨#[]⟩) (.string ⟨#[]⟩) (.string ⟨#[]⟩) (.int .u64 0) (.bool false) (.bool false) (.bool false)).cell? ⟨we.heap.size + 1 + 1, 2, none⟩ = some (.string ⟨#[]⟩) := HZ.out.x8.cell 2
  have z3 : (stored8 wv (we.heap.size + 1 + 1) (.int .i64 0) (.string ⟨#[]⟩) (.string ⟨#[]⟩) (.string ⟨#[]⟩) (.int .u64 0) (.bool false) (.bool false) (.bool false)).cell? ⟨we.heap.size + 1 + 1, 3, none⟩ = some (.string ⟨#[]⟩) := HZ.out.x8.cell 3
  have z4 : (stored8 wv (we.heap.size + 1 + 1) (.int .i64 0) (.string ⟨#[]⟩) (.string ⟨#[]⟩) (.string ⟨#[]⟩) (.int .u64 0) (.bool false) (.bool false) (.bool false)).cell? ⟨we.heap.size + 1 + 1, 4, none⟩ = some (.int .u64 0) := HZ.out.x8.cell 4
  have z5 : (stored8 wv (we.heap.size + 1 + 1) (.int .i64 0) (.string ⟨#[]⟩) (.string ⟨#[]⟩) (.string ⟨#[]⟩) (.int .u64 0) (.bool false) (.bool false) (.bool false)).cell? ⟨we.heap.size + 1 + 1, 5, none⟩ = some (.bool false) := HZ.out.x8.cell 5
  have z6 : (stored8 wv (we.heap.size + 1 + 1) (.int .i64 0) (.string ⟨#[]⟩) (.string ⟨#[]⟩) (.string ⟨#[]⟩) (.int .u64 0) (.bool false) (.bool false) (.bool false)).cell? ⟨we.heap.size + 1 + 1, 6, none⟩ = some (.bool false) := HZ.out.x8.cell 6
  have z7 : (stored8 wv (we.heap.size + 1 + 1) (.int .i64 0) (.string ⟨#[]⟩) (.string ⟨#[]⟩) (.string ⟨#[]⟩) (.int .u64 0) (.bool false) (.bool false) (.bool false)).cell? ⟨we.heap.size + 1 + 1, 7, none⟩ = some (.bool false) := HZ.out.x8.cell 7
  unfold stored8 at z0 z1 z2 z3 z4 z5 z6 z7
  go_wp2_with fail
  refine bodyPost_ret (v := .tuple #[.agg #[.int .i64 0, .string ⟨#[]⟩, .string ⟨#[]⟩, .string ⟨#[]⟩, .int .u64 0, .bool false, .bool false, .bool false], .bool true]) (by simp [results, Tryz.results7, go_sem, z0, z1, z2, z3, z4, z5, z6, z7]) rfl ?_
  exact ⟨⟨A4, own0, T, rfl, HZ.out.pi.room (by omega) (by omega), HZ.out.mv⟩⟩

end

end Go.Proofs.YtjemeopafkafgaaGreat

namespace Go.Proofs.YtjemeopafkafgaaGreat
open Go.RowKit Go.Sort
set_option linter.unusedVariables false
set_option linter.unusedSimpArgs false

section
variable {w we wx wy w' : World} {A0 A A' : Nat → Prop} {m p lp : Nat} {H : Nat → List ByteArray → Fk → Prop} {os os' : Nat → OwnV} {T T' : Nat → ByteArray} {F F' N N' who : Nat}

theorem TxOneGmixed : Tryz.prog.follows .mixedOrders = true := by kernel_rfl

set_option maxHeartbeats 3200000 in
set_option maxRecDepth 20000 in
theorem one_abort (hH : HOk H) (h : PI w we A m p lp H os T F N) (hw : who < 3) (hF : F + 1000 ≤ 4194304) (hN : N ≤ 80000) (hn : (os who).n ≠ 0) (wv : Int) (S : ByteArray) (hS : S.size ≤ 9223372036854775807) :
    Calls Tryz.prog 7 #[.pointer (some ⟨m, 0, none⟩), .int .i64 who, .agg (os who).cells, .agg #[.int .i64 7, .int .i64 wv, .string S]] we (OneOut w we A m p lp H os F N who) := by
  obtain ⟨n, now, was, saved, save, has, ahead, aheadS, HO⟩ : ∃ n now was saved save has ahead aheadS, Hid (os who = ⟨n, now, was, saved, save, has, ahead, aheadS⟩) := ⟨_, _, _, _, _, _, _, _, rfl⟩
  have HPAR : Hid ((os who).cells = #[.int .i64 n, .string now, .string was, .string saved, .int .u64 save, .bool has, .bool ahead, .bool aheadS]) := by show _ = _; rw [HO.out]; rfl
  have HZO : Hid (own0.cells = #[.int .i64 0, .string ⟨#[]⟩, .string ⟨#[]⟩, .string ⟨#[]⟩, .int .u64 0, .bool false, .bool false, .bool false]) := rfl
  obtain ⟨W, HW⟩ : ∃ W, Hid (W = (((we.alloc (.cells (os who).cells 30)).alloc (.cells #[.int .i64 7, .int .i64 wv, .string S] 33)).alloc (.cells own0.cells 30))) := ⟨_, rfl⟩
  have H0 : Hid (OnAt w we W A A m p lp H os T F N (os who).cells #[.int .i64 7, .int .i64 wv, .string S] own0.cells) := by show OnAt _ _ _ _ _ _ _ _ _ _ _ _ _ _ _ _; rw [HW.out]; exact OnAt.start h
  have f2 : W.frozen? ⟨we.heap.size + 1, 2, none⟩ = false := H0.out.x7.frozen 2
  have hw0 : w.heap.size ≤ we.heap.size := h.bel.size
  have c2 : W.cell? ⟨we.heap.size + 1, 2, none⟩ = some (.string S) := H0.out.x7.cell 2
  have HH := hidx h
  clear h
  rw [HPAR.out]
  go_enter Tryz.func7, Tryz.ntmps7
  go_upto_region 1 with fail
  rw [← HPAR.out, ← HZO.out, ← HW.out]
  clear HW
  have HCE : Hid ((os who).cells = #[.int .i64 n, .string now, .string was, .string saved, .int .u64 save, .bool has, .bool ahead, .bool aheadS]) := HPAR
  clear HPAR
  go_upto_if 31 with fail
  go_cut [] from 28 to 35 (fun wx => ∃ S' : ByteArray, S'.size ≤ 20 ∧ Hid (OnAt w we wx A A m p lp H os T F N (os who).cells #[.int .i64 7, .int .i64 wv, .string S'] own0.cells))
  case first =>
    by_cases hlong : 20 < S.size
    · have s1 : decide ((20 : Int) < (S.size : Int)) = true := by simp; omega
      have s1' : decide (20 < S.size) = true := by simp; omega
      have s2 : (20 : Int) ≤ (S.size : Int) := by omega
      have s3 : 20 ≤ S.size := by omega
      obtain ⟨S', HS'⟩ : ∃ S', Hid (S' = S.extract 0 20) := ⟨_, rfl⟩
      have HE : Hid (OnAt w we (W.setCell ⟨we.heap.size + 1, 2, none⟩ (.string S')) A A m p lp H os T F N (os who).cells #[.int .i64 7, .int .i64 wv, .string S'] own0.cells) := hidx (H0.out.set7 hw0 2 (.string S'))
      go_wp2_with fail
      try rw [← HS'.out]
      go_meet
      case rel => exact ⟨S', by rw [HS'.out]; simp; omega, HE⟩
    · have s1 : decide ((20 : Int) < (S.size : Int)) = false := by simp; omega
      have s1' : decide (20 < S.size) = false := by simp; omega
      go_wp2_with fail
      go_meet
      case rel => exact ⟨S, by omega, H0⟩
  obtain ⟨S', hS', HA⟩ := hcut
  clear H0 c2 f2 hS
  have hn0 : ¬ (n = 0) := by have := hn; rw [HO.out] at this; exact this
  have hn1 : ¬ ((n : Int) = 0) := by omega
  have hnn : (os who).n = n := by rw [HO.out]
  have hq : IntKind.i64.wrap ((who : Int) + 1) = (who : Int) + 1 := by rw [IntKind.wrap_i64]; omega
  have hcw : ((who + 1 : Nat) : Int) = (who : Int) + 1 := by omega
  obtain ⟨hnow, hnle, hne⟩ := pi_now HA.out.pi hw hn
  have HNE : Hid (∀ k, k < 3 → (setK os who own0 k).n ≠ 0 → (n : Int) ≠ ((setK os who own0 k).n : Int)) := by rw [hnn] at hne; exact hne
  have HNOW : Hid (T (who + 1) = now) := by rw [HO.out] at hnow; exact hnow.symm
  rw [hnn] at hnle
  clear hne hnow
  have k0 : wc.cell? ⟨we.heap.size + 1, 0, none⟩ = some (.int .i64 7) := HA.out.x7.cell 0
  have k2 : wc.cell? ⟨we.heap.size + 1, 2, none⟩ = some (.string S') := HA.out.x7.cell 2
  have c60 : wc.cell? ⟨we.heap.size, 0, none⟩ = some (.int .i64 n) := by have := HA.out.x6.cell 0; rw [HCE.out] at this; exact this
  have HX6 : Hid (BlkR wc (we.heap.size) #[.int .i64 n, .string now, .string was, .string saved, .int .u64 save, .bool has, .bool ahead, .bool aheadS] 30) := by have := HA.out.x6; rw [HCE.out] at this; exact this
  have HRL : Hid (∀ wy, wc.drew.alloc (.cells #[.pointer (some ⟨m, 0, none⟩)] 23) = wy → BlkR wy (we.heap.size) #[.int .i64 n, .string now, .string was, .string saved, .int .u64 save, .bool has, .bool ahead, .bool aheadS] 30 ∧ Calls Tryz.prog 21 #[.pointer (some ⟨m, 0, none⟩), .int .i64 n, .func (.func 75) #[] #[.pointer (some ⟨wc.drew.heap.size, 0, none⟩)]] wy fun e w' => e = .returned (.int .i64 0) ∧ ∃ A4, PI w w' A4 m p lp H (setK os who own0) (updV T (who + 1) was) F (N + 2) ∧ Moves A A4 wc w') := fun wy hwy => by
    have by1 : Below wc.heap.size wc wy := by rw [← hwy]; exact ((Below.refl _ _).drew).alloc (Nat.le_refl _) _
    have xb : Blk wy wc.drew.heap.size #[.pointer (some ⟨m, 0, none⟩)] 23 := by rw [← hwy]; exact Blk.made _ _ _
    refine ⟨HX6.out.under by1 HX6.out.lt, ?_⟩
    have := pi_abort hH HA.out.pi hw hn (by omega) wc.drew.heap.size (Nat.le_refl _) by1 (xb.cell 0)
    simp only [HO.out] at this
    exact this
  go_upto_region 28 with fail
  refine wp_region_noPanic ?_
  refine wp_region_held_drew (S := (fun wy : World => BlkR wy (we.heap.size) #[.int .i64 n, .string now, .string was, .string saved, .int .u64 save, .bool has, .bool ahead, .bool aheadS] 30)) TxOneGmixed HX6.out (fun hH => ?_)
  refine wpAnyH_take (i := 0) (v := (.pointer (some ⟨m, 0, none⟩))) (by simp only [List.getElem?_toArray, List.getElem?_cons_zero]; rfl) (by kernel_rfl) (by kernel_rfl) (by kernel_rfl) (fun _ _ _ h => h) (Or.inl ⟨by rfl, ?_⟩) hH ?_
  · intro wz hSw
    clear hSw
    go_simp
  try simp only [Act.put, List.setIfInBounds_toArray, List.set_cons_zero, List.set_cons_succ]
  refine wpAnyH_take (i := 1) (v := (.pointer (some ⟨we.heap.size, 0, none⟩))) (by simp only [List.getElem?_toArray, List.getElem?_cons_succ, List.getElem?_cons_zero]; rfl) (by kernel_rfl) (by kernel_rfl) (by kernel_rfl) (fun _ _ _ h => h) (Or.inl ⟨by rfl, ?_⟩) hH ?_
  · intro wz hSw
    clear hSw
    go_simp
  try simp only [Act.put, List.setIfInBounds_toArray, List.set_cons_zero, List.set_cons_succ]
  refine wpAnyH_take (i := 2) (v := (.int .i64 n)) (by simp only [List.getElem?_toArray, List.getElem?_cons_succ, List.getElem?_cons_zero]; rfl) (by kernel_rfl) (by kernel_rfl) (by kernel_rfl) (fun _ _ _ h => h) (Or.inl ⟨by rfl, ?_⟩) hH ?_
  · intro wz hSw
    have s0 : wz.cell? ⟨we.heap.size, 0, none⟩ = some (.int .i64 n) := BlkR.cell hSw 0
    clear hSw
    go_simp
  try simp only [Act.put, List.setIfInBounds_toArray, List.set_cons_zero, List.set_cons_succ]
  refine wpAnyH_take (i := 3) (v := (.pointer (some ⟨m, 0, none⟩))) (by simp only [List.getElem?_toArray, List.getElem?_cons_succ, List.getElem?_cons_zero]; rfl) (by kernel_rfl) (by kernel_rfl) (by kernel_rfl) (fun _ _ _ h => h) (Or.inl ⟨by rfl, ?_⟩) hH ?_
  · intro wz hSw
    clear hSw
    go_simp
  try simp only [Act.put, List.setIfInBounds_toArray, List.set_cons_zero, List.set_cons_succ]
  refine wpAnyH_ready (rs := [4]) (by kernel_rfl) (by simp) ?_
  refine AllReadyH.cons (i := 4) (by simp only [List.getElem?_toArray, List.getElem?_cons_succ, List.getElem?_cons_zero]; rfl) (fun K hK => ?_) AllReadyH.nil
  go_simp
  refine (back_any m _).mono ?_
  rintro e wb ⟨rfl, hb⟩
  obtain ⟨cb, rl⟩ := HRL.out _ hb
  clear hb
  refine hK.out _ _ (cb) (fun hH1 => ?_)
  clear hK K hH
  try simp only [Act.put, List.setIfInBounds_toArray, List.set_cons_zero, List.set_cons_succ]
  refine wpAnyH_ready (rs := [5]) (by kernel_rfl) (by simp) ?_
  refine AllReadyH.cons (i := 5) (by simp only [List.getElem?_toArray, List.getElem?_cons_succ, List.getElem?_cons_zero]; rfl) (fun K hK => ?_) AllReadyH.nil
  go_simp
  refine rl.mono ?_
  rintro e wr ⟨rfl, A4, pi4, mv4⟩
  have HA4 := hidx (HA.out.step pi4 mv4)
  rw [HCE.out] at HA4
  clear rl cb
  refine hK.out _ _ (HA4.out.x6) (fun hH2 => ?_)
  clear hK K hH1
  try simp only [Act.put, List.setIfInBounds_toArray, List.set_cons_zero, List.set_cons_succ]
  refine wpAnyH_take (i := 6) (v := (.int .i64 0)) (by simp only [List.getElem?_toArray, List.getElem?_cons_succ, List.getElem?_cons_zero]; rfl) (by kernel_rfl) (by kernel_rfl) (by kernel_rfl) (fun _ _ _ h => h) (Or.inl ⟨by rfl, ?_⟩) hH2 ?_
  · intro wz hSw
    clear hSw
    go_simp
  try simp only [Act.put, List.setIfInBounds_toArray, List.set_cons_zero, List.set_cons_succ]
  refine wpAnyH_done (by kernel_rfl) ?_ _
  refine NoPanic.normal ?_
  clear k0 k2 c60 HRL pi4 mv4
  have HA5 := hidx HA4.out
  have HST := hidx (state_no (n := (n : Int)) (pi_no HA5.out.pi (n : Int) (by omega) (by omega) HNE.out) (by decide))
  clear HA4
  have h60 : wr.cell? ⟨we.heap.size, 0, none⟩ = some (.int .i64 n) := HA5.out.x6.cell 0
  go_wp2_with fail
  refine HST.out.mono ?_
  rintro e ws ⟨rfl, bs⟩
  obtain ⟨W6, HW6⟩ : ∃ W, Hid (W = ws.alloc (.cells #[.int .i64 0, .int .i64 0, .int .u64 0, .int .u64 0] 74)) := ⟨_, rfl⟩
  have HA6 := hidx (HA5.out.below (wy := W6) (below_chain bs (by rw [HW6.out]; exact (Below.refl _ _).alloc (Nat.le_refl _) _)))
  have HSL := hidx (pi_slot (HA6.out.below (wy := W6.drew) ((Below.refl _ _).drew)).pi who (by omega))
  rw [hcw, updV_get] at HSL
  clear HST bs HA5 h60
  go_upto_region 30 with fail
  rw [← HW6.out]
  clear HW6
  refine wp_region_noPanic ?_
  refine wp_region_held_drew (S := (fun wy : World => BlkR wy (we.heap.size) #[.int .i64 n, .string now, .string was, .string saved, .int .u64 save, .bool has, .bool ahead, .bool aheadS] 30)) TxOneGmixed (HA6.out.below (wy := W6.drew) ((Below.refl _ _).drew)).x6 (fun hH => ?_)
  refine wpAnyH_take (i := 0) (v := (.agg #[.int .i64 0, .string ⟨#[]⟩, .string ⟨#[]⟩, .string ⟨#[]⟩, .int .u64 0, .bool false, .bool false, .bool false])) (by simp only [List.getElem?_toArray, List.getElem?_cons_zero]; rfl) (by kernel_rfl) (by kernel_rfl) (by kernel_rfl) (fun _ _ _ h => h) (Or.inl ⟨by rfl, ?_⟩) hH ?_
  · intro wz hSw
    clear hSw
    go_simp
  try simp only [Act.put, List.setIfInBounds_toArray, List.set_cons_zero, List.set_cons_succ]
  refine wpAnyH_take (i := 1) (v := (.int .i64 0)) (by simp only [List.getElem?_toArray, List.getElem?_cons_succ, List.getElem?_cons_zero]; rfl) (by kernel_rfl) (by kernel_rfl) (by kernel_rfl) (fun _ _ _ h => h) (Or.inl ⟨by rfl, ?_⟩) hH ?_
  · intro wz hSw
    clear hSw
    go_simp
  try simp only [Act.put, List.setIfInBounds_toArray, List.set_cons_zero, List.set_cons_succ]
  refine wpAnyH_take (i := 2) (v := (.bool true)) (by simp only [List.getElem?_toArray, List.getElem?_cons_succ, List.getElem?_cons_zero]; rfl) (by kernel_rfl) (by kernel_rfl) (by kernel_rfl) (fun _ _ _ h => h) (Or.inl ⟨by rfl, ?_⟩) hH ?_
  · intro wz hSw
    clear hSw
    go_simp
  try simp only [Act.put, List.setIfInBounds_toArray, List.set_cons_zero, List.set_cons_succ]
  refine wpAnyH_take (i := 3) (v := (.bool true)) (by simp only [List.getElem?_toArray, List.getElem?_cons_succ, List.getElem?_cons_zero]; rfl) (by kernel_rfl) (by kernel_rfl) (by kernel_rfl) (fun _ _ _ h => h) (Or.inl ⟨by rfl, ?_⟩) hH ?_
  · intro wz hSw
    clear hSw
    go_simp
  try simp only [Act.put, List.setIfInBounds_toArray, List.set_cons_zero, List.set_cons_succ]
  refine wpAnyH_take (i := 4) (v := (.bool false)) (by simp only [List.getElem?_toArray, List.getElem?_cons_succ, List.getElem?_cons_zero]; rfl) (by kernel_rfl) (by kernel_rfl) (by kernel_rfl) (fun _ _ _ h => h) (Or.inl ⟨by rfl, ?_⟩) hH ?_
  · intro wz hSw
    clear hSw
    go_simp
  try simp only [Act.put, List.setIfInBounds_toArray, List.set_cons_zero, List.set_cons_succ]
  refine wpAnyH_take (i := 5) (v := (.bool true)) (by simp only [List.getElem?_toArray, List.getElem?_cons_succ, List.getElem?_cons_zero]; rfl) (by kernel_rfl) (by kernel_rfl) (by kernel_rfl) (fun _ _ _ h => h) (Or.inl ⟨by rfl, ?_⟩) hH ?_
  · intro wz hSw
    clear hSw
    go_simp
  try simp only [Act.put, List.setIfInBounds_toArray, List.set_cons_zero, List.set_cons_succ]
  refine wpAnyH_take (i := 6) (v := (.bool true)) (by simp only [List.getElem?_toArray, List.getElem?_cons_succ, List.getElem?_cons_zero]; rfl) (by kernel_rfl) (by kernel_rfl) (by kernel_rfl) (fun _ _ _ h => h) (Or.inl ⟨by rfl, ?_⟩) hH ?_
  · intro wz hSw
    clear hSw
    go_simp
  try simp only [Act.put, List.setIfInBounds_toArray, List.set_cons_zero, List.set_cons_succ]
  refine wpAnyH_take (i := 7) (v := (.bool true)) (by simp only [List.getElem?_toArray, List.getElem?_cons_succ, List.getElem?_cons_zero]; rfl) (by kernel_rfl) (by kernel_rfl) (by kernel_rfl) (fun _ _ _ h => h) (Or.inl ⟨by rfl, ?_⟩) hH ?_
  · intro wz hSw
    clear hSw
    go_simp
  try simp only [Act.put, List.setIfInBounds_toArray, List.set_cons_zero, List.set_cons_succ]
  refine wpAnyH_take (i := 8) (v := (.pointer (some ⟨m, 0, none⟩))) (by simp only [List.getElem?_toArray, List.getElem?_cons_succ, List.getElem?_cons_zero]; rfl) (by kernel_rfl) (by kernel_rfl) (by kernel_rfl) (fun _ _ _ h => h) (Or.inl ⟨by rfl, ?_⟩) hH ?_
  · intro wz hSw
    clear hSw
    go_simp
  try simp only [Act.put, List.setIfInBounds_toArray, List.set_cons_zero, List.set_cons_succ]
  refine wpAnyH_take (i := 9) (v := (.int .i64 who)) (by simp only [List.getElem?_toArray, List.getElem?_cons_succ, List.getElem?_cons_zero]; rfl) (by kernel_rfl) (by kernel_rfl) (by kernel_rfl) (fun _ _ _ h => h) (Or.inl ⟨by rfl, ?_⟩) hH ?_
  · intro wz hSw
    clear hSw
    go_simp
  try simp only [Act.put, List.setIfInBounds_toArray, List.set_cons_zero, List.set_cons_succ]
  refine wpAnyH_take (i := 10) (v := (.int .i64 ((who : Int) + 1))) (by simp only [List.getElem?_toArray, List.getElem?_cons_succ, List.getElem?_cons_zero]; rfl) (by kernel_rfl) (by kernel_rfl) (by kernel_rfl) (fun _ _ _ h => h) (Or.inl ⟨by rfl, ?_⟩) hH ?_
  · intro wz hSw
    clear hSw
    go_simp
  try simp only [Act.put, List.setIfInBounds_toArray, List.set_cons_zero, List.set_cons_succ]
  refine wpAnyH_take (i := 12) (v := (.pointer (some ⟨we.heap.size, 2, none⟩))) (by simp only [List.getElem?_toArray, List.getElem?_cons_succ, List.getElem?_cons_zero]; rfl) (by kernel_rfl) (by kernel_rfl) (by kernel_rfl) (fun _ _ _ h => h) (Or.inl ⟨by rfl, ?_⟩) hH ?_
  · intro wz hSw
    clear hSw
    go_simp
  try simp only [Act.put, List.setIfInBounds_toArray, List.set_cons_zero, List.set_cons_succ]
  refine wpAnyH_take (i := 13) (v := (.string was)) (by simp only [List.getElem?_toArray, List.getElem?_cons_succ, List.getElem?_cons_zero]; rfl) (by kernel_rfl) (by kernel_rfl) (by kernel_rfl) (fun _ _ _ h => h) (Or.inl ⟨by rfl, ?_⟩) hH ?_
  · intro wz hSw
    have s2 : wz.cell? ⟨we.heap.size, 2, none⟩ = some (.string was) := BlkR.cell hSw 2
    clear hSw
    go_simp
  try simp only [Act.put, List.setIfInBounds_toArray, List.set_cons_zero, List.set_cons_succ]
  refine wpAnyH_ready (rs := [11]) (by kernel_rfl) (by simp) ?_
  refine AllReadyH.cons (i := 11) (by simp only [List.getElem?_toArray, List.getElem?_cons_succ, List.getElem?_cons_zero]; rfl) (fun K hK => ?_) AllReadyH.nil
  go_simp
  refine HSL.out.mono ?_
  rintro e wv ⟨rfl, bv⟩
  have HAV := hidx (HA6.out.below ((Below.refl _ _).drew.trans bv))
  clear bv
  refine hK.out _ _ (HAV.out.x6) (fun hH1 => ?_)
  clear hK K hH
  try simp only [Act.put, List.setIfInBounds_toArray, List.set_cons_zero, List.set_cons_succ]
  refine wpAnyH_take (i := 14) (v := (.bool true)) (by simp only [List.getElem?_toArray, List.getElem?_cons_succ, List.getElem?_cons_zero]; rfl) (by kernel_rfl) (by kernel_rfl) (by kernel_rfl) (fun _ _ _ h => h) (Or.inl ⟨by rfl, ?_⟩) hH1 ?_
  · intro wz hSw
    clear hSw
    go_simp
  try simp only [Act.put, List.setIfInBounds_toArray, List.set_cons_zero, List.set_cons_succ]
  refine wpAnyH_take (i := 15) (v := (.bool true)) (by simp only [List.getElem?_toArray, List.getElem?_cons_succ, List.getElem?_cons_zero]; rfl) (by kernel_rfl) (by kernel_rfl) (by kernel_rfl) (fun _ _ _ h => h) (Or.inl ⟨by rfl, ?_⟩) hH1 ?_
  · intro wz hSw
    clear hSw
    go_simp
  try simp only [Act.put, List.setIfInBounds_toArray, List.set_cons_zero, List.set_cons_succ]
  refine wpAnyH_ready (rs := [16]) (by kernel_rfl) (by simp) ?_
  refine AllReadyH.cons (i := 16) (by simp only [List.getElem?_toArray, List.getElem?_cons_succ, List.getElem?_cons_zero]; rfl) (fun K hK => ?_) AllReadyH.nil
  have HZ := hidx (HAV.out.row8 hw0 (.int .i64 0) (.string ⟨#[]⟩) (.string ⟨#[]⟩) (.string ⟨#[]⟩) (.int .u64 0) (.bool false) (.bool false) (.bool false))
  have g80 : wv.cell? ⟨we.heap.size + 1 + 1, 0, none⟩ = some (.int .i64 0) := HAV.out.x8.cell 0
  have g81 : wv.cell? ⟨we.heap.size + 1 + 1, 1, none⟩ = some (.string ⟨#[]⟩) := HAV.out.x8.cell 1
  have g82 : wv.cell? ⟨we.heap.size + 1 + 1, 2, none⟩ = some (.string ⟨#[]⟩) := HAV.out.x8.cell 2
  have g83 : wv.cell? ⟨we.heap.size + 1 + 1, 3, none⟩ = some (.string ⟨#[]⟩) := HAV.out.x8.cell 3
  have g84 : wv.cell? ⟨we.heap.size + 1 + 1, 4, none⟩ = some (.int .u64 0) := HAV.out.x8.cell 4
  have g85 : wv.cell? ⟨we.heap.size + 1 + 1, 5, none⟩ = some (.bool false) := HAV.out.x8.cell 5
  have g86 : wv.cell? ⟨we.heap.size + 1 + 1, 6, none⟩ = some (.bool false) := HAV.out.x8.cell 6
  have g87 : wv.cell? ⟨we.heap.size + 1 + 1, 7, none⟩ = some (.bool false) := HAV.out.x8.cell 7
  have f80 : wv.frozen? ⟨we.heap.size + 1 + 1, 0, none⟩ = false := HAV.out.x8.frozen 0
  have f81 : wv.frozen? ⟨we.heap.size + 1 + 1, 1, none⟩ = false := HAV.out.x8.frozen 1
  have f82 : wv.frozen? ⟨we.heap.size + 1 + 1, 2, none⟩ = false := HAV.out.x8.frozen 2
  have f83 : wv.frozen? ⟨we.heap.size + 1 + 1, 3, none⟩ = false := HAV.out.x8.frozen 3
  have f84 : wv.frozen? ⟨we.heap.size + 1 + 1, 4, none⟩ = false := HAV.out.x8.frozen 4
  have f85 : wv.frozen? ⟨we.heap.size + 1 + 1, 5, none⟩ = false := HAV.out.x8.frozen 5
  have f86 : wv.frozen? ⟨we.heap.size + 1 + 1, 6, none⟩ = false := HAV.out.x8.frozen 6
  have f87 : wv.frozen? ⟨we.heap.size + 1 + 1, 7, none⟩ = false := HAV.out.x8.frozen 7
  go_simp
  refine hK.out _ _ (HZ.out.x6) (fun hH2 => ?_)
  clear hK K hH1
  try simp only [Act.put, List.setIfInBounds_toArray, List.set_cons_zero, List.set_cons_succ]
  refine wpAnyH_take (i := 17) (v := (.bool true)) (by simp only [List.getElem?_toArray, List.getElem?_cons_succ, List.getElem?_cons_zero]; rfl) (by kernel_rfl) (by kernel_rfl) (by kernel_rfl) (fun _ _ _ h => h) (Or.inl ⟨by rfl, ?_⟩) hH2 ?_
  · intro wz hSw
    clear hSw
    go_simp
  try simp only [Act.put, List.setIfInBounds_toArray, List.set_cons_zero, List.set_cons_succ]
  refine wpAnyH_done (by kernel_rfl) ?_ _
  refine NoPanic.normal ?_
  have z0 : (stored8 wv (we.heap.size + 1 + 1) (.int .i64 0) (.string ⟨#[]⟩) (.string ⟨#[]⟩) (.string ⟨#[]⟩) (.int .u64 0) (.bool false) (.bool false) (.bool false)).cell? ⟨we.heap.size + 1 + 1, 0, none⟩ = some (.int .i64 0) := HZ.out.x8.cell 0
  have z1 : (stored8 wv (we.heap.size + 1 + 1) (.int .i64 0) (.string ⟨#[]⟩) (.string ⟨#[]⟩) (.string ⟨#[]⟩) (.int .u64 0) (.bool false) (.bool false) (.bool false)).cell? ⟨we.heap.size + 1 + 1, 1, none⟩ = some (.string ⟨#[]⟩) := HZ.out.x8.cell 1
  have z2 : (stored8 wv (we.heap.size + 1 + 1) (.int .i64 0) (.string ⟨#[]⟩) (.string ⟨#[]⟩) (.string ⟨#[]⟩) (.int .u64 0) (.bool false) (.bool false) (.bool false)).cell? ⟨we.heap.size + 1 + 1, 2, none⟩ = some (.string ⟨#[]⟩) := HZ.out.x8.cell 2
  have z3 : (stored8 wv (we.heap.size + 1 + 1) (.int .i64 0) (.string ⟨#[]⟩) (.string ⟨#[]⟩) (.string ⟨#[]⟩) (.int .u64 0) (.bool false) (.bool false) (.bool false)).cell? ⟨we.heap.size + 1 + 1, 3, none⟩ = some (.string ⟨#[]⟩) := HZ.out.x8.cell 3
  have z4 : (stored8 wv (we.heap.size + 1 + 1) (.int .i64 0) (.string ⟨#[]⟩) (.string ⟨#[]⟩) (.string ⟨#[]⟩) (.int .u64 0) (.bool false) (.bool false) (.bool false)).cell? ⟨we.heap.size + 1 + 1, 4, none⟩ = some (.int .u64 0) := HZ.out.x8.cell 4
  have z5 : (stored8 wv (we.heap.size + 1 + 1) (.int .i64 0) (.string ⟨#[]⟩) (.string ⟨#[]⟩) (.string ⟨#[]⟩) (.int .u64 0) (.bool false) (.bool false) (.bool false)).cell? ⟨we.heap.size + 1 + 1, 5, none⟩ = some (.bool false) := HZ.out.x8.cell 5
  have z6 : (stored8 wv (we.heap.size + 1 + 1) (.int .i64 0) (.string ⟨#[]⟩) (.string ⟨#[]⟩) (.string ⟨#[]⟩) (.int .u64 0) (.bool false) (.bool false) (.bool false)).cell? ⟨we.heap.size + 1 + 1, 6, none⟩ = some (.bool false) := HZ.out.x8.cell 6
  have z7 : (stored8 wv (we.heap.size + 1 + 1) (.int .i64 0) (.string ⟨#[]⟩) (.string ⟨#[]⟩) (.string ⟨#[]⟩) (.int .u64 0) (.bool false) (.bool false) (.bool false)).cell? ⟨we.heap.size + 1 + 1, 7, none⟩ = some (.bool false) := HZ.out.x8.cell 7
  unfold stored8 at z0 z1 z2 z3 z4 z5 z6 z7
  go_wp2_with fail
  refine bodyPost_ret (v := .tuple #[.agg #[.int .i64 0, .string ⟨#[]⟩, .string ⟨#[]⟩, .string ⟨#[]⟩, .int .u64 0, .bool false, .bool false, .bool false], .bool true]) (by simp [results, Tryz.results7, go_sem, z0, z1, z2, z3, z4, z5, z6, z7]) rfl ?_
  exact ⟨⟨A4, own0, _, rfl, HZ.out.pi.room (by omega) (by omega), HZ.out.mv⟩⟩

end

end Go.Proofs.YtjemeopafkafgaaGreat

namespace Go.Proofs.YtjemeopafkafgaaGreat
open Go.RowKit Go.Sort
set_option linter.unusedVariables false
set_option linter.unusedSimpArgs false

section
variable {w we wx wy w' : World} {A0 A A' : Nat → Prop} {m p lp : Nat} {H : Nat → List ByteArray → Fk → Prop} {os os' : Nat → OwnV} {T T' : Nat → ByteArray} {F F' N N' who : Nat}

set_option maxHeartbeats 3200000 in
set_option maxRecDepth 20000 in
theorem one_top (hH : HOk H) (h : PI w we A m p lp H os T F N) (hw : who < 3) (hF : F + 1000 ≤ 4194304) (hN : N ≤ 80000) (hn : (os who).n ≠ 0) (hh : (os who).has = true) (ha : (os who).aheadS = false) (wv : Int) (S : ByteArray) (hS : S.size ≤ 9223372036854775807) :
    Calls Tryz.prog 7 #[.pointer (some ⟨m, 0, none⟩), .int .i64 who, .agg (os who).cells, .agg #[.int .i64 8, .int .i64 wv, .string S]] we (OneOut w we A m p lp H os F N who) := by
  obtain ⟨n, now, was, saved, save, has, ahead, aheadS, HO⟩ : ∃ n now was saved save has ahead aheadS, Hid (os who = ⟨n, now, was, saved, save, has, ahead, aheadS⟩) := ⟨_, _, _, _, _, _, _, _, rfl⟩
  have HPAR : Hid ((os who).cells = #[.int .i64 n, .string now, .string was, .string saved, .int .u64 save, .bool has, .bool ahead, .bool aheadS]) := by show _ = _; rw [HO.out]; rfl
  have HZO : Hid (own0.cells = #[.int .i64 0, .string ⟨#[]⟩, .string ⟨#[]⟩, .string ⟨#[]⟩, .int .u64 0, .bool false, .bool false, .bool false]) := rfl
  obtain ⟨W, HW⟩ : ∃ W, Hid (W = (((we.alloc (.cells (os who).cells 30)).alloc (.cells #[.int .i64 8, .int .i64 wv, .string S] 33)).alloc (.cells own0.cells 30))) := ⟨_, rfl⟩
  have H0 : Hid (OnAt w we W A A m p lp H os T F N (os who).cells #[.int .i64 8, .int .i64 wv, .string S] own0.cells) := by show OnAt _ _ _ _ _ _ _ _ _ _ _ _ _ _ _ _; rw [HW.out]; exact OnAt.start h
  have f2 : W.frozen? ⟨we.heap.size + 1, 2, none⟩ = false := H0.out.x7.frozen 2
  have hw0 : w.heap.size ≤ we.heap.size := h.bel.size
  have c2 : W.cell? ⟨we.heap.size + 1, 2, none⟩ = some (.string S) := H0.out.x7.cell 2
  have HH := hidx h
  clear h
  rw [HPAR.out]
  go_enter Tryz.func7, Tryz.ntmps7
  go_upto_region 1 with fail
  rw [← HPAR.out, ← HZO.out, ← HW.out]
  clear HW
  have HCE : Hid ((os who).cells = #[.int .i64 n, .string now, .string was, .string saved, .int .u64 save, .bool has, .bool ahead, .bool aheadS]) := HPAR
  clear HPAR
  go_upto_if 31 with fail
  go_cut [] from 28 to 35 (fun wx => ∃ S' : ByteArray, S'.size ≤ 20 ∧ Hid (OnAt w we wx A A m p lp H os T F N (os who).cells #[.int .i64 8, .int .i64 wv, .string S'] own0.cells))
  case first =>
    by_cases hlong : 20 < S.size
    · have s1 : decide ((20 : Int) < (S.size : Int)) = true := by simp; omega
      have s1' : decide (20 < S.size) = true := by simp; omega
      have s2 : (20 : Int) ≤ (S.size : Int) := by omega
      have s3 : 20 ≤ S.size := by omega
      obtain ⟨S', HS'⟩ : ∃ S', Hid (S' = S.extract 0 20) := ⟨_, rfl⟩
      have HE : Hid (OnAt w we (W.setCell ⟨we.heap.size + 1, 2, none⟩ (.string S')) A A m p lp H os T F N (os who).cells #[.int .i64 8, .int .i64 wv, .string S'] own0.cells) := hidx (H0.out.set7 hw0 2 (.string S'))
      go_wp2_with fail
      try rw [← HS'.out]
      go_meet
      case rel => exact ⟨S', by rw [HS'.out]; simp; omega, HE⟩
    · have s1 : decide ((20 : Int) < (S.size : Int)) = false := by simp; omega
      have s1' : decide (20 < S.size) = false := by simp; omega
      go_wp2_with fail
      go_meet
      case rel => exact ⟨S, by omega, H0⟩
  obtain ⟨S', hS', HA⟩ := hcut
  clear H0 c2 f2 hS
  have hn0 : ¬ (n = 0) := by have := hn; rw [HO.out] at this; exact this
  have hn1 : ¬ ((n : Int) = 0) := by omega
  have hnn : (os who).n = n := by rw [HO.out]
  have hq : IntKind.i64.wrap ((who : Int) + 1) = (who : Int) + 1 := by rw [IntKind.wrap_i64]; omega
  have hcw : ((who + 1 : Nat) : Int) = (who : Int) + 1 := by omega
  have hh0 : has = true := by have := hh; rw [HO.out] at this; exact this
  subst hh0
  have ha0 : aheadS = false := by have := ha; rw [HO.out] at this; exact this
  subst ha0
  have k0 : wc.cell? ⟨we.heap.size + 1, 0, none⟩ = some (.int .i64 8) := HA.out.x7.cell 0
  have k2 : wc.cell? ⟨we.heap.size + 1, 2, none⟩ = some (.string S') := HA.out.x7.cell 2
  have c60 : wc.cell? ⟨we.heap.size, 0, none⟩ = some (.int .i64 n) := by have := HA.out.x6.cell 0; rw [HCE.out] at this; exact this
  have c61 : wc.cell? ⟨we.heap.size, 1, none⟩ = some (.string now) := by have := HA.out.x6.cell 1; rw [HCE.out] at this; exact this
  have c62 : wc.cell? ⟨we.heap.size, 2, none⟩ = some (.string was) := by have := HA.out.x6.cell 2; rw [HCE.out] at this; exact this
  have c63 : wc.cell? ⟨we.heap.size, 3, none⟩ = some (.string saved) := by have := HA.out.x6.cell 3; rw [HCE.out] at this; exact this
  have c64 : wc.cell? ⟨we.heap.size, 4, none⟩ = some (.int .u64 save) := by have := HA.out.x6.cell 4; rw [HCE.out] at this; exact this
  have c65 : wc.cell? ⟨we.heap.size, 5, none⟩ = some (.bool true) := by have := HA.out.x6.cell 5; rw [HCE.out] at this; exact this
  have c66 : wc.cell? ⟨we.heap.size, 6, none⟩ = some (.bool ahead) := by have := HA.out.x6.cell 6; rw [HCE.out] at this; exact this
  have c67 : wc.cell? ⟨we.heap.size, 7, none⟩ = some (.bool false) := by have := HA.out.x6.cell 7; rw [HCE.out] at this; exact this
  have f62 : wc.frozen? ⟨we.heap.size, 2, none⟩ = false := HA.out.x6.frozen 2
  have f65 : wc.frozen? ⟨we.heap.size, 5, none⟩ = false := HA.out.x6.frozen 5
  have f66 : wc.frozen? ⟨we.heap.size, 6, none⟩ = false := HA.out.x6.frozen 6
  have HTP := hidx (pi_top hH HA.out.pi hw hn hh ha (by omega))
  simp only [HO.out] at HTP
  go_wp2_with fail
  refine HTP.out.mono ?_
  rintro e w4 ⟨s, rfl, A4, pi4, mv4⟩
  have HA4 := hidx (HA.out.step pi4 mv4)
  rw [HCE.out] at HA4
  clear HTP pi4 mv4 k0 k2 c60 c61 c62 c63 c64 c65 c66 c67 f62 f65 f66
  have HA5 := hidx (((HA4.out.set6 hw0 2 (.string now)).set6 hw0 6 (.bool false)).set6 hw0 5 (.bool false))
  have c60 : w4.cell? ⟨we.heap.size, 0, none⟩ = some (.int .i64 n) := by have := HA4.out.x6.cell 0; exact this
  have c61 : w4.cell? ⟨we.heap.size, 1, none⟩ = some (.string now) := by have := HA4.out.x6.cell 1; exact this
  have c62 : w4.cell? ⟨we.heap.size, 2, none⟩ = some (.string was) := by have := HA4.out.x6.cell 2; exact this
  have c63 : w4.cell? ⟨we.heap.size, 3, none⟩ = some (.string saved) := by have := HA4.out.x6.cell 3; exact this
  have c64 : w4.cell? ⟨we.heap.size, 4, none⟩ = some (.int .u64 save) := by have := HA4.out.x6.cell 4; exact this
  have c65 : w4.cell? ⟨we.heap.size, 5, none⟩ = some (.bool true) := by have := HA4.out.x6.cell 5; exact this
  have c66 : w4.cell? ⟨we.heap.size, 6, none⟩ = some (.bool ahead) := by have := HA4.out.x6.cell 6; exact this
  have c67 : w4.cell? ⟨we.heap.size, 7, none⟩ = some (.bool false) := by have := HA4.out.x6.cell 7; exact this
  have f62 : w4.frozen? ⟨we.heap.size, 2, none⟩ = false := HA4.out.x6.frozen 2
  have f65 : w4.frozen? ⟨we.heap.size, 5, none⟩ = false := HA4.out.x6.frozen 5
  have f66 : w4.frozen? ⟨we.heap.size, 6, none⟩ = false := HA4.out.x6.frozen 6
  obtain ⟨W5, HW5⟩ : ∃ W, Hid (W = ((w4.setCell ⟨we.heap.size, 2, none⟩ (.string now)).setCell ⟨we.heap.size, 6, none⟩ (.bool false)).setCell ⟨we.heap.size, 5, none⟩ (.bool false)) := ⟨_, rfl⟩
  rw [← HW5.out] at HA5
  have HA6 : Hid (OnAt w we W5 A A4 m p lp H (setK os who ⟨n, now, now, saved, save, false, false, false⟩) T (F + 83) N #[.int .i64 n, .string now, .string now, .string saved, .int .u64 save, .bool false, .bool false, .bool false] #[.int .i64 8, .int .i64 wv, .string S'] own0.cells) := HA5.out
  clear HA4 HA5
  go_upto_region 37 with fail
  rw [← HW5.out]
  clear HW5 c60 c61 c62 c63 c64 c65 c66 c67 f62 f65 f66
  have c60 : W5.cell? ⟨we.heap.size, 0, none⟩ = some (.int .i64 n) := by have := HA6.out.x6.cell 0; exact this
  have c61 : W5.cell? ⟨we.heap.size, 1, none⟩ = some (.string now) := by have := HA6.out.x6.cell 1; exact this
  have c62 : W5.cell? ⟨we.heap.size, 2, none⟩ = some (.string now) := by have := HA6.out.x6.cell 2; exact this
  have c63 : W5.cell? ⟨we.heap.size, 3, none⟩ = some (.string saved) := by have := HA6.out.x6.cell 3; exact this
  have c64 : W5.cell? ⟨we.heap.size, 4, none⟩ = some (.int .u64 save) := by have := HA6.out.x6.cell 4; exact this
  have c65 : W5.cell? ⟨we.heap.size, 5, none⟩ = some (.bool false) := by have := HA6.out.x6.cell 5; exact this
  have c66 : W5.cell? ⟨we.heap.size, 6, none⟩ = some (.bool false) := by have := HA6.out.x6.cell 6; exact this
  have c67 : W5.cell? ⟨we.heap.size, 7, none⟩ = some (.bool false) := by have := HA6.out.x6.cell 7; exact this
  have HZ := hidx (HA6.out.row8 hw0 (.int .i64 n) (.string now) (.string now) (.string saved) (.int .u64 save) (.bool false) (.bool false) (.bool false))
  have g80 : W5.cell? ⟨we.heap.size + 1 + 1, 0, none⟩ = some (.int .i64 0) := HA6.out.x8.cell 0
  have g81 : W5.cell? ⟨we.heap.size + 1 + 1, 1, none⟩ = some (.string ⟨#[]⟩) := HA6.out.x8.cell 1
  have g82 : W5.cell? ⟨we.heap.size + 1 + 1, 2, none⟩ = some (.string ⟨#[]⟩) := HA6.out.x8.cell 2
  have g83 : W5.cell? ⟨we.heap.size + 1 + 1, 3, none⟩ = some (.string ⟨#[]⟩) := HA6.out.x8.cell 3
  have g84 : W5.cell? ⟨we.heap.size + 1 + 1, 4, none⟩ = some (.int .u64 0) := HA6.out.x8.cell 4
  have g85 : W5.cell? ⟨we.heap.size + 1 + 1, 5, none⟩ = some (.bool false) := HA6.out.x8.cell 5
  have g86 : W5.cell? ⟨we.heap.size + 1 + 1, 6, none⟩ = some (.bool false) := HA6.out.x8.cell 6
  have g87 : W5.cell? ⟨we.heap.size + 1 + 1, 7, none⟩ = some (.bool false) := HA6.out.x8.cell 7
  have f80 : W5.frozen? ⟨we.heap.size + 1 + 1, 0, none⟩ = false := HA6.out.x8.frozen 0
  have f81 : W5.frozen? ⟨we.heap.size + 1 + 1, 1, none⟩ = false := HA6.out.x8.frozen 1
  have f82 : W5.frozen? ⟨we.heap.size + 1 + 1, 2, none⟩ = false := HA6.out.x8.frozen 2
  have f83 : W5.frozen? ⟨we.heap.size + 1 + 1, 3, none⟩ = false := HA6.out.x8.frozen 3
  have f84 : W5.frozen? ⟨we.heap.size + 1 + 1, 4, none⟩ = false := HA6.out.x8.frozen 4
  have f85 : W5.frozen? ⟨we.heap.size + 1 + 1, 5, none⟩ = false := HA6.out.x8.frozen 5
  have f86 : W5.frozen? ⟨we.heap.size + 1 + 1, 6, none⟩ = false := HA6.out.x8.frozen 6
  have f87 : W5.frozen? ⟨we.heap.size + 1 + 1, 7, none⟩ = false := HA6.out.x8.frozen 7
  have z0 : (stored8 W5 (we.heap.size + 1 + 1) (.int .i64 n) (.string now) (.string now) (.string saved) (.int .u64 save) (.bool false) (.bool false) (.bool false)).cell? ⟨we.heap.size + 1 + 1, 0, none⟩ = some (.int .i64 n) := HZ.out.x8.cell 0
  have z1 : (stored8 W5 (we.heap.size + 1 + 1) (.int .i64 n) (.string now) (.string now) (.string saved) (.int .u64 save) (.bool false) (.bool false) (.bool false)).cell? ⟨we.heap.size + 1 + 1, 1, none⟩ = some (.string now) := HZ.out.x8.cell 1
  have z2 : (stored8 W5 (we.heap.size + 1 + 1) (.int .i64 n) (.string now) (.string now) (.string saved) (.int .u64 save) (.bool false) (.bool false) (.bool false)).cell? ⟨we.heap.size + 1 + 1, 2, none⟩ = some (.string now) := HZ.out.x8.cell 2
  have z3 : (stored8 W5 (we.heap.size + 1 + 1) (.int .i64 n) (.string now) (.string now) (.string saved) (.int .u64 save) (.bool false) (.bool false) (.bool false)).cell? ⟨we.heap.size + 1 + 1, 3, none⟩ = some (.string saved) := HZ.out.x8.cell 3
  have z4 : (stored8 W5 (we.heap.size + 1 + 1) (.int .i64 n) (.string now) (.string now) (.string saved) (.int .u64 save) (.bool false) (.bool false) (.bool false)).cell? ⟨we.heap.size + 1 + 1, 4, none⟩ = some (.int .u64 save) := HZ.out.x8.cell 4
  have z5 : (stored8 W5 (we.heap.size + 1 + 1) (.int .i64 n) (.string now) (.string now) (.string saved) (.int .u64 save) (.bool false) (.bool false) (.bool false)).cell? ⟨we.heap.size + 1 + 1, 5, none⟩ = some (.bool false) := HZ.out.x8.cell 5
  have z6 : (stored8 W5 (we.heap.size + 1 + 1) (.int .i64 n) (.string now) (.string now) (.string saved) (.int .u64 save) (.bool false) (.bool false) (.bool false)).cell? ⟨we.heap.size + 1 + 1, 6, none⟩ = some (.bool false) := HZ.out.x8.cell 6
  have z7 : (stored8 W5 (we.heap.size + 1 + 1) (.int .i64 n) (.string now) (.string now) (.string saved) (.int .u64 save) (.bool false) (.bool false) (.bool false)).cell? ⟨we.heap.size + 1 + 1, 7, none⟩ = some (.bool false) := HZ.out.x8.cell 7
  unfold stored8 at z0 z1 z2 z3 z4 z5 z6 z7
  go_wp2_with fail
  refine bodyPost_ret (v := .tuple #[.agg #[.int .i64 n, .string now, .string now, .string saved, .int .u64 save, .bool false, .bool false, .bool false], .bool true]) (by simp [results, Tryz.results7, go_sem, z0, z1, z2, z3, z4, z5, z6, z7]) rfl ?_
  exact ⟨⟨A4, (⟨n, now, now, saved, save, false, false, false⟩ : OwnV), T, rfl, HZ.out.pi.room (F' := F + 400) (N' := N + 2) (by omega) (by omega), HZ.out.mv⟩⟩

end

end Go.Proofs.YtjemeopafkafgaaGreat

namespace Go.Proofs.YtjemeopafkafgaaGreat
open Go.RowKit Go.Sort
set_option linter.unusedVariables false
set_option linter.unusedSimpArgs false

section
variable {w we wx wy w' : World} {A0 A A' : Nat → Prop} {m p lp : Nat} {H : Nat → List ByteArray → Fk → Prop} {os os' : Nat → OwnV} {T T' : Nat → ByteArray} {F F' N N' who : Nat}

set_option maxHeartbeats 3200000 in
set_option maxRecDepth 20000 in
theorem one_top0 (hH : HOk H) (h : PI w we A m p lp H os T F N) (hw : who < 3) (hF : F + 1000 ≤ 4194304) (hN : N ≤ 80000) (hn : (os who).n ≠ 0) (hh : (os who).has = false) (wv : Int) (S : ByteArray) (hS : S.size ≤ 9223372036854775807) :
    Calls Tryz.prog 7 #[.pointer (some ⟨m, 0, none⟩), .int .i64 who, .agg (os who).cells, .agg #[.int .i64 8, .int .i64 wv, .string S]] we (OneOut w we A m p lp H os F N who) := by
  obtain ⟨n, now, was, saved, save, has, ahead, aheadS, HO⟩ : ∃ n now was saved save has ahead aheadS, Hid (os who = ⟨n, now, was, saved, save, has, ahead, aheadS⟩) := ⟨_, _, _, _, _, _, _, _, rfl⟩
  have HPAR : Hid ((os who).cells = #[.int .i64 n, .string now, .string was, .string saved, .int .u64 save, .bool has, .bool ahead, .bool aheadS]) := by show _ = _; rw [HO.out]; rfl
  have HZO : Hid (own0.cells = #[.int .i64 0, .string ⟨#[]⟩, .string ⟨#[]⟩, .string ⟨#[]⟩, .int .u64 0, .bool false, .bool false, .bool false]) := rfl
  obtain ⟨W, HW⟩ : ∃ W, Hid (W = (((we.alloc (.cells (os who).cells 30)).alloc (.cells #[.int .i64 8, .int .i64 wv, .string S] 33)).alloc (.cells own0.cells 30))) := ⟨_, rfl⟩
  have H0 : Hid (OnAt w we W A A m p lp H os T F N (os who).cells #[.int .i64 8, .int .i64 wv, .string S] own0.cells) := by show OnAt _ _ _ _ _ _ _ _ _ _ _ _ _ _ _ _; rw [HW.out]; exact OnAt.start h
  have f2 : W.frozen? ⟨we.heap.size + 1, 2, none⟩ = false := H0.out.x7.frozen 2
  have hw0 : w.heap.size ≤ we.heap.size := h.bel.size
  have c2 : W.cell? ⟨we.heap.size + 1, 2, none⟩ = some (.string S) := H0.out.x7.cell 2
  have HH := hidx h
  clear h
  rw [HPAR.out]
  go_enter Tryz.func7, Tryz.ntmps7
  go_upto_region 1 with fail
  rw [← HPAR.out, ← HZO.out, ← HW.out]
  clear HW
  have HCE : Hid ((os who).cells = #[.int .i64 n, .string now, .string was, .string saved, .int .u64 save, .bool has, .bool ahead, .bool aheadS]) := HPAR
  clear HPAR
  go_upto_if 31 with fail
  go_cut [] from 28 to 35 (fun wx => ∃ S' : ByteArray, S'.size ≤ 20 ∧ Hid (OnAt w we wx A A m p lp H os T F N (os who).cells #[.int .i64 8, .int .i64 wv, .string S'] own0.cells))
  case first =>
    by_cases hlong : 20 < S.size
    · have s1 : decide ((20 : Int) < (S.size : Int)) = true := by simp; omega
      have s1' : decide (20 < S.size) = true := by simp; omega
      have s2 : (20 : Int) ≤ (S.size : Int) := by omega
      have s3 : 20 ≤ S.size := by omega
      obtain ⟨S', HS'⟩ : ∃ S', Hid (S' = S.extract 0 20) := ⟨_, rfl⟩
      have HE : Hid (OnAt w we (W.setCell ⟨we.heap.size + 1, 2, none⟩ (.string S')) A A m p lp H os T F N (os who).cells #[.int .i64 8, .int .i64 wv, .string S'] own0.cells) := hidx (H0.out.set7 hw0 2 (.string S'))
      go_wp2_with fail
      try rw [← HS'.out]
      go_meet
      case rel => exact ⟨S', by rw [HS'.out]; simp; omega, HE⟩
    · have s1 : decide ((20 : Int) < (S.size : Int)) = false := by simp; omega
      have s1' : decide (20 < S.size) = false := by simp; omega
      go_wp2_with fail
      go_meet
      case rel => exact ⟨S, by omega, H0⟩
  obtain ⟨S', hS', HA⟩ := hcut
  clear H0 c2 f2 hS
  have hn0 : ¬ (n = 0) := by have := hn; rw [HO.out] at this; exact this
  have hn1 : ¬ ((n : Int) = 0) := by omega
  have hh0 : has = false := by have := hh; rw [HO.out] at this; exact this
  subst hh0
  have k0 : wc.cell? ⟨we.heap.size + 1, 0, none⟩ = some (.int .i64 8) := HA.out.x7.cell 0
  have k2 : wc.cell? ⟨we.heap.size + 1, 2, none⟩ = some (.string S') := HA.out.x7.cell 2
  have c60 : wc.cell? ⟨we.heap.size, 0, none⟩ = some (.int .i64 n) := by have := HA.out.x6.cell 0; rw [HCE.out] at this; exact this
  have c61 : wc.cell? ⟨we.heap.size, 1, none⟩ = some (.string now) := by have := HA.out.x6.cell 1; rw [HCE.out] at this; exact this
  have c62 : wc.cell? ⟨we.heap.size, 2, none⟩ = some (.string was) := by have := HA.out.x6.cell 2; rw [HCE.out] at this; exact this
  have c63 : wc.cell? ⟨we.heap.size, 3, none⟩ = some (.string saved) := by have := HA.out.x6.cell 3; rw [HCE.out] at this; exact this
  have c64 : wc.cell? ⟨we.heap.size, 4, none⟩ = some (.int .u64 save) := by have := HA.out.x6.cell 4; rw [HCE.out] at this; exact this
  have c65 : wc.cell? ⟨we.heap.size, 5, none⟩ = some (.bool false) := by have := HA.out.x6.cell 5; rw [HCE.out] at this; exact this
  have c66 : wc.cell? ⟨we.heap.size, 6, none⟩ = some (.bool ahead) := by have := HA.out.x6.cell 6; rw [HCE.out] at this; exact this
  have c67 : wc.cell? ⟨we.heap.size, 7, none⟩ = some (.bool aheadS) := by have := HA.out.x6.cell 7; rw [HCE.out] at this; exact this
  go_upto_region 33 with fail
  have HZ := hidx (HA.out.row8 hw0 (.int .i64 n) (.string now) (.string was) (.string saved) (.int .u64 save) (.bool false) (.bool ahead) (.bool aheadS))
  have g80 : wc.cell? ⟨we.heap.size + 1 + 1, 0, none⟩ = some (.int .i64 0) := HA.out.x8.cell 0
  have g81 : wc.cell? ⟨we.heap.size + 1 + 1, 1, none⟩ = some (.string ⟨#[]⟩) := HA.out.x8.cell 1
  have g82 : wc.cell? ⟨we.heap.size + 1 + 1, 2, none⟩ = some (.string ⟨#[]⟩) := HA.out.x8.cell 2
  have g83 : wc.cell? ⟨we.heap.size + 1 + 1, 3, none⟩ = some (.string ⟨#[]⟩) := HA.out.x8.cell 3
  have g84 : wc.cell? ⟨we.heap.size + 1 + 1, 4, none⟩ = some (.int .u64 0) := HA.out.x8.cell 4
  have g85 : wc.cell? ⟨we.heap.size + 1 + 1, 5, none⟩ = some (.bool false) := HA.out.x8.cell 5
  have g86 : wc.cell? ⟨we.heap.size + 1 + 1, 6, none⟩ = some (.bool false) := HA.out.x8.cell 6
  have g87 : wc.cell? ⟨we.heap.size + 1 + 1, 7, none⟩ = some (.bool false) := HA.out.x8.cell 7
  have f80 : wc.frozen? ⟨we.heap.size + 1 + 1, 0, none⟩ = false := HA.out.x8.frozen 0
  have f81 : wc.frozen? ⟨we.heap.size + 1 + 1, 1, none⟩ = false := HA.out.x8.frozen 1
  have f82 : wc.frozen? ⟨we.heap.size + 1 + 1, 2, none⟩ = false := HA.out.x8.frozen 2
  have f83 : wc.frozen? ⟨we.heap.size + 1 + 1, 3, none⟩ = false := HA.out.x8.frozen 3
  have f84 : wc.frozen? ⟨we.heap.size + 1 + 1, 4, none⟩ = false := HA.out.x8.frozen 4
  have f85 : wc.frozen? ⟨we.heap.size + 1 + 1, 5, none⟩ = false := HA.out.x8.frozen 5
  have f86 : wc.frozen? ⟨we.heap.size + 1 + 1, 6, none⟩ = false := HA.out.x8.frozen 6
  have f87 : wc.frozen? ⟨we.heap.size + 1 + 1, 7, none⟩ = false := HA.out.x8.frozen 7
  have z0 : (stored8 wc (we.heap.size + 1 + 1) (.int .i64 n) (.string now) (.string was) (.string saved) (.int .u64 save) (.bool false) (.bool ahead) (.bool aheadS)).cell? ⟨we.heap.size + 1 + 1, 0, none⟩ = some (.int .i64 n) := HZ.out.x8.cell 0
  have z1 : (stored8 wc (we.heap.size + 1 + 1) (.int .i64 n) (.string now) (.string was) (.string saved) (.int .u64 save) (.bool false) (.bool ahead) (.bool aheadS)).cell? ⟨we.heap.size + 1 + 1, 1, none⟩ = some (.string now) := HZ.out.x8.cell 1
  have z2 : (stored8 wc (we.heap.size + 1 + 1) (.int .i64 n) (.string now) (.string was) (.string saved) (.int .u64 save) (.bool false) (.bool ahead) (.bool aheadS)).cell? ⟨we.heap.size + 1 + 1, 2, none⟩ = some (.string was) := HZ.out.x8.cell 2
  have z3 : (stored8 wc (we.heap.size + 1 + 1) (.int .i64 n) (.string now) (.string was) (.string saved) (.int .u64 save) (.bool false) (.bool ahead) (.bool aheadS)).cell? ⟨we.heap.size + 1 + 1, 3, none⟩ = some (.string saved) := HZ.out.x8.cell 3
  have z4 : (stored8 wc (we.heap.size + 1 + 1) (.int .i64 n) (.string now) (.string was) (.string saved) (.int .u64 save) (.bool false) (.bool ahead) (.bool aheadS)).cell? ⟨we.heap.size + 1 + 1, 4, none⟩ = some (.int .u64 save) := HZ.out.x8.cell 4
  have z5 : (stored8 wc (we.heap.size + 1 + 1) (.int .i64 n) (.string now) (.string was) (.string saved) (.int .u64 save) (.bool false) (.bool ahead) (.bool aheadS)).cell? ⟨we.heap.size + 1 + 1, 5, none⟩ = some (.bool false) := HZ.out.x8.cell 5
  have z6 : (stored8 wc (we.heap.size + 1 + 1) (.int .i64 n) (.string now) (.string was) (.string saved) (.int .u64 save) (.bool false) (.bool ahead) (.bool aheadS)).cell? ⟨we.heap.size + 1 + 1, 6, none⟩ = some (.bool ahead) := HZ.out.x8.cell 6
  have z7 : (stored8 wc (we.heap.size + 1 + 1) (.int .i64 n) (.string now) (.string was) (.string saved) (.int .u64 save) (.bool false) (.bool ahead) (.bool aheadS)).cell? ⟨we.heap.size + 1 + 1, 7, none⟩ = some (.bool aheadS) := HZ.out.x8.cell 7
  unfold stored8 at z0 z1 z2 z3 z4 z5 z6 z7
  go_wp2_with fail
  refine bodyPost_ret (v := .tuple #[.agg #[.int .i64 n, .string now, .string was, .string saved, .int .u64 save, .bool false, .bool ahead, .bool aheadS], .bool true]) (by simp [results, Tryz.results7, go_sem, z0, z1, z2, z3, z4, z5, z6, z7]) rfl ?_
  exact ⟨⟨A, (⟨n, now, was, saved, save, false, ahead, aheadS⟩ : OwnV), T, rfl, (by have := HZ.out.pi.room (F' := F + 400) (N' := N + 2) (by omega) (by omega); have e : setK os who (⟨n, now, was, saved, save, false, ahead, aheadS⟩ : OwnV) = os := (by rw [← HO.out]; exact setK_self os who); rw [e]; exact this), HZ.out.mv⟩⟩

end

end Go.Proofs.YtjemeopafkafgaaGreat

namespace Go.Proofs.YtjemeopafkafgaaGreat
open Go.RowKit Go.Sort
set_option linter.unusedVariables false
set_option linter.unusedSimpArgs false

section
variable {w we wx wy w' : World} {A0 A A' : Nat → Prop} {m p lp : Nat} {H : Nat → List ByteArray → Fk → Prop} {os os' : Nat → OwnV} {T T' : Nat → ByteArray} {F F' N N' who : Nat}

theorem TxOneImixed : Tryz.prog.follows .mixedOrders = true := by kernel_rfl

set_option maxHeartbeats 3200000 in
set_option maxRecDepth 20000 in
theorem one_log (hH : HOk H) (h : PI w we A m p lp H os T F N) (hw : who < 3) (hF : F + 1000 ≤ 4194304) (hN : N ≤ 80000) (kd : Int) (hk : ¬ (kd = 0) ∧ ¬ (kd = 4) ∧ ¬ (kd = 5) ∧ ¬ (kd = 6) ∧ ¬ (kd = 7) ∧ ¬ (kd = 8)) (hn : (os who).n ≠ 0) (wv : Int) (S : ByteArray) (hS : S.size ≤ 9223372036854775807) :
    Calls Tryz.prog 7 #[.pointer (some ⟨m, 0, none⟩), .int .i64 who, .agg (os who).cells, .agg #[.int .i64 kd, .int .i64 wv, .string S]] we (OneOut w we A m p lp H os F N who) := by
  obtain ⟨n, now, was, saved, save, has, ahead, aheadS, HO⟩ : ∃ n now was saved save has ahead aheadS, Hid (os who = ⟨n, now, was, saved, save, has, ahead, aheadS⟩) := ⟨_, _, _, _, _, _, _, _, rfl⟩
  have HPAR : Hid ((os who).cells = #[.int .i64 n, .string now, .string was, .string saved, .int .u64 save, .bool has, .bool ahead, .bool aheadS]) := by show _ = _; rw [HO.out]; rfl
  have HZO : Hid (own0.cells = #[.int .i64 0, .string ⟨#[]⟩, .string ⟨#[]⟩, .string ⟨#[]⟩, .int .u64 0, .bool false, .bool false, .bool false]) := rfl
  obtain ⟨W, HW⟩ : ∃ W, Hid (W = (((we.alloc (.cells (os who).cells 30)).alloc (.cells #[.int .i64 kd, .int .i64 wv, .string S] 33)).alloc (.cells own0.cells 30))) := ⟨_, rfl⟩
  have H0 : Hid (OnAt w we W A A m p lp H os T F N (os who).cells #[.int .i64 kd, .int .i64 wv, .string S] own0.cells) := by show OnAt _ _ _ _ _ _ _ _ _ _ _ _ _ _ _ _; rw [HW.out]; exact OnAt.start h
  have f2 : W.frozen? ⟨we.heap.size + 1, 2, none⟩ = false := H0.out.x7.frozen 2
  have hw0 : w.heap.size ≤ we.heap.size := h.bel.size
  have c2 : W.cell? ⟨we.heap.size + 1, 2, none⟩ = some (.string S) := H0.out.x7.cell 2
  have HH := hidx h
  clear h
  rw [HPAR.out]
  go_enter Tryz.func7, Tryz.ntmps7
  go_upto_region 1 with fail
  rw [← HPAR.out, ← HZO.out, ← HW.out]
  clear HW
  have HCE : Hid ((os who).cells = #[.int .i64 n, .string now, .string was, .string saved, .int .u64 save, .bool has, .bool ahead, .bool aheadS]) := HPAR
  clear HPAR
  go_upto_if 31 with fail
  go_cut [] from 28 to 35 (fun wx => ∃ S' : ByteArray, S'.size ≤ 20 ∧ Hid (OnAt w we wx A A m p lp H os T F N (os who).cells #[.int .i64 kd, .int .i64 wv, .string S'] own0.cells))
  case first =>
    by_cases hlong : 20 < S.size
    · have s1 : decide ((20 : Int) < (S.size : Int)) = true := by simp; omega
      have s1' : decide (20 < S.size) = true := by simp; omega
      have s2 : (20 : Int) ≤ (S.size : Int) := by omega
      have s3 : 20 ≤ S.size := by omega
      obtain ⟨S', HS'⟩ : ∃ S', Hid (S' = S.extract 0 20) := ⟨_, rfl⟩
      have HE : Hid (OnAt w we (W.setCell ⟨we.heap.size + 1, 2, none⟩ (.string S')) A A m p lp H os T F N (os who).cells #[.int .i64 kd, .int .i64 wv, .string S'] own0.cells) := hidx (H0.out.set7 hw0 2 (.string S'))
      go_wp2_with fail
      try rw [← HS'.out]
      go_meet
      case rel => exact ⟨S', by rw [HS'.out]; simp; omega, HE⟩
    · have s1 : decide ((20 : Int) < (S.size : Int)) = false := by simp; omega
      have s1' : decide (20 < S.size) = false := by simp; omega
      go_wp2_with fail
      go_meet
      case rel => exact ⟨S, by omega, H0⟩
  obtain ⟨S', hS', HA⟩ := hcut
  clear H0 c2 f2 hS
  have hn0 : ¬ (n = 0) := by have := hn; rw [HO.out] at this; exact this
  have hn1 : ¬ ((n : Int) = 0) := by omega
  have hnn : (os who).n = n := by rw [HO.out]
  have hq : IntKind.i64.wrap ((who : Int) + 1) = (who : Int) + 1 := by rw [IntKind.wrap_i64]; omega
  have hcw : ((who + 1 : Nat) : Int) = (who : Int) + 1 := by omega
  have k0 : wc.cell? ⟨we.heap.size + 1, 0, none⟩ = some (.int .i64 kd) := HA.out.x7.cell 0
  have k2 : wc.cell? ⟨we.heap.size + 1, 2, none⟩ = some (.string S') := HA.out.x7.cell 2
  have c60 : wc.cell? ⟨we.heap.size, 0, none⟩ = some (.int .i64 n) := by have := HA.out.x6.cell 0; rw [HCE.out] at this; exact this
  have c61 : wc.cell? ⟨we.heap.size, 1, none⟩ = some (.string now) := by have := HA.out.x6.cell 1; rw [HCE.out] at this; exact this
  obtain ⟨hk0, hk4, hk5, hk6, hk7, hk8⟩ := hk
  have hq3 : IntKind.u32.wrap ((who : Int) + 1) = (who : Int) + 1 := by rw [IntKind.wrap_u32]; omega
  have HLG := hidx (pi_log hH HA.out.pi hw hn S' hS' (by omega))
  have HCV : Hid ((setC (who + 1) S' now).cells = #[.int .u32 ((who + 1 : Nat) : Int), .int .i64 4, .int .i64 0, .string S', .string now, .int .i64 1, .int .i64 0, .string ⟨#[]⟩, .int .u32 0, .int .i64 0, .bool false]) := rfl
  simp only [HO.out] at HLG
  rw [HCV.out, hcw] at HLG
  clear HCV
  go_wp2_with fail
  refine HLG.out.mono ?_
  rintro e w4 ⟨s, rfl, A4, pi4, mv4⟩
  have HA4 := hidx (HA.out.step pi4 mv4)
  rw [HCE.out] at HA4
  clear HLG pi4 mv4 k0 k2 c60 c61
  have HA5 := hidx ((HA4.out.set6 hw0 1 (.string S')).set6 hw0 6 (.bool true))
  have e61 : w4.cell? ⟨we.heap.size + 1, 2, none⟩ = some (.string S') := HA4.out.x7.cell 2
  have e63 : w4.cell? ⟨we.heap.size, 1, none⟩ = some (.string now) := HA4.out.x6.cell 1
  have e64 : w4.cell? ⟨we.heap.size, 6, none⟩ = some (.bool ahead) := HA4.out.x6.cell 6
  have e65 : w4.frozen? ⟨we.heap.size, 1, none⟩ = false := HA4.out.x6.frozen 1
  have e66 : w4.frozen? ⟨we.heap.size, 6, none⟩ = false := HA4.out.x6.frozen 6
  obtain ⟨W5, HW5⟩ : ∃ W, Hid (W = (w4.setCell ⟨we.heap.size, 1, none⟩ (.string S')).setCell ⟨we.heap.size, 6, none⟩ (.bool true)) := ⟨_, rfl⟩
  rw [← HW5.out] at HA5
  have HA6 : Hid (OnAt w we W5 A A4 m p lp H (setK os who ⟨n, S', was, saved, save, has, true, aheadS⟩) (updV T (who + 1) S') (F + 400) N #[.int .i64 n, .string S', .string was, .string saved, .int .u64 save, .bool has, .bool true, .bool aheadS] #[.int .i64 kd, .int .i64 wv, .string S'] own0.cells) := HA5.out
  have HSL := hidx (pi_slot (HA6.out.below (wy := W5.drew) ((Below.refl _ _).drew)).pi who (by omega))
  rw [hcw, updV_get] at HSL
  clear HA4 HA5
  go_upto_region 40 with fail
  rw [← HW5.out]
  clear HW5 e61 e63 e64 e65 e66
  refine wp_region_noPanic ?_
  refine wp_region_held_drew (S := (fun wy : World => BlkR wy (we.heap.size) #[.int .i64 n, .string S', .string was, .string saved, .int .u64 save, .bool has, .bool true, .bool aheadS] 30)) TxOneImixed (HA6.out.below (wy := W5.drew) ((Below.refl _ _).drew)).x6 (fun hH => ?_)
  refine wpAnyH_take (i := 0) (v := (.agg #[.int .i64 n, .string S', .string was, .string saved, .int .u64 save, .bool has, .bool true, .bool aheadS])) (by simp only [List.getElem?_toArray, List.getElem?_cons_zero]; rfl) (by kernel_rfl) (by kernel_rfl) (by kernel_rfl) (fun _ _ _ h => h) (Or.inl ⟨by rfl, ?_⟩) hH ?_
  · intro wz hSw
    have s0 : wz.cell? ⟨we.heap.size, 0, none⟩ = some (.int .i64 n) := BlkR.cell hSw 0
    have s1 : wz.cell? ⟨we.heap.size, 1, none⟩ = some (.string S') := BlkR.cell hSw 1
    have s2 : wz.cell? ⟨we.heap.size, 2, none⟩ = some (.string was) := BlkR.cell hSw 2
    have s3 : wz.cell? ⟨we.heap.size, 3, none⟩ = some (.string saved) := BlkR.cell hSw 3
    have s4 : wz.cell? ⟨we.heap.size, 4, none⟩ = some (.int .u64 save) := BlkR.cell hSw 4
    have s5 : wz.cell? ⟨we.heap.size, 5, none⟩ = some (.bool has) := BlkR.cell hSw 5
    have s6 : wz.cell? ⟨we.heap.size, 6, none⟩ = some (.bool true) := BlkR.cell hSw 6
    have s7 : wz.cell? ⟨we.heap.size, 7, none⟩ = some (.bool aheadS) := BlkR.cell hSw 7
    clear hSw
    go_simp
  try simp only [Act.put, List.setIfInBounds_toArray, List.set_cons_zero, List.set_cons_succ]
  refine wpAnyH_take (i := 1) (v := (.int .i64 0)) (by simp only [List.getElem?_toArray, List.getElem?_cons_succ, List.getElem?_cons_zero]; rfl) (by kernel_rfl) (by kernel_rfl) (by kernel_rfl) (fun _ _ _ h => h) (Or.inl ⟨by rfl, ?_⟩) hH ?_
  · intro wz hSw
    clear hSw
    go_simp
  try simp only [Act.put, List.setIfInBounds_toArray, List.set_cons_zero, List.set_cons_succ]
  refine wpAnyH_take (i := 2) (v := (.bool true)) (by simp only [List.getElem?_toArray, List.getElem?_cons_succ, List.getElem?_cons_zero]; rfl) (by kernel_rfl) (by kernel_rfl) (by kernel_rfl) (fun _ _ _ h => h) (Or.inl ⟨by rfl, ?_⟩) hH ?_
  · intro wz hSw
    clear hSw
    go_simp
  try simp only [Act.put, List.setIfInBounds_toArray, List.set_cons_zero, List.set_cons_succ]
  refine wpAnyH_take (i := 3) (v := (.bool true)) (by simp only [List.getElem?_toArray, List.getElem?_cons_succ, List.getElem?_cons_zero]; rfl) (by kernel_rfl) (by kernel_rfl) (by kernel_rfl) (fun _ _ _ h => h) (Or.inl ⟨by rfl, ?_⟩) hH ?_
  · intro wz hSw
    clear hSw
    go_simp
  try simp only [Act.put, List.setIfInBounds_toArray, List.set_cons_zero, List.set_cons_succ]
  refine wpAnyH_take (i := 4) (v := (.pointer (some ⟨m, 0, none⟩))) (by simp only [List.getElem?_toArray, List.getElem?_cons_succ, List.getElem?_cons_zero]; rfl) (by kernel_rfl) (by kernel_rfl) (by kernel_rfl) (fun _ _ _ h => h) (Or.inl ⟨by rfl, ?_⟩) hH ?_
  · intro wz hSw
    clear hSw
    go_simp
  try simp only [Act.put, List.setIfInBounds_toArray, List.set_cons_zero, List.set_cons_succ]
  refine wpAnyH_take (i := 5) (v := (.int .i64 who)) (by simp only [List.getElem?_toArray, List.getElem?_cons_succ, List.getElem?_cons_zero]; rfl) (by kernel_rfl) (by kernel_rfl) (by kernel_rfl) (fun _ _ _ h => h) (Or.inl ⟨by rfl, ?_⟩) hH ?_
  · intro wz hSw
    clear hSw
    go_simp
  try simp only [Act.put, List.setIfInBounds_toArray, List.set_cons_zero, List.set_cons_succ]
  refine wpAnyH_take (i := 6) (v := (.int .i64 ((who : Int) + 1))) (by simp only [List.getElem?_toArray, List.getElem?_cons_succ, List.getElem?_cons_zero]; rfl) (by kernel_rfl) (by kernel_rfl) (by kernel_rfl) (fun _ _ _ h => h) (Or.inl ⟨by rfl, ?_⟩) hH ?_
  · intro wz hSw
    clear hSw
    go_simp
  try simp only [Act.put, List.setIfInBounds_toArray, List.set_cons_zero, List.set_cons_succ]
  refine wpAnyH_take (i := 8) (v := (.pointer (some ⟨we.heap.size, 1, none⟩))) (by simp only [List.getElem?_toArray, List.getElem?_cons_succ, List.getElem?_cons_zero]; rfl) (by kernel_rfl) (by kernel_rfl) (by kernel_rfl) (fun _ _ _ h => h) (Or.inl ⟨by rfl, ?_⟩) hH ?_
  · intro wz hSw
    clear hSw
    go_simp
  try simp only [Act.put, List.setIfInBounds_toArray, List.set_cons_zero, List.set_cons_succ]
  refine wpAnyH_take (i := 9) (v := (.string S')) (by simp only [List.getElem?_toArray, List.getElem?_cons_succ, List.getElem?_cons_zero]; rfl) (by kernel_rfl) (by kernel_rfl) (by kernel_rfl) (fun _ _ _ h => h) (Or.inl ⟨by rfl, ?_⟩) hH ?_
  · intro wz hSw
    have s1 : wz.cell? ⟨we.heap.size, 1, none⟩ = some (.string S') := BlkR.cell hSw 1
    clear hSw
    go_simp
  try simp only [Act.put, List.setIfInBounds_toArray, List.set_cons_zero, List.set_cons_succ]
  refine wpAnyH_ready (rs := [7]) (by kernel_rfl) (by simp) ?_
  refine AllReadyH.cons (i := 7) (by simp only [List.getElem?_toArray, List.getElem?_cons_succ, List.getElem?_cons_zero]; rfl) (fun K hK => ?_) AllReadyH.nil
  go_simp
  refine HSL.out.mono ?_
  rintro e wv ⟨rfl, bv⟩
  have HAV := hidx (HA6.out.below ((Below.refl _ _).drew.trans bv))
  clear bv
  refine hK.out _ _ (HAV.out.x6) (fun hH1 => ?_)
  clear hK K hH
  try simp only [Act.put, List.setIfInBounds_toArray, List.set_cons_zero, List.set_cons_succ]
  refine wpAnyH_take (i := 10) (v := (.bool true)) (by simp only [List.getElem?_toArray, List.getElem?_cons_succ, List.getElem?_cons_zero]; rfl) (by kernel_rfl) (by kernel_rfl) (by kernel_rfl) (fun _ _ _ h => h) (Or.inl ⟨by rfl, ?_⟩) hH1 ?_
  · intro wz hSw
    clear hSw
    go_simp
  try simp only [Act.put, List.setIfInBounds_toArray, List.set_cons_zero, List.set_cons_succ]
  refine wpAnyH_take (i := 11) (v := (.bool true)) (by simp only [List.getElem?_toArray, List.getElem?_cons_succ, List.getElem?_cons_zero]; rfl) (by kernel_rfl) (by kernel_rfl) (by kernel_rfl) (fun _ _ _ h => h) (Or.inl ⟨by rfl, ?_⟩) hH1 ?_
  · intro wz hSw
    clear hSw
    go_simp
  try simp only [Act.put, List.setIfInBounds_toArray, List.set_cons_zero, List.set_cons_succ]
  refine wpAnyH_ready (rs := [12]) (by kernel_rfl) (by simp) ?_
  refine AllReadyH.cons (i := 12) (by simp only [List.getElem?_toArray, List.getElem?_cons_succ, List.getElem?_cons_zero]; rfl) (fun K hK => ?_) AllReadyH.nil
  have HZ := hidx (HAV.out.row8 hw0 (.int .i64 n) (.string S') (.string was) (.string saved) (.int .u64 save) (.bool has) (.bool true) (.bool aheadS))
  have g80 : wv.cell? ⟨we.heap.size + 1 + 1, 0, none⟩ = some (.int .i64 0) := HAV.out.x8.cell 0
  have g81 : wv.cell? ⟨we.heap.size + 1 + 1, 1, none⟩ = some (.string ⟨#[]⟩) := HAV.out.x8.cell 1
  have g82 : wv.cell? ⟨we.heap.size + 1 + 1, 2, none⟩ = some (.string ⟨#[]⟩) := HAV.out.x8.cell 2
  have g83 : wv.cell? ⟨we.heap.size + 1 + 1, 3, none⟩ = some (.string ⟨#[]⟩) := HAV.out.x8.cell 3
  have g84 : wv.cell? ⟨we.heap.size + 1 + 1, 4, none⟩ = some (.int .u64 0) := HAV.out.x8.cell 4
  have g85 : wv.cell? ⟨we.heap.size + 1 + 1, 5, none⟩ = some (.bool false) := HAV.out.x8.cell 5
  have g86 : wv.cell? ⟨we.heap.size + 1 + 1, 6, none⟩ = some (.bool false) := HAV.out.x8.cell 6
  have g87 : wv.cell? ⟨we.heap.size + 1 + 1, 7, none⟩ = some (.bool false) := HAV.out.x8.cell 7
  have f80 : wv.frozen? ⟨we.heap.size + 1 + 1, 0, none⟩ = false := HAV.out.x8.frozen 0
  have f81 : wv.frozen? ⟨we.heap.size + 1 + 1, 1, none⟩ = false := HAV.out.x8.frozen 1
  have f82 : wv.frozen? ⟨we.heap.size + 1 + 1, 2, none⟩ = false := HAV.out.x8.frozen 2
  have f83 : wv.frozen? ⟨we.heap.size + 1 + 1, 3, none⟩ = false := HAV.out.x8.frozen 3
  have f84 : wv.frozen? ⟨we.heap.size + 1 + 1, 4, none⟩ = false := HAV.out.x8.frozen 4
  have f85 : wv.frozen? ⟨we.heap.size + 1 + 1, 5, none⟩ = false := HAV.out.x8.frozen 5
  have f86 : wv.frozen? ⟨we.heap.size + 1 + 1, 6, none⟩ = false := HAV.out.x8.frozen 6
  have f87 : wv.frozen? ⟨we.heap.size + 1 + 1, 7, none⟩ = false := HAV.out.x8.frozen 7
  go_simp
  refine hK.out _ _ (HZ.out.x6) (fun hH2 => ?_)
  clear hK K hH1
  try simp only [Act.put, List.setIfInBounds_toArray, List.set_cons_zero, List.set_cons_succ]
  refine wpAnyH_take (i := 13) (v := (.bool true)) (by simp only [List.getElem?_toArray, List.getElem?_cons_succ, List.getElem?_cons_zero]; rfl) (by kernel_rfl) (by kernel_rfl) (by kernel_rfl) (fun _ _ _ h => h) (Or.inl ⟨by rfl, ?_⟩) hH2 ?_
  · intro wz hSw
    clear hSw
    go_simp
  try simp only [Act.put, List.setIfInBounds_toArray, List.set_cons_zero, List.set_cons_succ]
  refine wpAnyH_done (by kernel_rfl) ?_ _
  refine NoPanic.normal ?_
  have z0 : (stored8 wv (we.heap.size + 1 + 1) (.int .i64 n) (.string S') (.string was) (.string saved) (.int .u64 save) (.bool has) (.bool true) (.bool aheadS)).cell? ⟨we.heap.size + 1 + 1, 0, none⟩ = some (.int .i64 n) := HZ.out.x8.cell 0
  have z1 : (stored8 wv (we.heap.size + 1 + 1) (.int .i64 n) (.string S') (.string was) (.string saved) (.int .u64 save) (.bool has) (.bool true) (.bool aheadS)).cell? ⟨we.heap.size + 1 + 1, 1, none⟩ = some (.string S') := HZ.out.x8.cell 1
  have z2 : (stored8 wv (we.heap.size + 1 + 1) (.int .i64 n) (.string S') (.string was) (.string saved) (.int .u64 save) (.bool has) (.bool true) (.bool aheadS)).cell? ⟨we.heap.size + 1 + 1, 2, none⟩ = some (.string was) := HZ.out.x8.cell 2
  have z3 : (stored8 wv (we.heap.size + 1 + 1) (.int .i64 n) (.string S') (.string was) (.string saved) (.int .u64 save) (.bool has) (.bool true) (.bool aheadS)).cell? ⟨we.heap.size + 1 + 1, 3, none⟩ = some (.string saved) := HZ.out.x8.cell 3
  have z4 : (stored8 wv (we.heap.size + 1 + 1) (.int .i64 n) (.string S') (.string was) (.string saved) (.int .u64 save) (.bool has) (.bool true) (.bool aheadS)).cell? ⟨we.heap.size + 1 + 1, 4, none⟩ = some (.int .u64 save) := HZ.out.x8.cell 4
  have z5 : (stored8 wv (we.heap.size + 1 + 1) (.int .i64 n) (.string S') (.string was) (.string saved) (.int .u64 save) (.bool has) (.bool true) (.bool aheadS)).cell? ⟨we.heap.size + 1 + 1, 5, none⟩ = some (.bool has) := HZ.out.x8.cell 5
  have z6 : (stored8 wv (we.heap.size + 1 + 1) (.int .i64 n) (.string S') (.string was) (.string saved) (.int .u64 save) (.bool has) (.bool true) (.bool aheadS)).cell? ⟨we.heap.size + 1 + 1, 6, none⟩ = some (.bool true) := HZ.out.x8.cell 6
  have z7 : (stored8 wv (we.heap.size + 1 + 1) (.int .i64 n) (.string S') (.string was) (.string saved) (.int .u64 save) (.bool has) (.bool true) (.bool aheadS)).cell? ⟨we.heap.size + 1 + 1, 7, none⟩ = some (.bool aheadS) := HZ.out.x8.cell 7
  unfold stored8 at z0 z1 z2 z3 z4 z5 z6 z7
  go_wp2_with fail
  refine bodyPost_ret (v := .tuple #[.agg #[.int .i64 n, .string S', .string was, .string saved, .int .u64 save, .bool has, .bool true, .bool aheadS], .bool true]) (by simp [results, Tryz.results7, go_sem, z0, z1, z2, z3, z4, z5, z6, z7]) rfl ?_
  exact ⟨⟨A4, (⟨n, S', was, saved, save, has, true, aheadS⟩ : OwnV), _, rfl, HZ.out.pi.room (F' := F + 400) (N' := N + 2) (by omega) (by omega), HZ.out.mv⟩⟩

end

end Go.Proofs.YtjemeopafkafgaaGreat

namespace Go.Proofs.YtjemeopafkafgaaGreat
open Go.RowKit Go.Sort

theorem one_any {w we : World} {A : Nat → Prop} {m p lp : Nat} {H : Nat → List ByteArray → Fk → Prop} {os : Nat → OwnV} {T : Nat → ByteArray} {F N who : Nat} (hH : HOk H) (h : PI w we A m p lp H os T F N) (hw : who < 3) (hF : F + 1000 ≤ 4194304) (hN : N ≤ 80000) (kd wv : Int) (S : ByteArray) (hS : S.size ≤ 9223372036854775807) (h8 : kd = 8 → (os who).aheadS = false) :
    Calls Tryz.prog 7 #[.pointer (some ⟨m, 0, none⟩), .int .i64 who, .agg (os who).cells, .agg #[.int .i64 kd, .int .i64 wv, .string S]] we (OneOut w we A m p lp H os F N who) := by
  by_cases hn : (os who).n = 0
  · by_cases k0 : kd = 0
    · subst k0; exact one_begin hH h hw hF hN hn wv S hS
    · exact one_nobody hH h hw hF hN kd k0 hn wv S hS
  · by_cases k0 : kd = 0
    · subst k0; exact one_again hH h hw hF hN hn wv S hS
    by_cases k4 : kd = 4
    · subst k4; exact one_save hH h hw hF hN hn wv S hS
    by_cases k5 : kd = 5
    · subst k5
      cases hh : (os who).has with
      | true => exact one_back hH h hw hF hN hn hh wv S hS
      | false => exact one_back0 hH h hw hF hN hn hh wv S hS
    by_cases k6 : kd = 6
    · subst k6; exact one_commit hH h hw hF hN hn wv S hS
    by_cases k7 : kd = 7
    · subst k7; exact one_abort hH h hw hF hN hn wv S hS
    by_cases k8 : kd = 8
    · subst k8
      cases hh : (os who).has with
      | true => exact one_top hH h hw hF hN hn hh (h8 rfl) wv S hS
      | false => exact one_top0 hH h hw hF hN hn hh wv S hS
    exact one_log hH h hw hF hN kd ⟨k0, k4, k5, k6, k7, k8⟩ hn wv S hS

end Go.Proofs.YtjemeopafkafgaaGreat

namespace Go.Proofs.YtjemeopafkafgaaGreat
open Go.RowKit Go.Sort
set_option linter.unusedVariables false
set_option linter.unusedSimpArgs false

def ActArg (w : World) (a : Option Addr) (n : Nat) (K W : Nat → Int) (S : Nat → ByteArray) : Prop := n = 0 ∨ ∃ b o, a = some ⟨b, o, none⟩ ∧ b < w.heap.size ∧ ∀ i, i < n → w.cell? ⟨b, o + i * 3, none⟩ = some (.int .i64 (K i)) ∧ w.cell? ⟨b, o + i * 3 + 1, none⟩ = some (.int .i64 (W i)) ∧ w.cell? ⟨b, o + i * 3 + 2, none⟩ = some (.string (S i)) ∧ (S i).size ≤ 9223372036854775807

theorem pl_dok (r : Nat) : DOk (newD r) 0 := ⟨rfl, rfl, ⟨(fun x hx => by cases hx), (fun q => zerosS_size), by show 0 + 0 ≤ _; omega, by show 0 ≤ _; omega, Nat.le_refl _⟩, rfl, (fun q => rfl), by show 0 ≤ 10; omega, Nat.le_refl _, Nat.le_refl _⟩

theorem pi_start {w wx : World} {A : Nat → Prop} {m p dp lp : Nat} {X : Int → Nat} {H : Nat → List ByteArray → Fk → Prop} (h : MSys wx m p X A (begP dp lp 5) (log0 dp) (newD 64) mg0) (ho : Ours w wx A) (hH : H 1 [] (fun _ => none)) : PI w wx A m p lp H (fun _ => own0) (fun _ => ⟨#[48]⟩) 1 0 := by
  refine ⟨⟨X, begP dp lp 5, log0 dp, newD 64, [], mg0, fun _ => none, h, ⟨(RecsAt.nil dp).starts, (RecsAt.nil dp).long, (RecsAt.nil dp).text⟩, ⟨rfl, Nat.le_refl _, Nat.zero_le _, rfl⟩, pl_dok 64, ⟨fun pg hp => ?_, by rw [begP_z]; omega, begP_lp dp lp 5⟩, ho, fun k _ => ⟨fun _ => ⟨rfl, rfl⟩, fun e => absurd rfl e⟩, rfl, by show 0 + 0 ≤ 1; omega, ⟨rfl, fun k _ => by show 0 < 1; omega, fun j k _ _ _ e => absurd rfl e, fun q hq => absurd rfl hq⟩, ⟨Nat.le_refl _, Nat.le_refl _, Nat.le_refl _⟩, hH⟩, fun k => by show (ByteArray.mk #[48]).size ≤ 20; decide⟩
  exact ⟨⟨bSheet pg, 1⟩, by rw [begP_F, if_pos ⟨hp.1, hp.2⟩], bSheet_fits pg hp.1 (by have := hp.2; omega), rfl, ⟨rfl, rfl, rfl⟩⟩

def cells24 (os : Nat → OwnV) : Array Value := #[.int .i64 (os 0).n, .string (os 0).now, .string (os 0).was, .string (os 0).saved, .int .u64 (os 0).save, .bool (os 0).has, .bool (os 0).ahead, .bool (os 0).aheadS, .int .i64 (os 1).n, .string (os 1).now, .string (os 1).was, .string (os 1).saved, .int .u64 (os 1).save, .bool (os 1).has, .bool (os 1).ahead, .bool (os 1).aheadS, .int .i64 (os 2).n, .string (os 2).now, .string (os 2).was, .string (os 2).saved, .int .u64 (os 2).save, .bool (os 2).has, .bool (os 2).ahead, .bool (os 2).aheadS]

/-- The array in block b. -/
structure PlAt (w wr : World) (m p lp : Nat) (H : Nat → List ByteArray → Fk → Prop) (b : Nat) (os : Nat → OwnV) (T : Nat → ByteArray) (F N : Nat) : Prop where
  ex : ∃ A, PI w wr A m p lp H os T F N ∧ ¬ A b
  row : BlkR wr b (cells24 os) 31
  new : w.heap.size ≤ b

section
variable {w wr wx w' : World} {m p lp b : Nat} {H : Nat → List ByteArray → Fk → Prop} {os : Nat → OwnV} {T : Nat → ByteArray} {F N : Nat}

theorem PlAt.room (h : PlAt w wr m p lp H b os T F N) {F' N' : Nat} (hF : F ≤ F') (hN : N ≤ N') : PlAt w wr m p lp H b os T F' N' := by
  obtain ⟨A, hp, hn⟩ := h.ex
  exact ⟨⟨A, hp.room hF hN, hn⟩, h.row, h.new⟩

theorem PlAt.bel (h : PlAt w wr m p lp H b os T F N) : Below w.heap.size w wr := by
  obtain ⟨A, hp, hn⟩ := h.ex
  exact hp.bel

theorem PI.lt {A : Nat → Prop} (h : PI w wx A m p lp H os T F N) : ∀ k, A k → k < wx.heap.size := by
  obtain ⟨X, P, l, d, rs, M, f, hM, _⟩ := h.ex
  exact hM.lt

/-- Behind the call of one: its result in a box of its own. -/
structure BkOut (w wx : World) (m p lp : Nat) (H : Nat → List ByteArray → Fk → Prop) (b : Nat) (os : Nat → OwnV) (F N k b9 : Nat) (o' : OwnV) : Prop where
  ex : ∃ A T', PI w wx A m p lp H (setK os k o') T' F N ∧ ¬ A b
  row : BlkR wx b (cells24 os) 31
  box : BlkR wx b9 o'.cells 30
  ne : b9 ≠ b
  new : w.heap.size ≤ b

theorem bk_row {A : Nat → Prop} {k b9 : Nat} {T' : Nat → ByteArray} (o' : OwnV) (hp : PI w wx A m p lp H (setK os k o') T' F N) (hn : ¬ A b) (hn9 : ¬ A b9) (hr : BlkR wx b (cells24 os) 31) (hz : BlkR wx b9 own0.cells 30) (hne : b9 ≠ b) (hw : w.heap.size ≤ b) (hw9 : w.heap.size ≤ b9) :
    BkOut w (wx.setRow b9 o'.cells) m p lp H b os F N k b9 o' := by
  have kq : Kept (fun q => q = b9) wx (wx.setRow b9 o'.cells) := ⟨rfl, rfl, rfl, by simp, fun i hi hs => setRow_other _ _ _ _ hs⟩
  exact ⟨⟨A, T', hp.own ⟨kq.os, kq.tape, kq.output, kq.size, fun i hi hs => kq.block i hi (fun e => hs ⟨e ▸ hn9, e ▸ hw9⟩)⟩, hn⟩, hr.same (kq.block b hr.lt (fun e => hne e.symm)), setRow_heap _ _ _ _ _ _ hz, hne, hw⟩

variable {b9 : Nat} {o' : OwnV}

theorem row24_0 (os : Nat → OwnV) (o' : OwnV) : ((((((((cells24 os).setIfInBounds 0 (.int .i64 o'.n)).setIfInBounds 1 (.string o'.now)).setIfInBounds 2 (.string o'.was)).setIfInBounds 3 (.string o'.saved)).setIfInBounds 4 (.int .u64 o'.save)).setIfInBounds 5 (.bool o'.has)).setIfInBounds 6 (.bool o'.ahead)).setIfInBounds 7 (.bool o'.aheadS) = cells24 (setK os 0 o') := by
  unfold cells24
  simp [setK]

set_option maxRecDepth 8000 in
theorem bk_put0 (h : BkOut w wx m p lp H b os F N 0 b9 o') : ∃ T, PlAt w ((((((((wx.setCell ⟨b, 0, none⟩ (.int .i64 o'.n)).setCell ⟨b, 1, none⟩ (.string o'.now)).setCell ⟨b, 2, none⟩ (.string o'.was)).setCell ⟨b, 3, none⟩ (.string o'.saved)).setCell ⟨b, 4, none⟩ (.int .u64 o'.save)).setCell ⟨b, 5, none⟩ (.bool o'.has)).setCell ⟨b, 6, none⟩ (.bool o'.ahead)).setCell ⟨b, 7, none⟩ (.bool o'.aheadS)) m p lp H b (setK os 0 o') T F N := by
  obtain ⟨A, T', hp, hn⟩ := h.ex
  have kq : Kept (fun q => q = b) wx ((((((((wx.setCell ⟨b, 0, none⟩ (.int .i64 o'.n)).setCell ⟨b, 1, none⟩ (.string o'.now)).setCell ⟨b, 2, none⟩ (.string o'.was)).setCell ⟨b, 3, none⟩ (.string o'.saved)).setCell ⟨b, 4, none⟩ (.int .u64 o'.save)).setCell ⟨b, 5, none⟩ (.bool o'.has)).setCell ⟨b, 6, none⟩ (.bool o'.ahead)).setCell ⟨b, 7, none⟩ (.bool o'.aheadS)) := ((((((((Kept.setCell (fun q => q = b) _ b 0 (.int .i64 o'.n) rfl)).trans (Kept.setCell (fun q => q = b) _ b 1 (.string o'.now) rfl)).trans (Kept.setCell (fun q => q = b) _ b 2 (.string o'.was) rfl)).trans (Kept.setCell (fun q => q = b) _ b 3 (.string o'.saved) rfl)).trans (Kept.setCell (fun q => q = b) _ b 4 (.int .u64 o'.save) rfl)).trans (Kept.setCell (fun q => q = b) _ b 5 (.bool o'.has) rfl)).trans (Kept.setCell (fun q => q = b) _ b 6 (.bool o'.ahead) rfl)).trans (Kept.setCell (fun q => q = b) _ b 7 (.bool o'.aheadS) rfl)
  refine ⟨T', ⟨⟨A, hp.own ⟨kq.os, kq.tape, kq.output, kq.size, fun i hi hs => kq.block i hi (fun e => hs ⟨e ▸ hn, e ▸ h.new⟩)⟩, hn⟩, ?_, h.new⟩⟩
  have hr := ((((((((h.row.set 0 (.int .i64 o'.n)).set 1 (.string o'.now)).set 2 (.string o'.was)).set 3 (.string o'.saved)).set 4 (.int .u64 o'.save)).set 5 (.bool o'.has)).set 6 (.bool o'.ahead)).set 7 (.bool o'.aheadS))
  rw [row24_0] at hr
  exact hr

theorem row24_1 (os : Nat → OwnV) (o' : OwnV) : ((((((((cells24 os).setIfInBounds 8 (.int .i64 o'.n)).setIfInBounds 9 (.string o'.now)).setIfInBounds 10 (.string o'.was)).setIfInBounds 11 (.string o'.saved)).setIfInBounds 12 (.int .u64 o'.save)).setIfInBounds 13 (.bool o'.has)).setIfInBounds 14 (.bool o'.ahead)).setIfInBounds 15 (.bool o'.aheadS) = cells24 (setK os 1 o') := by
  unfold cells24
  simp [setK]

set_option maxRecDepth 8000 in
theorem bk_put1 (h : BkOut w wx m p lp H b os F N 1 b9 o') : ∃ T, PlAt w ((((((((wx.setCell ⟨b, 8, none⟩ (.int .i64 o'.n)).setCell ⟨b, 9, none⟩ (.string o'.now)).setCell ⟨b, 10, none⟩ (.string o'.was)).setCell ⟨b, 11, none⟩ (.string o'.saved)).setCell ⟨b, 12, none⟩ (.int .u64 o'.save)).setCell ⟨b, 13, none⟩ (.bool o'.has)).setCell ⟨b, 14, none⟩ (.bool o'.ahead)).setCell ⟨b, 15, none⟩ (.bool o'.aheadS)) m p lp H b (setK os 1 o') T F N := by
  obtain ⟨A, T', hp, hn⟩ := h.ex
  have kq : Kept (fun q => q = b) wx ((((((((wx.setCell ⟨b, 8, none⟩ (.int .i64 o'.n)).setCell ⟨b, 9, none⟩ (.string o'.now)).setCell ⟨b, 10, none⟩ (.string o'.was)).setCell ⟨b, 11, none⟩ (.string o'.saved)).setCell ⟨b, 12, none⟩ (.int .u64 o'.save)).setCell ⟨b, 13, none⟩ (.bool o'.has)).setCell ⟨b, 14, none⟩ (.bool o'.ahead)).setCell ⟨b, 15, none⟩ (.bool o'.aheadS)) := ((((((((Kept.setCell (fun q => q = b) _ b 8 (.int .i64 o'.n) rfl)).trans (Kept.setCell (fun q => q = b) _ b 9 (.string o'.now) rfl)).trans (Kept.setCell (fun q => q = b) _ b 10 (.string o'.was) rfl)).trans (Kept.setCell (fun q => q = b) _ b 11 (.string o'.saved) rfl)).trans (Kept.setCell (fun q => q = b) _ b 12 (.int .u64 o'.save) rfl)).trans (Kept.setCell (fun q => q = b) _ b 13 (.bool o'.has) rfl)).trans (Kept.setCell (fun q => q = b) _ b 14 (.bool o'.ahead) rfl)).trans (Kept.setCell (fun q => q = b) _ b 15 (.bool o'.aheadS) rfl)
  refine ⟨T', ⟨⟨A, hp.own ⟨kq.os, kq.tape, kq.output, kq.size, fun i hi hs => kq.block i hi (fun e => hs ⟨e ▸ hn, e ▸ h.new⟩)⟩, hn⟩, ?_, h.new⟩⟩
  have hr := ((((((((h.row.set 8 (.int .i64 o'.n)).set 9 (.string o'.now)).set 10 (.string o'.was)).set 11 (.string o'.saved)).set 12 (.int .u64 o'.save)).set 13 (.bool o'.has)).set 14 (.bool o'.ahead)).set 15 (.bool o'.aheadS))
  rw [row24_1] at hr
  exact hr

theorem row24_2 (os : Nat → OwnV) (o' : OwnV) : ((((((((cells24 os).setIfInBounds 16 (.int .i64 o'.n)).setIfInBounds 17 (.string o'.now)).setIfInBounds 18 (.string o'.was)).setIfInBounds 19 (.string o'.saved)).setIfInBounds 20 (.int .u64 o'.save)).setIfInBounds 21 (.bool o'.has)).setIfInBounds 22 (.bool o'.ahead)).setIfInBounds 23 (.bool o'.aheadS) = cells24 (setK os 2 o') := by
  unfold cells24
  simp [setK]

set_option maxRecDepth 8000 in
theorem bk_put2 (h : BkOut w wx m p lp H b os F N 2 b9 o') : ∃ T, PlAt w ((((((((wx.setCell ⟨b, 16, none⟩ (.int .i64 o'.n)).setCell ⟨b, 17, none⟩ (.string o'.now)).setCell ⟨b, 18, none⟩ (.string o'.was)).setCell ⟨b, 19, none⟩ (.string o'.saved)).setCell ⟨b, 20, none⟩ (.int .u64 o'.save)).setCell ⟨b, 21, none⟩ (.bool o'.has)).setCell ⟨b, 22, none⟩ (.bool o'.ahead)).setCell ⟨b, 23, none⟩ (.bool o'.aheadS)) m p lp H b (setK os 2 o') T F N := by
  obtain ⟨A, T', hp, hn⟩ := h.ex
  have kq : Kept (fun q => q = b) wx ((((((((wx.setCell ⟨b, 16, none⟩ (.int .i64 o'.n)).setCell ⟨b, 17, none⟩ (.string o'.now)).setCell ⟨b, 18, none⟩ (.string o'.was)).setCell ⟨b, 19, none⟩ (.string o'.saved)).setCell ⟨b, 20, none⟩ (.int .u64 o'.save)).setCell ⟨b, 21, none⟩ (.bool o'.has)).setCell ⟨b, 22, none⟩ (.bool o'.ahead)).setCell ⟨b, 23, none⟩ (.bool o'.aheadS)) := ((((((((Kept.setCell (fun q => q = b) _ b 16 (.int .i64 o'.n) rfl)).trans (Kept.setCell (fun q => q = b) _ b 17 (.string o'.now) rfl)).trans (Kept.setCell (fun q => q = b) _ b 18 (.string o'.was) rfl)).trans (Kept.setCell (fun q => q = b) _ b 19 (.string o'.saved) rfl)).trans (Kept.setCell (fun q => q = b) _ b 20 (.int .u64 o'.save) rfl)).trans (Kept.setCell (fun q => q = b) _ b 21 (.bool o'.has) rfl)).trans (Kept.setCell (fun q => q = b) _ b 22 (.bool o'.ahead) rfl)).trans (Kept.setCell (fun q => q = b) _ b 23 (.bool o'.aheadS) rfl)
  refine ⟨T', ⟨⟨A, hp.own ⟨kq.os, kq.tape, kq.output, kq.size, fun i hi hs => kq.block i hi (fun e => hs ⟨e ▸ hn, e ▸ h.new⟩)⟩, hn⟩, ?_, h.new⟩⟩
  have hr := ((((((((h.row.set 16 (.int .i64 o'.n)).set 17 (.string o'.now)).set 18 (.string o'.was)).set 19 (.string o'.saved)).set 20 (.int .u64 o'.save)).set 21 (.bool o'.has)).set 22 (.bool o'.ahead)).set 23 (.bool o'.aheadS))
  rw [row24_2] at hr
  exact hr

end

end Go.Proofs.YtjemeopafkafgaaGreat
