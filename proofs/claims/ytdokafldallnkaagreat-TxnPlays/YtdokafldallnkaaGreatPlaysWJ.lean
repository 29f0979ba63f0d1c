/-
  The walk of girderlaw09.TxnPlays.
  Proved: for any list of acts the call TxnPlays(acts) returns true, and the argument reads afterwards as it read before. No condition.
-/
import Derived.Test.YtdokafldallnkaaGreatTxOneFJ
import Derived.Test.YtdokafldallnkaaGreatRowStepJ
import Derived.Test.YtdokafldallnkaaGreatTxNewJ
import Derived.Deep.RegionHeld3
import Derived.BigQuiet
import Derived.Test.YtdokafldallnkaaGreatRows
import Derived.ProofKit
import Derived.OpenShut
import Derived.Deep.Slices
import Derived.Deep.Strs
import Derived.Lib.SmallJoins
import Derived.ShutString
import Derived.ChangeOld
import Derived.SizedLaws
import Derived.ChangeSlices
namespace Go.Proofs.YtdokafldallnkaaGreat
open Go.RowKit Go.Sort
set_option linter.unusedVariables false
set_option linter.unusedSimpArgs false

theorem plmixed : Tryz.prog.follows .mixedOrders = true := by kernel_rfl
theorem pl_and3 (n : Int) : bits .and .i64 n 3 = n % 4 := by
  have h63 : (BitVec.ofInt 64 3).toNat = 2 ^ 2 - 1 := by decide
  have key : (BitVec.ofInt 64 n &&& BitVec.ofInt 64 3).toNat = (n % ((2 ^ 64 : Nat) : Int)).toNat % 2 ^ 2 := by
    rw [BitVec.toNat_and, BitVec.toNat_ofInt, h63, Nat.and_two_pow_sub_one_eq_mod]
  show IntKind.i64.wrap ((BitVec.ofInt 64 n &&& BitVec.ofInt 64 3).toNat : Nat) = n % 4
  rw [key, IntKind.wrap_i64]
  omega

def HT : Nat → List ByteArray → Fk → Prop := fun _ _ _ => True
theorem HT_ok : HOk HT := ⟨fun _ _ _ _ _ => ⟨fun _ _ _ _ _ => trivial, fun _ _ _ _ _ _ _ _ => trivial, fun _ _ _ _ _ _ => trivial, fun _ _ _ _ _ _ => trivial⟩, fun _ _ => trivial, fun _ => trivial⟩

theorem pl_info : (Tryz.prog.info? 31).map (fun i => (i.zero, i.size)) = some (some (.agg (cells24 (fun _ => own0))), 24) := by kernel_rfl
theorem pl_built : Tryz.prog.built 31 [] = some (cells24 (fun _ => own0)) := by kernel_rfl

theorem cntN_le (os : Nat → OwnV) : ∀ j, cntN os j ≤ j
  | 0 => Nat.le_refl _
  | j + 1 => by
    have := cntN_le os j
    have h1 : oneOf (os j) ≤ 1 := by unfold oneOf; split <;> omega
    show cntN os j + oneOf (os j) ≤ j + 1
    omega

set_option maxHeartbeats 6400000 in
set_option maxRecDepth 20000 in
theorem plays_walk (a : Option Addr) (n c : Nat) (K W : Nat → Int) (S : Nat → ByteArray) (w : World) (hA : ActArg w a n K W S) (hn : n ≤ 9223372036854775807) :
    Calls Tryz.prog 3 #[.slice a n c] w fun e w' => e = .returned (.bool true) ∧ Below w.heap.size w w' := by
  have HB := hidx (tbegun_any w)
  have HAA := hidx hA
  clear hA
  go_enter Tryz.func3, Tryz.ntmps3
  go_wp2_with fail
  refine HB.out.mono ?_
  rintro e w1 ⟨⟨m, p, dp, lp, A1, rfl, h1, hA1, b1⟩⟩
  have O1 : Hid (Ours w w1 A1) := hidx ⟨hA1, b1⟩
  have H1 := hidx h1
  have HAW := hidx (tawake_any w1)
  clear HB h1 hA1 b1
  go_wp2_with fail
  refine HAW.out.mono ?_
  rintro e w2 ⟨rfl, b2⟩
  have P2 := hidx (pi_start (H := HT) (H1.out.below b2) (O1.out.below b2) trivial)
  have hlt2 : ∀ k, A1 k → k < w2.heap.size := (H1.out.below b2).lt
  have HLT := hidx hlt2
  clear HAW H1 O1 b2 hlt2
  go_upto_region 4 with fail
  go_cut [5] from 23 to 23 (fun v5 wx => v5 = .pointer (some ⟨w2.heap.size, 0, none⟩) ∧ Hid (PlAt w wx m p lp HT w2.heap.size (fun _ => own0) (fun _ => ⟨#[48]⟩) (1 + 400 * 0) (2 * 0)))
  case first =>
    as_aux_lemma =>
      have HPZ : Hid (PlAt w (w2.alloc (.cells (cells24 (fun _ => own0)) 31)) m p lp HT w2.heap.size (fun _ => own0) (fun _ => ⟨#[48]⟩) (1 + 400 * 0) (2 * 0)) := by
        have bA : Below w2.heap.size w2 (w2.alloc (.cells (cells24 (fun _ => own0)) 31)) := (Below.refl _ _).alloc (Nat.le_refl _) _
        exact ⟨⟨A1, P2.out.below bA, fun y => by have := HLT.out _ y; omega⟩, heap_alloc_new _ _, P2.out.bel.size⟩
      obtain ⟨iT, hiT, hzT⟩ := Option.map_eq_some_iff.1 pl_info
      simp only [Prod.mk.injEq] at hzT
      obtain ⟨hz0, hz1⟩ := hzT
      refine wp_region_lit ?_
      refine wpList_buildNone rfl 31 rfl (cells24 (fun _ => own0)) pl_built ?_
      refine wpList_allocBig rfl 31 rfl (cells24 (fun _ => own0)) iT hiT hz0 ?_
      refine wpList_storeRow rfl (.tmp 5) (.tmp 23) 31 rfl rfl w2.heap.size rfl (cells24 (fun _ => own0)) (cells24 (fun _ => own0)) rfl 31 (heap_alloc_new w2 _) (by kernel_rfl) rfl (by kernel_rfl) ?_
      rw [setRow_self _ _ _ _ _ (heap_alloc_new w2 _)]
      go_wp2_with fail
      go_meet
      case rel => exact ⟨rfl, HPZ⟩
  obtain ⟨rfl, PL0⟩ := hcut
  obtain ⟨bb, HBB⟩ : ∃ b, Hid (w2.heap.size = b) := ⟨_, rfl⟩
  rw [HBB.out] at PL0 ⊢
  clear P2 HLT
  go_wp2_with fail
  go_loopw [6] (fun v6 wr => ∃ (i : Nat) (os : Nat → OwnV) (T : Nat → ByteArray), v6 = .int .i64 i ∧ i ≤ n ∧ i ≤ 60 ∧ Hid (PlAt w wr m p lp HT bb os T (1 + 400 * i) (2 * i))) (fun v _ => 60 - (intOf v).toNat)
  case atStart => exact ⟨0, _, _, rfl, Nat.zero_le _, Nat.zero_le _, PL0⟩
  case round =>
    obtain ⟨i, os, T, rfl, hin, hi60, HPL⟩ := hrel
    clear PL0 HBB
    by_cases hlt : i < n ∧ i < 60
    · obtain ⟨hl1, hl2⟩ := hlt
      obtain ⟨ab, ao, rfl, hab, hcel⟩ : ∃ b o, a = some ⟨b, o, none⟩ ∧ b < w.heap.size ∧ ∀ i, i < n → w.cell? ⟨b, o + i * 3, none⟩ = some (.int .i64 (K i)) ∧ w.cell? ⟨b, o + i * 3 + 1, none⟩ = some (.int .i64 (W i)) ∧ w.cell? ⟨b, o + i * 3 + 2, none⟩ = some (.string (S i)) ∧ (S i).size ≤ 9223372036854775807 := by
        rcases HAA.out with h | h
        · omega
        · exact h
      obtain ⟨e0, e1, e2, hS⟩ := hcel i hl1
      obtain ⟨kd, HKD⟩ : ∃ z, Hid (K i = z) := ⟨_, rfl⟩
      obtain ⟨x, HX⟩ : ∃ z, Hid (W i = z) := ⟨_, rfl⟩
      obtain ⟨s, HSS⟩ : ∃ z, Hid (S i = z) := ⟨_, rfl⟩
      rw [HKD.out] at e0
      rw [HX.out] at e1
      rw [HSS.out] at e2 hS
      have hbw := HPL.out.bel
      have a0 : wr.cell? ⟨ab, ao + i * 3, none⟩ = some (.int .i64 kd) := (World.cell?_of_block (w := w) (a := ⟨ab, ao + i * 3, none⟩) (hbw.block ab hab)).trans e0
      have a1 : wr.cell? ⟨ab, ao + i * 3 + 1, none⟩ = some (.int .i64 x) := (World.cell?_of_block (w := w) (a := ⟨ab, ao + i * 3 + 1, none⟩) (hbw.block ab hab)).trans e1
      have a2 : wr.cell? ⟨ab, ao + i * 3 + 2, none⟩ = some (.string s) := (World.cell?_of_block (w := w) (a := ⟨ab, ao + i * 3 + 2, none⟩) (hbw.block ab hab)).trans e2
      have HS := hidx hS
      have d1 : decide ((i : Int) < (n : Int)) = true := by simp; omega
      have d1' : decide (i < n) = true := by simp; omega
      have d2 : decide ((i : Int) < 60) = true := by simp; omega
      have d2' : decide (i < 60) = true := by simp; omega
      have i1 : (0 : Int) ≤ (i : Int) := by omega
      have i2 : (i : Int) < (n : Int) := by omega
      obtain ⟨W8, HW8⟩ : ∃ W8, Hid (W8 = wr.alloc (.cells #[.int .i64 kd, .int .i64 x, .string s] 33)) := ⟨_, rfl⟩
      have b8 : Below wr.heap.size wr W8 := by rw [HW8.out]; exact (Below.refl _ _).alloc (Nat.le_refl _) _
      have x8 : BlkR W8 wr.heap.size #[.int .i64 kd, .int .i64 x, .string s] 33 := by rw [HW8.out]; exact heap_alloc_new _ _
      have HP8 := hidx (HPL.out.below b8)
      have X8 := hidx x8
      obtain ⟨ba, HBA⟩ : ∃ ba, Hid (wr.heap.size = ba) := ⟨_, rfl⟩
      obtain ⟨A0, hp0, hn0⟩ := HPL.out.ex
      have HBN : Hid (bb ≠ ba ∧ w.heap.size ≤ ba) := by
        have h1 := HPL.out.row.lt
        have h2 := hbw.size
        exact ⟨by rw [← HBA.out]; omega, by rw [← HBA.out]; exact h2⟩
      rw [HBA.out] at X8
      have HA0 : Hid (PI w W8 A0 m p lp HT os T (1 + 400 * i) (2 * i) ∧ ¬ A0 bb ∧ ¬ A0 ba) := ⟨hp0.below b8, hn0, fun y => by have := hp0.lt _ y; have := HBA.out; omega⟩
      clear hcel hS e0 e1 e2 hbw b8 x8 hp0 hn0 HKD HX HSS
      go_upto_region 9 with fail
      rw [← HW8.out, HBA.out]
      clear HW8 a0 a1 a2 HBA
      have y0 : W8.cell? ⟨ba, 0, none⟩ = some (.int .i64 kd) := X8.out.cell 0
      have y1 : W8.cell? ⟨ba, 1, none⟩ = some (.int .i64 x) := X8.out.cell 1
      have y2 : W8.cell? ⟨ba, 2, none⟩ = some (.string s) := X8.out.cell 2
      go_cut [8] from 38 to 42 (fun v8 wx => ∃ who : Nat, who < 3 ∧ v8 = .int .i64 who ∧ wx = W8)
      case first =>
        obtain ⟨r, hr, hr4⟩ : ∃ r : Nat, bits .and .i64 x 3 = (r : Int) ∧ r < 4 := ⟨(x % 4).toNat, by rw [pl_and3]; omega, by omega⟩
        have hm : ((r : Int) + 3).tmod 3 = (((r + 3) % 3 : Nat) : Int) := by rw [Int.tmod_eq_emod_of_nonneg (by omega)]; omega
        obtain ⟨q, hq, hq3⟩ : ∃ q : Nat, (r + 3) % 3 = q ∧ q < 3 := ⟨_, rfl, by omega⟩
        rw [hq] at hm
        have hw : IntKind.i64.wrap ((r : Int) + 3) = (r : Int) + 3 := by rw [IntKind.wrap_i64]; omega
        go_wp2_with fail
        go_meet
        case rel => exact ⟨q, hq3, rfl, rfl⟩
      obtain ⟨who, hw3, rfl, hwx⟩ := hcut
      obtain rfl := hwx.symm
      rcases (by omega : who = 0 ∨ who = 1 ∨ who = 2) with rfl | rfl | rfl
      · have cB7 : W8.cell? ⟨bb, 7, none⟩ = some (.bool (os 0).aheadS) := HP8.out.row.cell 7
        by_cases hsk : kd = 8 ∧ (os 0).aheadS = true
        · obtain ⟨rfl, hs⟩ := hsk
          rw [hs] at cB7
          clear hs
          have HPN := hidx (HP8.out.room (F' := 1 + 400 * (i + 1)) (N' := 2 * (i + 1)) (by omega) (by omega))
          go_wp2_with fail
          go_roundw
          case rel => exact ⟨i + 1, os, T, by go_num, by omega, by omega, HPN⟩
          case measure => simp [intOf]; omega
        · have H8 : Hid (kd = 8 → (os 0).aheadS = false) := fun e => by
            cases h : (os 0).aheadS with
            | false => rfl
            | true => exact absurd ⟨e, h⟩ hsk
          clear hsk
          go_upto_region 10 with fail
          go_cut [51] from 43 to 50 (fun v51 wx => v51 = .bool false ∧ wx = W8)
          case first =>
            by_cases hk8 : kd = 8
            · subst hk8
              rw [H8.out rfl] at cB7
              go_wp2_with fail
              go_meet
              case rel => exact ⟨rfl, rfl⟩
            · go_wp2_with fail
              go_meet
              case rel => exact ⟨rfl, rfl⟩
          obtain ⟨rfl, hwx⟩ := hcut
          obtain rfl := hwx.symm
          clear y0 y1 y2 cB7
          go_upto_region 11 with fail
          go_cut [9, 10] from 52 to 61 (fun v9 v10 wx => ∃ (b9 : Nat) (o' : OwnV), v9 = .pointer (some ⟨b9, 0, none⟩) ∧ v10 = .bool true ∧ Hid (BkOut w wx m p lp HT bb os (1 + 400 * (i + 1)) (2 * (i + 1)) 0 b9 o'))
          case first =>
            as_aux_lemma =>
            have HON : Hid (∀ wy, Below W8.heap.size W8 wy → Calls Tryz.prog 10 #[.pointer (some ⟨m, 0, none⟩), .int .i64 0, .agg #[.int .i64 (os 0).n, .string (os 0).now, .string (os 0).was, .string (os 0).saved, .int .u64 (os 0).save, .bool (os 0).has, .bool (os 0).ahead, .bool (os 0).aheadS], .agg #[.int .i64 kd, .int .i64 x, .string s]] wy (OneOut w wy A0 m p lp HT os (1 + 400 * i) (2 * i) 0)) := fun wy b => one_any (who := 0) HT_ok (HA0.out.1.below b) (by omega) (by omega) (by omega) kd x s HS.out H8.out
            refine wp_region_noPanic ?_
            refine wp_region_held_drew (S := (fun wy : World => BlkR wy bb (cells24 os) 31 ∧ BlkR wy ba #[.int .i64 kd, .int .i64 x, .string s] 33)) plmixed ⟨HP8.out.row, X8.out⟩ (fun hH => ?_)
            obtain ⟨WD, HWD⟩ : ∃ W, Hid (W = W8.drew) := ⟨_, rfl⟩
            have HBD : Hid (Below W8.heap.size W8 WD) := by show Below _ _ _; rw [HWD.out]; exact (Below.refl _ _).drew
            rw [← HWD.out] at hH ⊢
            clear HWD
            refine wpAnyH_take (i := 0) (v := (.pointer (some ⟨m, 0, none⟩))) (by simp only [List.getElem?_toArray, List.getElem?_cons_zero]; rfl) (by kernel_rfl) (by kernel_rfl) (by kernel_rfl) (fun _ _ _ h => h) (Or.inl ⟨by rfl, ?_⟩) hH ?_
            · intro wz hSw
              clear hSw
              go_simp
            try simp only [Act.put, List.setIfInBounds_toArray, List.set_cons_zero, List.set_cons_succ]
            refine wpAnyH_take (i := 1) (v := (.int .i64 0)) (by simp only [List.getElem?_toArray, List.getElem?_cons_succ, List.getElem?_cons_zero]; rfl) (by kernel_rfl) (by kernel_rfl) (by kernel_rfl) (fun _ _ _ h => h) (Or.inl ⟨by rfl, ?_⟩) hH ?_
            · intro wz hSw
              clear hSw
              go_simp
            try simp only [Act.put, List.setIfInBounds_toArray, List.set_cons_zero, List.set_cons_succ]
            refine wpAnyH_take (i := 2) (v := (.int .i64 0)) (by simp only [List.getElem?_toArray, List.getElem?_cons_succ, List.getElem?_cons_zero]; rfl) (by kernel_rfl) (by kernel_rfl) (by kernel_rfl) (fun _ _ _ h => h) (Or.inl ⟨by rfl, ?_⟩) hH ?_
            · intro wz hSw
              clear hSw
              go_simp
            try simp only [Act.put, List.setIfInBounds_toArray, List.set_cons_zero, List.set_cons_succ]
            refine wpAnyH_take (i := 3) (v := (.pointer (some ⟨bb, 0, none⟩))) (by simp only [List.getElem?_toArray, List.getElem?_cons_succ, List.getElem?_cons_zero]; rfl) (by kernel_rfl) (by kernel_rfl) (by kernel_rfl) (fun _ _ _ h => h) (Or.inl ⟨by rfl, ?_⟩) hH ?_
            · intro wz hSw
              clear hSw
              go_simp
            try simp only [Act.put, List.setIfInBounds_toArray, List.set_cons_zero, List.set_cons_succ]
            refine wpAnyH_take (i := 4) (v := (.agg #[.int .i64 (os 0).n, .string (os 0).now, .string (os 0).was, .string (os 0).saved, .int .u64 (os 0).save, .bool (os 0).has, .bool (os 0).ahead, .bool (os 0).aheadS])) (by simp only [List.getElem?_toArray, List.getElem?_cons_succ, List.getElem?_cons_zero]; rfl) (by kernel_rfl) (by kernel_rfl) (by kernel_rfl) (fun _ _ _ h => h) (Or.inl ⟨by rfl, ?_⟩) hH ?_
            · intro wz hSw
              have s0 : wz.cell? ⟨bb, 0, none⟩ = some (.int .i64 (os 0).n) := BlkR.cell hSw.1 0
              have s1 : wz.cell? ⟨bb, 1, none⟩ = some (.string (os 0).now) := BlkR.cell hSw.1 1
              have s2 : wz.cell? ⟨bb, 2, none⟩ = some (.string (os 0).was) := BlkR.cell hSw.1 2
              have s3 : wz.cell? ⟨bb, 3, none⟩ = some (.string (os 0).saved) := BlkR.cell hSw.1 3
              have s4 : wz.cell? ⟨bb, 4, none⟩ = some (.int .u64 (os 0).save) := BlkR.cell hSw.1 4
              have s5 : wz.cell? ⟨bb, 5, none⟩ = some (.bool (os 0).has) := BlkR.cell hSw.1 5
              have s6 : wz.cell? ⟨bb, 6, none⟩ = some (.bool (os 0).ahead) := BlkR.cell hSw.1 6
              have s7 : wz.cell? ⟨bb, 7, none⟩ = some (.bool (os 0).aheadS) := BlkR.cell hSw.1 7
              clear hSw
              go_simp
            try simp only [Act.put, List.setIfInBounds_toArray, List.set_cons_zero, List.set_cons_succ]
            refine wpAnyH_take (i := 5) (v := (.agg #[.int .i64 kd, .int .i64 x, .string s])) (by simp only [List.getElem?_toArray, List.getElem?_cons_succ, List.getElem?_cons_zero]; rfl) (by kernel_rfl) (by kernel_rfl) (by kernel_rfl) (fun _ _ _ h => h) (Or.inl ⟨by rfl, ?_⟩) hH ?_
            · intro wz hSw
              have s0 : wz.cell? ⟨ba, 0, none⟩ = some (.int .i64 kd) := BlkR.cell hSw.2 0
              have s1 : wz.cell? ⟨ba, 1, none⟩ = some (.int .i64 x) := BlkR.cell hSw.2 1
              have s2 : wz.cell? ⟨ba, 2, none⟩ = some (.string s) := BlkR.cell hSw.2 2
              clear hSw
              go_simp
            try simp only [Act.put, List.setIfInBounds_toArray, List.set_cons_zero, List.set_cons_succ]
            refine wpAnyH_ready (rs := [6, 10]) (by kernel_rfl) (by simp) ?_
            refine AllReadyH.cons (i := 6) (by simp only [List.getElem?_toArray, List.getElem?_cons_succ, List.getElem?_cons_zero]; rfl) (fun K hK => ?_) (AllReadyH.cons (i := 10) (by simp only [List.getElem?_toArray, List.getElem?_cons_succ, List.getElem?_cons_zero]; rfl) (fun K hK => ?_) AllReadyH.nil)
            · go_simp
              refine (HON.out WD HBD.out).mono ?_
              rintro e w9 ⟨A9, o', T', rfl, pi9, mv9⟩
              obtain ⟨n9, now9, was9, saved9, save9, has9, ahead9, aheadS9⟩ := o'
              rw [show OwnV.cells (⟨n9, now9, was9, saved9, save9, has9, ahead9, aheadS9⟩ : OwnV) = #[.int .i64 n9, .string now9, .string was9, .string saved9, .int .u64 save9, .bool has9, .bool ahead9, .bool aheadS9] from rfl]
              have ofb := hidx (mv9.off (r := bb) (Nat.lt_of_lt_of_le HP8.out.row.lt HBD.out.size) HA0.out.2.1)
              have ofa := hidx (mv9.off (r := ba) (Nat.lt_of_lt_of_le X8.out.lt HBD.out.size) HA0.out.2.2)
              have PIa : Hid (PI w w9 A9 m p lp HT (setK os 0 (⟨n9, now9, was9, saved9, save9, has9, ahead9, aheadS9⟩ : OwnV)) T' (1 + 400 * (i + 1)) (2 * (i + 1))) := hidx (pi9.room (by omega) (by omega))
              refine hK.out _ _ ⟨hH.1.same ofb.out.1, hH.2.same ofa.out.1⟩ (fun hH1 => ?_)
              clear hK K hH pi9 mv9
              try simp only [Act.put, List.setIfInBounds_toArray, List.set_cons_zero, List.set_cons_succ]
              refine wpAnyH_take (i := 7) (v := (.tuple #[.agg #[.int .i64 n9, .string now9, .string was9, .string saved9, .int .u64 save9, .bool has9, .bool ahead9, .bool aheadS9], .bool true])) (by simp only [List.getElem?_toArray, List.getElem?_cons_succ, List.getElem?_cons_zero]; rfl) (by kernel_rfl) (by kernel_rfl) (by kernel_rfl) (fun _ _ _ h => h) (Or.inl ⟨by rfl, ?_⟩) hH1 ?_
              · intro wz hSw
                clear hSw
                go_simp
              try simp only [Act.put, List.setIfInBounds_toArray, List.set_cons_zero, List.set_cons_succ]
              refine wpAnyH_take (i := 8) (v := (.agg #[.int .i64 n9, .string now9, .string was9, .string saved9, .int .u64 save9, .bool has9, .bool ahead9, .bool aheadS9])) (by simp only [List.getElem?_toArray, List.getElem?_cons_succ, List.getElem?_cons_zero]; rfl) (by kernel_rfl) (by kernel_rfl) (by kernel_rfl) (fun _ _ _ h => h) (Or.inl ⟨by rfl, ?_⟩) hH1 ?_
              · intro wz hSw
                clear hSw
                go_simp
              try simp only [Act.put, List.setIfInBounds_toArray, List.set_cons_zero, List.set_cons_succ]
              refine wpAnyH_take (i := 9) (v := (.bool true)) (by simp only [List.getElem?_toArray, List.getElem?_cons_succ, List.getElem?_cons_zero]; rfl) (by kernel_rfl) (by kernel_rfl) (by kernel_rfl) (fun _ _ _ h => h) (Or.inl ⟨by rfl, ?_⟩) hH1 ?_
              · intro wz hSw
                clear hSw
                go_simp
              try simp only [Act.put, List.setIfInBounds_toArray, List.set_cons_zero, List.set_cons_succ]
              refine wpAnyH_ready (rs := [10]) (by kernel_rfl) (by simp) ?_
              refine AllReadyH.cons (i := 10) (by simp only [List.getElem?_toArray, List.getElem?_cons_succ, List.getElem?_cons_zero]; rfl) (fun K hK => ?_) AllReadyH.nil
              go_simp
              obtain ⟨WA, HWA⟩ : ∃ W, Hid (W = w9.alloc (.cells #[.int .i64 0, .string ⟨#[]⟩, .string ⟨#[]⟩, .string ⟨#[]⟩, .int .u64 0, .bool false, .bool false, .bool false] 30)) := ⟨_, rfl⟩
              rw [← HWA.out]
              have bA : Below w9.heap.size w9 WA := by rw [HWA.out]; exact (Below.refl _ _).alloc (Nat.le_refl _) _
              have zA : BlkR WA w9.heap.size #[.int .i64 0, .string ⟨#[]⟩, .string ⟨#[]⟩, .string ⟨#[]⟩, .int .u64 0, .bool false, .bool false, .bool false] 30 := by rw [HWA.out]; exact heap_alloc_new _ _
              obtain ⟨b9, Hb9⟩ : ∃ b, Hid (w9.heap.size = b) := ⟨_, rfl⟩
              have ZB : Hid (BlkR WA b9 #[.int .i64 0, .string ⟨#[]⟩, .string ⟨#[]⟩, .string ⟨#[]⟩, .int .u64 0, .bool false, .bool false, .bool false] 30) := by rw [Hb9.out] at zA; exact zA
              have hlb : bb < w9.heap.size := hH1.1.lt
              have hla : ba < w9.heap.size := hH1.2.lt
              rw [Hb9.out]
              refine hK.out _ _ ⟨hH1.1.under bA hH1.1.lt, hH1.2.under bA hH1.2.lt⟩ (fun hH2 => ?_)
              clear hK K hH1
              try simp only [Act.put, List.setIfInBounds_toArray, List.set_cons_zero, List.set_cons_succ]
              have HNA : Hid (ba ≠ b9) := by show _ ≠ _; rw [← Hb9.out]; exact fun e => by have := hla; omega
              have BA := hidx bA
              have HLB : Hid (bb ≠ b9) := by show _ ≠ _; rw [← Hb9.out]; exact fun e => by have := hlb; omega
              clear bA zA hlb hla HWA
              refine wpAnyH_ready (rs := [11]) (by kernel_rfl) (by simp) ?_
              refine AllReadyH.cons (i := 11) (by simp only [List.getElem?_toArray, List.getElem?_cons_succ, List.getElem?_cons_zero]; rfl) (fun K hK => ?_) AllReadyH.nil
              have HBK : Hid (BkOut w (WA.setRow b9 #[.int .i64 n9, .string now9, .string was9, .string saved9, .int .u64 save9, .bool has9, .bool ahead9, .bool aheadS9]) m p lp HT bb os (1 + 400 * (i + 1)) (2 * (i + 1)) 0 b9 (⟨n9, now9, was9, saved9, save9, has9, ahead9, aheadS9⟩ : OwnV)) := bk_row (k := 0) (⟨n9, now9, was9, saved9, save9, has9, ahead9, aheadS9⟩ : OwnV) (PIa.out.below BA.out) ofb.out.2 (fun y => by have := PIa.out.lt _ y; have := Hb9.out; omega) hH2.1 ZB.out (fun e => HLB.out e.symm) HP8.out.new (by have := Hb9.out; have := PIa.out.bel.size; omega)
              refine step_storeRow (by rfl) _ _ _ (by rfl) (by rfl) b9 (by rfl) #[.int .i64 n9, .string now9, .string was9, .string saved9, .int .u64 save9, .bool has9, .bool ahead9, .bool aheadS9] #[.int .i64 0, .string ⟨#[]⟩, .string ⟨#[]⟩, .string ⟨#[]⟩, .int .u64 0, .bool false, .bool false, .bool false] (by rfl) _ ZB.out (by kernel_rfl) (by rfl) (by simp [Value.oneCell']) ?_
              refine hK.out _ _ ⟨HBK.out.row, hH2.2.same (setRow_other _ _ _ _ HNA.out)⟩ (fun hHs => ?_)
              clear hK K hH2
              try simp only [Act.put, List.setIfInBounds_toArray, List.set_cons_zero, List.set_cons_succ]
              refine wpAnyH_take (i := 12) (v := (.bool true)) (by simp only [List.getElem?_toArray, List.getElem?_cons_succ, List.getElem?_cons_zero]; rfl) (by kernel_rfl) (by kernel_rfl) (by kernel_rfl) (fun _ _ _ h => h) (Or.inl ⟨by rfl, ?_⟩) hHs ?_
              · intro wz hSw
                clear hSw
                go_simp
              try simp only [Act.put, List.setIfInBounds_toArray, List.set_cons_zero, List.set_cons_succ]
              refine wpAnyH_done (by kernel_rfl) ?_ _
              refine NoPanic.normal ?_
              obtain ⟨WR, HWR⟩ : ∃ W, Hid (W = (WA.setRow b9 #[.int .i64 n9, .string now9, .string was9, .string saved9, .int .u64 save9, .bool has9, .bool ahead9, .bool aheadS9])) := ⟨_, rfl⟩
              rw [← HWR.out] at HBK ⊢
              clear HWR hHs
              go_wp2_with fail
              go_meet
              case rel => exact ⟨b9, (⟨n9, now9, was9, saved9, save9, has9, ahead9, aheadS9⟩ : OwnV), rfl, rfl, HBK⟩
            · go_simp
              obtain ⟨WA, HWA⟩ : ∃ W, Hid (W = WD.alloc (.cells #[.int .i64 0, .string ⟨#[]⟩, .string ⟨#[]⟩, .string ⟨#[]⟩, .int .u64 0, .bool false, .bool false, .bool false] 30)) := ⟨_, rfl⟩
              rw [← HWA.out]
              have bA : Below WD.heap.size WD WA := by rw [HWA.out]; exact (Below.refl _ _).alloc (Nat.le_refl _) _
              have zA : BlkR WA WD.heap.size #[.int .i64 0, .string ⟨#[]⟩, .string ⟨#[]⟩, .string ⟨#[]⟩, .int .u64 0, .bool false, .bool false, .bool false] 30 := by rw [HWA.out]; exact heap_alloc_new _ _
              obtain ⟨b9, Hb9⟩ : ∃ b, Hid (WD.heap.size = b) := ⟨_, rfl⟩
              rw [Hb9.out] at zA
              have hlb : bb < WD.heap.size := hH.1.lt
              have hla : ba < WD.heap.size := hH.2.lt
              rw [Hb9.out]
              refine hK.out _ _ ⟨hH.1.under bA hH.1.lt, hH.2.under bA hH.2.lt⟩ (fun hH1 => ?_)
              clear hK K hH
              try simp only [Act.put, List.setIfInBounds_toArray, List.set_cons_zero, List.set_cons_succ]
              have HBA2 : Hid (Below W8.heap.size W8 WA) := below_chain HBD.out bA
              have hn9 : ¬ A0 b9 := fun y => by have := HA0.out.1.lt _ y; have := HBD.out.size; have := Hb9.out; omega
              refine wpAnyH_ready (rs := [6]) (by kernel_rfl) (by simp) ?_
              refine AllReadyH.cons (i := 6) (by simp only [List.getElem?_toArray, List.getElem?_cons_succ, List.getElem?_cons_zero]; rfl) (fun K hK => ?_) AllReadyH.nil
              go_simp
              refine (HON.out WA HBA2.out).mono ?_
              rintro e w9 ⟨A9, o', T', rfl, pi9, mv9⟩
              obtain ⟨n9, now9, was9, saved9, save9, has9, ahead9, aheadS9⟩ := o'
              rw [show OwnV.cells (⟨n9, now9, was9, saved9, save9, has9, ahead9, aheadS9⟩ : OwnV) = #[.int .i64 n9, .string now9, .string was9, .string saved9, .int .u64 save9, .bool has9, .bool ahead9, .bool aheadS9] from rfl]
              have ofb := hidx (mv9.off (r := bb) hH1.1.lt HA0.out.2.1)
              have ofa := hidx (mv9.off (r := ba) hH1.2.lt HA0.out.2.2)
              have PIa : Hid (PI w w9 A9 m p lp HT (setK os 0 (⟨n9, now9, was9, saved9, save9, has9, ahead9, aheadS9⟩ : OwnV)) T' (1 + 400 * (i + 1)) (2 * (i + 1))) := hidx (pi9.room (by omega) (by omega))
              refine hK.out _ _ ⟨hH1.1.same ofb.out.1, hH1.2.same ofa.out.1⟩ (fun hH2 => ?_)
              clear hK K hH1 pi9
              try simp only [Act.put, List.setIfInBounds_toArray, List.set_cons_zero, List.set_cons_succ]
              have of9 := hidx (mv9.off (r := b9) zA.lt hn9)
              have ZB : Hid (BlkR w9 b9 #[.int .i64 0, .string ⟨#[]⟩, .string ⟨#[]⟩, .string ⟨#[]⟩, .int .u64 0, .bool false, .bool false, .bool false] 30) := zA.same of9.out.1
              have HNA : Hid (ba ≠ b9) := by show _ ≠ _; rw [← Hb9.out]; exact fun e => by omega
              clear mv9 zA hn9 bA HWA
              refine wpAnyH_take (i := 7) (v := (.tuple #[.agg #[.int .i64 n9, .string now9, .string was9, .string saved9, .int .u64 save9, .bool has9, .bool ahead9, .bool aheadS9], .bool true])) (by simp only [List.getElem?_toArray, List.getElem?_cons_succ, List.getElem?_cons_zero]; rfl) (by kernel_rfl) (by kernel_rfl) (by kernel_rfl) (fun _ _ _ h => h) (Or.inl ⟨by rfl, ?_⟩) hH2 ?_
              · intro wz hSw
                clear hSw
                go_simp
              try simp only [Act.put, List.setIfInBounds_toArray, List.set_cons_zero, List.set_cons_succ]
              refine wpAnyH_take (i := 8) (v := (.agg #[.int .i64 n9, .string now9, .string was9, .string saved9, .int .u64 save9, .bool has9, .bool ahead9, .bool aheadS9])) (by simp only [List.getElem?_toArray, List.getElem?_cons_succ, List.getElem?_cons_zero]; rfl) (by kernel_rfl) (by kernel_rfl) (by kernel_rfl) (fun _ _ _ h => h) (Or.inl ⟨by rfl, ?_⟩) hH2 ?_
              · intro wz hSw
                clear hSw
                go_simp
              try simp only [Act.put, List.setIfInBounds_toArray, List.set_cons_zero, List.set_cons_succ]
              refine wpAnyH_take (i := 9) (v := (.bool true)) (by simp only [List.getElem?_toArray, List.getElem?_cons_succ, List.getElem?_cons_zero]; rfl) (by kernel_rfl) (by kernel_rfl) (by kernel_rfl) (fun _ _ _ h => h) (Or.inl ⟨by rfl, ?_⟩) hH2 ?_
              · intro wz hSw
                clear hSw
                go_simp
              try simp only [Act.put, List.setIfInBounds_toArray, List.set_cons_zero, List.set_cons_succ]
              refine wpAnyH_ready (rs := [11]) (by kernel_rfl) (by simp) ?_
              refine AllReadyH.cons (i := 11) (by simp only [List.getElem?_toArray, List.getElem?_cons_succ, List.getElem?_cons_zero]; rfl) (fun K hK => ?_) AllReadyH.nil
              have HBK : Hid (BkOut w (w9.setRow b9 #[.int .i64 n9, .string now9, .string was9, .string saved9, .int .u64 save9, .bool has9, .bool ahead9, .bool aheadS9]) m p lp HT bb os (1 + 400 * (i + 1)) (2 * (i + 1)) 0 b9 (⟨n9, now9, was9, saved9, save9, has9, ahead9, aheadS9⟩ : OwnV)) := bk_row (k := 0) (⟨n9, now9, was9, saved9, save9, has9, ahead9, aheadS9⟩ : OwnV) PIa.out ofb.out.2 of9.out.2 hH2.1 ZB.out (by have := Hb9.out; omega) HP8.out.new (by have := Hb9.out; have := HP8.out.bel.size; have := HBD.out.size; omega)
              refine step_storeRow (by rfl) _ _ _ (by rfl) (by rfl) b9 (by rfl) #[.int .i64 n9, .string now9, .string was9, .string saved9, .int .u64 save9, .bool has9, .bool ahead9, .bool aheadS9] #[.int .i64 0, .string ⟨#[]⟩, .string ⟨#[]⟩, .string ⟨#[]⟩, .int .u64 0, .bool false, .bool false, .bool false] (by rfl) _ ZB.out (by kernel_rfl) (by rfl) (by simp [Value.oneCell']) ?_
              refine hK.out _ _ ⟨HBK.out.row, hH2.2.same (setRow_other _ _ _ _ HNA.out)⟩ (fun hHs => ?_)
              clear hK K hH2
              try simp only [Act.put, List.setIfInBounds_toArray, List.set_cons_zero, List.set_cons_succ]
              refine wpAnyH_take (i := 12) (v := (.bool true)) (by simp only [List.getElem?_toArray, List.getElem?_cons_succ, List.getElem?_cons_zero]; rfl) (by kernel_rfl) (by kernel_rfl) (by kernel_rfl) (fun _ _ _ h => h) (Or.inl ⟨by rfl, ?_⟩) hHs ?_
              · intro wz hSw
                clear hSw
                go_simp
              try simp only [Act.put, List.setIfInBounds_toArray, List.set_cons_zero, List.set_cons_succ]
              refine wpAnyH_done (by kernel_rfl) ?_ _
              refine NoPanic.normal ?_
              obtain ⟨WR, HWR⟩ : ∃ W, Hid (W = (w9.setRow b9 #[.int .i64 n9, .string now9, .string was9, .string saved9, .int .u64 save9, .bool has9, .bool ahead9, .bool aheadS9])) := ⟨_, rfl⟩
              rw [← HWR.out] at HBK ⊢
              clear HWR hHs
              go_wp2_with fail
              go_meet
              case rel => exact ⟨b9, (⟨n9, now9, was9, saved9, save9, has9, ahead9, aheadS9⟩ : OwnV), rfl, rfl, HBK⟩
          obtain ⟨b9, o', rfl, rfl, HBK⟩ := hcut
          clear HP8 X8 HA0 HBN
          have q0 : wc.cell? ⟨b9, 0, none⟩ = some (.int .i64 o'.n) := HBK.out.box.cell 0
          have q1 : wc.cell? ⟨b9, 1, none⟩ = some (.string o'.now) := HBK.out.box.cell 1
          have q2 : wc.cell? ⟨b9, 2, none⟩ = some (.string o'.was) := HBK.out.box.cell 2
          have q3 : wc.cell? ⟨b9, 3, none⟩ = some (.string o'.saved) := HBK.out.box.cell 3
          have q4 : wc.cell? ⟨b9, 4, none⟩ = some (.int .u64 o'.save) := HBK.out.box.cell 4
          have q5 : wc.cell? ⟨b9, 5, none⟩ = some (.bool o'.has) := HBK.out.box.cell 5
          have q6 : wc.cell? ⟨b9, 6, none⟩ = some (.bool o'.ahead) := HBK.out.box.cell 6
          have q7 : wc.cell? ⟨b9, 7, none⟩ = some (.bool o'.aheadS) := HBK.out.box.cell 7
          have r0 : wc.cell? ⟨bb, 0, none⟩ = some (.int .i64 (os 0).n) := HBK.out.row.cell 0
          have r1 : wc.cell? ⟨bb, 1, none⟩ = some (.string (os 0).now) := HBK.out.row.cell 1
          have r2 : wc.cell? ⟨bb, 2, none⟩ = some (.string (os 0).was) := HBK.out.row.cell 2
          have r3 : wc.cell? ⟨bb, 3, none⟩ = some (.string (os 0).saved) := HBK.out.row.cell 3
          have r4 : wc.cell? ⟨bb, 4, none⟩ = some (.int .u64 (os 0).save) := HBK.out.row.cell 4
          have r5 : wc.cell? ⟨bb, 5, none⟩ = some (.bool (os 0).has) := HBK.out.row.cell 5
          have r6 : wc.cell? ⟨bb, 6, none⟩ = some (.bool (os 0).ahead) := HBK.out.row.cell 6
          have r7 : wc.cell? ⟨bb, 7, none⟩ = some (.bool (os 0).aheadS) := HBK.out.row.cell 7
          have t0 : wc.frozen? ⟨bb, 0, none⟩ = false := HBK.out.row.frozen 0
          have t1 : wc.frozen? ⟨bb, 1, none⟩ = false := HBK.out.row.frozen 1
          have t2 : wc.frozen? ⟨bb, 2, none⟩ = false := HBK.out.row.frozen 2
          have t3 : wc.frozen? ⟨bb, 3, none⟩ = false := HBK.out.row.frozen 3
          have t4 : wc.frozen? ⟨bb, 4, none⟩ = false := HBK.out.row.frozen 4
          have t5 : wc.frozen? ⟨bb, 5, none⟩ = false := HBK.out.row.frozen 5
          have t6 : wc.frozen? ⟨bb, 6, none⟩ = false := HBK.out.row.frozen 6
          have t7 : wc.frozen? ⟨bb, 7, none⟩ = false := HBK.out.row.frozen 7
          obtain ⟨T4, HP4'⟩ := bk_put0 HBK.out
          have HP4 := hidx HP4'
          obtain ⟨W4, HW4⟩ : ∃ W, Hid (W = ((((((((wc.setCell ⟨bb, 0, none⟩ (.int .i64 o'.n)).setCell ⟨bb, 1, none⟩ (.string o'.now)).setCell ⟨bb, 2, none⟩ (.string o'.was)).setCell ⟨bb, 3, none⟩ (.string o'.saved)).setCell ⟨bb, 4, none⟩ (.int .u64 o'.save)).setCell ⟨bb, 5, none⟩ (.bool o'.has)).setCell ⟨bb, 6, none⟩ (.bool o'.ahead)).setCell ⟨bb, 7, none⟩ (.bool o'.aheadS))) := ⟨_, rfl⟩
          rw [← HW4.out] at HP4
          clear HP4' HBK
          go_upto_region 15 with fail
          rw [← HW4.out]
          clear HW4 q0 r0 t0 q1 r1 t1 q2 r2 t2 q3 r3 t3 q4 r4 t4 q5 r5 t5 q6 r6 t6 q7 r7 t7
          obtain ⟨os4, HO4⟩ : ∃ q, Hid (setK os 0 o' = q) := ⟨_, rfl⟩
          rw [HO4.out] at HP4
          clear HO4
          have HCJ : Hid (∀ j, j < 3 → W4.cell? ⟨bb, j * 8, none⟩ = some (.int .i64 (os4 j).n)) := fun j hj => by
            rcases (by omega : j = 0 ∨ j = 1 ∨ j = 2) with rfl | rfl | rfl
            · exact HP4.out.row.cell 0
            · exact HP4.out.row.cell 8
            · exact HP4.out.row.cell 16
          go_wp2_with fail
          go_loopw [11, 12] (fun v11 v12 wx => ∃ j : Nat, j ≤ 3 ∧ v11 = .int .i64 (cntN os4 j) ∧ v12 = .int .i64 j ∧ wx = W4) (fun _ v _ => 3 - (intOf v).toNat)
          case atStart => exact ⟨0, by omega, rfl, rfl, rfl⟩
          case round =>
            obtain ⟨j, hj, rfl, rfl, hwx⟩ := hrel
            obtain rfl := hwx.symm
            by_cases hj3 : j < 3
            · have cj := HCJ.out j hj3
              have hcn := cntN_le os4 j
              have e1 : decide ((j : Int) < 3) = true := by simp; omega
              have e1' : decide (j < 3) = true := by simp; omega
              have j1 : (0 : Int) ≤ (j : Int) := by omega
              have j2 : (j : Int) < 3 := by omega
              by_cases hz : (os4 j).n = 0
              · rw [hz] at cj
                have cj' : W4.cell? ⟨bb, j * 8, none⟩ = some (.int .i64 0) := cj
                have hc1 : cntN os4 (j + 1) = cntN os4 j := by show cntN os4 j + oneOf (os4 j) = _; unfold oneOf; rw [if_pos hz]; rfl
                have HC1 := hidx hc1
                clear cj hc1 hz
                go_wp2_with fail
                go_roundw
                case rel => exact ⟨j + 1, by omega, by rw [HC1.out], by go_num, trivial⟩
                case measure => simp [intOf]; omega
              · have hc1 : cntN os4 (j + 1) = cntN os4 j + 1 := by show cntN os4 j + oneOf (os4 j) = _; unfold oneOf; rw [if_neg hz]
                have HC1 := hidx hc1
                obtain ⟨nj, Hnj⟩ : ∃ q, Hid ((os4 j).n = q) := ⟨_, rfl⟩
                rw [Hnj.out] at cj hz
                have hz' : ¬ ((nj : Int) = 0) := by omega
                obtain ⟨cc, Hcc⟩ : ∃ q, Hid (cntN os4 j = q) := ⟨_, rfl⟩
                rw [Hcc.out] at hcn HC1 ⊢
                clear hc1
                go_wp2_with fail
                go_roundw
                case rel => exact ⟨j + 1, by omega, by rw [HC1.out]; go_num, by go_num, trivial⟩
                case measure => simp [intOf]; omega
            · obtain rfl : j = 3 := by omega
              obtain ⟨A5, hp5, hn5⟩ := HP4.out.ex
              have HAL := hidx (pi_all hp5)
              have hs : cntN os4 3 = oneOf (os4 0) + oneOf (os4 1) + oneOf (os4 2) := by show ((0 + oneOf (os4 0)) + oneOf (os4 1)) + oneOf (os4 2) = _; rw [Nat.zero_add]
              obtain ⟨uu, Huu⟩ : ∃ q, Hid (oneOf (os4 0) + oneOf (os4 1) + oneOf (os4 2) = q) := ⟨_, rfl⟩
              rw [hs, Huu.out]
              rw [Huu.out] at HAL
              clear hs hp5 hn5 Huu
              go_wp2_with fail
              refine HAL.out.mono ?_
              rintro e w5 ⟨a5, c5, rfl, pi5, b5⟩
              have HP5 := hidx (HP4.out.below b5)
              clear HAL pi5 b5 HCJ HP4
              go_wp2_with fail
              go_roundw
              case rel => exact ⟨i + 1, os4, T4, by go_num, by omega, by omega, HP5⟩
              case measure => simp [intOf]; omega
      · have cB7 : W8.cell? ⟨bb, 15, none⟩ = some (.bool (os 1).aheadS) := HP8.out.row.cell 15
        by_cases hsk : kd = 8 ∧ (os 1).aheadS = true
        · obtain ⟨rfl, hs⟩ := hsk
          rw [hs] at cB7
          clear hs
          have HPN := hidx (HP8.out.room (F' := 1 + 400 * (i + 1)) (N' := 2 * (i + 1)) (by omega) (by omega))
          go_wp2_with fail
          go_roundw
          case rel => exact ⟨i + 1, os, T, by go_num, by omega, by omega, HPN⟩
          case measure => simp [intOf]; omega
        · have H8 : Hid (kd = 8 → (os 1).aheadS = false) := fun e => by
            cases h : (os 1).aheadS with
            | false => rfl
            | true => exact absurd ⟨e, h⟩ hsk
          clear hsk
          go_upto_region 10 with fail
          go_cut [51] from 43 to 50 (fun v51 wx => v51 = .bool false ∧ wx = W8)
          case first =>
            by_cases hk8 : kd = 8
            · subst hk8
              rw [H8.out rfl] at cB7
              go_wp2_with fail
              go_meet
              case rel => exact ⟨rfl, rfl⟩
            · go_wp2_with fail
              go_meet
              case rel => exact ⟨rfl, rfl⟩
          obtain ⟨rfl, hwx⟩ := hcut
          obtain rfl := hwx.symm
          clear y0 y1 y2 cB7
          go_upto_region 11 with fail
          go_cut [9, 10] from 52 to 61 (fun v9 v10 wx => ∃ (b9 : Nat) (o' : OwnV), v9 = .pointer (some ⟨b9, 0, none⟩) ∧ v10 = .bool true ∧ Hid (BkOut w wx m p lp HT bb os (1 + 400 * (i + 1)) (2 * (i + 1)) 1 b9 o'))
          case first =>
            as_aux_lemma =>
            have HON : Hid (∀ wy, Below W8.heap.size W8 wy → Calls Tryz.prog 10 #[.pointer (some ⟨m, 0, none⟩), .int .i64 1, .agg #[.int .i64 (os 1).n, .string (os 1).now, .string (os 1).was, .string (os 1).saved, .int .u64 (os 1).save, .bool (os 1).has, .bool (os 1).ahead, .bool (os 1).aheadS], .agg #[.int .i64 kd, .int .i64 x, .string s]] wy (OneOut w wy A0 m p lp HT os (1 + 400 * i) (2 * i) 1)) := fun wy b => one_any (who := 1) HT_ok (HA0.out.1.below b) (by omega) (by omega) (by omega) kd x s HS.out H8.out
            refine wp_region_noPanic ?_
            refine wp_region_held_drew (S := (fun wy : World => BlkR wy bb (cells24 os) 31 ∧ BlkR wy ba #[.int .i64 kd, .int .i64 x, .string s] 33)) plmixed ⟨HP8.out.row, X8.out⟩ (fun hH => ?_)
            obtain ⟨WD, HWD⟩ : ∃ W, Hid (W = W8.drew) := ⟨_, rfl⟩
            have HBD : Hid (Below W8.heap.size W8 WD) := by show Below _ _ _; rw [HWD.out]; exact (Below.refl _ _).drew
            rw [← HWD.out] at hH ⊢
            clear HWD
            refine wpAnyH_take (i := 0) (v := (.pointer (some ⟨m, 0, none⟩))) (by simp only [List.getElem?_toArray, List.getElem?_cons_zero]; rfl) (by kernel_rfl) (by kernel_rfl) (by kernel_rfl) (fun _ _ _ h => h) (Or.inl ⟨by rfl, ?_⟩) hH ?_
            · intro wz hSw
              clear hSw
              go_simp
            try simp only [Act.put, List.setIfInBounds_toArray, List.set_cons_zero, List.set_cons_succ]
            refine wpAnyH_take (i := 1) (v := (.int .i64 1)) (by simp only [List.getElem?_toArray, List.getElem?_cons_succ, List.getElem?_cons_zero]; rfl) (by kernel_rfl) (by kernel_rfl) (by kernel_rfl) (fun _ _ _ h => h) (Or.inl ⟨by rfl, ?_⟩) hH ?_
            · intro wz hSw
              clear hSw
              go_simp
            try simp only [Act.put, List.setIfInBounds_toArray, List.set_cons_zero, List.set_cons_succ]
            refine wpAnyH_take (i := 2) (v := (.int .i64 1)) (by simp only [List.getElem?_toArray, List.getElem?_cons_succ, List.getElem?_cons_zero]; rfl) (by kernel_rfl) (by kernel_rfl) (by kernel_rfl) (fun _ _ _ h => h) (Or.inl ⟨by rfl, ?_⟩) hH ?_
            · intro wz hSw
              clear hSw
              go_simp
            try simp only [Act.put, List.setIfInBounds_toArray, List.set_cons_zero, List.set_cons_succ]
            refine wpAnyH_take (i := 3) (v := (.pointer (some ⟨bb, 8, none⟩))) (by simp only [List.getElem?_toArray, List.getElem?_cons_succ, List.getElem?_cons_zero]; rfl) (by kernel_rfl) (by kernel_rfl) (by kernel_rfl) (fun _ _ _ h => h) (Or.inl ⟨by rfl, ?_⟩) hH ?_
            · intro wz hSw
              clear hSw
              go_simp
            try simp only [Act.put, List.setIfInBounds_toArray, List.set_cons_zero, List.set_cons_succ]
            refine wpAnyH_take (i := 4) (v := (.agg #[.int .i64 (os 1).n, .string (os 1).now, .string (os 1).was, .string (os 1).saved, .int .u64 (os 1).save, .bool (os 1).has, .bool (os 1).ahead, .bool (os 1).aheadS])) (by simp only [List.getElem?_toArray, List.getElem?_cons_succ, List.getElem?_cons_zero]; rfl) (by kernel_rfl) (by kernel_rfl) (by kernel_rfl) (fun _ _ _ h => h) (Or.inl ⟨by rfl, ?_⟩) hH ?_
            · intro wz hSw
              have s0 : wz.cell? ⟨bb, 8, none⟩ = some (.int .i64 (os 1).n) := BlkR.cell hSw.1 8
              have s1 : wz.cell? ⟨bb, 9, none⟩ = some (.string (os 1).now) := BlkR.cell hSw.1 9
              have s2 : wz.cell? ⟨bb, 10, none⟩ = some (.string (os 1).was) := BlkR.cell hSw.1 10
              have s3 : wz.cell? ⟨bb, 11, none⟩ = some (.string (os 1).saved) := BlkR.cell hSw.1 11
              have s4 : wz.cell? ⟨bb, 12, none⟩ = some (.int .u64 (os 1).save) := BlkR.cell hSw.1 12
              have s5 : wz.cell? ⟨bb, 13, none⟩ = some (.bool (os 1).has) := BlkR.cell hSw.1 13
              have s6 : wz.cell? ⟨bb, 14, none⟩ = some (.bool (os 1).ahead) := BlkR.cell hSw.1 14
              have s7 : wz.cell? ⟨bb, 15, none⟩ = some (.bool (os 1).aheadS) := BlkR.cell hSw.1 15
              clear hSw
              go_simp
            try simp only [Act.put, List.setIfInBounds_toArray, List.set_cons_zero, List.set_cons_succ]
            refine wpAnyH_take (i := 5) (v := (.agg #[.int .i64 kd, .int .i64 x, .string s])) (by simp only [List.getElem?_toArray, List.getElem?_cons_succ, List.getElem?_cons_zero]; rfl) (by kernel_rfl) (by kernel_rfl) (by kernel_rfl) (fun _ _ _ h => h) (Or.inl ⟨by rfl, ?_⟩) hH ?_
            · intro wz hSw
              have s0 : wz.cell? ⟨ba, 0, none⟩ = some (.int .i64 kd) := BlkR.cell hSw.2 0
              have s1 : wz.cell? ⟨ba, 1, none⟩ = some (.int .i64 x) := BlkR.cell hSw.2 1
              have s2 : wz.cell? ⟨ba, 2, none⟩ = some (.string s) := BlkR.cell hSw.2 2
              clear hSw
              go_simp
            try simp only [Act.put, List.setIfInBounds_toArray, List.set_cons_zero, List.set_cons_succ]
            refine wpAnyH_ready (rs := [6, 10]) (by kernel_rfl) (by simp) ?_
            refine AllReadyH.cons (i := 6) (by simp only [List.getElem?_toArray, List.getElem?_cons_succ, List.getElem?_cons_zero]; rfl) (fun K hK => ?_) (AllReadyH.cons (i := 10) (by simp only [List.getElem?_toArray, List.getElem?_cons_succ, List.getElem?_cons_zero]; rfl) (fun K hK => ?_) AllReadyH.nil)
            · go_simp
              refine (HON.out WD HBD.out).mono ?_
              rintro e w9 ⟨A9, o', T', rfl, pi9, mv9⟩
              obtain ⟨n9, now9, was9, saved9, save9, has9, ahead9, aheadS9⟩ := o'
              rw [show OwnV.cells (⟨n9, now9, was9, saved9, save9, has9, ahead9, aheadS9⟩ : OwnV) = #[.int .i64 n9, .string now9, .string was9, .string saved9, .int .u64 save9, .bool has9, .bool ahead9, .bool aheadS9] from rfl]
              have ofb := hidx (mv9.off (r := bb) (Nat.lt_of_lt_of_le HP8.out.row.lt HBD.out.size) HA0.out.2.1)
              have ofa := hidx (mv9.off (r := ba) (Nat.lt_of_lt_of_le X8.out.lt HBD.out.size) HA0.out.2.2)
              have PIa : Hid (PI w w9 A9 m p lp HT (setK os 1 (⟨n9, now9, was9, saved9, save9, has9, ahead9, aheadS9⟩ : OwnV)) T' (1 + 400 * (i + 1)) (2 * (i + 1))) := hidx (pi9.room (by omega) (by omega))
              refine hK.out _ _ ⟨hH.1.same ofb.out.1, hH.2.same ofa.out.1⟩ (fun hH1 => ?_)
              clear hK K hH pi9 mv9
              try simp only [Act.put, List.setIfInBounds_toArray, List.set_cons_zero, List.set_cons_succ]
              refine wpAnyH_take (i := 7) (v := (.tuple #[.agg #[.int .i64 n9, .string now9, .string was9, .string saved9, .int .u64 save9, .bool has9, .bool ahead9, .bool aheadS9], .bool true])) (by simp only [List.getElem?_toArray, List.getElem?_cons_succ, List.getElem?_cons_zero]; rfl) (by kernel_rfl) (by kernel_rfl) (by kernel_rfl) (fun _ _ _ h => h) (Or.inl ⟨by rfl, ?_⟩) hH1 ?_
              · intro wz hSw
                clear hSw
                go_simp
              try simp only [Act.put, List.setIfInBounds_toArray, List.set_cons_zero, List.set_cons_succ]
              refine wpAnyH_take (i := 8) (v := (.agg #[.int .i64 n9, .string now9, .string was9, .string saved9, .int .u64 save9, .bool has9, .bool ahead9, .bool aheadS9])) (by simp only [List.getElem?_toArray, List.getElem?_cons_succ, List.getElem?_cons_zero]; rfl) (by kernel_rfl) (by kernel_rfl) (by kernel_rfl) (fun _ _ _ h => h) (Or.inl ⟨by rfl, ?_⟩) hH1 ?_
              · intro wz hSw
                clear hSw
                go_simp
              try simp only [Act.put, List.setIfInBounds_toArray, List.set_cons_zero, List.set_cons_succ]
              refine wpAnyH_take (i := 9) (v := (.bool true)) (by simp only [List.getElem?_toArray, List.getElem?_cons_succ, List.getElem?_cons_zero]; rfl) (by kernel_rfl) (by kernel_rfl) (by kernel_rfl) (fun _ _ _ h => h) (Or.inl ⟨by rfl, ?_⟩) hH1 ?_
              · intro wz hSw
                clear hSw
                go_simp
              try simp only [Act.put, List.setIfInBounds_toArray, List.set_cons_zero, List.set_cons_succ]
              refine wpAnyH_ready (rs := [10]) (by kernel_rfl) (by simp) ?_
              refine AllReadyH.cons (i := 10) (by simp only [List.getElem?_toArray, List.getElem?_cons_succ, List.getElem?_cons_zero]; rfl) (fun K hK => ?_) AllReadyH.nil
              go_simp
              obtain ⟨WA, HWA⟩ : ∃ W, Hid (W = w9.alloc (.cells #[.int .i64 0, .string ⟨#[]⟩, .string ⟨#[]⟩, .string ⟨#[]⟩, .int .u64 0, .bool false, .bool false, .bool false] 30)) := ⟨_, rfl⟩
              rw [← HWA.out]
              have bA : Below w9.heap.size w9 WA := by rw [HWA.out]; exact (Below.refl _ _).alloc (Nat.le_refl _) _
              have zA : BlkR WA w9.heap.size #[.int .i64 0, .string ⟨#[]⟩, .string ⟨#[]⟩, .string ⟨#[]⟩, .int .u64 0, .bool false, .bool false, .bool false] 30 := by rw [HWA.out]; exact heap_alloc_new _ _
              obtain ⟨b9, Hb9⟩ : ∃ b, Hid (w9.heap.size = b) := ⟨_, rfl⟩
              have ZB : Hid (BlkR WA b9 #[.int .i64 0, .string ⟨#[]⟩, .string ⟨#[]⟩, .string ⟨#[]⟩, .int .u64 0, .bool false, .bool false, .bool false] 30) := by rw [Hb9.out] at zA; exact zA
              have hlb : bb < w9.heap.size := hH1.1.lt
              have hla : ba < w9.heap.size := hH1.2.lt
              rw [Hb9.out]
              refine hK.out _ _ ⟨hH1.1.under bA hH1.1.lt, hH1.2.under bA hH1.2.lt⟩ (fun hH2 => ?_)
              clear hK K hH1
              try simp only [Act.put, List.setIfInBounds_toArray, List.set_cons_zero, List.set_cons_succ]
              have HNA : Hid (ba ≠ b9) := by show _ ≠ _; rw [← Hb9.out]; exact fun e => by have := hla; omega
              have BA := hidx bA
              have HLB : Hid (bb ≠ b9) := by show _ ≠ _; rw [← Hb9.out]; exact fun e => by have := hlb; omega
              clear bA zA hlb hla HWA
              refine wpAnyH_ready (rs := [11]) (by kernel_rfl) (by simp) ?_
              refine AllReadyH.cons (i := 11) (by simp only [List.getElem?_toArray, List.getElem?_cons_succ, List.getElem?_cons_zero]; rfl) (fun K hK => ?_) AllReadyH.nil
              have HBK : Hid (BkOut w (WA.setRow b9 #[.int .i64 n9, .string now9, .string was9, .string saved9, .int .u64 save9, .bool has9, .bool ahead9, .bool aheadS9]) m p lp HT bb os (1 + 400 * (i + 1)) (2 * (i + 1)) 1 b9 (⟨n9, now9, was9, saved9, save9, has9, ahead9, aheadS9⟩ : OwnV)) := bk_row (k := 1) (⟨n9, now9, was9, saved9, save9, has9, ahead9, aheadS9⟩ : OwnV) (PIa.out.below BA.out) ofb.out.2 (fun y => by have := PIa.out.lt _ y; have := Hb9.out; omega) hH2.1 ZB.out (fun e => HLB.out e.symm) HP8.out.new (by have := Hb9.out; have := PIa.out.bel.size; omega)
              refine step_storeRow (by rfl) _ _ _ (by rfl) (by rfl) b9 (by rfl) #[.int .i64 n9, .string now9, .string was9, .string saved9, .int .u64 save9, .bool has9, .bool ahead9, .bool aheadS9] #[.int .i64 0, .string ⟨#[]⟩, .string ⟨#[]⟩, .string ⟨#[]⟩, .int .u64 0, .bool false, .bool false, .bool false] (by rfl) _ ZB.out (by kernel_rfl) (by rfl) (by simp [Value.oneCell']) ?_
              refine hK.out _ _ ⟨HBK.out.row, hH2.2.same (setRow_other _ _ _ _ HNA.out)⟩ (fun hHs => ?_)
              clear hK K hH2
              try simp only [Act.put, List.setIfInBounds_toArray, List.set_cons_zero, List.set_cons_succ]
              refine wpAnyH_take (i := 12) (v := (.bool true)) (by simp only [List.getElem?_toArray, List.getElem?_cons_succ, List.getElem?_cons_zero]; rfl) (by kernel_rfl) (by kernel_rfl) (by kernel_rfl) (fun _ _ _ h => h) (Or.inl ⟨by rfl, ?_⟩) hHs ?_
              · intro wz hSw
                clear hSw
                go_simp
              try simp only [Act.put, List.setIfInBounds_toArray, List.set_cons_zero, List.set_cons_succ]
              refine wpAnyH_done (by kernel_rfl) ?_ _
              refine NoPanic.normal ?_
              obtain ⟨WR, HWR⟩ : ∃ W, Hid (W = (WA.setRow b9 #[.int .i64 n9, .string now9, .string was9, .string saved9, .int .u64 save9, .bool has9, .bool ahead9, .bool aheadS9])) := ⟨_, rfl⟩
              rw [← HWR.out] at HBK ⊢
              clear HWR hHs
              go_wp2_with fail
              go_meet
              case rel => exact ⟨b9, (⟨n9, now9, was9, saved9, save9, has9, ahead9, aheadS9⟩ : OwnV), rfl, rfl, HBK⟩
            · go_simp
              obtain ⟨WA, HWA⟩ : ∃ W, Hid (W = WD.alloc (.cells #[.int .i64 0, .string ⟨#[]⟩, .string ⟨#[]⟩, .string ⟨#[]⟩, .int .u64 0, .bool false, .bool false, .bool false] 30)) := ⟨_, rfl⟩
              rw [← HWA.out]
              have bA : Below WD.heap.size WD WA := by rw [HWA.out]; exact (Below.refl _ _).alloc (Nat.le_refl _) _
              have zA : BlkR WA WD.heap.size #[.int .i64 0, .string ⟨#[]⟩, .string ⟨#[]⟩, .string ⟨#[]⟩, .int .u64 0, .bool false, .bool false, .bool false] 30 := by rw [HWA.out]; exact heap_alloc_new _ _
              obtain ⟨b9, Hb9⟩ : ∃ b, Hid (WD.heap.size = b) := ⟨_, rfl⟩
              rw [Hb9.out] at zA
              have hlb : bb < WD.heap.size := hH.1.lt
              have hla : ba < WD.heap.size := hH.2.lt
              rw [Hb9.out]
              refine hK.out _ _ ⟨hH.1.under bA hH.1.lt, hH.2.under bA hH.2.lt⟩ (fun hH1 => ?_)
              clear hK K hH
              try simp only [Act.put, List.setIfInBounds_toArray, List.set_cons_zero, List.set_cons_succ]
              have HBA2 : Hid (Below W8.heap.size W8 WA) := below_chain HBD.out bA
              have hn9 : ¬ A0 b9 := fun y => by have := HA0.out.1.lt _ y; have := HBD.out.size; have := Hb9.out; omega
              refine wpAnyH_ready (rs := [6]) (by kernel_rfl) (by simp) ?_
              refine AllReadyH.cons (i := 6) (by simp only [List.getElem?_toArray, List.getElem?_cons_succ, List.getElem?_cons_zero]; rfl) (fun K hK => ?_) AllReadyH.nil
              go_simp
              refine (HON.out WA HBA2.out).mono ?_
              rintro e w9 ⟨A9, o', T', rfl, pi9, mv9⟩
              obtain ⟨n9, now9, was9, saved9, save9, has9, ahead9, aheadS9⟩ := o'
              rw [show OwnV.cells (⟨n9, now9, was9, saved9, save9, has9, ahead9, aheadS9⟩ : OwnV) = #[.int .i64 n9, .string now9, .string was9, .string saved9, .int .u64 save9, .bool has9, .bool ahead9, .bool aheadS9] from rfl]
              have ofb := hidx (mv9.off (r := bb) hH1.1.lt HA0.out.2.1)
              have ofa := hidx (mv9.off (r := ba) hH1.2.lt HA0.out.2.2)
              have PIa : Hid (PI w w9 A9 m p lp HT (setK os 1 (⟨n9, now9, was9, saved9, save9, has9, ahead9, aheadS9⟩ : OwnV)) T' (1 + 400 * (i + 1)) (2 * (i + 1))) := hidx (pi9.room (by omega) (by omega))
              refine hK.out _ _ ⟨hH1.1.same ofb.out.1, hH1.2.same ofa.out.1⟩ (fun hH2 => ?_)
              clear hK K hH1 pi9
              try simp only [Act.put, List.setIfInBounds_toArray, List.set_cons_zero, List.set_cons_succ]
              have of9 := hidx (mv9.off (r := b9) zA.lt hn9)
              have ZB : Hid (BlkR w9 b9 #[.int .i64 0, .string ⟨#[]⟩, .string ⟨#[]⟩, .string ⟨#[]⟩, .int .u64 0, .bool false, .bool false, .bool false] 30) := zA.same of9.out.1
              have HNA : Hid (ba ≠ b9) := by show _ ≠ _; rw [← Hb9.out]; exact fun e => by omega
              clear mv9 zA hn9 bA HWA
              refine wpAnyH_take (i := 7) (v := (.tuple #[.agg #[.int .i64 n9, .string now9, .string was9, .string saved9, .int .u64 save9, .bool has9, .bool ahead9, .bool aheadS9], .bool true])) (by simp only [List.getElem?_toArray, List.getElem?_cons_succ, List.getElem?_cons_zero]; rfl) (by kernel_rfl) (by kernel_rfl) (by kernel_rfl) (fun _ _ _ h => h) (Or.inl ⟨by rfl, ?_⟩) hH2 ?_
              · intro wz hSw
                clear hSw
                go_simp
              try simp only [Act.put, List.setIfInBounds_toArray, List.set_cons_zero, List.set_cons_succ]
              refine wpAnyH_take (i := 8) (v := (.agg #[.int .i64 n9, .string now9, .string was9, .string saved9, .int .u64 save9, .bool has9, .bool ahead9, .bool aheadS9])) (by simp only [List.getElem?_toArray, List.getElem?_cons_succ, List.getElem?_cons_zero]; rfl) (by kernel_rfl) (by kernel_rfl) (by kernel_rfl) (fun _ _ _ h => h) (Or.inl ⟨by rfl, ?_⟩) hH2 ?_
              · intro wz hSw
                clear hSw
                go_simp
              try simp only [Act.put, List.setIfInBounds_toArray, List.set_cons_zero, List.set_cons_succ]
              refine wpAnyH_take (i := 9) (v := (.bool true)) (by simp only [List.getElem?_toArray, List.getElem?_cons_succ, List.getElem?_cons_zero]; rfl) (by kernel_rfl) (by kernel_rfl) (by kernel_rfl) (fun _ _ _ h => h) (Or.inl ⟨by rfl, ?_⟩) hH2 ?_
              · intro wz hSw
                clear hSw
                go_simp
              try simp only [Act.put, List.setIfInBounds_toArray, List.set_cons_zero, List.set_cons_succ]
              refine wpAnyH_ready (rs := [11]) (by kernel_rfl) (by simp) ?_
              refine AllReadyH.cons (i := 11) (by simp only [List.getElem?_toArray, List.getElem?_cons_succ, List.getElem?_cons_zero]; rfl) (fun K hK => ?_) AllReadyH.nil
              have HBK : Hid (BkOut w (w9.setRow b9 #[.int .i64 n9, .string now9, .string was9, .string saved9, .int .u64 save9, .bool has9, .bool ahead9, .bool aheadS9]) m p lp HT bb os (1 + 400 * (i + 1)) (2 * (i + 1)) 1 b9 (⟨n9, now9, was9, saved9, save9, has9, ahead9, aheadS9⟩ : OwnV)) := bk_row (k := 1) (⟨n9, now9, was9, saved9, save9, has9, ahead9, aheadS9⟩ : OwnV) PIa.out ofb.out.2 of9.out.2 hH2.1 ZB.out (by have := Hb9.out; omega) HP8.out.new (by have := Hb9.out; have := HP8.out.bel.size; have := HBD.out.size; omega)
              refine step_storeRow (by rfl) _ _ _ (by rfl) (by rfl) b9 (by rfl) #[.int .i64 n9, .string now9, .string was9, .string saved9, .int .u64 save9, .bool has9, .bool ahead9, .bool aheadS9] #[.int .i64 0, .string ⟨#[]⟩, .string ⟨#[]⟩, .string ⟨#[]⟩, .int .u64 0, .bool false, .bool false, .bool false] (by rfl) _ ZB.out (by kernel_rfl) (by rfl) (by simp [Value.oneCell']) ?_
              refine hK.out _ _ ⟨HBK.out.row, hH2.2.same (setRow_other _ _ _ _ HNA.out)⟩ (fun hHs => ?_)
              clear hK K hH2
              try simp only [Act.put, List.setIfInBounds_toArray, List.set_cons_zero, List.set_cons_succ]
              refine wpAnyH_take (i := 12) (v := (.bool true)) (by simp only [List.getElem?_toArray, List.getElem?_cons_succ, List.getElem?_cons_zero]; rfl) (by kernel_rfl) (by kernel_rfl) (by kernel_rfl) (fun _ _ _ h => h) (Or.inl ⟨by rfl, ?_⟩) hHs ?_
              · intro wz hSw
                clear hSw
                go_simp
              try simp only [Act.put, List.setIfInBounds_toArray, List.set_cons_zero, List.set_cons_succ]
              refine wpAnyH_done (by kernel_rfl) ?_ _
              refine NoPanic.normal ?_
              obtain ⟨WR, HWR⟩ : ∃ W, Hid (W = (w9.setRow b9 #[.int .i64 n9, .string now9, .string was9, .string saved9, .int .u64 save9, .bool has9, .bool ahead9, .bool aheadS9])) := ⟨_, rfl⟩
              rw [← HWR.out] at HBK ⊢
              clear HWR hHs
              go_wp2_with fail
              go_meet
              case rel => exact ⟨b9, (⟨n9, now9, was9, saved9, save9, has9, ahead9, aheadS9⟩ : OwnV), rfl, rfl, HBK⟩
          obtain ⟨b9, o', rfl, rfl, HBK⟩ := hcut
          clear HP8 X8 HA0 HBN
          have q0 : wc.cell? ⟨b9, 0, none⟩ = some (.int .i64 o'.n) := HBK.out.box.cell 0
          have q1 : wc.cell? ⟨b9, 1, none⟩ = some (.string o'.now) := HBK.out.box.cell 1
          have q2 : wc.cell? ⟨b9, 2, none⟩ = some (.string o'.was) := HBK.out.box.cell 2
          have q3 : wc.cell? ⟨b9, 3, none⟩ = some (.string o'.saved) := HBK.out.box.cell 3
          have q4 : wc.cell? ⟨b9, 4, none⟩ = some (.int .u64 o'.save) := HBK.out.box.cell 4
          have q5 : wc.cell? ⟨b9, 5, none⟩ = some (.bool o'.has) := HBK.out.box.cell 5
          have q6 : wc.cell? ⟨b9, 6, none⟩ = some (.bool o'.ahead) := HBK.out.box.cell 6
          have q7 : wc.cell? ⟨b9, 7, none⟩ = some (.bool o'.aheadS) := HBK.out.box.cell 7
          have r0 : wc.cell? ⟨bb, 8, none⟩ = some (.int .i64 (os 1).n) := HBK.out.row.cell 8
          have r1 : wc.cell? ⟨bb, 9, none⟩ = some (.string (os 1).now) := HBK.out.row.cell 9
          have r2 : wc.cell? ⟨bb, 10, none⟩ = some (.string (os 1).was) := HBK.out.row.cell 10
          have r3 : wc.cell? ⟨bb, 11, none⟩ = some (.string (os 1).saved) := HBK.out.row.cell 11
          have r4 : wc.cell? ⟨bb, 12, none⟩ = some (.int .u64 (os 1).save) := HBK.out.row.cell 12
          have r5 : wc.cell? ⟨bb, 13, none⟩ = some (.bool (os 1).has) := HBK.out.row.cell 13
          have r6 : wc.cell? ⟨bb, 14, none⟩ = some (.bool (os 1).ahead) := HBK.out.row.cell 14
          have r7 : wc.cell? ⟨bb, 15, none⟩ = some (.bool (os 1).aheadS) := HBK.out.row.cell 15
          have t0 : wc.frozen? ⟨bb, 8, none⟩ = false := HBK.out.row.frozen 8
          have t1 : wc.frozen? ⟨bb, 9, none⟩ = false := HBK.out.row.frozen 9
          have t2 : wc.frozen? ⟨bb, 10, none⟩ = false := HBK.out.row.frozen 10
          have t3 : wc.frozen? ⟨bb, 11, none⟩ = false := HBK.out.row.frozen 11
          have t4 : wc.frozen? ⟨bb, 12, none⟩ = false := HBK.out.row.frozen 12
          have t5 : wc.frozen? ⟨bb, 13, none⟩ = false := HBK.out.row.frozen 13
          have t6 : wc.frozen? ⟨bb, 14, none⟩ = false := HBK.out.row.frozen 14
          have t7 : wc.frozen? ⟨bb, 15, none⟩ = false := HBK.out.row.frozen 15
          obtain ⟨T4, HP4'⟩ := bk_put1 HBK.out
          have HP4 := hidx HP4'
          obtain ⟨W4, HW4⟩ : ∃ W, Hid (W = ((((((((wc.setCell ⟨bb, 8, none⟩ (.int .i64 o'.n)).setCell ⟨bb, 9, none⟩ (.string o'.now)).setCell ⟨bb, 10, none⟩ (.string o'.was)).setCell ⟨bb, 11, none⟩ (.string o'.saved)).setCell ⟨bb, 12, none⟩ (.int .u64 o'.save)).setCell ⟨bb, 13, none⟩ (.bool o'.has)).setCell ⟨bb, 14, none⟩ (.bool o'.ahead)).setCell ⟨bb, 15, none⟩ (.bool o'.aheadS))) := ⟨_, rfl⟩
          rw [← HW4.out] at HP4
          clear HP4' HBK
          go_upto_region 15 with fail
          rw [← HW4.out]
          clear HW4 q0 r0 t0 q1 r1 t1 q2 r2 t2 q3 r3 t3 q4 r4 t4 q5 r5 t5 q6 r6 t6 q7 r7 t7
          obtain ⟨os4, HO4⟩ : ∃ q, Hid (setK os 1 o' = q) := ⟨_, rfl⟩
          rw [HO4.out] at HP4
          clear HO4
          have HCJ : Hid (∀ j, j < 3 → W4.cell? ⟨bb, j * 8, none⟩ = some (.int .i64 (os4 j).n)) := fun j hj => by
            rcases (by omega : j = 0 ∨ j = 1 ∨ j = 2) with rfl | rfl | rfl
            · exact HP4.out.row.cell 0
            · exact HP4.out.row.cell 8
            · exact HP4.out.row.cell 16
          go_wp2_with fail
          go_loopw [11, 12] (fun v11 v12 wx => ∃ j : Nat, j ≤ 3 ∧ v11 = .int .i64 (cntN os4 j) ∧ v12 = .int .i64 j ∧ wx = W4) (fun _ v _ => 3 - (intOf v).toNat)
          case atStart => exact ⟨0, by omega, rfl, rfl, rfl⟩
          case round =>
            obtain ⟨j, hj, rfl, rfl, hwx⟩ := hrel
            obtain rfl := hwx.symm
            by_cases hj3 : j < 3
            · have cj := HCJ.out j hj3
              have hcn := cntN_le os4 j
              have e1 : decide ((j : Int) < 3) = true := by simp; omega
              have e1' : decide (j < 3) = true := by simp; omega
              have j1 : (0 : Int) ≤ (j : Int) := by omega
              have j2 : (j : Int) < 3 := by omega
              by_cases hz : (os4 j).n = 0
              · rw [hz] at cj
                have cj' : W4.cell? ⟨bb, j * 8, none⟩ = some (.int .i64 0) := cj
                have hc1 : cntN os4 (j + 1) = cntN os4 j := by show cntN os4 j + oneOf (os4 j) = _; unfold oneOf; rw [if_pos hz]; rfl
                have HC1 := hidx hc1
                clear cj hc1 hz
                go_wp2_with fail
                go_roundw
                case rel => exact ⟨j + 1, by omega, by rw [HC1.out], by go_num, trivial⟩
                case measure => simp [intOf]; omega
              · have hc1 : cntN os4 (j + 1) = cntN os4 j + 1 := by show cntN os4 j + oneOf (os4 j) = _; unfold oneOf; rw [if_neg hz]
                have HC1 := hidx hc1
                obtain ⟨nj, Hnj⟩ : ∃ q, Hid ((os4 j).n = q) := ⟨_, rfl⟩
                rw [Hnj.out] at cj hz
                have hz' : ¬ ((nj : Int) = 0) := by omega
                obtain ⟨cc, Hcc⟩ : ∃ q, Hid (cntN os4 j = q) := ⟨_, rfl⟩
                rw [Hcc.out] at hcn HC1 ⊢
                clear hc1
                go_wp2_with fail
                go_roundw
                case rel => exact ⟨j + 1, by omega, by rw [HC1.out]; go_num, by go_num, trivial⟩
                case measure => simp [intOf]; omega
            · obtain rfl : j = 3 := by omega
              obtain ⟨A5, hp5, hn5⟩ := HP4.out.ex
              have HAL := hidx (pi_all hp5)
              have hs : cntN os4 3 = oneOf (os4 0) + oneOf (os4 1) + oneOf (os4 2) := by show ((0 + oneOf (os4 0)) + oneOf (os4 1)) + oneOf (os4 2) = _; rw [Nat.zero_add]
              obtain ⟨uu, Huu⟩ : ∃ q, Hid (oneOf (os4 0) + oneOf (os4 1) + oneOf (os4 2) = q) := ⟨_, rfl⟩
              rw [hs, Huu.out]
              rw [Huu.out] at HAL
              clear hs hp5 hn5 Huu
              go_wp2_with fail
              refine HAL.out.mono ?_
              rintro e w5 ⟨a5, c5, rfl, pi5, b5⟩
              have HP5 := hidx (HP4.out.below b5)
              clear HAL pi5 b5 HCJ HP4
              go_wp2_with fail
              go_roundw
              case rel => exact ⟨i + 1, os4, T4, by go_num, by omega, by omega, HP5⟩
              case measure => simp [intOf]; omega
      · have cB7 : W8.cell? ⟨bb, 23, none⟩ = some (.bool (os 2).aheadS) := HP8.out.row.cell 23
        by_cases hsk : kd = 8 ∧ (os 2).aheadS = true
        · obtain ⟨rfl, hs⟩ := hsk
          rw [hs] at cB7
          clear hs
          have HPN := hidx (HP8.out.room (F' := 1 + 400 * (i + 1)) (N' := 2 * (i + 1)) (by omega) (by omega))
          go_wp2_with fail
          go_roundw
          case rel => exact ⟨i + 1, os, T, by go_num, by omega, by omega, HPN⟩
          case measure => simp [intOf]; omega
        · have H8 : Hid (kd = 8 → (os 2).aheadS = false) := fun e => by
            cases h : (os 2).aheadS with
            | false => rfl
            | true => exact absurd ⟨e, h⟩ hsk
          clear hsk
          go_upto_region 10 with fail
          go_cut [51] from 43 to 50 (fun v51 wx => v51 = .bool false ∧ wx = W8)
          case first =>
            by_cases hk8 : kd = 8
            · subst hk8
              rw [H8.out rfl] at cB7
              go_wp2_with fail
              go_meet
              case rel => exact ⟨rfl, rfl⟩
            · go_wp2_with fail
              go_meet
              case rel => exact ⟨rfl, rfl⟩
          obtain ⟨rfl, hwx⟩ := hcut
          obtain rfl := hwx.symm
          clear y0 y1 y2 cB7
          go_upto_region 11 with fail
          go_cut [9, 10] from 52 to 61 (fun v9 v10 wx => ∃ (b9 : Nat) (o' : OwnV), v9 = .pointer (some ⟨b9, 0, none⟩) ∧ v10 = .bool true ∧ Hid (BkOut w wx m p lp HT bb os (1 + 400 * (i + 1)) (2 * (i + 1)) 2 b9 o'))
          case first =>
            as_aux_lemma =>
            have HON : Hid (∀ wy, Below W8.heap.size W8 wy → Calls Tryz.prog 10 #[.pointer (some ⟨m, 0, none⟩), .int .i64 2, .agg #[.int .i64 (os 2).n, .string (os 2).now, .string (os 2).was, .string (os 2).saved, .int .u64 (os 2).save, .bool (os 2).has, .bool (os 2).ahead, .bool (os 2).aheadS], .agg #[.int .i64 kd, .int .i64 x, .string s]] wy (OneOut w wy A0 m p lp HT os (1 + 400 * i) (2 * i) 2)) := fun wy b => one_any (who := 2) HT_ok (HA0.out.1.below b) (by omega) (by omega) (by omega) kd x s HS.out H8.out
            refine wp_region_noPanic ?_
            refine wp_region_held_drew (S := (fun wy : World => BlkR wy bb (cells24 os) 31 ∧ BlkR wy ba #[.int .i64 kd, .int .i64 x, .string s] 33)) plmixed ⟨HP8.out.row, X8.out⟩ (fun hH => ?_)
            obtain ⟨WD, HWD⟩ : ∃ W, Hid (W = W8.drew) := ⟨_, rfl⟩
            have HBD : Hid (Below W8.heap.size W8 WD) := by show Below _ _ _; rw [HWD.out]; exact (Below.refl _ _).drew
            rw [← HWD.out] at hH ⊢
            clear HWD
            refine wpAnyH_take (i := 0) (v := (.pointer (some ⟨m, 0, none⟩))) (by simp only [List.getElem?_toArray, List.getElem?_cons_zero]; rfl) (by kernel_rfl) (by kernel_rfl) (by kernel_rfl) (fun _ _ _ h => h) (Or.inl ⟨by rfl, ?_⟩) hH ?_
            · intro wz hSw
              clear hSw
              go_simp
            try simp only [Act.put, List.setIfInBounds_toArray, List.set_cons_zero, List.set_cons_succ]
            refine wpAnyH_take (i := 1) (v := (.int .i64 2)) (by simp only [List.getElem?_toArray, List.getElem?_cons_succ, List.getElem?_cons_zero]; rfl) (by kernel_rfl) (by kernel_rfl) (by kernel_rfl) (fun _ _ _ h => h) (Or.inl ⟨by rfl, ?_⟩) hH ?_
            · intro wz hSw
              clear hSw
              go_simp
            try simp only [Act.put, List.setIfInBounds_toArray, List.set_cons_zero, List.set_cons_succ]
            refine wpAnyH_take (i := 2) (v := (.int .i64 2)) (by simp only [List.getElem?_toArray, List.getElem?_cons_succ, List.getElem?_cons_zero]; rfl) (by kernel_rfl) (by kernel_rfl) (by kernel_rfl) (fun _ _ _ h => h) (Or.inl ⟨by rfl, ?_⟩) hH ?_
            · intro wz hSw
              clear hSw
              go_simp
            try simp only [Act.put, List.setIfInBounds_toArray, List.set_cons_zero, List.set_cons_succ]
            refine wpAnyH_take (i := 3) (v := (.pointer (some ⟨bb, 16, none⟩))) (by simp only [List.getElem?_toArray, List.getElem?_cons_succ, List.getElem?_cons_zero]; rfl) (by kernel_rfl) (by kernel_rfl) (by kernel_rfl) (fun _ _ _ h => h) (Or.inl ⟨by rfl, ?_⟩) hH ?_
            · intro wz hSw
              clear hSw
              go_simp
            try simp only [Act.put, List.setIfInBounds_toArray, List.set_cons_zero, List.set_cons_succ]
            refine wpAnyH_take (i := 4) (v := (.agg #[.int .i64 (os 2).n, .string (os 2).now, .string (os 2).was, .string (os 2).saved, .int .u64 (os 2).save, .bool (os 2).has, .bool (os 2).ahead, .bool (os 2).aheadS])) (by simp only [List.getElem?_toArray, List.getElem?_cons_succ, List.getElem?_cons_zero]; rfl) (by kernel_rfl) (by kernel_rfl) (by kernel_rfl) (fun _ _ _ h => h) (Or.inl ⟨by rfl, ?_⟩) hH ?_
            · intro wz hSw
              have s0 : wz.cell? ⟨bb, 16, none⟩ = some (.int .i64 (os 2).n) := BlkR.cell hSw.1 16
              have s1 : wz.cell? ⟨bb, 17, none⟩ = some (.string (os 2).now) := BlkR.cell hSw.1 17
              have s2 : wz.cell? ⟨bb, 18, none⟩ = some (.string (os 2).was) := BlkR.cell hSw.1 18
              have s3 : wz.cell? ⟨bb, 19, none⟩ = some (.string (os 2).saved) := BlkR.cell hSw.1 19
              have s4 : wz.cell? ⟨bb, 20, none⟩ = some (.int .u64 (os 2).save) := BlkR.cell hSw.1 20
              have s5 : wz.cell? ⟨bb, 21, none⟩ = some (.bool (os 2).has) := BlkR.cell hSw.1 21
              have s6 : wz.cell? ⟨bb, 22, none⟩ = some (.bool (os 2).ahead) := BlkR.cell hSw.1 22
              have s7 : wz.cell? ⟨bb, 23, none⟩ = some (.bool (os 2).aheadS) := BlkR.cell hSw.1 23
              clear hSw
              go_simp
            try simp only [Act.put, List.setIfInBounds_toArray, List.set_cons_zero, List.set_cons_succ]
            refine wpAnyH_take (i := 5) (v := (.agg #[.int .i64 kd, .int .i64 x, .string s])) (by simp only [List.getElem?_toArray, List.getElem?_cons_succ, List.getElem?_cons_zero]; rfl) (by kernel_rfl) (by kernel_rfl) (by kernel_rfl) (fun _ _ _ h => h) (Or.inl ⟨by rfl, ?_⟩) hH ?_
            · intro wz hSw
              have s0 : wz.cell? ⟨ba, 0, none⟩ = some (.int .i64 kd) := BlkR.cell hSw.2 0
              have s1 : wz.cell? ⟨ba, 1, none⟩ = some (.int .i64 x) := BlkR.cell hSw.2 1
              have s2 : wz.cell? ⟨ba, 2, none⟩ = some (.string s) := BlkR.cell hSw.2 2
              clear hSw
              go_simp
            try simp only [Act.put, List.setIfInBounds_toArray, List.set_cons_zero, List.set_cons_succ]
            refine wpAnyH_ready (rs := [6, 10]) (by kernel_rfl) (by simp) ?_
            refine AllReadyH.cons (i := 6) (by simp only [List.getElem?_toArray, List.getElem?_cons_succ, List.getElem?_cons_zero]; rfl) (fun K hK => ?_) (AllReadyH.cons (i := 10) (by simp only [List.getElem?_toArray, List.getElem?_cons_succ, List.getElem?_cons_zero]; rfl) (fun K hK => ?_) AllReadyH.nil)
            · go_simp
              refine (HON.out WD HBD.out).mono ?_
              rintro e w9 ⟨A9, o', T', rfl, pi9, mv9⟩
              obtain ⟨n9, now9, was9, saved9, save9, has9, ahead9, aheadS9⟩ := o'
              rw [show OwnV.cells (⟨n9, now9, was9, saved9, save9, has9, ahead9, aheadS9⟩ : OwnV) = #[.int .i64 n9, .string now9, .string was9, .string saved9, .int .u64 save9, .bool has9, .bool ahead9, .bool aheadS9] from rfl]
              have ofb := hidx (mv9.off (r := bb) (Nat.lt_of_lt_of_le HP8.out.row.lt HBD.out.size) HA0.out.2.1)
              have ofa := hidx (mv9.off (r := ba) (Nat.lt_of_lt_of_le X8.out.lt HBD.out.size) HA0.out.2.2)
              have PIa : Hid (PI w w9 A9 m p lp HT (setK os 2 (⟨n9, now9, was9, saved9, save9, has9, ahead9, aheadS9⟩ : OwnV)) T' (1 + 400 * (i + 1)) (2 * (i + 1))) := hidx (pi9.room (by omega) (by omega))
              refine hK.out _ _ ⟨hH.1.same ofb.out.1, hH.2.same ofa.out.1⟩ (fun hH1 => ?_)
              clear hK K hH pi9 mv9
              try simp only [Act.put, List.setIfInBounds_toArray, List.set_cons_zero, List.set_cons_succ]
              refine wpAnyH_take (i := 7) (v := (.tuple #[.agg #[.int .i64 n9, .string now9, .string was9, .string saved9, .int .u64 save9, .bool has9, .bool ahead9, .bool aheadS9], .bool true])) (by simp only [List.getElem?_toArray, List.getElem?_cons_succ, List.getElem?_cons_zero]; rfl) (by kernel_rfl) (by kernel_rfl) (by kernel_rfl) (fun _ _ _ h => h) (Or.inl ⟨by rfl, ?_⟩) hH1 ?_
              · intro wz hSw
                clear hSw
                go_simp
              try simp only [Act.put, List.setIfInBounds_toArray, List.set_cons_zero, List.set_cons_succ]
              refine wpAnyH_take (i := 8) (v := (.agg #[.int .i64 n9, .string now9, .string was9, .string saved9, .int .u64 save9, .bool has9, .bool ahead9, .bool aheadS9])) (by simp only [List.getElem?_toArray, List.getElem?_cons_succ, List.getElem?_cons_zero]; rfl) (by kernel_rfl) (by kernel_rfl) (by kernel_rfl) (fun _ _ _ h => h) (Or.inl ⟨by rfl, ?_⟩) hH1 ?_
              · intro wz hSw
                clear hSw
                go_simp
              try simp only [Act.put, List.setIfInBounds_toArray, List.set_cons_zero, List.set_cons_succ]
              refine wpAnyH_take (i := 9) (v := (.bool true)) (by simp only [List.getElem?_toArray, List.getElem?_cons_succ, List.getElem?_cons_zero]; rfl) (by kernel_rfl) (by kernel_rfl) (by kernel_rfl) (fun _ _ _ h => h) (Or.inl ⟨by rfl, ?_⟩) hH1 ?_
              · intro wz hSw
                clear hSw
                go_simp
              try simp only [Act.put, List.setIfInBounds_toArray, List.set_cons_zero, List.set_cons_succ]
              refine wpAnyH_ready (rs := [10]) (by kernel_rfl) (by simp) ?_
              refine AllReadyH.cons (i := 10) (by simp only [List.getElem?_toArray, List.getElem?_cons_succ, List.getElem?_cons_zero]; rfl) (fun K hK => ?_) AllReadyH.nil
              go_simp
              obtain ⟨WA, HWA⟩ : ∃ W, Hid (W = w9.alloc (.cells #[.int .i64 0, .string ⟨#[]⟩, .string ⟨#[]⟩, .string ⟨#[]⟩, .int .u64 0, .bool false, .bool false, .bool false] 30)) := ⟨_, rfl⟩
              rw [← HWA.out]
              have bA : Below w9.heap.size w9 WA := by rw [HWA.out]; exact (Below.refl _ _).alloc (Nat.le_refl _) _
              have zA : BlkR WA w9.heap.size #[.int .i64 0, .string ⟨#[]⟩, .string ⟨#[]⟩, .string ⟨#[]⟩, .int .u64 0, .bool false, .bool false, .bool false] 30 := by rw [HWA.out]; exact heap_alloc_new _ _
              obtain ⟨b9, Hb9⟩ : ∃ b, Hid (w9.heap.size = b) := ⟨_, rfl⟩
              have ZB : Hid (BlkR WA b9 #[.int .i64 0, .string ⟨#[]⟩, .string ⟨#[]⟩, .string ⟨#[]⟩, .int .u64 0, .bool false, .bool false, .bool false] 30) := by rw [Hb9.out] at zA; exact zA
              have hlb : bb < w9.heap.size := hH1.1.lt
              have hla : ba < w9.heap.size := hH1.2.lt
              rw [Hb9.out]
              refine hK.out _ _ ⟨hH1.1.under bA hH1.1.lt, hH1.2.under bA hH1.2.lt⟩ (fun hH2 => ?_)
              clear hK K hH1
              try simp only [Act.put, List.setIfInBounds_toArray, List.set_cons_zero, List.set_cons_succ]
              have HNA : Hid (ba ≠ b9) := by show _ ≠ _; rw [← Hb9.out]; exact fun e => by have := hla; omega
              have BA := hidx bA
              have HLB : Hid (bb ≠ b9) := by show _ ≠ _; rw [← Hb9.out]; exact fun e => by have := hlb; omega
              clear bA zA hlb hla HWA
              refine wpAnyH_ready (rs := [11]) (by kernel_rfl) (by simp) ?_
              refine AllReadyH.cons (i := 11) (by simp only [List.getElem?_toArray, List.getElem?_cons_succ, List.getElem?_cons_zero]; rfl) (fun K hK => ?_) AllReadyH.nil
              have HBK : Hid (BkOut w (WA.setRow b9 #[.int .i64 n9, .string now9, .string was9, .string saved9, .int .u64 save9, .bool has9, .bool ahead9, .bool aheadS9]) m p lp HT bb os (1 + 400 * (i + 1)) (2 * (i + 1)) 2 b9 (⟨n9, now9, was9, saved9, save9, has9, ahead9, aheadS9⟩ : OwnV)) := bk_row (k := 2) (⟨n9, now9, was9, saved9, save9, has9, ahead9, aheadS9⟩ : OwnV) (PIa.out.below BA.out) ofb.out.2 (fun y => by have := PIa.out.lt _ y; have := Hb9.out; omega) hH2.1 ZB.out (fun e => HLB.out e.symm) HP8.out.new (by have := Hb9.out; have := PIa.out.bel.size; omega)
              refine step_storeRow (by rfl) _ _ _ (by rfl) (by rfl) b9 (by rfl) #[.int .i64 n9, .string now9, .string was9, .string saved9, .int .u64 save9, .bool has9, .bool ahead9, .bool aheadS9] #[.int .i64 0, .string ⟨#[]⟩, .string ⟨#[]⟩, .string ⟨#[]⟩, .int .u64 0, .bool false, .bool false, .bool false] (by rfl) _ ZB.out (by kernel_rfl) (by rfl) (by simp [Value.oneCell']) ?_
              refine hK.out _ _ ⟨HBK.out.row, hH2.2.same (setRow_other _ _ _ _ HNA.out)⟩ (fun hHs => ?_)
              clear hK K hH2
              try simp only [Act.put, List.setIfInBounds_toArray, List.set_cons_zero, List.set_cons_succ]
              refine wpAnyH_take (i := 12) (v := (.bool true)) (by simp only [List.getElem?_toArray, List.getElem?_cons_succ, List.getElem?_cons_zero]; rfl) (by kernel_rfl) (by kernel_rfl) (by kernel_rfl) (fun _ _ _ h => h) (Or.inl ⟨by rfl, ?_⟩) hHs ?_
              · intro wz hSw
                clear hSw
                go_simp
              try simp only [Act.put, List.setIfInBounds_toArray, List.set_cons_zero, List.set_cons_succ]
              refine wpAnyH_done (by kernel_rfl) ?_ _
              refine NoPanic.normal ?_
              obtain ⟨WR, HWR⟩ : ∃ W, Hid (W = (WA.setRow b9 #[.int .i64 n9, .string now9, .string was9, .string saved9, .int .u64 save9, .bool has9, .bool ahead9, .bool aheadS9])) := ⟨_, rfl⟩
              rw [← HWR.out] at HBK ⊢
              clear HWR hHs
              go_wp2_with fail
              go_meet
              case rel => exact ⟨b9, (⟨n9, now9, was9, saved9, save9, has9, ahead9, aheadS9⟩ : OwnV), rfl, rfl, HBK⟩
            · go_simp
              obtain ⟨WA, HWA⟩ : ∃ W, Hid (W = WD.alloc (.cells #[.int .i64 0, .string ⟨#[]⟩, .string ⟨#[]⟩, .string ⟨#[]⟩, .int .u64 0, .bool false, .bool false, .bool false] 30)) := ⟨_, rfl⟩
              rw [← HWA.out]
              have bA : Below WD.heap.size WD WA := by rw [HWA.out]; exact (Below.refl _ _).alloc (Nat.le_refl _) _
              have zA : BlkR WA WD.heap.size #[.int .i64 0, .string ⟨#[]⟩, .string ⟨#[]⟩, .string ⟨#[]⟩, .int .u64 0, .bool false, .bool false, .bool false] 30 := by rw [HWA.out]; exact heap_alloc_new _ _
              obtain ⟨b9, Hb9⟩ : ∃ b, Hid (WD.heap.size = b) := ⟨_, rfl⟩
              rw [Hb9.out] at zA
              have hlb : bb < WD.heap.size := hH.1.lt
              have hla : ba < WD.heap.size := hH.2.lt
              rw [Hb9.out]
              refine hK.out _ _ ⟨hH.1.under bA hH.1.lt, hH.2.under bA hH.2.lt⟩ (fun hH1 => ?_)
              clear hK K hH
              try simp only [Act.put, List.setIfInBounds_toArray, List.set_cons_zero, List.set_cons_succ]
              have HBA2 : Hid (Below W8.heap.size W8 WA) := below_chain HBD.out bA
              have hn9 : ¬ A0 b9 := fun y => by have := HA0.out.1.lt _ y; have := HBD.out.size; have := Hb9.out; omega
              refine wpAnyH_ready (rs := [6]) (by kernel_rfl) (by simp) ?_
              refine AllReadyH.cons (i := 6) (by simp only [List.getElem?_toArray, List.getElem?_cons_succ, List.getElem?_cons_zero]; rfl) (fun K hK => ?_) AllReadyH.nil
              go_simp
              refine (HON.out WA HBA2.out).mono ?_
              rintro e w9 ⟨A9, o', T', rfl, pi9, mv9⟩
              obtain ⟨n9, now9, was9, saved9, save9, has9, ahead9, aheadS9⟩ := o'
              rw [show OwnV.cells (⟨n9, now9, was9, saved9, save9, has9, ahead9, aheadS9⟩ : OwnV) = #[.int .i64 n9, .string now9, .string was9, .string saved9, .int .u64 save9, .bool has9, .bool ahead9, .bool aheadS9] from rfl]
              have ofb := hidx (mv9.off (r := bb) hH1.1.lt HA0.out.2.1)
              have ofa := hidx (mv9.off (r := ba) hH1.2.lt HA0.out.2.2)
              have PIa : Hid (PI w w9 A9 m p lp HT (setK os 2 (⟨n9, now9, was9, saved9, save9, has9, ahead9, aheadS9⟩ : OwnV)) T' (1 + 400 * (i + 1)) (2 * (i + 1))) := hidx (pi9.room (by omega) (by omega))
              refine hK.out _ _ ⟨hH1.1.same ofb.out.1, hH1.2.same ofa.out.1⟩ (fun hH2 => ?_)
              clear hK K hH1 pi9
              try simp only [Act.put, List.setIfInBounds_toArray, List.set_cons_zero, List.set_cons_succ]
              have of9 := hidx (mv9.off (r := b9) zA.lt hn9)
              have ZB : Hid (BlkR w9 b9 #[.int .i64 0, .string ⟨#[]⟩, .string ⟨#[]⟩, .string ⟨#[]⟩, .int .u64 0, .bool false, .bool false, .bool false] 30) := zA.same of9.out.1
              have HNA : Hid (ba ≠ b9) := by show _ ≠ _; rw [← Hb9.out]; exact fun e => by omega
              clear mv9 zA hn9 bA HWA
              refine wpAnyH_take (i := 7) (v := (.tuple #[.agg #[.int .i64 n9, .string now9, .string was9, .string saved9, .int .u64 save9, .bool has9, .bool ahead9, .bool aheadS9], .bool true])) (by simp only [List.getElem?_toArray, List.getElem?_cons_succ, List.getElem?_cons_zero]; rfl) (by kernel_rfl) (by kernel_rfl) (by kernel_rfl) (fun _ _ _ h => h) (Or.inl ⟨by rfl, ?_⟩) hH2 ?_
              · intro wz hSw
                clear hSw
                go_simp
              try simp only [Act.put, List.setIfInBounds_toArray, List.set_cons_zero, List.set_cons_succ]
              refine wpAnyH_take (i := 8) (v := (.agg #[.int .i64 n9, .string now9, .string was9, .string saved9, .int .u64 save9, .bool has9, .bool ahead9, .bool aheadS9])) (by simp only [List.getElem?_toArray, List.getElem?_cons_succ, List.getElem?_cons_zero]; rfl) (by kernel_rfl) (by kernel_rfl) (by kernel_rfl) (fun _ _ _ h => h) (Or.inl ⟨by rfl, ?_⟩) hH2 ?_
              · intro wz hSw
                clear hSw
                go_simp
              try simp only [Act.put, List.setIfInBounds_toArray, List.set_cons_zero, List.set_cons_succ]
              refine wpAnyH_take (i := 9) (v := (.bool true)) (by simp only [List.getElem?_toArray, List.getElem?_cons_succ, List.getElem?_cons_zero]; rfl) (by kernel_rfl) (by kernel_rfl) (by kernel_rfl) (fun _ _ _ h => h) (Or.inl ⟨by rfl, ?_⟩) hH2 ?_
              · intro wz hSw
                clear hSw
                go_simp
              try simp only [Act.put, List.setIfInBounds_toArray, List.set_cons_zero, List.set_cons_succ]
              refine wpAnyH_ready (rs := [11]) (by kernel_rfl) (by simp) ?_
              refine AllReadyH.cons (i := 11) (by simp only [List.getElem?_toArray, List.getElem?_cons_succ, List.getElem?_cons_zero]; rfl) (fun K hK => ?_) AllReadyH.nil
              have HBK : Hid (BkOut w (w9.setRow b9 #[.int .i64 n9, .string now9, .string was9, .string saved9, .int .u64 save9, .bool has9, .bool ahead9, .bool aheadS9]) m p lp HT bb os (1 + 400 * (i + 1)) (2 * (i + 1)) 2 b9 (⟨n9, now9, was9, saved9, save9, has9, ahead9, aheadS9⟩ : OwnV)) := bk_row (k := 2) (⟨n9, now9, was9, saved9, save9, has9, ahead9, aheadS9⟩ : OwnV) PIa.out ofb.out.2 of9.out.2 hH2.1 ZB.out (by have := Hb9.out; omega) HP8.out.new (by have := Hb9.out; have := HP8.out.bel.size; have := HBD.out.size; omega)
              refine step_storeRow (by rfl) _ _ _ (by rfl) (by rfl) b9 (by rfl) #[.int .i64 n9, .string now9, .string was9, .string saved9, .int .u64 save9, .bool has9, .bool ahead9, .bool aheadS9] #[.int .i64 0, .string ⟨#[]⟩, .string ⟨#[]⟩, .string ⟨#[]⟩, .int .u64 0, .bool false, .bool false, .bool false] (by rfl) _ ZB.out (by kernel_rfl) (by rfl) (by simp [Value.oneCell']) ?_
              refine hK.out _ _ ⟨HBK.out.row, hH2.2.same (setRow_other _ _ _ _ HNA.out)⟩ (fun hHs => ?_)
              clear hK K hH2
              try simp only [Act.put, List.setIfInBounds_toArray, List.set_cons_zero, List.set_cons_succ]
              refine wpAnyH_take (i := 12) (v := (.bool true)) (by simp only [List.getElem?_toArray, List.getElem?_cons_succ, List.getElem?_cons_zero]; rfl) (by kernel_rfl) (by kernel_rfl) (by kernel_rfl) (fun _ _ _ h => h) (Or.inl ⟨by rfl, ?_⟩) hHs ?_
              · intro wz hSw
                clear hSw
                go_simp
              try simp only [Act.put, List.setIfInBounds_toArray, List.set_cons_zero, List.set_cons_succ]
              refine wpAnyH_done (by kernel_rfl) ?_ _
              refine NoPanic.normal ?_
              obtain ⟨WR, HWR⟩ : ∃ W, Hid (W = (w9.setRow b9 #[.int .i64 n9, .string now9, .string was9, .string saved9, .int .u64 save9, .bool has9, .bool ahead9, .bool aheadS9])) := ⟨_, rfl⟩
              rw [← HWR.out] at HBK ⊢
              clear HWR hHs
              go_wp2_with fail
              go_meet
              case rel => exact ⟨b9, (⟨n9, now9, was9, saved9, save9, has9, ahead9, aheadS9⟩ : OwnV), rfl, rfl, HBK⟩
          obtain ⟨b9, o', rfl, rfl, HBK⟩ := hcut
          clear HP8 X8 HA0 HBN
          have q0 : wc.cell? ⟨b9, 0, none⟩ = some (.int .i64 o'.n) := HBK.out.box.cell 0
          have q1 : wc.cell? ⟨b9, 1, none⟩ = some (.string o'.now) := HBK.out.box.cell 1
          have q2 : wc.cell? ⟨b9, 2, none⟩ = some (.string o'.was) := HBK.out.box.cell 2
          have q3 : wc.cell? ⟨b9, 3, none⟩ = some (.string o'.saved) := HBK.out.box.cell 3
          have q4 : wc.cell? ⟨b9, 4, none⟩ = some (.int .u64 o'.save) := HBK.out.box.cell 4
          have q5 : wc.cell? ⟨b9, 5, none⟩ = some (.bool o'.has) := HBK.out.box.cell 5
          have q6 : wc.cell? ⟨b9, 6, none⟩ = some (.bool o'.ahead) := HBK.out.box.cell 6
          have q7 : wc.cell? ⟨b9, 7, none⟩ = some (.bool o'.aheadS) := HBK.out.box.cell 7
          have r0 : wc.cell? ⟨bb, 16, none⟩ = some (.int .i64 (os 2).n) := HBK.out.row.cell 16
          have r1 : wc.cell? ⟨bb, 17, none⟩ = some (.string (os 2).now) := HBK.out.row.cell 17
          have r2 : wc.cell? ⟨bb, 18, none⟩ = some (.string (os 2).was) := HBK.out.row.cell 18
          have r3 : wc.cell? ⟨bb, 19, none⟩ = some (.string (os 2).saved) := HBK.out.row.cell 19
          have r4 : wc.cell? ⟨bb, 20, none⟩ = some (.int .u64 (os 2).save) := HBK.out.row.cell 20
          have r5 : wc.cell? ⟨bb, 21, none⟩ = some (.bool (os 2).has) := HBK.out.row.cell 21
          have r6 : wc.cell? ⟨bb, 22, none⟩ = some (.bool (os 2).ahead) := HBK.out.row.cell 22
          have r7 : wc.cell? ⟨bb, 23, none⟩ = some (.bool (os 2).aheadS) := HBK.out.row.cell 23
          have t0 : wc.frozen? ⟨bb, 16, none⟩ = false := HBK.out.row.frozen 16
          have t1 : wc.frozen? ⟨bb, 17, none⟩ = false := HBK.out.row.frozen 17
          have t2 : wc.frozen? ⟨bb, 18, none⟩ = false := HBK.out.row.frozen 18
          have t3 : wc.frozen? ⟨bb, 19, none⟩ = false := HBK.out.row.frozen 19
          have t4 : wc.frozen? ⟨bb, 20, none⟩ = false := HBK.out.row.frozen 20
          have t5 : wc.frozen? ⟨bb, 21, none⟩ = false := HBK.out.row.frozen 21
          have t6 : wc.frozen? ⟨bb, 22, none⟩ = false := HBK.out.row.frozen 22
          have t7 : wc.frozen? ⟨bb, 23, none⟩ = false := HBK.out.row.frozen 23
          obtain ⟨T4, HP4'⟩ := bk_put2 HBK.out
          have HP4 := hidx HP4'
          obtain ⟨W4, HW4⟩ : ∃ W, Hid (W = ((((((((wc.setCell ⟨bb, 16, none⟩ (.int .i64 o'.n)).setCell ⟨bb, 17, none⟩ (.string o'.now)).setCell ⟨bb, 18, none⟩ (.string o'.was)).setCell ⟨bb, 19, none⟩ (.string o'.saved)).setCell ⟨bb, 20, none⟩ (.int .u64 o'.save)).setCell ⟨bb, 21, none⟩ (.bool o'.has)).setCell ⟨bb, 22, none⟩ (.bool o'.ahead)).setCell ⟨bb, 23, none⟩ (.bool o'.aheadS))) := ⟨_, rfl⟩
          rw [← HW4.out] at HP4
          clear HP4' HBK
          go_upto_region 15 with fail
          rw [← HW4.out]
          clear HW4 q0 r0 t0 q1 r1 t1 q2 r2 t2 q3 r3 t3 q4 r4 t4 q5 r5 t5 q6 r6 t6 q7 r7 t7
          obtain ⟨os4, HO4⟩ : ∃ q, Hid (setK os 2 o' = q) := ⟨_, rfl⟩
          rw [HO4.out] at HP4
          clear HO4
          have HCJ : Hid (∀ j, j < 3 → W4.cell? ⟨bb, j * 8, none⟩ = some (.int .i64 (os4 j).n)) := fun j hj => by
            rcases (by omega : j = 0 ∨ j = 1 ∨ j = 2) with rfl | rfl | rfl
            · exact HP4.out.row.cell 0
            · exact HP4.out.row.cell 8
            · exact HP4.out.row.cell 16
          go_wp2_with fail
          go_loopw [11, 12] (fun v11 v12 wx => ∃ j : Nat, j ≤ 3 ∧ v11 = .int .i64 (cntN os4 j) ∧ v12 = .int .i64 j ∧ wx = W4) (fun _ v _ => 3 - (intOf v).toNat)
          case atStart => exact ⟨0, by omega, rfl, rfl, rfl⟩
          case round =>
            obtain ⟨j, hj, rfl, rfl, hwx⟩ := hrel
            obtain rfl := hwx.symm
            by_cases hj3 : j < 3
            · have cj := HCJ.out j hj3
              have hcn := cntN_le os4 j
              have e1 : decide ((j : Int) < 3) = true := by simp; omega
              have e1' : decide (j < 3) = true := by simp; omega
              have j1 : (0 : Int) ≤ (j : Int) := by omega
              have j2 : (j : Int) < 3 := by omega
              by_cases hz : (os4 j).n = 0
              · rw [hz] at cj
                have cj' : W4.cell? ⟨bb, j * 8, none⟩ = some (.int .i64 0) := cj
                have hc1 : cntN os4 (j + 1) = cntN os4 j := by show cntN os4 j + oneOf (os4 j) = _; unfold oneOf; rw [if_pos hz]; rfl
                have HC1 := hidx hc1
                clear cj hc1 hz
                go_wp2_with fail
                go_roundw
                case rel => exact ⟨j + 1, by omega, by rw [HC1.out], by go_num, trivial⟩
                case measure => simp [intOf]; omega
              · have hc1 : cntN os4 (j + 1) = cntN os4 j + 1 := by show cntN os4 j + oneOf (os4 j) = _; unfold oneOf; rw [if_neg hz]
                have HC1 := hidx hc1
                obtain ⟨nj, Hnj⟩ : ∃ q, Hid ((os4 j).n = q) := ⟨_, rfl⟩
                rw [Hnj.out] at cj hz
                have hz' : ¬ ((nj : Int) = 0) := by omega
                obtain ⟨cc, Hcc⟩ : ∃ q, Hid (cntN os4 j = q) := ⟨_, rfl⟩
                rw [Hcc.out] at hcn HC1 ⊢
                clear hc1
                go_wp2_with fail
                go_roundw
                case rel => exact ⟨j + 1, by omega, by rw [HC1.out]; go_num, by go_num, trivial⟩
                case measure => simp [intOf]; omega
            · obtain rfl : j = 3 := by omega
              obtain ⟨A5, hp5, hn5⟩ := HP4.out.ex
              have HAL := hidx (pi_all hp5)
              have hs : cntN os4 3 = oneOf (os4 0) + oneOf (os4 1) + oneOf (os4 2) := by show ((0 + oneOf (os4 0)) + oneOf (os4 1)) + oneOf (os4 2) = _; rw [Nat.zero_add]
              obtain ⟨uu, Huu⟩ : ∃ q, Hid (oneOf (os4 0) + oneOf (os4 1) + oneOf (os4 2) = q) := ⟨_, rfl⟩
              rw [hs, Huu.out]
              rw [Huu.out] at HAL
              clear hs hp5 hn5 Huu
              go_wp2_with fail
              refine HAL.out.mono ?_
              rintro e w5 ⟨a5, c5, rfl, pi5, b5⟩
              have HP5 := hidx (HP4.out.below b5)
              clear HAL pi5 b5 HCJ HP4
              go_wp2_with fail
              go_roundw
              case rel => exact ⟨i + 1, os4, T4, by go_num, by omega, by omega, HP5⟩
              case measure => simp [intOf]; omega
    · go_upto_region 6 with fail
      go_cut [31] from 24 to 30 (fun v31 wx => v31 = .bool false ∧ wx = wr)
      case first =>
        by_cases h : i < n
        · have h20 : ¬ i < 60 := by omega
          have d1 : decide ((i : Int) < (n : Int)) = true := by simp; omega
          have d1' : decide (i < n) = true := by simp; omega
          have d2 : decide ((i : Int) < 60) = false := by simp; omega
          have d2' : decide (i < 60) = false := by simp; omega
          go_wp2_with fail
          go_meet
          case rel => exact ⟨rfl, rfl⟩
        · have d1 : decide ((i : Int) < (n : Int)) = false := by simp; omega
          have d1' : decide (i < n) = false := by simp; omega
          go_wp2_with fail
          go_meet
          case rel => exact ⟨rfl, rfl⟩
      obtain ⟨rfl, hw4⟩ := hcut
      obtain rfl := hw4.symm
      clear hw4 hlt
      go_wp2
      go_ret
      exact ⟨rfl, HPL.out.bel⟩

end Go.Proofs.YtdokafldallnkaaGreat

namespace Go.Proofs.YtdokafldallnkaaGreat.LawTxnPlays
open Go.ChangeShapes Go.WideShapes Go.ChangeAt Go.RowKit Go.Deep
set_option linter.unusedVariables false

theorem own : ownKnob Tryz.prog.godebug = none := by kernel_rfl
theorem laidOut : laidOutB Tryz.prog = true := by kernel_rfl

/-- An act, as plain data. -/
structure PAct where
  kind : Int
  who : Int
  S : ByteArray

structure PActAt (w : World) (b o : Nat) (i : Nat) (v : PAct) : Prop where
  c0 : w.cell? ⟨b, o + i * 3, none⟩ = some (.int .i64 v.kind)
  c1 : w.cell? ⟨b, o + i * 3 + 1, none⟩ = some (.int .i64 v.who)
  c2 : w.cell? ⟨b, o + i * 3 + 2, none⟩ = some (.string v.S)
  hS : v.S.size ≤ maxLen

theorem cellsA : Tryz.prog.cellsOf 33 = 3 := by kernel_rfl
theorem cellsN : Tryz.prog.cellsOf 3 = 1 := by kernel_rfl
theorem cellsS : Tryz.prog.cellsOf 9 = 1 := by kernel_rfl

theorem add_off (b o i : Nat) : (⟨b, o, none⟩ : Addr).add i = ⟨b, o + i, none⟩ := by
  by_cases h0 : i = 0
  · subst h0; simp [Addr.add]
  · simp [Addr.add, h0]

theorem list3 {α : Type} {cs : List α} (h : cs.length = 3) : ∃ c0 c1 c2, cs = [c0, c1, c2] := by
  match cs, h with
  | [c0, c1, c2], _ => exact ⟨c0, c1, c2, rfl⟩

set_option maxHeartbeats 800000 in
set_option maxRecDepth 60000 in
theorem open_act {H : Type} {enc : TypeId × Value → H} {w : World} {base : Nat} {spare : Nat → Bool} {held : Bool} {fuel i b o : Nat} {cs : List Value} {D : DataW H} {Pl : List MemPlace}
    (h1 : w.cells? base ((⟨b, o, none⟩ : Addr).add (i * 3)) 3 = some cs) (h2 : DataW.trod enc Tryz.prog w base spare held fuel 33 cs = some (D, Pl)) :
    ∃ v : PAct, b < w.heap.size ∧ PActAt w b o i v := by
  obtain ⟨_, hlen, hcell⟩ := World.cells?_some h1
  obtain ⟨y0, y1, y2, n, hx, _, g0, g1, g2⟩ := trod_struct3 Tryz.underlying33 h2
  obtain ⟨v0, v1, v2, rfl⟩ := list3 hlen
  simp only [cellsN, cellsS] at g0 g1 g2
  obtain ⟨a0, e0, rfl, _⟩ := DataW.trod_int Tryz.underlying3 g0
  obtain ⟨a1, e1, rfl, w1⟩ := DataW.trod_int Tryz.underlying3 g1
  obtain ⟨a2, e2, rfl, w2⟩ := DataW.trod_string Tryz.underlying9 g2
  simp at e0 e1 e2
  subst e0 e1 e2
  have k0 := hcell 0 (by omega)
  have k1 := hcell 1 (by omega)
  have k2 := hcell 2 (by omega)
  simp only [add_off, List.getElem?_cons_zero, List.getElem?_cons_succ] at k0 k1 k2
  exact ⟨⟨a0, a1, a2⟩, World.block_lt_of_cell? _ _ k0, ⟨k0, k1, k2, w2⟩⟩

theorem open_acts {H : Type} {enc : TypeId × Value → H} {w : World} {base : Nat} {spare : Nat → Bool} {held : Bool} {a : Option Addr} {len cap : Nat} {d : DataW H} {pl : List MemPlace}
    (h : DataW.Trod enc Tryz.prog w base spare held 22 (.slice a len cap) d pl) :
    ∃ K W : Nat → Int, ∃ S : Nat → ByteArray, ActArg w a len K W S ∧ len ≤ 9223372036854775807 := by
  obtain ⟨fuel, hf⟩ := h
  rcases open_slice Tryz.underlying22 hf with ⟨hcs, hx⟩ | ⟨a', len', cap', m, n, D, Pl, hcs, _, hl, hm, hmm, hx, hel⟩
  · simp [Value.cells] at hcs
    obtain ⟨rfl, rfl, rfl⟩ := hcs
    exact ⟨fun _ => 0, fun _ => 0, fun _ => ⟨#[]⟩, .inl rfl, by omega⟩
  · simp [Value.cells] at hcs
    obtain ⟨rfl, rfl, rfl⟩ := hcs
    have hlm : len ≤ m := by rw [hmm]; split <;> omega
    have hlen : len ≤ 9223372036854775807 := by unfold maxLen at hm; omega
    rw [cellsA] at hel
    by_cases h0 : len = 0
    · subst h0
      exact ⟨fun _ => 0, fun _ => 0, fun _ => ⟨#[]⟩, .inl rfl, by omega⟩
    · obtain ⟨cs0, q0, _⟩ := hel 0 (by omega)
      obtain ⟨_, hlen0, hc0⟩ := World.cells?_some q0
      have hc00 := hc0 0 (by omega)
      obtain ⟨v0, v1, v2, rfl⟩ := list3 hlen0
      have hsp : a'.spot = none := by
        have := World.cell?_spot (show w.cell? a' = some v0 by simpa [Addr.add] using hc00)
        exact this
      obtain ⟨b, o, sp⟩ := a'
      simp only at hsp
      subst hsp
      obtain ⟨A, hA⟩ := @choose_lt PAct ⟨⟨0, 0, ⟨#[]⟩⟩⟩ len (fun i v => b < w.heap.size ∧ PActAt w b o i v) (fun i hi => by
        obtain ⟨cs, q1, q2⟩ := hel i (by omega)
        exact open_act q1 q2)
      exact ⟨fun i => (A i).kind, fun i => (A i).who, fun i => (A i).S, .inr ⟨b, o, rfl, (hA 0 (by omega)).1, fun i hi => ⟨(hA i hi).2.c0, (hA i hi).2.c1, (hA i hi).2.c2, (hA i hi).2.hS⟩⟩, hlen⟩

set_option maxRecDepth 100000 in
theorem lifted (os : Os) (started : os.Started) (H : Type) (enc : TypeId × Value → H) :
    ReturnsInHanded {} Tryz.checked os 3 .any (Rows.txnPlaysSpec.pre6 enc Tryz.prog Tryz.f3 Rows.txnPlaysRow.domain false) (Rows.txnPlaysSpec.post enc Tryz.prog Tryz.f3 false true false false) := by
  refine returnsInHanded_of_change_sized (C := Tryz.checked) own started (by kernel_rfl) Tryz.func3
    (ChangeSpec.witness6 (enc := enc) (C := Tryz.checked) false ⟨#[], #[.slice none 0 0], []⟩ 8 (by kernel_rfl) (by kernel_rfl) (by kernel_rfl) (by kernel_rfl)) ?_
  intro W base args ds gs before hval0 hW hcnd hsz0 _
  have hval : ∀ (j : Nat) t v, Tryz.f3.params[j]? = some t → args[j]? = some v → Value.okWide Tryz.prog W .any base t v := hval0
  have hW' := hW
  obtain ⟨p, q, hA0, hV, rfl, hfz, hnd⟩ := hW
  have hA : DataW.TrodAll enc Tryz.prog W 0 (fun _ => true) true Tryz.f3.params.toList args.toList ds p := hA0
  rw [Tryz.params3] at hA hval
  obtain ⟨v0, d0, rfl, rfl, h0⟩ := trodAll_one hA
  obtain ⟨rfl, rfl⟩ := trodVars_none hV
  obtain ⟨a0, len0, cap0, rfl⟩ := okWide_slice Tryz.underlying22 (hval 0 22 v0 rfl rfl)
  have k0 := h0
  have lt0 : ∀ x ∈ p, x.block < W.heap.size := by obtain ⟨m, hm⟩ := k0; exact DataW.trod_lt m _ _ _ hm
  obtain ⟨K, Wh, S, hs0, hl0⟩ := open_acts h0
  clear hA0 hval0 hsz0
  refine (plays_walk a0 len0 cap0 K Wh S W hs0 hl0).mono fun e W' ⟨he, bel⟩ => ?_
  subst he
  exact ⟨_, rfl, _, _, _, [], _, [], hW', trodAll_mk1 (shut_bool Tryz.underlying4 _), trodAll_mk1 (Below.trod laidOut (by kernel_rfl) (of_decide_eq_true (by kernel_rfl)) k0 bel lt0), rfl, bel.frame _, fun h => by cases h⟩

theorem over : Rows.txnPlaysRow.holds Tryz.pinned (OpenSpec.ofChange Rows.txnPlaysSpec) :=
  OpenClaim.holds_of_wide 3 Tryz.f3 rfl rfl rfl rfl rfl rfl rfl ⟨rfl, rfl, rfl, rfl, rfl⟩ rfl rfl rfl rfl rfl (by kernel_rfl) Tryz.func3 (by kernel_rfl)
    (of_decide_eq_true (by kernel_rfl)) (by unfold Func.isWrapper; first | (rw [if_pos (by decide +kernel)]; kernel_rfl) | (rw [if_neg (by decide +kernel)]; exact ⟨rfl, rfl⟩))
    (fun os started H enc _ => lifted os started H enc)

end Go.Proofs.YtdokafldallnkaaGreat.LawTxnPlays

namespace Go.Proofs.YtdokafldallnkaaGreat
theorem txnPlays_holds : Rows.TxnPlaysSaid := LawTxnPlays.over
#print axioms txnPlays_holds
end Go.Proofs.YtdokafldallnkaaGreat
