/-
  The walk of NodeLeaves.
-/
import Derived.Test.YtnljephojonilaaBase10C
import Derived.Deep.RegionHeld3
namespace Go.Proofs.Ytnljephojonilaa
open Go.RowKit Go.Sort
set_option linter.unusedVariables false
set_option linter.unusedSimpArgs false

set_option maxHeartbeats 12800000 in
set_option maxRecDepth 20000 in
theorem leaves_walk (nx0 : Nat) (hnx0 : nx0 < 4294967296) (al : Option Addr) (cl : Nat) (L : List ActV) (w : World) (hL : ActsAt w al L) (hin : ∀ x ∈ L, x.In ∧ x.e.key.size ≤ 140737488351232) (hlen : L.length * 56 ≤ 140737488351232) :
    Calls Try.prog 3 #[.int .u32 nx0, .slice al L.length cl] w fun r w' => r = .returned (.bool true) ∧ Below w.heap.size w w' := by
  have HAW : Hid (∀ wx, Calls Try.prog 11 #[] wx fun e w' => e = .returned (.bool true) ∧ Below wx.heap.size wx w') := fun wx => nawake_any wx
  have HBL : Hid (∀ wx, Calls Try.prog 9 #[.int .u32 3] wx fun x w' => x = .returned (blankV.val none 0) ∧ Below wx.heap.size wx w') := fun wx => blank_any 3 wx
  have HFM : Hid (∀ wx, Calls Try.prog 10 #[.int .u32 nx0] wx fun e w' => e = .returned (opFmtN 3 (num4 nx0)).val ∧ Below wx.heap.size wx w') := fun wx => formatLeaf_any nx0 wx hnx0
  have HAP : Hid (∀ wx, Calls Try.prog 8 #[blankV.val none 0, (opFmtN 3 (num4 nx0)).val, .int .u64 1] wx fun e w' => ∃ a' c', e = .returned (.tuple #[(leafV 1 nx0 []).val a' c', .int .i64 0]) ∧ Below wx.heap.size wx w' ∧ StrsAt w' a' []) := fun wx => apply_leaf nx0
  have HNX : Hid (∀ (lsn n : Nat) (M : List ItemV) (a : Option Addr) (c : Nat) wx, n < 4294967296 → Calls Try.prog 12 #[(leafV lsn n M).val a c] wx fun e w' => e = .returned (.int .u32 n) ∧ Below wx.heap.size wx w') := fun lsn n M a c wx hn => by
    have := next_any (leafV lsn n M) a c wx
    rw [leafV_next hn] at this
    exact this
  have HEN : Hid (∀ (x : EntV) wx, x.key.size ≤ 140737488351232 → Calls Try.prog 13 #[x.val] wx fun r w' => r = .returned (x.cut 12).val ∧ Below wx.heap.size wx w') := fun x wx hk => entry_any x wx hk
  have HFI : Hid (∀ (M : List ItemV) (e : EntV) (i : Nat) (mb mo cm : Nat) (wx : World), Rises M → IsPlace M e i → M.length ≤ 64 → ItemsAt wx (some ⟨mb, mo, none⟩) M → Calls Try.prog 15 #[.slice (some ⟨mb, mo, none⟩) M.length cm, e.val] wx fun r w' => r = .returned (.tuple #[.int .i64 i, .bool (thereF M e i)]) ∧ Below wx.heap.size wx w') := fun M e i mb mo cm wx hr hp hl hm => by
    have := find_any (some ⟨mb, mo, none⟩) cm M e wx hm (by omega)
    rw [findF_rises hr hp] at this
    exact this
  simp only [SheetV.val, OpV.val, blankV, leafV, opFmtN, EntV.val, List.map_nil, List.length_nil, List.length_map] at HBL HFM HAP HNX HEN HFI
  go_enter Try.func3, Try.ntmps3
  go_wp2_with fail
  refine (HBL.out _).mono ?_
  rintro e w1 ⟨rfl, b1⟩
  go_wp2_with fail
  refine (HFM.out _).mono ?_
  rintro e w2 ⟨rfl, b2⟩
  go_wp2_with fail
  refine (HAP.out _).mono ?_
  rintro e w3 ⟨a3, c3, rfl, b3, s3⟩
  have B3 := below_chain (below_chain b1 b2) b3
  obtain ⟨W3, HW3⟩ : ∃ W, Hid (W = w3.alloc (.cells #[.int .u32 3, .int .u64 1, .int .i64 3, .string (num4 nx0), .slice a3 0 c3] 29)) := ⟨_, rfl⟩
  have p3 : RowV W3 w3.heap.size 5 (five (.int .u32 3) (.int .u64 1) (.int .i64 3) (.string (num4 nx0)) (.slice a3 0 c3)) := by rw [HW3.out]; exact RowV.five_new _ _ _ _ _ _ _
  have k3 : Below w.heap.size w W3 := by rw [HW3.out]; exact B3.alloc B3.size _
  have z3 : w3.heap.size < W3.heap.size := by rw [HW3.out]; simp
  have hPlo := B3.size
  clear b1 b2 b3 B3 s3 HBL HFM HAP
  go_wp2_with fail
  rw [← HW3.out]
  clear HW3
  refine (HAW.out _).mono ?_
  rintro e w4 ⟨rfl, b4⟩
  have p4 := p3.below b4 z3
  have k4 := below_chain k3 b4
  have z4 : w3.heap.size < w4.heap.size := Nat.lt_of_lt_of_le z3 b4.size
  clear p3 k3 z3 b4 HAW
  obtain ⟨x0, x1, x2, x3, x4⟩ := p4.cells5
  go_wp2_with fail
  refine (HNX.out 1 nx0 [] a3 c3 _ hnx0).mono ?_
  rintro e w5 ⟨rfl, b5⟩
  have p5 := p4.below b5 z4
  have k5 := below_chain k4 b5
  have z5 : w3.heap.size < w5.heap.size := Nat.lt_of_lt_of_le z4 b5.size
  clear p4 k4 z4 b5 x0 x1 x2 x3 x4
  generalize w3.heap.size = Pb at *
  have h6 : LvAt w (w5.alloc (.cells #[] 49)) Pb 1 nx0 [] a3 c3 w5.heap.size 0 0 :=
    ⟨p5.below ((Below.refl _ _).alloc (Nat.le_refl _) _) z5, .inl rfl, .inl rfl, k5.alloc k5.size _, hPlo, by simp; omega, by simp, z5, HInv.nil, Rises.nil, by omega, hnx0, by simp⟩
  clear p5 k5 z5 hPlo
  go_wp2_with fail
  go_loopw [7, 8] (fun v7 i wr => ∃ (k lsn nx : Nat) (M : List ItemV) (a : Option Addr) (c mb mo cm : Nat), k ≤ L.length ∧ k ≤ 40 ∧ M.length ≤ k ∧ i = .int .i64 k ∧ v7 = .slice (some ⟨mb, mo, none⟩) M.length cm ∧ Hid (LvAt w wr Pb lsn nx M a c mb mo cm)) (fun _ i _ => 40 - (intOf i).toNat)
  case atStart => exact ⟨0, 1, nx0, [], a3, c3, _, 0, 0, by omega, by omega, by simp, rfl, rfl, h6⟩
  case round =>
    clear h6
    obtain ⟨k, lsn, nx, M, a, c, mb, mo, cm, hk, hk40, hMk, rfl, rfl, HH⟩ := hrel
    by_cases hlt : k < L.length
    · by_cases hlt4 : k < 40
      · have hi0 : (0 : Int) ≤ (k : Int) := by omega
        have hi1 : (k : Int) < (L.length : Int) := by omega
        have hi4 : (k : Int) < 40 := by omega
        obtain ⟨bb, o, rfl, hb, c0, c1, c2, c3', c4, c5⟩ := RowsAt.act (L := L) (RowsAt.below hL HH.out.bel) hlt
        have hink := hin L[k] (List.getElem_mem hlt)
        generalize L[k] = x at *
        obtain ⟨W1, HW1⟩ : ∃ W, Hid (W = wr.alloc (.cells #[.int .i64 x.kind, .int .i64 x.n, .string x.e.key, .int .u32 x.e.page, .int .i64 x.e.slot, .bool x.live] 45)) := ⟨_, rfl⟩
        have A1 : ABox W1 wr.heap.size x := by rw [HW1.out]; exact ABox.new _ _
        have kW1 : Below wr.heap.size wr W1 := by rw [HW1.out]; exact (Below.refl _ _).alloc (Nat.le_refl _) _
        have HE1 := hidn (HEN.out x.e W1 hink.2)
        go_wp2_with fail
        rw [← HW1.out]
        clear HW1
        refine HE1.out.mono ?_
        rintro r w6 ⟨rfl, b6⟩
        obtain ⟨e, He⟩ : ∃ e, Hid (x.e.cut 12 = e) := ⟨_, rfl⟩
        have hmay : e.May := by rw [← He.out]; exact EntV.cut_may 12 hink.1.e.page
        have hkey : e.key.size ≤ 12 := by rw [← He.out]; exact cutKey_size 12 x.e.key
        rw [He.out]
        obtain ⟨W6, HW6⟩ : ∃ W, Hid (W = w6.alloc (.cells #[.string e.key, .int .u32 e.page, .int .i64 e.slot] 43)) := ⟨_, rfl⟩
        have kW6 : Below w6.heap.size w6 W6 := by rw [HW6.out]; exact (Below.refl _ _).alloc (Nat.le_refl _) _
        have R6 : RdAt w W6 Pb lsn nx M a c mb mo cm wr.heap.size w6.heap.size x e := by
          have hall := below_chain (below_chain kW1 b6) kW6
          refine ⟨HH.out.below hall, (A1.below (below_chain b6 kW6) A1.lt), by rw [HW6.out]; exact EBox.new _ _, HH.out.lt, Nat.lt_of_lt_of_le A1.lt b6.size, HH.out.ml, fun b o e1 h0 => ?_⟩
          rcases HH.out.slots with q | ⟨b', o', e', hb', _⟩
          · exact absurd (List.map_eq_nil_iff.1 q) h0
          · rw [e1] at e'
            simp only [Option.some.injEq, Addr.mk.injEq, and_true] at e'
            obtain ⟨rfl, rfl⟩ := e'
            exact hb'
        clear kW1 kW6 A1 b6 HE1 c0 c1 c2 c3' c4 c5 HH
        go_upto_block 2 with fail
        rw [← HW6.out]
        clear HW6
        generalize wr.heap.size = Ab at *
        generalize w6.heap.size = Eb at *
        go_cut [11] from 58 to 72 (fun v11 wx => ∃ i : Nat, v11 = .int .i64 i ∧ Hid (IsPlace M e i) ∧ Hid (Below W6.heap.size W6 wx))
        case first =>
          as_aux_lemma =>
          go_wp2_with fail
          go_loopw [11] (fun v11 wr => ∃ i : Nat, i ≤ M.length ∧ v11 = .int .i64 i ∧ Hid (∀ j (h : j < M.length), j < i → ltE M[j].e e = true) ∧ Hid (Below W6.heap.size W6 wr)) (fun i _ => M.length - (intOf i).toNat)
          case atStart => exact ⟨0, by omega, rfl, fun j h q => by omega, Below.refl _ _⟩
          case round =>
            obtain ⟨i, hi, rfl, HP, HB⟩ := hrel
            by_cases hil : i < M.length
            · have q0 : (0 : Int) ≤ (i : Int) := by omega
              have q1 : (i : Int) < (M.length : Int) := by omega
              have R7 := R6.below HB.out
              obtain ⟨bm, om, e1, hbm, d0, d1, d2, d3⟩ := R7.main.row.item hil
              simp only [Option.some.injEq, Addr.mk.injEq, and_true] at e1
              obtain ⟨rfl, rfl⟩ := e1
              obtain ⟨u0, u1, u2, ul⟩ := R7.ent
              have HBE := hidn (fun wx => before_any M[i].e e wx)
              have gu0 := cell_regrown u0
              have gu1 := cell_regrown u1
              have gu2 := cell_regrown u2
              have gd0 := cell_regrown d0
              have gd1 := cell_regrown d1
              have gd2 := cell_regrown d2
              clear u0 u1 u2 d0 d1 d2 d3
              go_upto_region 11 with fail
              cases hL : ltE M[i].e e with
              | true =>
                have HN : Hid (∀ j (h : j < M.length), j < i + 1 → ltE M[j].e e = true) := fun j h q => by
                  by_cases hj : j = i
                  · subst hj; exact hL
                  · exact HP.out j h (by omega)
                rw [hL] at HBE
                generalize M[i] = y at *
                simp only [EntV.val] at HBE
                have cB : ∀ dd os, Calls Try.prog 14 #[.agg #[.string y.e.key, .int .u32 y.e.page, .int .i64 y.e.slot], .agg #[.string e.key, .int .u32 e.page, .int .i64 e.slot]] (grow (redrawn wr dd) os) fun r w'' => r = .returned (.bool true) ∧ ∃ p : Regrown, w'' = grow (redrawn wr p.d) p.os := fun dd os => Calls.regrown_of (HBE.out _)
                refine wp_region_quiet_below nmixed (by kernel_rfl) ?_
                iterate 13 (quiet_step (first | (go_at_call 14; exact cB _ _)))
                refine wpQuiet_nil ?_
                intro _ hw'
                obtain ⟨⟨dq, osq⟩, hw''⟩ := hw'
                have bb := hidn (below_chain HB.out (below_regrown wr dq osq))
                rw [hw'']
                generalize grow (redrawn wr dq) osq = V9 at *
                go_wp2
                go_roundw
                case rel => exact ⟨i + 1, by omega, by go_num, HN, bb⟩
                case measure => simp [intOf]; omega
              | false =>
                have HN : Hid (IsPlace M e i) := ⟨hi, HP.out, fun h => hL⟩
                rw [hL] at HBE
                generalize M[i] = y at *
                simp only [EntV.val] at HBE
                have cB : ∀ dd os, Calls Try.prog 14 #[.agg #[.string y.e.key, .int .u32 y.e.page, .int .i64 y.e.slot], .agg #[.string e.key, .int .u32 e.page, .int .i64 e.slot]] (grow (redrawn wr dd) os) fun r w'' => r = .returned (.bool false) ∧ ∃ p : Regrown, w'' = grow (redrawn wr p.d) p.os := fun dd os => Calls.regrown_of (HBE.out _)
                refine wp_region_quiet_below nmixed (by kernel_rfl) ?_
                iterate 13 (quiet_step (first | (go_at_call 14; exact cB _ _)))
                refine wpQuiet_nil ?_
                intro _ hw'
                obtain ⟨⟨dq, osq⟩, hw''⟩ := hw'
                have bb := hidn (below_chain HB.out (below_regrown wr dq osq))
                rw [hw'']
                generalize grow (redrawn wr dq) osq = V9 at *
                go_wp2
                go_meet
                case rel => exact ⟨i, rfl, HN, bb⟩
            · obtain rfl : i = M.length := by omega
              have HN : Hid (IsPlace M e M.length) := ⟨hi, HP.out, fun h => by omega⟩
              go_upto_region 11 with fail
              go_quiet (fail)
              go_wp2
              go_meet
              case rel => exact ⟨M.length, rfl, HN, by show RowKit.Below _ _ _; exact below_drewN HB.out _⟩
        obtain ⟨i, rfl, HP, HB7⟩ := hcut
        have R7 := R6.below HB7.out
        obtain ⟨K0, HK0⟩ : ∃ W, W = wc := ⟨_, rfl⟩
        rw [← HK0] at R7 ⊢
        clear HK0 HB7 R6
        have hile := HP.out.le
        go_upto_region 13 with fail
        go_cut [12] from 73 to 85 (fun v12 wx => v12 = .bool (thereF M e i) ∧ Hid (Below K0.heap.size K0 wx))
        case first =>
          as_aux_lemma =>
          by_cases hil : i < M.length
          · have hth : thereF M e i = eqE M[i].e e := by unfold thereF; rw [dif_pos hil]
            have q0 : (0 : Int) ≤ (i : Int) := by omega
            have q1 : (i : Int) < (M.length : Int) := by omega
            obtain ⟨bm, om, e1, hbm, d0, d1, d2, d3⟩ := R7.main.row.item hil
            simp only [Option.some.injEq, Addr.mk.injEq, and_true] at e1
            obtain ⟨rfl, rfl⟩ := e1
            obtain ⟨u0, u1, u2, ul⟩ := R7.ent
            generalize M[i] = y at *
            by_cases h1 : y.e.key.toList = e.key.toList
            · by_cases h2 : (y.e.page : Int) = e.page
              · by_cases h3 : y.e.slot = e.slot
                · have he : eqE y.e e = true := by unfold eqE; simp [h1, h2, h3]
                  go_quiet (fail)
                  go_wp2
                  go_meet
                  case rel => exact ⟨by rw [hth, he], by show RowKit.Below _ _ _; exact below_drewN (Below.refl _ _) _⟩
                · have he : eqE y.e e = false := by unfold eqE; simp [h1, h2, h3]
                  go_quiet (fail)
                  go_wp2
                  go_meet
                  case rel => exact ⟨by rw [hth, he], by show RowKit.Below _ _ _; exact below_drewN (Below.refl _ _) _⟩
              · have he : eqE y.e e = false := by unfold eqE; simp [h1, h2]
                go_quiet (fail)
                go_wp2
                go_meet
                case rel => exact ⟨by rw [hth, he], by show RowKit.Below _ _ _; exact below_drewN (Below.refl _ _) _⟩
            · have he : eqE y.e e = false := by unfold eqE; simp [h1]
              go_quiet (fail)
              go_wp2
              go_meet
              case rel => exact ⟨by rw [hth, he], by show RowKit.Below _ _ _; exact below_drewN (Below.refl _ _) _⟩
          · have hth : thereF M e i = false := by unfold thereF; rw [dif_neg hil]
            have q1 : ¬ (i : Int) < (M.length : Int) := by omega
            go_quiet (fail)
            go_wp2
            go_meet
            case rel => exact ⟨by rw [hth], by show RowKit.Below _ _ _; exact below_drewN (Below.refl _ _) _⟩
        obtain ⟨rfl, HB8⟩ := hcut
        have R8 := R7.below HB8.out
        obtain ⟨K1, HK1⟩ : ∃ W, W = wc := ⟨_, rfl⟩
        rw [← HK1] at R8 ⊢
        clear HK1 HB8 R7
        obtain ⟨u0, u1, u2, ul⟩ := R8.ent
        have hM64 := R8.main.inv.len
        have HF1 := hidn (HFI.out M e i mb mo cm K1 R8.main.rise HP.out (by omega) R8.main.row)
        go_wp2_with fail
        refine HF1.out.mono ?_
        rintro r w9 ⟨rfl, b9⟩
        have R9 := R8.below b9
        clear HF1 u0 u1 u2 ul R8 b9
        go_upto_region 18 with fail
        obtain ⟨W10, HW10⟩ : ∃ W, Hid (W = w9.alloc opCells) := ⟨_, rfl⟩
        have O10 : OpBox W10 w9.heap.size := by rw [HW10.out]; exact OpBox.new _
        have k10 : Below w9.heap.size w9 W10 := by rw [HW10.out]; exact (Below.refl _ _).alloc (Nat.le_refl _) _
        have z10 : Hid (W10.heap.size = w9.heap.size + 1) := by show W10.heap.size = _; rw [HW10.out]; simp
        have R10 := R9.below k10
        have hEb : Eb < w9.heap.size := R9.ent.lt
        rw [← HW10.out]
        clear HW10 k10 R9
        generalize w9.heap.size = Ob at *
        have HOW : Hid (OwnR 4 ItemV.enc 49 (W10.alloc (.cells #[] 49)) (Ob + 1) W10.heap.size 0 ([] : List ItemV)) := OwnR.new W10 (by have := z10.out; omega)
        have HRW : Hid (ItemsAt (W10.alloc (.cells #[] 49)) (some ⟨mb, mo, none⟩) M) := R10.main.row.below ((Below.refl _ _).alloc (Nat.le_refl _) _)
        go_cut [18] from 101 to 103 (fun v18 wx => ∃ kg kc : Nat, v18 = .slice (some ⟨kg, 0, none⟩) M.length kc ∧ Hid (MdAt w wx Pb lsn nx M a c mb mo cm Ab Eb Ob kg kc x e))
        case first =>
          go_wp2_with (at_builtin; go_loud (refine wpList_appR rowItem rfl _ _ rfl (Ob + 1) W10.heap.size 0 [] 0 rfl rfl HOW.out mb mo M.length cm M rfl rfl HRW.out (by simp; omega) (by simp; omega) (by have := z10.out; simp; omega) ?_; intro kg kc w11 hown hgrow hloc))
          have hz10 := z10.out
          have B11 : RowKit.Below W10.heap.size W10 w11 := by
            refine ⟨hgrow.os, hgrow.tape, hgrow.output, Nat.le_trans (by simp) hgrow.size, fun q hq => ?_⟩
            rw [hgrow.block q (by simp; omega) (by simp; omega)]
            exact ((Below.refl W10.heap.size W10).alloc (Nat.le_refl _) _).block q hq
          go_meet
          case rel => exact ⟨kg, kc, by simp, ⟨R10.below B11, O10.below B11 (by omega), hEb, Nat.lt_of_lt_of_le (by omega) B11.size, by simpa using hown⟩⟩
        obtain ⟨kg, kc, rfl, HM⟩ := hcut
        obtain ⟨K2, HK2⟩ : ∃ W, W = wc := ⟨_, rfl⟩
        rw [← HK2] at HM ⊢
        clear HK2 HOW HRW O10 R10
        obtain ⟨v0, v1, v2, v3, v4, v5, vl⟩ := HM.out.rd.act
        go_upto_block 4 with fail
        go_cut [12, 14, 16, 17, 18] from 41 to 221 (fun v12 v14 v16 v17 v18 wx => ∃ (f : Int) (O : OpV) (g' c' n' : Nat) (M' : List ItemV) (full : Bool), v16 = .int .i64 f ∧ v17 = .int .i64 f ∧ v18 = .slice (some ⟨g', 0, none⟩) M'.length c' ∧ Hid (EdAt w wx Pb lsn nx M a c mb mo cm Ab Eb Ob x e O M' g' c') ∧ Hid (f = 0 → OpGood lsn nx M O n' M' full ∧ (x.kind = 5 → n' = (x.n % 4096).toNat)))
        case first =>
          as_aux_lemma =>
          obtain ⟨x0, x1, x2, x3, x4⟩ := HM.out.rd.main.page.cells5
          obtain ⟨u0, u1, u2, ul⟩ := HM.out.rd.ent
          have hOk : kg ≠ Ob := by have := HM.out.own.from; omega
          have hkO : Ob ≠ kg := fun q => hOk q.symm
          have hAO : Ab ≠ Ob := by have := HM.out.rd.ae; have := HM.out.eo; omega
          have hOA : Ob ≠ Ab := fun q => hAO q.symm
          have hEO : Eb ≠ Ob := by have := HM.out.eo; omega
          have hOE : Ob ≠ Eb := fun q => hEO q.symm
          have hKo := hidn HM.out.own.from
          by_cases k3 : x.kind = 3
          · cases hth : thereF M e i with
            | false =>
              as_aux_lemma =>
              have HT := hidn (lv_turn0 HM.out.rd.main HP.out hth x.live)
              simp only [SheetV.val, leafV, EntV.val, op0, OpV.val, List.length_map] at HT
              go_wp2_with fail
              refine HT.out.mono ?_
              rintro r w12 ⟨rfl, b12⟩
              have H12 := hidn (HM.out.below b12)
              have HE := hidn (H12.out.put op0)
              simp only [op0] at HE
              obtain ⟨z0, z1, z2, z3, f0, f1, f2, f3⟩ := H12.out.op
              clear HT HM x0 x1 x2 x3 x4 u0 u1 u2
              go_wp2
              go_meet
              case rel => exact ⟨2, op0, kg, kc, 0, M, false, rfl, rfl, rfl, HE, fun q => by omega⟩
            | true =>
              as_aux_lemma =>
              obtain ⟨hi, O, HT0, HG0⟩ := lv_turn1 HM.out.rd.main HP.out hth hmay.page (by omega) x.live
              have HT := hidn HT0
              have HG := hidn HG0
              clear HT0 HG0
              simp only [SheetV.val, leafV, EntV.val, OpV.val, List.length_map] at HT
              go_wp2_with fail
              refine HT.out.mono ?_
              rintro r w12 ⟨rfl, b12⟩
              have H12 := hidn (HM.out.below b12)
              have HE := hidn ((H12.out.put O).turn i hi x.live)
              obtain ⟨z0, z1, z2, z3, f0, f1, f2, f3⟩ := H12.out.op
              obtain ⟨y0, y1, y2, y3, y4, y5, yl⟩ := H12.out.rd.act
              obtain ⟨q3, q4⟩ := H12.out.own.cell hi
              clear HT HM x0 x1 x2 x3 x4 u0 u1 u2 v0 v1 v2 v3 v4 v5 y0 y1 y2 y3 y4
              have hi0 : (0 : Int) ≤ (i : Int) := by omega
              have hi1 : (i : Int) < (M.length : Int) := by omega
              have hl : (M.set i ⟨M[i].e, x.live⟩).length = M.length := by simp
              go_wp2
              go_meet
              case rel => exact ⟨0, O, kg, kc, nx, M.set i ⟨M[i].e, x.live⟩, false, rfl, rfl, by rw [hl], HE, fun q => ⟨HG.out, fun q => by omega⟩⟩
          · by_cases k4 : x.kind = 4
            · by_cases hn : 0 ≤ x.n ∧ x.n < M.length
              · obtain ⟨n, hnn⟩ := Int.eq_ofNat_of_zero_le hn.1
                have hnM : n < M.length := by omega
                obtain ⟨O, HT0, HG0⟩ := lv_take1 HM.out.rd.main hnM
                have HT := hidn HT0
                have HG := hidn HG0
                clear HT0 HG0
                simp only [SheetV.val, leafV, EntV.val, OpV.val, List.length_map] at HT
                rw [hnn] at v1
                go_wp2_with fail
                refine HT.out.mono ?_
                rintro r w12 ⟨rfl, b12⟩
                have H12 := hidn (HM.out.below b12)
                have HE := hidn (H12.out.put O)
                have HO := hidn (H12.out.own_put (.int .i64 O.kind) (.int .i64 O.at') (.string O.S) (.string O.old))
                obtain ⟨z0, z1, z2, z3, f0, f1, f2, f3⟩ := H12.out.op
                obtain ⟨y0, y1, y2, y3, y4, y5, yl⟩ := H12.out.rd.act
                rw [hnn] at y1
                clear HT HM x0 x1 x2 x3 x4 u0 u1 u2 v0 v1 v2 v3 v4 v5 y0 y2 y3 y4 y5
                have hi0 : (0 : Int) ≤ (n : Int) := by omega
                have hi1 : (n : Int) < (M.length : Int) := by omega
                have hkc := hidn HO.out.room
                go_upto_region 35 with fail
                obtain ⟨W, HW⟩ : ∃ W, Hid (W = (((w12.setCell ⟨Ob, 0, none⟩ (.int .i64 O.kind)).setCell ⟨Ob, 1, none⟩ (.int .i64 O.at')).setCell ⟨Ob, 2, none⟩ (.string O.S)).setCell ⟨Ob, 3, none⟩ (.string O.old)) := ⟨_, rfl⟩
                rw [← HW.out] at HE HO ⊢
                clear HW
                have t1 : W.cell? ⟨Ab, 1, none⟩ = some (.int .i64 n) := by have := HE.out.rd.act.c1; rw [hnn] at this; exact this
                obtain ⟨cur, _, hcur, _, _, hsz, _⟩ := HO.out.parts
                have hR := OwnR.rows (k := 4) (enc := ItemV.enc) (fun x => rfl) (by omega) HO.out
                have hR1 := hidn (items_take hR n)
                have hR2 := hidn (items_drop hR (n + 1))
                rw [Nat.zero_add] at hR2
                have hTl : (M.take n).length = n := by rw [List.length_take]; omega
                have hDl : (M.drop (n + 1)).length = M.length - (n + 1) := by rw [List.length_drop]
                have hcut : M.take n ++ M.drop (n + 1) = M.eraseIdx n := by rw [List.eraseIdx_eq_take_drop_succ]
                have hEl : (M.eraseIdx n).length = M.length - 1 := by rw [List.length_eraseIdx, if_pos hnM]
                have hszn : n * 4 ≤ cur.size := by have := hkc.out; omega
                have e1 : (n : Int) ≤ (kc : Int) := by have := hkc.out; omega
                have e2 : (n : Int) + 1 ≤ (M.length : Int) := by omega
                have e3 : (n : Int) + 1 ≤ (kc : Int) := by have := hkc.out; omega
                have e4 : (M.length : Int) ≤ (kc : Int) := by have := hkc.out; omega
                have e5 : n + 1 ≤ M.length := by omega
                have e6 : n + 1 ≤ kc := by omega
                have e7 : M.length ≤ kc := by omega
                have e8 : n ≤ kc := by omega
                have e9 : (0 : Int) ≤ (n : Int) + 1 := by omega
                have r1 : (n : Int) ≤ (n : Int) + 1 := by omega
                have hw1 : IntKind.i64.wrap ((n : Int) + 1) = (n : Int) + 1 := by rw [IntKind.wrap_i64]; omega
                have hw2 : ((n : Int) + 1).toNat = n + 1 := by omega
                have dW : RowKit.Below W.heap.size W W.drew := (Below.refl _ _).drew
                have hR1a := hidn (hR1.out.below dW)
                have hR2a := hidn (hR2.out.below dW)
                have hAl := HE.out.rd.act.lt
                have hzd : W.drew.heap.size = W.heap.size := rfl
                have hcur' : W.drew.heap[kg]? = some (.cells cur 49 (0, 0)) := hcur
                clear y1 z0 z1 z2 z3 f0 f1 f2 f3 H12
                by_cases hkn : kc = n + 1
                · as_aux_lemma =>
                  have hD0 : M.drop (n + 1) = [] := List.drop_eq_nil_of_le (by omega)
                  have hlen1 : M.length - (n + 1) = 0 := by omega
                  rw [hD0, List.append_nil] at hcut
                  have hMl1 := hidn (show M.length = n + 1 by omega)
                  go_region_held3 (fun wy => wy.cell? ⟨Ab, 1, none⟩ = some (.int .i64 n))
                    (first | (go_keep; done) | exact S13)
                    (first
                      | (refine step_cutR rowItem (by rfl) _ _ (by rfl) kg n (by rfl) (by first | exact hcur | exact hcur') hszn (M := M.take n) hTl (by first | exact hR1.out | exact hR1a.out) kg 0 0 0 [] (by rfl) (by rfl) (.inl rfl) (by simp; omega) (by simp; omega) n (by omega) ?_
                         intro g' cap' w13 hr13 b13 hl13 hlt13 hcap13
                         have S13 : w13.cell? ⟨Ab, 1, none⟩ = some (.int .i64 n) := (b13.cell (p := ⟨Ab, 1, none⟩) hAl).trans t1))
                  all_goals
                    rw [List.append_nil, hcut] at hr13
                    have hEl' : (M.eraseIdx n).length = n := by have := hMl1.out; omega
                    have hgO : Ob < g' := by have := hKo.out; have := HE.out.lo; rcases hl13 with q | q <;> omega
                    have HE2 := hidn (HE.out.other (c' := cap') (by first | exact b13 | exact below_chain dW b13) hr13 hlt13 hgO (by rw [hEl']; exact hcap13))
                    clear hr13 b13 hl13 hR2 hR1 hR HO HE
                    go_wp2
                    go_meet
                    case rel => exact ⟨0, O, g', cap', nx, M.eraseIdx n, false, rfl, rfl, by rw [hEl'], HE2, fun q => ⟨HG.out, fun q => by omega⟩⟩
                · as_aux_lemma =>
                  have hne : ¬ kc = n + 1 := hkn
                  have hne' : ¬ (n + 1 = kc) := fun q => hkn q.symm
                  go_region_held3 (fun wy => wy.cell? ⟨Ab, 1, none⟩ = some (.int .i64 n))
                    (first | (go_keep; done) | exact S13)
                    (first
                      | (refine step_cutR rowItem (by rfl) _ _ (by rfl) kg n (by rfl) (by first | exact hcur | exact hcur') hszn (M := M.take n) hTl (by first | exact hR1.out | exact hR1a.out) kg ((n + 1) * 4) (M.length - (n + 1)) (kc - (n + 1)) (M.drop (n + 1)) hDl.symm (by first | rfl | (simp; done)) (by first | exact hR2.out | exact hR2a.out) (by rw [hTl, hDl]; omega) (by rw [hTl, hDl]; omega) (M.length - 1) (by omega) ?_
                         intro g' cap' w13 hr13 b13 hl13 hlt13 hcap13
                         have S13 : w13.cell? ⟨Ab, 1, none⟩ = some (.int .i64 n) := (b13.cell (p := ⟨Ab, 1, none⟩) hAl).trans t1))
                  all_goals
                    rw [hcut] at hr13
                    have hgO : Ob < g' := by have := hKo.out; have := HE.out.lo; rcases hl13 with q | q <;> omega
                    have HE2 := hidn (HE.out.other (c' := cap') (by first | exact b13 | exact below_chain dW b13) hr13 hlt13 hgO (by rw [hEl]; exact hcap13))
                    clear hr13 b13 hl13 hR2 hR1 hR HO HE
                    go_wp2
                    go_meet
                    case rel => exact ⟨0, O, g', cap', nx, M.eraseIdx n, false, rfl, rfl, by rw [hEl], HE2, fun q => ⟨HG.out, fun q => by omega⟩⟩
              · as_aux_lemma =>
                have HT := hidn (lv_take0 HM.out.rd.main (n := x.n) (by omega))
                simp only [SheetV.val, leafV, EntV.val, op0, OpV.val, List.length_map] at HT
                go_wp2_with fail
                refine HT.out.mono ?_
                rintro r w12 ⟨rfl, b12⟩
                have H12 := hidn (HM.out.below b12)
                have HE := hidn (H12.out.put op0)
                simp only [op0] at HE
                obtain ⟨z0, z1, z2, z3, f0, f1, f2, f3⟩ := H12.out.op
                obtain ⟨y0, y1, y2, y3, y4, y5, yl⟩ := H12.out.rd.act
                clear HT HM x0 x1 x2 x3 x4 u0 u1 u2 v0 v1 v2 v3 v4 v5 y0 y2 y3 y4 y5
                by_cases h0 : 0 ≤ x.n
                · have h1 : ¬ x.n < (M.length : Int) := by omega
                  go_wp2
                  go_meet
                  case rel => exact ⟨2, op0, kg, kc, 0, M, false, rfl, rfl, rfl, HE, fun q => by omega⟩
                · go_wp2
                  go_meet
                  case rel => exact ⟨2, op0, kg, kc, 0, M, false, rfl, rfl, rfl, HE, fun q => by omega⟩
            · by_cases k5 : x.kind = 5
              · as_aux_lemma =>
                obtain ⟨n, hnn⟩ := Int.eq_ofNat_of_zero_le (show (0 : Int) ≤ x.n % 4096 by omega)
                have hn32 : n < 4294967296 := by omega
                obtain ⟨O, HT0, HG0⟩ := lv_link HM.out.rd.main hn32
                have HT := hidn HT0
                have HG := hidn HG0
                clear HT0 HG0
                simp only [SheetV.val, leafV, EntV.val, OpV.val, List.length_map] at HT
                have hmask : bits .and .i64 x.n 4095 = (n : Int) := by rw [lv_mask, hnn]
                have hconv : IntKind.u32.wrap (n : Int) = (n : Int) := by rw [IntKind.wrap_u32]; omega
                have hnT := hidn (show n = (x.n % 4096).toNat by rw [hnn]; omega)
                clear hnn
                go_wp2_with fail
                refine HT.out.mono ?_
                rintro r w12 ⟨rfl, b12⟩
                have H12 := hidn (HM.out.below b12)
                have HE := hidn (H12.out.put O)
                obtain ⟨z0, z1, z2, z3, f0, f1, f2, f3⟩ := H12.out.op
                clear HT HM x0 x1 x2 x3 x4 u0 u1 u2 v0 v1 v2 v3 v4 v5
                go_wp2
                go_meet
                case rel => exact ⟨0, O, kg, kc, n, M, false, rfl, rfl, rfl, HE, fun q => ⟨HG.out, fun q => hnT.out⟩⟩
              · cases hth : thereF M e i with
                | true =>
                  as_aux_lemma =>
                  have HT := hidn (lv_put0 HM.out.rd.main HP.out hth x.live)
                  simp only [SheetV.val, leafV, ItemV.val, op0, OpV.val, List.length_map] at HT
                  go_wp2_with fail
                  refine HT.out.mono ?_
                  rintro r w12 ⟨rfl, b12⟩
                  have H12 := hidn (HM.out.below b12)
                  have HE := hidn (H12.out.put op0)
                  simp only [op0] at HE
                  obtain ⟨z0, z1, z2, z3, f0, f1, f2, f3⟩ := H12.out.op
                  clear HT HM x0 x1 x2 x3 x4 u0 u1 u2
                  go_wp2
                  go_meet
                  case rel => exact ⟨121, op0, kg, kc, 0, M, false, rfl, rfl, rfl, HE, fun q => by omega⟩
                | false =>
                  obtain ⟨O, full, HT0, HG0⟩ := lv_put1 HM.out.rd.main HP.out hth hmay (by omega) (by omega) x.live
                  have HT := hidn HT0
                  have HG := hidn HG0
                  clear HT0 HG0
                  simp only [SheetV.val, leafV, ItemV.val, OpV.val, List.length_map] at HT
                  go_wp2_with fail
                  refine HT.out.mono ?_
                  rintro r w12 ⟨rfl, b12⟩
                  have H12 := hidn (HM.out.below b12)
                  have HE := hidn (H12.out.put O)
                  obtain ⟨z0, z1, z2, z3, f0, f1, f2, f3⟩ := H12.out.op
                  clear HT HM x0 x1 x2 x3 x4 u0 u1 u2 v0 v1 v2 v3 v4 v5
                  go_upto_region 23 with fail
                  obtain ⟨W, HW⟩ : ∃ W, Hid (W = (((w12.setCell ⟨Ob, 0, none⟩ (.int .i64 O.kind)).setCell ⟨Ob, 1, none⟩ (.int .i64 O.at')).setCell ⟨Ob, 2, none⟩ (.string O.S)).setCell ⟨Ob, 3, none⟩ (.string O.old)) := ⟨_, rfl⟩
                  rw [← HW.out] at HE ⊢
                  clear HW H12 z0 z1 z2 z3 f0 f1 f2 f3
                  obtain ⟨s0, s1, s2, sl⟩ := HE.out.rd.ent
                  have s3 := HE.out.rd.act.c5
                  have hAl := HE.out.rd.act.lt
                  have hrow := HE.out.rd.main.row
                  have hcap := HE.out.rd.main.cap
                  obtain ⟨y, Hy⟩ : ∃ y, Hid (ItemV.mk e x.live = y) := ⟨_, rfl⟩
                  have hTl := hidn (show i = (M.take i).length by rw [List.length_take]; omega)
                  have hDl := hidn (show M.length - i = (M.drop i).length by rw [List.length_drop])
                  have HRT : Hid (∀ V, RowKit.Below W.heap.size W V → ItemsAt V (some ⟨mb, mo, none⟩) (M.take i)) := fun V hb => items_take (hrow.below hb) i
                  have HRD : Hid (∀ V, RowKit.Below W.heap.size W V → ItemsAt V (some ⟨mb, mo + i * 4, none⟩) (M.drop i)) := fun V hb => items_drop (hrow.below hb) i
                  have HR0 : Hid (∀ V, ItemsAt V (some ⟨mb, mo, none⟩) ([] : List ItemV)) := fun V => .inl rfl
                  have e1 : (0 : Int) ≤ (i : Int) := by omega
                  have e2 : (i : Int) ≤ (cm : Int) := by omega
                  have e3 : (i : Int) ≤ (M.length : Int) := by omega
                  have e4 : (M.length : Int) ≤ (cm : Int) := by omega
                  have e5 : i ≤ cm := by omega
                  have e6 : M.length ≤ cm := by omega
                  obtain ⟨E, HEo⟩ : ∃ E : Obj, Hid (E = .cells #[] 49) := ⟨_, rfl⟩
                  obtain ⟨X, HXo⟩ : ∃ X : Obj, Hid (X = .cells #[.string e.key, .int .u32 e.page, .int .i64 e.slot, .bool x.live] 49) := ⟨_, rfl⟩
                  have bE : RowKit.Below W.heap.size W (W.alloc (.cells #[] 49)) := (Below.refl _ _).alloc (Nat.le_refl _) _
                  have bEX : RowKit.Below W.heap.size W ((W.alloc (.cells #[] 49)).alloc (.cells #[.string e.key, .int .u32 e.page, .int .i64 e.slot, .bool x.live] 49)) := bE.alloc bE.size _
                  have bX : RowKit.Below W.heap.size W (W.alloc (.cells #[.string e.key, .int .u32 e.page, .int .i64 e.slot, .bool x.live] 49)) := (Below.refl _ _).alloc (Nat.le_refl _) _
                  have bXE : RowKit.Below W.heap.size W ((W.alloc (.cells #[.string e.key, .int .u32 e.page, .int .i64 e.slot, .bool x.live] 49)).alloc (.cells #[] 49)) := bX.alloc bX.size _
                  have ne1 : OwnR 4 ItemV.enc 49 (W.alloc (.cells #[] 49)) W.heap.size W.heap.size 0 ([] : List ItemV) := OwnR.new W (Nat.le_refl _)
                  have ne2 : OwnR 4 ItemV.enc 49 ((W.alloc (.cells #[] 49)).alloc (.cells #[.string e.key, .int .u32 e.page, .int .i64 e.slot, .bool x.live] 49)) W.heap.size W.heap.size 0 ([] : List ItemV) := ne1.below ((Below.refl _ _).alloc (Nat.le_refl _) _)
                  have ne3 : OwnR 4 ItemV.enc 49 ((W.alloc (.cells #[.string e.key, .int .u32 e.page, .int .i64 e.slot, .bool x.live] 49)).alloc (.cells #[] 49)) W.heap.size (W.heap.size + 1) 0 ([] : List ItemV) := by
                    have := OwnR.new (k := 4) (enc := ItemV.enc) (te := 49) (base := W.heap.size) (W.alloc (.cells #[.string e.key, .int .u32 e.page, .int .i64 e.slot, .bool x.live] 49)) (by simp)
                    simpa using this
                  have nX2 : ((W.alloc (.cells #[] 49)).alloc (.cells #[.string e.key, .int .u32 e.page, .int .i64 e.slot, .bool x.live] 49)).heap[W.heap.size + 1]? = some (.cells #[.string e.key, .int .u32 e.page, .int .i64 e.slot, .bool x.live] 49 (0, 0)) := by
                    have := heap_alloc_new (W.alloc (.cells #[] 49)) (.cells #[.string e.key, .int .u32 e.page, .int .i64 e.slot, .bool x.live] 49)
                    simpa using this
                  have nX3 : ((W.alloc (.cells #[.string e.key, .int .u32 e.page, .int .i64 e.slot, .bool x.live] 49)).alloc (.cells #[] 49)).heap[W.heap.size]? = some (.cells #[.string e.key, .int .u32 e.page, .int .i64 e.slot, .bool x.live] 49 (0, 0)) := (((Below.refl _ _).alloc (Nat.le_refl _) _).block W.heap.size (by simp)).trans (heap_alloc_new _ _)
                  clear HEo E HXo X
                  have hins : (([] ++ M.take i) ++ [y]) ++ M.drop i = insN M i y := by unfold insN; simp
                  have hil2 : (insN M i y).length = M.length + 1 := insN_length _ _ _
                  have hrow1 : Hid (∀ (V : World) (B : Nat), V.heap[B]? = some (.cells #[.string e.key, .int .u32 e.page, .int .i64 e.slot, .bool x.live] 49 (0, 0)) → ItemsAt V (some ⟨B, 0, none⟩) [y]) := fun V B h => row_one y (by rw [← Hy.out]; exact h)
                  rw [Hy.out] at HG
                  clear Hy
                  by_cases hci : i = cm
                  · as_aux_lemma =>
                    subst hci
                    have hD0 : M.drop i = [] := List.drop_eq_nil_of_le (by omega)
                    have hMi : M.length - i = 0 := by omega
                    go_region_held3 (fun wy => wy.cell? ⟨Eb, 0, none⟩ = some (.string e.key) ∧ wy.cell? ⟨Eb, 1, none⟩ = some (.int .u32 e.page) ∧ wy.cell? ⟨Eb, 2, none⟩ = some (.int .i64 e.slot) ∧ wy.cell? ⟨Ab, 5, none⟩ = some (.bool x.live))
                      (first | (go_keep; done) | exact S3 | exact S2 | exact S1)
                      (first
                        | (refine step_appR rowItem (by rfl) _ _ (by rfl) W.heap.size _ 0 [] 0 (by rfl) (by rfl) (by first | exact ne1 | exact ne2 | exact ne3) mb mo i i (M.take i) hTl.out (by first | rfl | (simp; done)) (HRT.out _ (by first | exact bE | exact bE.drew | exact bEX | exact bEX.drew | exact bXE | exact bXE.drew)) (by simp; omega) (by simp; omega) (by first | exact bE.size | exact bEX.size | exact bXE.size) i (by omega) ?_
                           intro g1 cap1 w1 own1 grow1 loc1
                           have B1 : RowKit.Below W.heap.size W w1 := by first | exact grown_below bE grow1 (by omega) | exact grown_below bE.drew grow1 (by omega) | exact grown_below bEX grow1 (by omega) | exact grown_below bEX.drew grow1 (by omega) | exact grown_below bXE grow1 (by omega) | exact grown_below bXE.drew grow1 (by omega)
                           have G1 := own1.from
                           have L1 := own1.lt
                           have S1 := And.intro ((B1.cell (p := ⟨Eb, 0, none⟩) sl).trans s0) (And.intro ((B1.cell (p := ⟨Eb, 1, none⟩) sl).trans s1) (And.intro ((B1.cell (p := ⟨Eb, 2, none⟩) sl).trans s2) ((B1.cell (p := ⟨Ab, 5, none⟩) hAl).trans s3)))
                           first
                             | (have X1 := (grow1.block (W.heap.size + 1) (by simp) (by simp)).trans nX2
                                have P1 : g1 ≠ W.heap.size + 1 := by rcases loc1 with q | q <;> first | omega | (simp at q; omega))
                             | (have X1 := (grow1.block W.heap.size (by simp; omega) (by simp)).trans nX3
                                have P1 : g1 ≠ W.heap.size := by rcases loc1 with q | q <;> first | omega | (simp at q; omega))
                             | skip)
                        | (refine step_appR rowItem (by rfl) _ _ (by rfl) W.heap.size g1 cap1 ([] ++ M.take i) i (by simp; omega) (by rfl) (by first | exact own1 | exact own1.below ((Below.refl _ _).alloc (Nat.le_refl _) _)) _ 0 1 1 [y] (by rfl) (by first | rfl | (simp; done)) (hrow1.out _ _ (by first | exact X1 | exact heap_alloc_new _ _)) (by simp; omega) (by simp; omega) (by first | exact B1.size | exact (B1.alloc B1.size _).size) (i + 1) (by omega) ?_
                           intro g2 cap2 w2 own2 grow2 loc2
                           have B2 : RowKit.Below W.heap.size W w2 := by first | exact grown_below B1 grow2 G1 | exact grown_below B1.drew grow2 G1 | exact grown_below (B1.alloc B1.size _) grow2 G1 | exact grown_below (B1.alloc B1.size _).drew grow2 G1
                           have G2 := own2.from
                           have S2 := And.intro ((B2.cell (p := ⟨Eb, 0, none⟩) sl).trans s0) (And.intro ((B2.cell (p := ⟨Eb, 1, none⟩) sl).trans s1) (And.intro ((B2.cell (p := ⟨Eb, 2, none⟩) sl).trans s2) ((B2.cell (p := ⟨Ab, 5, none⟩) hAl).trans s3))))
                        | (refine step_appR rowItem (by rfl) _ _ (by rfl) W.heap.size g2 cap2 (([] ++ M.take i) ++ [y]) (i + 1) (by simp; omega) (by rfl) own2 mb mo 0 0 [] (by rfl) (by first | rfl | (simp [hMi]; done) | (simp; done)) (HR0.out _) (by simp; omega) (by simp; omega) B2.size (i + 1) (by omega) ?_
                           intro g3 cap3 w3 own3 grow3 loc3
                           have B3 : RowKit.Below W.heap.size W w3 := by first | exact grown_below B2 grow3 G2 | exact grown_below B2.drew grow3 G2
                           have G3 := own3.from
                           have S3 := And.intro ((B3.cell (p := ⟨Eb, 0, none⟩) sl).trans s0) (And.intro ((B3.cell (p := ⟨Eb, 1, none⟩) sl).trans s1) (And.intro ((B3.cell (p := ⟨Eb, 2, none⟩) sl).trans s2) ((B3.cell (p := ⟨Ab, 5, none⟩) hAl).trans s3)))))
                    all_goals
                      rw [List.append_nil] at own3; rw [show ([] ++ M.take i) ++ [y] = insN M i y by rw [← hins, hD0, List.append_nil]] at own3
                      have hr3 : (insN M i y).length = i + 1 := by rw [hil2]; omega
                      have hr4 := OwnR.rows (k := 4) (enc := ItemV.enc) (fun x => rfl) (by omega) own3
                      have hgO : Ob < g3 := by have := HE.out.lo; omega
                      have HE2 := hidn (HE.out.other (c' := cap3) B3 hr4 own3.lt hgO own3.room)
                      clear hr4 own3 B3
                      go_wp2
                      go_meet
                      case rel => exact ⟨0, O, g3, cap3, nx, insN M i y, full, rfl, rfl, by rw [hr3], HE2, fun q => ⟨HG.out, fun q => by omega⟩⟩
                  · as_aux_lemma =>
                    have hci' : ¬ (cm = i) := fun q => hci q.symm
                    go_region_held3 (fun wy => wy.cell? ⟨Eb, 0, none⟩ = some (.string e.key) ∧ wy.cell? ⟨Eb, 1, none⟩ = some (.int .u32 e.page) ∧ wy.cell? ⟨Eb, 2, none⟩ = some (.int .i64 e.slot) ∧ wy.cell? ⟨Ab, 5, none⟩ = some (.bool x.live))
                      (first | (go_keep; done) | exact S3 | exact S2 | exact S1)
                      (first
                        | (refine step_appR rowItem (by rfl) _ _ (by rfl) W.heap.size _ 0 [] 0 (by rfl) (by rfl) (by first | exact ne1 | exact ne2 | exact ne3) mb mo i cm (M.take i) hTl.out (by first | rfl | (simp; done)) (HRT.out _ (by first | exact bE | exact bE.drew | exact bEX | exact bEX.drew | exact bXE | exact bXE.drew)) (by simp; omega) (by simp; omega) (by first | exact bE.size | exact bEX.size | exact bXE.size) i (by omega) ?_
                           intro g1 cap1 w1 own1 grow1 loc1
                           have B1 : RowKit.Below W.heap.size W w1 := by first | exact grown_below bE grow1 (by omega) | exact grown_below bE.drew grow1 (by omega) | exact grown_below bEX grow1 (by omega) | exact grown_below bEX.drew grow1 (by omega) | exact grown_below bXE grow1 (by omega) | exact grown_below bXE.drew grow1 (by omega)
                           have G1 := own1.from
                           have L1 := own1.lt
                           have S1 := And.intro ((B1.cell (p := ⟨Eb, 0, none⟩) sl).trans s0) (And.intro ((B1.cell (p := ⟨Eb, 1, none⟩) sl).trans s1) (And.intro ((B1.cell (p := ⟨Eb, 2, none⟩) sl).trans s2) ((B1.cell (p := ⟨Ab, 5, none⟩) hAl).trans s3)))
                           first
                             | (have X1 := (grow1.block (W.heap.size + 1) (by simp) (by simp)).trans nX2
                                have P1 : g1 ≠ W.heap.size + 1 := by rcases loc1 with q | q <;> first | omega | (simp at q; omega))
                             | (have X1 := (grow1.block W.heap.size (by simp; omega) (by simp)).trans nX3
                                have P1 : g1 ≠ W.heap.size := by rcases loc1 with q | q <;> first | omega | (simp at q; omega))
                             | skip)
                        | (refine step_appR rowItem (by rfl) _ _ (by rfl) W.heap.size g1 cap1 ([] ++ M.take i) i (by simp; omega) (by rfl) (by first | exact own1 | exact own1.below ((Below.refl _ _).alloc (Nat.le_refl _) _)) _ 0 1 1 [y] (by rfl) (by first | rfl | (simp; done)) (hrow1.out _ _ (by first | exact X1 | exact heap_alloc_new _ _)) (by simp; omega) (by simp; omega) (by first | exact B1.size | exact (B1.alloc B1.size _).size) (i + 1) (by omega) ?_
                           intro g2 cap2 w2 own2 grow2 loc2
                           have B2 : RowKit.Below W.heap.size W w2 := by first | exact grown_below B1 grow2 G1 | exact grown_below B1.drew grow2 G1 | exact grown_below (B1.alloc B1.size _) grow2 G1 | exact grown_below (B1.alloc B1.size _).drew grow2 G1
                           have G2 := own2.from
                           have S2 := And.intro ((B2.cell (p := ⟨Eb, 0, none⟩) sl).trans s0) (And.intro ((B2.cell (p := ⟨Eb, 1, none⟩) sl).trans s1) (And.intro ((B2.cell (p := ⟨Eb, 2, none⟩) sl).trans s2) ((B2.cell (p := ⟨Ab, 5, none⟩) hAl).trans s3))))
                        | (refine step_appR rowItem (by rfl) _ _ (by rfl) W.heap.size g2 cap2 (([] ++ M.take i) ++ [y]) (i + 1) (by simp; omega) (by rfl) own2 mb (mo + i * 4) (M.length - i) (cm - i) (M.drop i) hDl.out (by first | rfl | (simp; done)) (HRD.out _ (by first | exact B2 | exact B2.drew)) (by simp; omega) (by simp; omega) B2.size (M.length + 1) (by omega) ?_
                           intro g3 cap3 w3 own3 grow3 loc3
                           have B3 : RowKit.Below W.heap.size W w3 := by first | exact grown_below B2 grow3 G2 | exact grown_below B2.drew grow3 G2
                           have G3 := own3.from
                           have S3 := And.intro ((B3.cell (p := ⟨Eb, 0, none⟩) sl).trans s0) (And.intro ((B3.cell (p := ⟨Eb, 1, none⟩) sl).trans s1) (And.intro ((B3.cell (p := ⟨Eb, 2, none⟩) sl).trans s2) ((B3.cell (p := ⟨Ab, 5, none⟩) hAl).trans s3)))))
                    all_goals
                      rw [hins] at own3
                      have hr3 : (insN M i y).length = M.length + 1 := hil2
                      have hr4 := OwnR.rows (k := 4) (enc := ItemV.enc) (fun x => rfl) (by omega) own3
                      have hgO : Ob < g3 := by have := HE.out.lo; omega
                      have HE2 := hidn (HE.out.other (c' := cap3) B3 hr4 own3.lt hgO own3.room)
                      clear hr4 own3 B3
                      go_wp2
                      go_meet
                      case rel => exact ⟨0, O, g3, cap3, nx, insN M i y, full, rfl, rfl, by rw [hr3], HE2, fun q => ⟨HG.out, fun q => by omega⟩⟩
        obtain ⟨f, O, g', c', n', M', full, rfl, rfl, rfl, HE, HG⟩ := hcut
        obtain ⟨K3, HK3⟩ : ∃ W, W = wc := ⟨_, rfl⟩
        rw [← HK3] at HE ⊢
        clear HK3 HM v0 v1 v2 v3 v4 v5 vl
        by_cases hf : f = 0
        · subst hf
          obtain ⟨hG, h5⟩ := HG.out rfl
          obtain ⟨x0, x1, x2, x3, x4⟩ := HE.out.rd.main.page.cells5
          have z0 := HE.out.z0
          have z1 := HE.out.z1
          have z2 := HE.out.z2
          have z3 := HE.out.z3
          cases full with
          | true =>
            have HA := hidn (hG.not K3 a c HE.out.rd.main.slots rfl)
            simp only [SheetV.val, leafV, OpV.val, sheet0, List.length_map, List.length_nil] at HA
            have bb := hidn HE.out.rd.main.bel
            go_wp2_with fail
            refine HA.out.mono ?_
            rintro r w14 ⟨rfl, b14⟩
            have bb2 := hidn (below_chain bb.out b14)
            clear x0 x1 x2 x3 x4 z0 z1 z2 z3 HA
            go_wp2
            go_ret
            exact ⟨rfl, bb2.out.alloc bb2.out.size _⟩
          | false =>
            have HA := hidn (hG.does K3 a c HE.out.rd.main.slots rfl)
            simp only [SheetV.val, leafV, OpV.val, List.length_map] at HA
            go_wp2_with fail
            refine HA.out.mono ?_
            rintro r w14 ⟨a14, c14, rfl, b14, s14⟩
            obtain ⟨W15, HW15⟩ : ∃ W, Hid (W = w14.alloc (.cells #[.int .u32 3, .int .u64 2, .int .i64 3, .string (num4 n'), .slice a14 M'.length c14] 29)) := ⟨_, rfl⟩
            have k15 : RowKit.Below w14.heap.size w14 W15 := by rw [HW15.out]; exact (Below.refl _ _).alloc (Nat.le_refl _) _
            have kk := below_chain b14 k15
            have s15 := s14.below k15
            have hPK := HE.out.rd.main.lt
            have hnext := hidn (HE.out.next (c2 := c14) (n' := n') kk s15 hPK (hG.inv rfl) (hG.rise rfl) hG.nx)
            have hact := hidn ((HE.out.rd.act.below kk HE.out.rd.act.lt).stored (b := Pb) (by have := HE.out.rd.pa; omega) (.int .u32 3) (.int .u64 2) (.int .i64 3) (.string (num4 n')) (.slice a14 M'.length c14))
            have hM' := hG.len
            clear x0 x1 x2 x3 x4 z0 z1 z2 z3 HA
            have hm15 := HE.out.rd.main.below kk
            obtain ⟨x0, x1, x2, x3, x4⟩ := hm15.page.cells5
            obtain ⟨g0, g1, g2, g3, g4⟩ := hm15.page.open5
            have hne : Pb ≠ w14.heap.size := by have := b14.size; omega
            rw [HW15.out] at x0 x1 x2 x3 x4 g0 g1 g2 g3 g4
            have hn' := hG.nx
            clear hm15 HE HG
            obtain ⟨W16, HW16⟩ : ∃ W, Hid (W = store5 W15 Pb (.int .u32 3) (.int .u64 2) (.int .i64 3) (.string (num4 n')) (.slice a14 M'.length c14)) := ⟨_, rfl⟩
            rw [← HW16.out] at hnext hact
            have E16 := HW16.out
            unfold store5 at E16
            rw [HW15.out] at E16
            go_upto_region 45 with fail
            rw [← E16]
            clear E16 HW16 HW15 x0 x1 x2 x3 x4 g0 g1 g2 g3 g4 kk k15 s15 s14 b14
            obtain ⟨x0, x1, x2, x3, x4⟩ := hnext.out.page.cells5
            have HSA : Hid (∀ wx, RowKit.Below W16.heap.size W16 wx → Calls Try.prog 20 #[(leafV 2 n' M').val a14 c14, .slice (some ⟨g', 0, none⟩) M'.length c'] wx fun r w' => r = .returned (.bool true) ∧ RowKit.Below wx.heap.size wx w') := fun wx hb => by
              have hq := hnext.out.below hb
              exact says_any 2 n' M' a14 c14 (some ⟨g', 0, none⟩) c' wx hq.inv hq.lsn hq.slots hq.row
            have HN1 := hidn (fun wx => HNX.out 2 n' M' a14 c14 wx hn')
            simp only [SheetV.val, leafV, List.length_map] at HSA HN1
            have cSA : ∀ dd os, Calls Try.prog 20 #[.agg #[.int .u32 3, .int .u64 2, .int .i64 3, .string (num4 n'), .slice a14 M'.length c14], .slice (some ⟨g', 0, none⟩) M'.length c'] (grow (redrawn W16 dd) os) fun r w'' => r = .returned (.bool true) ∧ ∃ p : Regrown, w'' = grow (redrawn W16 p.d) p.os := fun dd os => Calls.regrown_of (HSA.out _ (below_regrown W16 dd os))
            have cNX : ∀ dd os, Calls Try.prog 12 #[.agg #[.int .u32 3, .int .u64 2, .int .i64 3, .string (num4 n'), .slice a14 M'.length c14]] (grow (redrawn W16 dd) os) fun r w'' => r = .returned (.int .u32 n') ∧ ∃ p : Regrown, w'' = grow (redrawn W16 p.d) p.os := fun dd os => Calls.regrown_of (HN1.out _)
            obtain ⟨v0, v1, _, _, _, _, _⟩ := hact.out
            have gx0 := cell_regrown x0
            have gx1 := cell_regrown x1
            have gx2 := cell_regrown x2
            have gx3 := cell_regrown x3
            have gx4 := cell_regrown x4
            have gv0 := cell_regrown v0
            have gv1 := cell_regrown v1
            clear x0 x1 x2 x3 x4 v0 v1 HSA HN1
            by_cases k5 : x.kind = 5
            · as_aux_lemma =>
              have hmask := lv_mask x.n
              have hn5 : ((n' : Nat) : Int) = x.n % 4096 := by rw [h5 k5]; omega
              rw [← hn5] at hmask
              have hconv : IntKind.u32.wrap (n' : Int) = (n' : Int) := by rw [IntKind.wrap_u32]; omega
              clear h5 hn5 hG
              refine wp_region_quiet_below nmixed (by kernel_rfl) ?_
              iterate 18 (quiet_step (first | (go_at_call 20; exact cSA _ _) | (go_at_call 12; exact cNX _ _)))
              refine wpQuiet_nil ?_
              intro _ hw'
              obtain ⟨⟨dq, osq⟩, hw''⟩ := hw'
              have h17 := hidn (hnext.out.below (below_regrown W16 dq osq))
              rw [hw'']
              generalize grow (redrawn W16 dq) osq = V9 at *
              go_wp2
              go_roundw
              case rel => exact ⟨k + 1, 2, n', M', a14, c14, g', 0, c', by omega, by omega, by omega, by go_num, rfl, h17⟩
              case measure => simp [intOf]; omega
            · as_aux_lemma =>
              clear h5 hG
              refine wp_region_quiet_below nmixed (by kernel_rfl) ?_
              iterate 18 (quiet_step (first | (go_at_call 20; exact cSA _ _) | (go_at_call 12; exact cNX _ _)))
              refine wpQuiet_nil ?_
              intro _ hw'
              obtain ⟨⟨dq, osq⟩, hw''⟩ := hw'
              have h17 := hidn (hnext.out.below (below_regrown W16 dq osq))
              rw [hw'']
              generalize grow (redrawn W16 dq) osq = V9 at *
              go_wp2
              go_roundw
              case rel => exact ⟨k + 1, 2, n', M', a14, c14, g', 0, c', by omega, by omega, by omega, by go_num, rfl, h17⟩
              case measure => simp [intOf]; omega
        · have h17 := hidn HE.out.rd.main
          go_wp2
          go_roundw
          case rel => exact ⟨k + 1, lsn, nx, M, a, c, mb, mo, cm, by omega, by omega, by omega, by go_num, rfl, h17⟩
          case measure => simp [intOf]; omega
      · obtain rfl : k = 40 := by omega
        have bb := hidn HH.out.bel
        go_wp2
        go_ret
        exact ⟨rfl, bb.out⟩
    · have hi1 : ¬ (k : Int) < (L.length : Int) := by omega
      have bb := hidn HH.out.bel
      go_wp2
      go_ret
      exact ⟨rfl, bb.out⟩

end Go.Proofs.Ytnljephojonilaa
