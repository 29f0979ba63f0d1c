/-
  The walk of girderlaw06.PoolFalls (printed by wip/genfl.py).
-/
import Derived.Test.YtgmfgkdecpldeaaGreatBase12C
namespace Go.Proofs.YtgmfgkdecpldeaaGreat
open Go.RowKit Go.Sort Go.Shelf
set_option linter.unusedVariables false
set_option linter.unusedSimpArgs false

theorem strs_one {w : World} {a : Option Addr} {s : ByteArray} (h : StrsAt w a [s]) : ∃ b o, a = some ⟨b, o, none⟩ ∧ b < w.heap.size ∧ w.cell? ⟨b, o, none⟩ = some (.string s) := by
  rcases h with h | ⟨b, o, e, hb, hc⟩
  · cases h
  · exact ⟨b, o, e, hb, hc 0 (by simp)⟩

theorem bel_alloc {w v : World} (h : Below w.heap.size w v) (cs : Array Value) (ty : TypeId) : Below w.heap.size w (v.alloc (.cells cs ty)) := h.alloc h.size _

theorem one_byteF {P : Program} (w : World) (k : Int) (src dst el : TypeId) (hs : P.underlying src = some (.slice el)) (he : P.underlying el = some (.int .u8)) (hd : P.underlying dst = some .string) :
    (convert src dst (.slice (some ⟨w.heap.size, 0, none⟩) 1 1)).run P (w.alloc (.cells #[.int .u8 (k % 256)] el)) = .ok (.string ⟨#[UInt8.ofNat (k % 256).toNat]⟩) (w.alloc (.cells #[.int .u8 (k % 256)] el)) := by
  refine RowU.toString (N := 1) (f := fun _ => k % 256) (fun j hj => ?_) [UInt8.ofNat (k % 256).toNat] rfl (fun j hj => ?_) src dst el hs he hd
  · obtain rfl : j = 0 := by omega
    exact ⟨by simp, by simp⟩
  · obtain rfl : j = 0 := by simpa using hj
    simp; omega

set_option maxHeartbeats 6400000 in
set_option maxRecDepth 20000 in
theorem pfalls_walk (a : Option Addr) (n c : Nat) (TT : Nat → ByteArray) (f1 : Int) (f2 : Nat) (f3 f4 f5 : Int) (w : World) (hA : IsStrs w a n TT) (hf2' : f2 < 18446744073709551616) (hf1 : -9223372036854775808 ≤ f1 ∧ f1 ≤ 9223372036854775807) :
    Calls Tryz.prog 4 #[.slice a n c, .agg #[.int .i64 f1, .int .u64 f2, .int .i64 f3, .int .i64 f4, .int .i64 f5]] w fun e w' => e = .returned (.bool true) ∧ Below w.heap.size w w' := by
  have HAI := hid hA
  have hn : n ≤ maxLen := hA.1
  unfold maxLen at hn
  clear hA
  have HW0 : Hid (Below w.heap.size w (w.alloc (.cells #[.int .i64 f1, .int .u64 f2, .int .i64 f3, .int .i64 f4, .int .i64 f5] 38)) ∧ Blk (w.alloc (.cells #[.int .i64 f1, .int .u64 f2, .int .i64 f3, .int .i64 f4, .int .i64 f5] 38)) w.heap.size #[.int .i64 f1, .int .u64 f2, .int .i64 f3, .int .i64 f4, .int .i64 f5] 38 ∧ (w.alloc (.cells #[.int .i64 f1, .int .u64 f2, .int .i64 f3, .int .i64 f4, .int .i64 f5] 38)).heap.size = w.heap.size + 1) := ⟨(Below.refl _ _).alloc (Nat.le_refl _) _, Blk.made _ _ _, by simp⟩
  have HBG : Hid (∀ W : World, Calls Tryz.prog 8 #[.int .i64 8, .int .i64 4] W (BgOut W 8 4)) := fun W => begun_any W 8 4 (by omega) (by omega) (by omega) (by omega)
  go_enter Tryz.func4, Tryz.ntmps4
  go_wp2_with fail
  generalize w.alloc (.cells #[.int .i64 f1, .int .u64 f2, .int .i64 f3, .int .i64 f4, .int .i64 f5] 38) = W0 at *
  refine (HBG.out W0).mono ?_
  rintro e w1 ⟨dp, lp, p, A1, rfl, hS1, hA1, b1⟩
  have H1 : Hid (FpM w w1 p dp lp A1 (pool0 dp lp 4) (log0 dp) (newD 8) ⟨f1, f2, f3, f4, f5⟩) := by
    obtain ⟨x1, x2, x3⟩ := HW0.out
    refine ⟨hS1, rfl, rfl, fun k y => by have := hA1 k y; omega, ⟨b1.os.trans x1.os, b1.tape.trans x1.tape, b1.output.trans x1.output, by have := b1.size; omega, fun k hk => (b1.block k (by omega)).trans (x1.block k hk)⟩, x2.same (b1.block _ (by omega))⟩
  clear hS1 hA1 b1 HBG HW0
  go_wp2_with fail
  refine (pawake_any _).mono ?_
  rintro e w3 ⟨rfl, b3⟩
  have H3 : Hid (FpM w w3 p dp lp A1 (pool0 dp lp 4) (log0 dp) (newD 8) ⟨f1, f2, f3, f4, f5⟩) := H1.out.below b3
  clear b3 H1
  have bx0 : w3.cell? ⟨w.heap.size, 0, none⟩ = some (.int .i64 f1) := H3.out.box.cell 0
  have bf0 : w3.frozen? ⟨w.heap.size, 0, none⟩ = false := H3.out.box.frozen 0
  go_upto_if 38 with fail
  go_cut [] from 38 to 39 (fun wx => ∃ v1 : Int, 0 ≤ v1 ∧ v1 ≤ 9223372036854775807 ∧ Hid (FpM w wx p dp lp A1 (pool0 dp lp 4) (log0 dp) (newD 8) ⟨v1, f2, f3, f4, f5⟩))
  case first =>
    by_cases hneg : f1 < 0
    · have s1 : decide (f1 < 0) = true := by simp [hneg]
      have HS1 : Hid (FpM w (w3.setCell ⟨w.heap.size, 0, none⟩ (.int .i64 0)) p dp lp A1 (pool0 dp lp 4) (log0 dp) (newD 8) ⟨0, f2, f3, f4, f5⟩) := H3.out.set 0
      go_wp2_with fail
      go_meet
      case rel => exact ⟨0, by omega, by omega, HS1⟩
    · have s1 : decide (f1 < 0) = false := by simp; omega
      go_wp2_with fail
      go_meet
      case rel => exact ⟨f1, by omega, by omega, H3⟩
  case rest =>
    obtain ⟨v1, hv0, hv1, H4⟩ := hcut
    clear H3 bx0 bf0
    have cx0 : wc.cell? ⟨w.heap.size, 0, none⟩ = some (.int .i64 v1) := H4.out.box.cell 0
    have cf0 : wc.frozen? ⟨w.heap.size, 0, none⟩ = false := H4.out.box.frozen 0
    have hm1 : v1.tmod 40 = v1 % 40 := Int.tmod_eq_emod_of_nonneg hv0
    have HS5 : Hid (∀ q, FpM w ((wc.drewN q).setCell ⟨w.heap.size, 0, none⟩ (.int .i64 (v1 % 40))) p dp lp A1 (pool0 dp lp 4) (log0 dp) (newD 8) ⟨v1 % 40, f2, f3, f4, f5⟩) := fun q => FpM.set (f := ⟨v1, f2, f3, f4, f5⟩) ⟨H4.out.sys.drewN q, H4.out.dp', H4.out.lp', H4.out.new, ⟨H4.out.bel.os, H4.out.bel.tape, H4.out.bel.output, H4.out.bel.size, H4.out.bel.block⟩, H4.out.box.same rfl⟩ (v1 % 40)
    have HCL : Hid (∀ q, Calls Tryz.prog 12 #[.pointer (some ⟨dp, 0, none⟩)] (wc.drewN q) fun x w' => x = .returned (.int .i64 0) ∧ wc.drewN q = w') := fun q => by
      have h : FpM w (wc.drewN q) p dp lp A1 (pool0 dp lp 4) (log0 dp) (newD 8) ⟨v1, f2, f3, f4, f5⟩ := ⟨H4.out.sys.drewN q, H4.out.dp', H4.out.lp', H4.out.new, ⟨H4.out.bel.os, H4.out.bel.tape, H4.out.bel.output, H4.out.bel.size, H4.out.bel.block⟩, H4.out.box.same rfl⟩
      exact (fp_calls h).mono fun e w' x => ⟨x.1, x.2.symm⟩
    have hwr : IntKind.i64.wrap (v1 % 40) = v1 % 40 := by rw [IntKind.wrap_i64]; omega
    go_upto_region 6 with fail
    go_cut [] from 40 to 46 (fun wx => Hid (FpM w wx p dp lp A1 (pool0 dp lp 4) (log0 dp) (newD 8) ⟨v1 % 40, f2, f3, f4, f5⟩))
    case first =>
      go_region_with (go_at_call 12; refine (HCL.out _).mono ?_; rintro e v2 ⟨rfl, rfl⟩)
      all_goals
        go_wp2_with fail
        go_meet
        case rel => exact HS5.out _
    case rest =>
      have H5 := hcut
      clear hcut HS5 HCL H4 cx0 cf0
      have hf : 0 ≤ v1 % 40 := by omega
      generalize hff : v1 % 40 = v5 at *
      clear hff hm1 hv0 hv1
      obtain ⟨f, hfE⟩ : ∃ f : FG, f = ⟨v5, f2, f3, f4, f5⟩ := ⟨_, rfl⟩
      have y0 : wc.cell? ⟨w.heap.size, 0, none⟩ = some (.int .i64 v5) := H5.out.box.cell 0
      have y1 : wc.cell? ⟨w.heap.size, 1, none⟩ = some (.int .u64 f2) := H5.out.box.cell 1
      have y2 : wc.cell? ⟨w.heap.size, 2, none⟩ = some (.int .i64 f3) := H5.out.box.cell 2
      have y3 : wc.cell? ⟨w.heap.size, 3, none⟩ = some (.int .i64 f4) := H5.out.box.cell 3
      have y4 : wc.cell? ⟨w.heap.size, 4, none⟩ = some (.int .i64 f5) := H5.out.box.cell 4
      have HPL := hid (fp_plan1 H5.out hf (V := wc.alloc (.cells #[.int .i64 v5, .int .u64 f2, .int .i64 f3, .int .i64 f4, .int .i64 f5] 38)) rfl)
      have HFI : Hid (FI (pool0 dp lp 4) (log0 dp) { newD 8 with plan := [f] } f noS 0) := fi_start dp lp f (by rw [hfE]; exact hf) (by rw [hfE]; exact hf2')
      rw [← hfE] at HPL
      have hf2 : f.keep < 18446744073709551616 := by rw [hfE]; exact hf2'
      clear hfE hf2'
      go_wp2_with fail
      refine HPL.out.mono ?_
      rintro e w6 ⟨rfl, A6, h6⟩
      have H6 : Hid (∃ A P l d, FpM w w6 p dp lp A P l d f ∧ FI P l d f noS 0) := ⟨_, _, _, _, h6, HFI.out⟩
      clear h6 HPL HFI H5 y0 y1 y2 y3 y4 hf
      go_wp2_with fail
      go_loopw [8, 9, 10] (fun lv nv iv wr => ∃ (i : Nat) (last next : ByteArray), lv = .string last ∧ nv = .string next ∧ iv = .int .i64 (i : Int) ∧ i ≤ n ∧ i ≤ 12 ∧ Hid (∃ A P l d, FpM w wr p dp lp A P l d f ∧ FI P l d f last i)) (fun _ _ iv _ => 12 - (intOf iv).toNat)
      case atStart => exact ⟨0, noS, noS, rfl, rfl, rfl, Nat.zero_le _, Nat.zero_le _, H6⟩
      case round =>
        obtain ⟨i, last, next, rfl, rfl, rfl, hin, hi12, HX⟩ := hrel
        clear H6
        by_cases hlt : i < n ∧ i < 12
        · obtain ⟨hl1, hl2⟩ := hlt
          have d1 : decide ((i : Int) < (n : Int)) = true := by simp; omega
          have d2 : decide ((i : Int) < 12) = true := by simp; omega
          obtain ⟨A, P, l, d, hM, hI⟩ := HX.out
          obtain ⟨ab, ao, rfl, hab, hact⟩ : ∃ ab ao, a = some ⟨ab, ao, none⟩ ∧ ab < w.heap.size ∧ ∀ i, i < n → w.cell? ⟨ab, ao + i, none⟩ = some (.string (TT i)) ∧ (TT i).size ≤ maxLen := by
            rcases HAI.out.2 with h | h
            · omega
            · exact h
          obtain ⟨hc0, hss⟩ := hact i hl1
          have ca := (World.cell?_of_block (w := w) (a := ⟨ab, ao + i, none⟩) (hM.bel.block ab hab)).trans hc0
          obtain ⟨s, hs⟩ : ∃ s, TT i = s := ⟨_, rfl⟩
          rw [hs] at ca hss
          clear hact hc0 hs
          unfold maxLen at hss
          have i1 : (0 : Int) ≤ (i : Int) := by omega
          have i2 : (i : Int) < (n : Int) := by omega
          have HM := hid hM
          have HI := hid hI
          clear hM hI HX
          go_upto_if 67 with fail
          go_cut [11] from 67 to 69 (fun sv wx => ∃ t : ByteArray, sv = .string t ∧ t.size ≤ 200 ∧ Hid (FpM w wx p dp lp A P l d f))
          case first =>
            by_cases hlong : 200 < s.size
            · have s1 : decide ((200 : Int) < (s.size : Int)) = true := by simp; omega
              have s1' : decide (200 < s.size) = true := by simp; omega
              have s2 : (200 : Int) ≤ (s.size : Int) := by omega
              have s3 : 200 ≤ s.size := by omega
              go_wp2_with fail
              go_meet
              case rel => exact ⟨_, rfl, by simp; omega, HM⟩
            · have s1 : decide ((200 : Int) < (s.size : Int)) = false := by simp; omega
              have s1' : decide (200 < s.size) = false := by simp; omega
              go_wp2_with fail
              go_meet
              case rel => exact ⟨s, rfl, by omega, HM⟩
          case rest =>
            obtain ⟨t, rfl, ht, HM2⟩ := hcut
            clear ca hss HM
            have HCV : Hid (∀ W : World, (convert 47 9 (.slice (some ⟨W.heap.size, 0, none⟩) 1 1)).run Tryz.prog (W.alloc (.cells #[.int .u8 ((i : Int) % 256)] 5)) = .ok (.string ⟨#[UInt8.ofNat ((i : Int) % 256).toNat]⟩) (W.alloc (.cells #[.int .u8 ((i : Int) % 256)] 5))) := fun W => one_byteF (P := Tryz.prog) W i 47 9 5 Tryz.underlying47 Tryz.underlying5 Tryz.underlying9
            have him : (i : Int) % 256 = (i : Int) := by omega
            have hcv := HCV.out wc
            rw [him] at hcv
            clear him
            have hl1 : (ByteArray.mk #[UInt8.ofNat (i : Int).toNat]).size = 1 := rfl
            have hl2 : (ByteArray.mk #[UInt8.ofNat i]).size = 1 := rfl
            obtain ⟨V, HV⟩ : ∃ V, Hid (V = wc.alloc (.cells #[.int .u8 (i : Int)] 5)) := ⟨_, rfl⟩
            have HM3 : Hid (FpM w V p dp lp A P l d f) := HM2.out.below (by rw [HV.out]; exact (Below.refl _ _).alloc (Nat.le_refl _) _)
            have HAP := hid (fp_append HM3.out HI.out (by omega))
            obtain ⟨S, HS⟩ : ∃ S : ByteArray, Hid (S = t ++ ⟨#[UInt8.ofNat i]⟩) := ⟨_, rfl⟩
            have hS : S.size ≤ 201 := by rw [HS.out, ByteArray.size_append, hl2]; omega
            clear HM2 HM3 HCV
            go_wp2_with fail
            rw [← HV.out, ← HS.out]
            clear hcv HV
            refine HAP.out.mono ?_
            rintro e w4 ⟨rfl, A4, h4⟩
            obtain ⟨V5, HV5⟩ : ∃ V5, Hid (V5 = w4.alloc (.cells #[.string S] 9)) := ⟨_, rfl⟩
            have h5 : FpM w V5 p dp lp A4 P (putG l recT) d f := h4.below (by rw [HV5.out]; exact (Below.refl _ _).alloc (Nat.le_refl _) _)
            have hS5 : StrsAt V5 (some ⟨w4.heap.size, 0, none⟩) [S] := by
              refine .inr ⟨w4.heap.size, 0, rfl, by rw [HV5.out]; simp, fun j hj => ?_⟩
              obtain rfl : j = 0 := by simpa using hj
              rw [HV5.out]
              exact (Blk.made w4 #[.string S] 9).cell 0
            have hA5 : ¬ A4 w4.heap.size := fun x => by have := h4.sys.lt _ x; omega
            have HPU : Hid (Calls Tryz.prog 15 #[.pointer (some ⟨p, 0, none⟩), .agg #[.int .u32 2, .int .u64 ((l.bytes.length + 1 : Nat) : Int), .int .i64 2, .string ⟨#[]⟩, .slice (some ⟨w4.heap.size, 0, none⟩) 1 1]] V5 fun e w' => e = .returned (.int .i64 0) ∧ ∃ A', FpM w w' p dp lp A' (putP P (newX l S)) (putG l recT) d f) := fp_put h5 HI.out (by omega) hS hS5 hA5 1
            clear h4 h5 hS5 hA5 HAP HS
            go_wp2_with fail
            rw [← HV5.out]
            refine HPU.out.mono ?_
            rintro e w6 ⟨rfl, A6, h6⟩
            have HWR := hid (fp_write h6 HI.out (by omega) hS)
            clear h6 HPU HV5
            go_wp2_with fail
            refine HWR.out.mono ?_
            rintro e w7 (⟨rfl, A7, P7, l7, d7, h7⟩ | ⟨rfl, D7, d7, h7, h7d, h7g⟩)
            · have H7 : Hid (∃ A P l d, FpM w w7 p dp lp A P l d f ∧ FI P l d f S (i + 1)) := ⟨_, _, _, _, h7⟩
              clear h7 HWR HI
              go_wp2_with fail
              go_roundw
              case rel => exact ⟨i + 1, S, S, rfl, rfl, by simp, by omega, by omega, H7⟩
              case measure => simp [intOf]; omega
            · have H : Hid (FpL w w7 p dp lp f last S) := .inr ⟨_, _, h7, h7d, h7g⟩
              clear h7 h7d h7g HWR HI
              have HK2 := hid hf2
              have HPL0 := hid (fp_plan0 H.out)
              clear H
              go_wp2_with fail
              refine HPL0.out.mono ?_
              rintro e v1 ⟨rfl, h1⟩
              have HCR := hid (fp_crash h1 HK2.out)
              obtain ⟨D1, d1, hE1, _⟩ := h1
              have y1 : v1.cell? ⟨w.heap.size, 1, none⟩ = some (.int .u64 f.keep) := hE1.box.cell 1
              have y2 : v1.cell? ⟨w.heap.size, 2, none⟩ = some (.int .i64 f.torn) := hE1.box.cell 2
              have y3 : v1.cell? ⟨w.heap.size, 3, none⟩ = some (.int .i64 f.bytes) := hE1.box.cell 3
              clear hE1 HPL0
              go_wp2_with fail
              refine HCR.out.mono ?_
              rintro e v2 ⟨rfl, D2, d2, h2, g2⟩
              have HUP := hid (fp_up h2 g2)
              clear HCR y1 y2 y3 h2 g2
              go_wp2_with fail
              refine HUP.out.mono ?_
              rintro e v3 ⟨⟨bb, rfl⟩, D3, d3, h3, g3, hd3⟩
              have HOP := hid (fp_open h3 g3 hd3)
              clear HUP h3 g3 hd3
              go_wp2_with fail
              refine HOP.out.mono ?_
              rintro e v4 ⟨q4, t4, rfl, h4⟩
              have HNW := hid (fp_new h4)
              clear HOP h4
              go_wp2_with fail
              refine HNW.out.mono ?_
              rintro e v5 ⟨r5, rfl, h5⟩
              have HGE := hid (fp_get h5)
              clear HNW h5
              go_wp2_with fail
              refine HGE.out.mono ?_
              rintro e v6 ⟨X, a6, c6, rfl, hst, hsl, hb6⟩
              clear HGE
              obtain ⟨x1, x2, x3, x4, x5⟩ := X
              have HV : Hid (SheetV.val ⟨x1, x2, x3, x4, x5⟩ a6 c6 = .agg #[.int .u32 x1, .int .u64 x2, .int .i64 x3, .string x4, .slice a6 x5.length c6]) := rfl
              rw [HV.out]
              have HB6 := hid hb6
              simp only at hst hsl
              rcases hsl with ⟨rfl, rfl⟩ | rfl | rfl
              · unfold noS
                simp only [List.length_nil]
                go_wp2
                go_ret
                exact ⟨rfl, bel_alloc HB6.out _ _⟩
              · obtain ⟨b6, o6, rfl, hb6l, hc6⟩ := strs_one hst
                simp only [List.length_singleton]
                have hne6 : b6 ≠ v6.heap.size := by omega
                go_wp2
                all_goals
                  go_ret
                  exact ⟨by simp, bel_alloc HB6.out _ _⟩
              · obtain ⟨b6, o6, rfl, hb6l, hc6⟩ := strs_one hst
                simp only [List.length_singleton]
                have hne6 : b6 ≠ v6.heap.size := by omega
                go_wp2
                all_goals
                  go_ret
                  exact ⟨by simp, bel_alloc HB6.out _ _⟩
        · have H : Hid (FpL w wr p dp lp f last next) := by
            obtain ⟨A, P, l, d, h, hi⟩ := HX.out
            exact .inl ⟨A, P, l, d, i, by omega, h, hi⟩
          clear HX
          by_cases x1 : i < n
          · have d1 : decide ((i : Int) < (n : Int)) = true := by simp; omega
            have d2 : decide ((i : Int) < 12) = false := by simp; omega
            have HK2 := hid hf2
            have HPL0 := hid (fp_plan0 H.out)
            clear H
            go_wp2_with fail
            refine HPL0.out.mono ?_
            rintro e v1 ⟨rfl, h1⟩
            have HCR := hid (fp_crash h1 HK2.out)
            obtain ⟨D1, d1, hE1, _⟩ := h1
            have y1 : v1.cell? ⟨w.heap.size, 1, none⟩ = some (.int .u64 f.keep) := hE1.box.cell 1
            have y2 : v1.cell? ⟨w.heap.size, 2, none⟩ = some (.int .i64 f.torn) := hE1.box.cell 2
            have y3 : v1.cell? ⟨w.heap.size, 3, none⟩ = some (.int .i64 f.bytes) := hE1.box.cell 3
            clear hE1 HPL0
            go_wp2_with fail
            refine HCR.out.mono ?_
            rintro e v2 ⟨rfl, D2, d2, h2, g2⟩
            have HUP := hid (fp_up h2 g2)
            clear HCR y1 y2 y3 h2 g2
            go_wp2_with fail
            refine HUP.out.mono ?_
            rintro e v3 ⟨⟨bb, rfl⟩, D3, d3, h3, g3, hd3⟩
            have HOP := hid (fp_open h3 g3 hd3)
            clear HUP h3 g3 hd3
            go_wp2_with fail
            refine HOP.out.mono ?_
            rintro e v4 ⟨q4, t4, rfl, h4⟩
            have HNW := hid (fp_new h4)
            clear HOP h4
            go_wp2_with fail
            refine HNW.out.mono ?_
            rintro e v5 ⟨r5, rfl, h5⟩
            have HGE := hid (fp_get h5)
            clear HNW h5
            go_wp2_with fail
            refine HGE.out.mono ?_
            rintro e v6 ⟨X, a6, c6, rfl, hst, hsl, hb6⟩
            clear HGE
            obtain ⟨x1, x2, x3, x4, x5⟩ := X
            have HV : Hid (SheetV.val ⟨x1, x2, x3, x4, x5⟩ a6 c6 = .agg #[.int .u32 x1, .int .u64 x2, .int .i64 x3, .string x4, .slice a6 x5.length c6]) := rfl
            rw [HV.out]
            have HB6 := hid hb6
            simp only at hst hsl
            rcases hsl with ⟨rfl, rfl⟩ | rfl | rfl
            · unfold noS
              simp only [List.length_nil]
              go_wp2
              go_ret
              exact ⟨rfl, bel_alloc HB6.out _ _⟩
            · obtain ⟨b6, o6, rfl, hb6l, hc6⟩ := strs_one hst
              simp only [List.length_singleton]
              have hne6 : b6 ≠ v6.heap.size := by omega
              go_wp2
              all_goals
                go_ret
                exact ⟨by simp, bel_alloc HB6.out _ _⟩
            · obtain ⟨b6, o6, rfl, hb6l, hc6⟩ := strs_one hst
              simp only [List.length_singleton]
              have hne6 : b6 ≠ v6.heap.size := by omega
              go_wp2
              all_goals
                go_ret
                exact ⟨by simp, bel_alloc HB6.out _ _⟩
          · have d1 : decide ((i : Int) < (n : Int)) = false := by simp; omega
            have HK2 := hid hf2
            have HPL0 := hid (fp_plan0 H.out)
            clear H
            go_wp2_with fail
            refine HPL0.out.mono ?_
            rintro e v1 ⟨rfl, h1⟩
            have HCR := hid (fp_crash h1 HK2.out)
            obtain ⟨D1, d1, hE1, _⟩ := h1
            have y1 : v1.cell? ⟨w.heap.size, 1, none⟩ = some (.int .u64 f.keep) := hE1.box.cell 1
            have y2 : v1.cell? ⟨w.heap.size, 2, none⟩ = some (.int .i64 f.torn) := hE1.box.cell 2
            have y3 : v1.cell? ⟨w.heap.size, 3, none⟩ = some (.int .i64 f.bytes) := hE1.box.cell 3
            clear hE1 HPL0
            go_wp2_with fail
            refine HCR.out.mono ?_
            rintro e v2 ⟨rfl, D2, d2, h2, g2⟩
            have HUP := hid (fp_up h2 g2)
            clear HCR y1 y2 y3 h2 g2
            go_wp2_with fail
            refine HUP.out.mono ?_
            rintro e v3 ⟨⟨bb, rfl⟩, D3, d3, h3, g3, hd3⟩
            have HOP := hid (fp_open h3 g3 hd3)
            clear HUP h3 g3 hd3
            go_wp2_with fail
            refine HOP.out.mono ?_
            rintro e v4 ⟨q4, t4, rfl, h4⟩
            have HNW := hid (fp_new h4)
            clear HOP h4
            go_wp2_with fail
            refine HNW.out.mono ?_
            rintro e v5 ⟨r5, rfl, h5⟩
            have HGE := hid (fp_get h5)
            clear HNW h5
            go_wp2_with fail
            refine HGE.out.mono ?_
            rintro e v6 ⟨X, a6, c6, rfl, hst, hsl, hb6⟩
            clear HGE
            obtain ⟨x1, x2, x3, x4, x5⟩ := X
            have HV : Hid (SheetV.val ⟨x1, x2, x3, x4, x5⟩ a6 c6 = .agg #[.int .u32 x1, .int .u64 x2, .int .i64 x3, .string x4, .slice a6 x5.length c6]) := rfl
            rw [HV.out]
            have HB6 := hid hb6
            simp only at hst hsl
            rcases hsl with ⟨rfl, rfl⟩ | rfl | rfl
            · unfold noS
              simp only [List.length_nil]
              go_wp2
              go_ret
              exact ⟨rfl, bel_alloc HB6.out _ _⟩
            · obtain ⟨b6, o6, rfl, hb6l, hc6⟩ := strs_one hst
              simp only [List.length_singleton]
              have hne6 : b6 ≠ v6.heap.size := by omega
              go_wp2
              all_goals
                go_ret
                exact ⟨by simp, bel_alloc HB6.out _ _⟩
            · obtain ⟨b6, o6, rfl, hb6l, hc6⟩ := strs_one hst
              simp only [List.length_singleton]
              have hne6 : b6 ≠ v6.heap.size := by omega
              go_wp2
              all_goals
                go_ret
                exact ⟨by simp, bel_alloc HB6.out _ _⟩

end Go.Proofs.YtgmfgkdecpldeaaGreat
