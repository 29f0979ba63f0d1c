/-
  The walk of girderlaw07.SpaceBack.
-/
import Derived.Test.YtkknglcckjhngaaSBMemC
import Derived.Test.YtkknglcckjhngaaBackWalkC
import Derived.Test.YtkknglcckjhngaaNoneWalkC
import Derived.Deep.AppendLies
import Derived.Deep.RegionLaw
namespace Go.Proofs.Ytkknglcckjhngaa
open Go.RowKit Go.Sort
set_option linter.unusedVariables false

/-- A slice of integers that was handed in. -/
def IsInts (w : World) (a : Option Addr) (len : Nat) (Z : Nat → Int) : Prop :=
  len ≤ maxLen ∧ (len = 0 ∨ ∃ b o, a = some ⟨b, o, none⟩ ∧ b < w.heap.size ∧ ∀ i, i < len → w.cell? ⟨b, o + i, none⟩ = some (.int .i64 (Z i)) ∧ -9223372036854775808 ≤ Z i ∧ Z i ≤ 9223372036854775807)

set_option maxHeartbeats 6400000 in
set_option maxRecDepth 8000 in
theorem back_walk7 (taken : Int) (ht1 : -9223372036854775808 ≤ taken) (ht2 : taken ≤ 9223372036854775807) (la : Option Addr) (n lc : Nat) (Z : Nat → Int) (w : World) (hZ : IsInts w la n Z) :
    Calls Try.prog 5 #[.int .i64 taken, .slice la n lc] w fun e w' => e = .returned (.bool true) ∧ Below w.heap.size w w' := by
  have HZ : Hid (IsInts w la n Z) := hZ
  have hnm := hZ.1
  unfold maxLen at hnm
  clear hZ
  obtain ⟨K, hK1, hK2, hKt⟩ : ∃ K : Nat, 1 ≤ K ∧ K ≤ 100 ∧ Hid (((K : Nat) : Int) = if 1 < taken then taken % 100 + 1 else 1) := by
    by_cases c : 1 < taken
    · exact ⟨(taken % 100 + 1).toNat, by omega, by omega, by show _ = _; rw [if_pos c]; omega⟩
    · exact ⟨1, by omega, by omega, by show _ = _; rw [if_neg c]; rfl⟩
  have HBG : Hid (∀ wx, Calls Try.prog 6 #[.int .i64 K] wx fun e w' => ∃ a c, e = .returned (.tuple #[(mapV 1 (freshS K)).val a c, .bool true]) ∧ Below wx.heap.size wx w' ∧ StrsFrom (wx.heap.size + 1) w' a [freshS K]) := fun wx => begun_ok K wx hK1 (by omega)
  have HS0 : Hid ((freshS K).size = 256) := freshS_size K
  have HAW : Hid (∀ wx, Calls Try.prog 7 #[] wx fun e w' => e = .returned (.bool true) ∧ Below wx.heap.size wx w') := fun wx => awake_any wx
  generalize freshS K = s0 at *
  simp only [SheetV.val, mapV, List.length_cons, List.length_nil, Nat.zero_add] at HBG
  go_enter Try.func5, Try.ntmps5
  go_upto_if 19 with fail
  go_cut [5] from 19 to 22 (fun v wx => v = .int .i64 (K : Int) ∧ wx = w)
  case first =>
    by_cases c : 1 < taken
    · have hk : (K : Int) = taken % 100 + 1 := by rw [hKt.out, if_pos c]
      go_wp2
      go_meet
      case rel => exact ⟨by rw [hk], rfl⟩
    · have hk : (K : Int) = 1 := by rw [hKt.out, if_neg c]
      go_wp2
      go_meet
      case rel => exact ⟨by rw [hk], rfl⟩
  case rest =>
    obtain ⟨rfl, hwc⟩ := hcut
    obtain rfl := hwc.symm
    go_wp2_with fail
    refine (HBG.out _).mono ?_
    rintro e w1 ⟨a0, c0, rfl, b1, hst⟩
    obtain ⟨W1, HW1⟩ : ∃ W1, Hid (W1 = w1.alloc (.cells #[.int .u32 1, .int .u64 1, .int .i64 1, .string ⟨#[]⟩, .slice a0 1 c0] 29)) := ⟨_, rfl⟩
    have m1 : RowV W1 w1.heap.size 5 (five (.int .u32 1) (.int .u64 1) (.int .i64 1) (.string ⟨#[]⟩) (.slice a0 1 c0)) := by rw [HW1.out]; exact RowV.five_new _ _ _ _ _ _ _
    have k1 : Below w1.heap.size w1 W1 := by rw [HW1.out]; exact (Below.refl _ _).alloc (Nat.le_refl _) _
    have z1 : w1.heap.size < W1.heap.size := by rw [HW1.out]; simp
    have B1 := below_chain b1 k1
    go_wp2_with fail
    rw [← HW1.out]
    refine (HAW.out _).mono ?_
    rintro e w2 ⟨rfl, b2⟩
    have m2 := m1.below b2 z1
    have z2 := Nat.lt_of_lt_of_le z1 b2.size
    obtain ⟨x0, x1, x2, x3, x4⟩ := m2.cells5
    go_wp2_with fail
    obtain ⟨i0, hi, hzz⟩ := Option.map_eq_some_iff.1 infoOp
    simp only [Prod.mk.injEq] at hzz
    obtain ⟨hz0, hz1, hz2⟩ := hzz
    have HSB0 : Hid (SBAt w ((w2.alloc (.cells #[.int .u32 1, .int .u64 1, .int .i64 1, .string ⟨#[]⟩, .slice a0 1 c0] 29)).alloc (.cells #[] 41)) w1.heap.size w2.heap.size s0 s0 1 a0 a0 c0 c0 [] (.slice (some ⟨w2.heap.size + 1, 0, none⟩) 0 0) ∧ s0 = endS s0 [] ∧ AllPg [] ∧ 1 < 18446744073709551616) := by
      have b3 : Below w2.heap.size w2 ((w2.alloc (.cells #[.int .u32 1, .int .u64 1, .int .i64 1, .string ⟨#[]⟩, .slice a0 1 c0] 29)).alloc (.cells #[] 41)) := ((Below.refl _ _).alloc (Nat.le_refl _) _).alloc (by simp) _
      have hr := RowV.five_new w2 (.int .u32 1) (.int .u64 1) (.int .i64 1) (.string ⟨#[]⟩) (.slice a0 1 c0) 29
      have hr2 := hr.below (B := w2.heap.size + 1) (((Below.refl _ _).alloc (by simp) (.cells #[] 41))) (by omega)
      have hb := b1.size
      have hk := k1.size
      have hb2 := b2.size
      have hd := World.ownsRow_made (base := 0) (e := 41) (size := 4) (w2.alloc (.cells #[.int .u32 1, .int .u64 1, .int .i64 1, .string ⟨#[]⟩, .slice a0 1 c0] 29)) #[] 0 (Nat.zero_le _) (Nat.zero_le _) rfl
      have hst2 : StrsAt w2 a0 [s0] := (hst.at.below k1).below b2
      have hso : ∃ b o, a0 = some ⟨b, o, none⟩ ∧ b < w1.heap.size ∧ w2.cell? ⟨b, o, none⟩ = some (.string s0) := by
        rcases hst with h | ⟨b, o, e, h1, h2, h3⟩
        · cases h
        · exact ⟨b, o, e, h2, (((k1.mono (Nat.le_refl _)).cell (p := ⟨b, o, none⟩) h2).symm ▸ (b2.cell (p := ⟨b, o, none⟩) (by show b < _; omega))).trans (h3 0 (by simp))⟩
      have hstr : StrOff ((w2.alloc (.cells #[.int .u32 1, .int .u64 1, .int .i64 1, .string ⟨#[]⟩, .slice a0 1 c0] 29)).alloc (.cells #[] 41)) (.slice (some ⟨w2.heap.size + 1, 0, none⟩) 0 0) w1.heap.size a0 s0 := by
        obtain ⟨b, o, e, h1, h2⟩ := hso
        refine ⟨b, o, e, by simp; omega, fun q => ?_, by omega, (b3.cell (p := ⟨b, o, none⟩) (by show b < _; omega)).trans h2⟩
        have := Option.some.inj q
        simp only at this
        omega
      refine ⟨⟨(B1.trans (b2.mono (by omega))).trans (b3.mono (by omega)), by omega, by simp; omega, by omega, by simp; omega, by omega, m2.below b3 z2, hr2, hstr, hstr, by simpa [opsC] using hd, ?_⟩, rfl, (fun _ h => by cases h), by omega⟩
      intro g hg
      have := Option.some.inj hg
      simp only at this
      omega
    obtain ⟨V, HV⟩ : ∃ V, Hid (V = (w2.alloc (.cells #[.int .u32 1, .int .u64 1, .int .i64 1, .string ⟨#[]⟩, .slice a0 1 c0] 29)).alloc (.cells #[] 41)) := ⟨_, rfl⟩
    rw [← HV.out] at HSB0 ⊢
    clear HV m1 m2 k1 z1 z2 B1 b1 b2 hst x0 x1 x2 x3 x4 HW1 HBG HAW
    generalize w1.heap.size = M at *
    generalize w2.heap.size = Wb at *
    go_loopw [9, 10] (fun v i wr => ∃ (k : Nat) (L : List Nat) (s : ByteArray) (l : Nat) (a : Option Addr) (c : Nat), k ≤ n ∧ k ≤ 40 ∧ i = .int .i64 k ∧ L.length ≤ k ∧ Hid (SBAt w wr M Wb s0 s l a0 a c0 c L v ∧ s = endS s0 L ∧ AllPg L ∧ l < 18446744073709551616)) (fun _ i _ => 40 - (intOf i).toNat)
    case atStart => exact ⟨0, [], s0, 1, a0, c0, by omega, by omega, rfl, Nat.le_refl _, HSB0⟩
    case round =>
      obtain ⟨k, L, s, l, a, c, hk1, hk2, rfl, hLk, HB⟩ := hrel
      clear HSB0
      by_cases hlt : k < n ∧ k < 40
      · obtain ⟨l1, l2⟩ := hlt
        have l1' : (k : Int) < n := by omega
        have l2' : (k : Int) < 40 := by omega
        obtain ⟨lb, lo, rfl, hlb, hcell⟩ : ∃ b o, la = some ⟨b, o, none⟩ ∧ b < w.heap.size ∧ ∀ i, i < n → w.cell? ⟨b, o + i, none⟩ = some (.int .i64 (Z i)) ∧ -9223372036854775808 ≤ Z i ∧ Z i ≤ 9223372036854775807 := by
          rcases HZ.out.2 with h | h
          · omega
          · exact h
        obtain ⟨q0, hq1, hq2⟩ := hcell k l1
        clear hcell
        generalize Z k = X at *
        have HSS : Hid (s.size = 256) := by rw [HB.out.2.1]; exact endS_size HS0.out L HB.out.2.2.1
        have HLI : Hid (∀ wx, Below wr.heap.size wr wx → (mapV l s).Lies wx a) := fun wx k => Fits.lies (mapV_fits l s HB.out.2.2.2 HSS.out) (HB.out.1.str.at.below k)
        have hs1 := HB.out.1.bel.size
        have hM2 := HB.out.1.M2
        -- what Give and Take tell
        have HGI : Hid (∀ wx, Below wr.heap.size wr wx → Calls Try.prog 9 #[.agg #[.int .u32 1, .int .u64 l, .int .i64 1, .string ⟨#[]⟩, .slice a 1 c], .int .u32 (X % 64)] wx fun e w' => ∃ (E : Int) (m : Nat) (kk ii : Int) (S T : ByteArray), e = .returned (.tuple #[.agg #[.int .i64 kk, .int .i64 ii, .string S, .string T], .int .i64 E]) ∧ Below wx.heap.size wx w' ∧ (E = 0 → 1 ≤ m ∧ m ≤ 2048 ∧ [.int .i64 kk, .int .i64 ii, .string S, .string T] = ocell s m)) := by
          intro wx kx
          have hx : ((X % 64).toNat : Int) = X % 64 := by omega
          have := give_any (c := c) (HLI.out wx kx) (X % 64).toNat (by omega)
          rw [hx] at this
          obtain ⟨kk, ii, S, T, hv⟩ := told_agg (giveE (mapV l s) (X % 64).toNat) (mapV l s) (X % 64).toNat
          rw [hv] at this
          refine this.mono ?_
          rintro e w' ⟨rfl, b⟩
          refine ⟨_, (X % 64).toNat, kk, ii, S, T, rfl, b, fun hE => ?_⟩
          have hg : tkB s (X % 64).toNat = true := by
            unfold giveE at hE
            rw [mapV_is l s HSS.out] at hE
            by_cases c : tkB s (X % 64).toNat = true
            · exact c
            · rw [if_pos rfl, if_neg (by rw [mapV_slot]; exact c)] at hE; cases hE
          refine ⟨(tk_page hg).1, (tk_page hg).2, ?_⟩
          rw [hE] at hv
          have : Value.agg #[.int .i64 kk, .int .i64 ii, .string S, .string T] = turnV s (X % 64).toNat := hv.symm
          unfold turnV at this
          have h2 := Value.agg.inj this
          exact congrArg Array.toList h2
        have HTA : Hid (∀ wx, Below wr.heap.size wr wx → Calls Try.prog 11 #[.agg #[.int .u32 1, .int .u64 l, .int .i64 1, .string ⟨#[]⟩, .slice a 1 c], .int .i64 2048] wx fun e w' => ∃ (E : Int) (m : Nat) (kk ii : Int) (S T : ByteArray), e = .returned (.tuple #[.int .u32 m, .agg #[.int .i64 kk, .int .i64 ii, .string S, .string T], .int .i64 E]) ∧ Below wx.heap.size wx w' ∧ (E = 0 → 1 ≤ m ∧ m ≤ 2048 ∧ [.int .i64 kk, .int .i64 ii, .string S, .string T] = ocell s m)) := by
          intro wx kx
          have := take_map (c := c) (HLI.out wx kx) 2048 (mapV_is l s HSS.out) (by omega) (by omega)
          obtain ⟨kk, ii, S, T, hv⟩ := told_agg (takeE (mapV l s) 2048) (mapV l s) (takeN (mapV l s) 2048)
          rw [hv] at this
          refine this.mono ?_
          rintro e w' ⟨rfl, b⟩
          refine ⟨_, takeN (mapV l s) 2048, kk, ii, S, T, rfl, b, fun hE => ?_⟩
          have hg : takeN (mapV l s) 2048 ≠ 0 := by
            intro h0
            unfold takeE at hE
            rw [mapV_is l s HSS.out, h0] at hE
            simp at hE
          have hr := freeF_range _ _ _ hg
          have hrl := roomN_le 2048
          refine ⟨by unfold takeN at hg ⊢; omega, by unfold takeN; omega, ?_⟩
          rw [hE] at hv
          have : Value.agg #[.int .i64 kk, .int .i64 ii, .string S, .string T] = turnV s (takeN (mapV l s) 2048) := hv.symm
          unfold turnV at this
          have h2 := Value.agg.inj this
          exact congrArg Array.toList h2
        obtain ⟨W, HW⟩ : ∃ W, Hid (W = wr.alloc (.cells #[.int .i64 0, .int .i64 0, .string ⟨#[]⟩, .string ⟨#[]⟩] 41)) := ⟨_, rfl⟩
        have bW : Below wr.heap.size wr W := by rw [HW.out]; exact (Below.refl _ _).alloc (Nat.le_refl _) _
        have hO : RowV W wr.heap.size 4 (four (.int .i64 0) (.int .i64 0) (.string ⟨#[]⟩) (.string ⟨#[]⟩)) := by rw [HW.out]; exact RowV.four_new _ _ _ _ _ _
        have zW : wr.heap.size < W.heap.size := by rw [HW.out]; simp
        have hBW := HB.out.1.below bW
        obtain ⟨x0, x1, x2, x3, x4⟩ := hBW.cur.cells5
        have q0' := (hBW.bel.cell (p := ⟨lb, lo + k, none⟩) hlb).trans q0
        have q0w := q0'
        rw [HW.out] at q0w
        go_upto_if 52 with fail
        rw [← HW.out]
        clear HW q0w hBW
        have hkeep : ∀ wy : World, Below wr.heap.size wr wy →
            (wy.cell? ⟨M, 0, none⟩ = some (.int .u32 1) ∧ wy.cell? ⟨M, 1, none⟩ = some (.int .u64 l) ∧ wy.cell? ⟨M, 2, none⟩ = some (.int .i64 1) ∧ wy.cell? ⟨M, 3, none⟩ = some (.string ⟨#[]⟩) ∧ wy.cell? ⟨M, 4, none⟩ = some (.slice a 1 c) ∧ wy.cell? ⟨lb, lo + k, none⟩ = some (.int .i64 X)) := by
          intro wy b
          have h := HB.out.1.below b
          obtain ⟨h0, h1, h2, h3, h4⟩ := h.cur.cells5
          exact ⟨h0, h1, h2, h3, h4, (h.bel.cell (p := ⟨lb, lo + k, none⟩) hlb).trans q0⟩
        have ne1 : M ≠ wr.heap.size := by omega
        have ne2 : lb ≠ wr.heap.size := by omega
        go_cut [12] from 52 to 69 (fun ev wx => ∃ (E : Int) (m : Nat) (kk ii : Int) (S T : ByteArray), ev = .int .i64 E ∧ Below wr.heap.size wr wx ∧ wr.heap.size < wx.heap.size ∧ RowV wx wr.heap.size 4 (four (.int .i64 kk) (.int .i64 ii) (.string S) (.string T)) ∧ Hid (E = 0 → 1 ≤ m ∧ m ≤ 2048 ∧ [.int .i64 kk, .int .i64 ii, .string S, .string T] = ocell s m))
        case first =>
          by_cases h3 : X.tmod 3 = 0
          · have h3' : (X.tmod 3 == 0) = true := by rw [beq_iff_eq]; exact h3
            clear h3
            have hand := i64_and63 X
            have hu : IntKind.u32.wrap (X % 64) = X % 64 := by rw [IntKind.wrap_u32]; omega
            have hOd : RowV W.drew wr.heap.size 4 (four (.int .i64 0) (.int .i64 0) (.string ⟨#[]⟩) (.string ⟨#[]⟩)) := hO
            have zWd : wr.heap.size < W.drew.heap.size := zW
            clear HTA
            go_upto_region 14 with fail
            go_region_held3 (fun wy => wy.cell? ⟨M, 0, none⟩ = some (.int .u32 1) ∧ wy.cell? ⟨M, 1, none⟩ = some (.int .u64 l) ∧ wy.cell? ⟨M, 2, none⟩ = some (.int .i64 1) ∧ wy.cell? ⟨M, 3, none⟩ = some (.string ⟨#[]⟩) ∧ wy.cell? ⟨M, 4, none⟩ = some (.slice a 1 c) ∧ wy.cell? ⟨lb, lo + k, none⟩ = some (.int .i64 X))
              (first | go_keep | exact hkeep _ c6 | exact hkeep _ (below_set4 c6 (Nat.le_refl _) _ _ _ _))
              (first | (go_at_call 9; refine (HGI.out W.drew (bW.trans ((Below.refl _ _).drew))).mono ?_; rintro e w6 ⟨E, m, kk, ii, S, T, rfl, b6, hE⟩; have c6 : Below wr.heap.size wr w6 := (bW.drew).trans (b6.mono (by show wr.heap.size ≤ W.heap.size; omega)); have o6 := hOd.below b6 zWd; have z6 := Nat.lt_of_lt_of_le zWd b6.size; obtain ⟨y0, y1, y2, y3⟩ := o6.cells4; obtain ⟨g0, g1, g2, g3⟩ := o6.open4))
            go_wp2_with fail
            go_meet
            case rel => exact ⟨E, m, kk, ii, S, T, rfl, below_set4 c6 (Nat.le_refl _) _ _ _ _, by simpa [store4] using z6, o6.put4 _ _ _ _, hE⟩
          · have h3' : (X.tmod 3 == 0) = false := by rw [beq_eq_false_iff_ne]; exact h3
            clear h3 HGI
            go_wp2_with fail
            refine (HTA.out _ bW).mono ?_
            rintro e w6 ⟨E, m, kk, ii, S, T, rfl, b6, hE⟩
            have c6 : Below wr.heap.size wr w6 := bW.trans (b6.mono (by omega))
            have o6 := hO.below b6 zW
            have z6 := Nat.lt_of_lt_of_le zW b6.size
            obtain ⟨y0, y1, y2, y3⟩ := o6.cells4
            obtain ⟨g0, g1, g2, g3⟩ := o6.open4
            go_wp2_with fail
            go_meet
            case rel => exact ⟨E, m, kk, ii, S, T, rfl, below_set4 c6 (Nat.le_refl _) _ _ _ _, by simpa [store4] using z6, o6.put4 _ _ _ _, hE⟩
        case rest =>
          obtain ⟨E, m, kk, ii, S, T, rfl, bc, zc, hOc, HE⟩ := hcut
          have HBc : Hid (SBAt w wc M Wb s0 s l a0 a c0 c L u9 ∧ s = endS s0 L ∧ AllPg L ∧ l < 18446744073709551616) := ⟨HB.out.1.below bc, HB.out.2⟩
          have HOF : Hid (∀ g, u9.ownBlock = some g → g < wr.heap.size) := fun g hg => (HB.out.1.own.lt g hg).2
          clear HB hkeep HGI HTA HLI x0 x1 x2 x3 x4 q0' hO zW bW
          by_cases hE0 : E = 0
          · subst hE0
            obtain ⟨hm1, hm2, hmc⟩ := HE.out rfl
            have HAP : Hid (∀ wx, Below wc.heap.size wc wx → Calls Try.prog 12 #[.agg #[.int .u32 1, .int .u64 l, .int .i64 1, .string ⟨#[]⟩, .slice a 1 c], .agg #[.int .i64 kk, .int .i64 ii, .string S, .string T], .int .u64 2] wx fun e w' => ∃ a' c', e = .returned (.tuple #[.agg #[.int .u32 1, .int .u64 2, .int .i64 1, .string ⟨#[]⟩, .slice a' 1 c'], .int .i64 0]) ∧ Below wx.heap.size wx w' ∧ StrsFrom wx.heap.size w' a' [flipS s m]) := by
              intro wx kx
              have := apply_turn (c := c) 2 m HBc.out.2.2.2 HSS.out hm2 (HBc.out.1.str.at.below kx)
              have hv : turnV s m = .agg #[.int .i64 kk, .int .i64 ii, .string S, .string T] := by
                unfold turnV
                unfold ocell at hmc
                simp only [List.cons.injEq] at hmc
                obtain ⟨e1, e2, e3, e4, _⟩ := hmc
                rw [e1, e2, e3, e4]
              rw [hv] at this
              exact this
            have HMC : Hid ([.int .i64 kk, .int .i64 ii, .string S, .string T] = ocell s m) := hmc
            clear HE hmc
            obtain ⟨x0, x1, x2, x3, x4⟩ := HBc.out.1.cur.cells5
            obtain ⟨y0, y1, y2, y3⟩ := hOc.cells4
            go_wp2_with fail
            refine (HAP.out _ (Below.refl _ _)).mono ?_
            rintro e w7 ⟨a', c', rfl, b7, hs7⟩
            obtain ⟨V7, HV7⟩ : ∃ V7, Hid (V7 = w7.alloc (.cells #[.int .u32 1, .int .u64 2, .int .i64 1, .string ⟨#[]⟩, .slice a' 1 c'] 29)) := ⟨_, rfl⟩
            have k7 : Below w7.heap.size w7 V7 := by rw [HV7.out]; exact (Below.refl _ _).alloc (Nat.le_refl _) _
            have hN : RowV V7 w7.heap.size 5 (five (.int .u32 1) (.int .u64 2) (.int .i64 1) (.string ⟨#[]⟩) (.slice a' 1 c')) := by rw [HV7.out]; exact RowV.five_new _ _ _ _ _ _ _
            have zN : w7.heap.size < V7.heap.size := by rw [HV7.out]; simp
            have c7 := below_chain b7 k7
            have s7 := b7.size
            have HB7 : Hid (SBAt w V7 M Wb s0 s l a0 a c0 c L u9 ∧ s = endS s0 L ∧ AllPg L ∧ l < 18446744073709551616) := ⟨HBc.out.1.below c7, HBc.out.2⟩
            have hO7 := hOc.below c7 zc
            have HS7 : Hid (StrsFrom wc.heap.size V7 a' [flipS s m]) := hs7.below k7
            go_upto_region 20 with fail
            rw [← HV7.out]
            clear HV7 HBc hOc x0 x1 x2 x3 x4 y0 y1 y2 y3 hs7 b7 k7 c7 HAP
            obtain ⟨A, HA⟩ : ∃ A, Hid (A = V7.alloc (.cells #[.int .i64 kk, .int .i64 ii, .string S, .string T] 41)) := ⟨_, rfl⟩
            have bA : Below V7.heap.size V7 A := by rw [HA.out]; exact (Below.refl _ _).alloc (Nat.le_refl _) _
            have HO1 : Hid (A.drew.ownsRow 0 41 4 u9 L.length (opsC s0 L)) := owns_same HB7.out.1.own fun g hg => bA.drew.block g (HB7.out.1.own.lt g hg).2
            have HN1 : Hid (∀ j u, [Value.int .i64 kk, Value.int .i64 ii, Value.string S, Value.string T][j]? = some u → A.drew.cell? ((⟨V7.heap.size, 0, none⟩ : Addr).add j) = some u) := by
              rw [HA.out]
              exact World.news_of_block (w := (V7.alloc (.cells #[.int .i64 kk, .int .i64 ii, .string S, .string T] 41)).drew) (heap_alloc_new V7 _)
            have H1C : Hid (∀ u ∈ [Value.int .i64 kk, Value.int .i64 ii, Value.string S, Value.string T], u.oneCell' = true) := by
              intro u hu
              simp at hu
              rcases hu with rfl | rfl | rfl | rfl <;> rfl
            have HX : Hid (∀ w8 : World, A.drew.grownBy w8 u9.ownBlock → RowV w8 w7.heap.size 5 (five (.int .u32 1) (.int .u64 2) (.int .i64 1) (.string ⟨#[]⟩) (.slice a' 1 c')) ∧ RowV w8 M 5 (five (.int .u32 1) (.int .u64 l) (.int .i64 1) (.string ⟨#[]⟩) (.slice a 1 c))) := by
              intro w8 hg
              have hsz := bA.size
              have kb : ∀ k, k < V7.heap.size → u9.ownBlock ≠ some k → w8.heap[k]? = V7.heap[k]? := fun k hk n1 => (hg.block k (by show k < A.heap.size; omega) (fun e => n1 e.symm)).trans (bA.block k hk)
              have row : ∀ b (f : Nat → Value), b < V7.heap.size → u9.ownBlock ≠ some b → RowV V7 b 5 f → RowV w8 b 5 f := fun b f hb n1 hr j hj =>
                ⟨(World.cell?_of_block (w := V7) (a := ⟨b, j, none⟩) (kb b hb n1)).trans (hr j hj).1, (World.frozen?_of_block (w := V7) (a := ⟨b, j, none⟩) (kb b hb n1)).trans (hr j hj).2⟩
              exact ⟨row _ _ zN (fun e => by have := HOF.out _ e; omega) hN, row _ _ HB7.out.1.M2 (fun e => (HB7.out.1.off _ e).2.1 rfl) HB7.out.1.cur⟩
            have hL40 : L.length ≤ 40 := by omega
            obtain ⟨y0, y1, y2, y3⟩ := hO7.cells4
            obtain ⟨n0, n1, n2, n3, n4⟩ := hN.cells5
            obtain ⟨p0, p1, p2, p3, p4⟩ := (hN.below bA zN).cells5
            have bA' := bA
            rw [HA.out] at HO1 HN1 p0 p1 p2 p3 p4 HX bA'
            go_region_law (first | (refine step_append_lies _ (by rfl) _ _ 33 (by rfl) 0 41 i0 _ 4 48 Try.underlying33 hi hz0 hz1 hz2 (by rfl) (by decide) u9 L.length (opsC s0 L) (by rfl) HO1.out ⟨V7.heap.size, 0, none⟩ 1 1 [.int .i64 kk, .int .i64 ii, .string S, .string T] (by rfl) (by rfl) HN1.out H1C.out (by decide) (by unfold maxLen; omega) (by omega) (Nat.zero_le _) _ (by rfl) ?_; intro g8 cap8 w8 hown8 hgrow8 hloc8 hlt8; have hx8 := HX.out _ hgrow8; obtain ⟨r8, q8⟩ := hx8; obtain ⟨r0, r1, r2, r3, r4⟩ := r8.cells5; obtain ⟨z0, z1, z2, z3, z4⟩ := q8.cells5; obtain ⟨f0, f1, f2, f3, f4⟩ := q8.open5))
            all_goals
              have HN8 : Hid (SBAt w (store5 w8 M (.int .u32 1) (.int .u64 2) (.int .i64 1) (.string ⟨#[]⟩) (.slice a' 1 c')) M Wb s0 (flipS s m) 2 a0 a' c0 c' (L ++ [m]) (.slice (some ⟨g8, 0, none⟩) (L.length + 1) cap8) ∧ flipS s m = endS s0 (L ++ [m]) ∧ AllPg (L ++ [m]) ∧ 2 < 18446744073709551616) := by
                refine ⟨HB7.out.1.push m HB7.out.2.1 bA'.drew (by rw [← HMC.out]; exact hown8) hgrow8 ?_ ?_, by rw [endS_snoc, ← HB7.out.2.1], ?_, by omega⟩
                · rcases hloc8 with e | e
                  · exact .inl e.symm
                  · exact .inr ⟨g8, rfl, by rw [e]; simp⟩
                · exact StrOff.of HS7.out (by omega) (fun g hg => by have := HOF.out g hg; omega)
                · intro x hx
                  rcases List.mem_append.1 hx with hx | hx
                  · exact HB7.out.2.2.1 x hx
                  · rw [List.mem_singleton.1 hx]; exact ⟨hm1, hm2⟩
              unfold store5 at HN8
              clear HX HO1 HN1 H1C HMC HB7 HS7 hown8 hgrow8 hloc8 hlt8 r8 q8 r0 r1 r2 r3 r4 z0 z1 z2 z3 z4 f0 f1 f2 f3 f4 y0 y1 y2 y3 n0 n1 n2 n3 n4 p0 p1 p2 p3 p4 hN hO7 bA bA' HA
              go_wp2_with fail
              exact ⟨⟨k + 1, L ++ [m], flipS s m, 2, a', c', by omega, by omega, by go_num, by simp; omega, HN8⟩, by simp [intOf]; omega⟩
          · have hEb : (E != 0) = true := by simpa using hE0
            go_wp2_with fail
            go_roundw
            case rel => exact ⟨k + 1, L, s, l, a, c, by omega, by omega, by go_num, by omega, HBc⟩
            case measure => simp [intOf]; omega
      · have hex : ¬ (k : Int) < n ∨ (k : Int) < n ∧ ¬ (k : Int) < 40 := by omega
        obtain ⟨da, dc, rfl, hd⟩ := owns_form HB.out.1.own
        rcases hex with hex | ⟨hex0, hex⟩
        all_goals
          go_wp2_with fail
          go_loopw [15] (fun i wr => ∃ (j : Nat) (jj : Int) (s : ByteArray) (l : Nat) (a : Option Addr) (c : Nat), j ≤ L.length ∧ jj = (j : Int) - 1 ∧ i = .int .i64 jj ∧ Hid (SBAt w wr M Wb s0 s l a0 a c0 c L (.slice da L.length dc) ∧ s = endS s0 (L.take j) ∧ AllPg L ∧ l < 18446744073709551616)) (fun i _ => (intOf i + 1).toNat)
          case atStart => exact ⟨L.length, _, s, l, a, c, Nat.le_refl _, rfl, by go_num, HB.out.1, by rw [List.take_length]; exact HB.out.2.1, HB.out.2.2.1, HB.out.2.2.2⟩
          case round =>
            clear HB hd
            obtain ⟨j, jj, s', l', a', c', hj, hjj, rfl, HB⟩ := hrel
            by_cases hj0 : j = 0
            · subst hj0
              obtain rfl : jj = -1 := by omega
              clear hjj
              have HSA : Hid (∀ wx, Below wr.heap.size wr wx → Calls Try.prog 19 #[.agg #[.int .u32 1, .int .u64 l', .int .i64 1, .string ⟨#[]⟩, .slice a' 1 c'], .agg #[.int .u32 1, .int .u64 1, .int .i64 1, .string ⟨#[]⟩, .slice a0 1 c0]] wx fun e w' => e = .returned (.bool true) ∧ Below wx.heap.size wx w') := fun wx hb => by
                have hs : s' = s0 := HB.out.2.1
                have h1 : sameB (mapV l' s0) (mapV 1 s0) = true := sameB_of ⟨rfl, rfl, rfl, rfl⟩
                have st1 := HB.out.1.str.at.below hb
                rw [hs] at st1
                have := same_any (mapV l' s0) (mapV 1 s0) a' a0 c' c0 wx (SheetV.Fits.ok (mapV_fits l' s0 HB.out.2.2.2 HS0.out) st1) (SheetV.Fits.ok (mapV_fits 1 s0 (by omega) HS0.out) (HB.out.1.str0.at.below hb))
                rw [h1] at this
                exact this
              obtain ⟨x0, x1, x2, x3, x4⟩ := HB.out.1.cur.cells5
              obtain ⟨y0, y1, y2, y3, y4⟩ := HB.out.1.was.cells5
              go_wp2_with fail
              refine (HSA.out _ (Below.refl _ _)).mono ?_
              rintro e w10 ⟨rfl, b10⟩
              go_wp2
              go_ret
              exact ⟨rfl, below_chain HB.out.1.bel b10⟩
            · obtain ⟨m, rfl⟩ : ∃ m, j = m + 1 := ⟨j - 1, by omega⟩
              obtain rfl : jj = (m : Int) := by omega
              clear hjj hj0
              have hmH : m < L.length := by omega
              have hm1 : (0 : Int) ≤ (m : Int) := by omega
              have hm2 : (m : Int) < (L.length : Int) := by omega
              obtain ⟨t, HT⟩ : ∃ t, Hid (t = endS s0 (L.take m)) := ⟨_, rfl⟩
              obtain ⟨q, HQ⟩ : ∃ q, Hid (q = L[m]) := ⟨L[m], rfl⟩
              have HSP : Hid (s' = flipS t q) := by show _ = _; rw [HT.out, HQ.out, ← endS_take L m hmH]; exact HB.out.2.1
              have HTS : Hid (t.size = 256) := by rw [HT.out]; exact endS_size HS0.out _ (fun x hx => HB.out.2.2.1 x (List.mem_of_mem_take hx))
              have hq2 : q ≤ 2048 := by rw [HQ.out]; exact (HB.out.2.2.1 _ (List.getElem_mem _)).2
              obtain ⟨dg, hda, hdl, hdc⟩ : ∃ g, da = some ⟨g, 0, none⟩ ∧ g < wr.heap.size ∧ ∀ k u, (opsC s0 L)[k]? = some u → wr.cell? ⟨g, k, none⟩ = some u := by
                obtain ⟨a', c', e, h⟩ := owns_form HB.out.1.own
                cases e
                rcases h with h | h
                · omega
                · exact h
              subst hda
              obtain ⟨o, HO⟩ : ∃ o, Hid (o = turnO t q) := ⟨_, rfl⟩
              have hoc : ocell t q = [.int .i64 o.kind, .int .i64 o.at', .string o.S, .string o.old] := by rw [HO.out]; rfl
              have d0 : wr.cell? ⟨dg, m * 4, none⟩ = some (.int .i64 o.kind) := hdc (m * 4 + 0) _ ((opsC_at s0 L m 0 hmH (by omega)).trans (by rw [← HT.out, ← HQ.out, hoc]; rfl))
              have d1 : wr.cell? ⟨dg, m * 4 + 1, none⟩ = some (.int .i64 o.at') := hdc (m * 4 + 1) _ ((opsC_at s0 L m 1 hmH (by omega)).trans (by rw [← HT.out, ← HQ.out, hoc]; rfl))
              have d2 : wr.cell? ⟨dg, m * 4 + 2, none⟩ = some (.string o.S) := hdc (m * 4 + 2) _ ((opsC_at s0 L m 2 hmH (by omega)).trans (by rw [← HT.out, ← HQ.out, hoc]; rfl))
              have d3 : wr.cell? ⟨dg, m * 4 + 3, none⟩ = some (.string o.old) := hdc (m * 4 + 3) _ ((opsC_at s0 L m 3 hmH (by omega)).trans (by rw [← HT.out, ← HQ.out, hoc]; rfl))
              have HIV : Hid (∀ wx, Calls Try.prog 18 #[o.val] wx fun e w' => e = .returned (invO o).val ∧ Below wx.heap.size wx w') := fun wx => inverse_any o wx (by rw [HO.out]; exact turnO_ok t q hq2)
              have HAP : Hid (∀ wx, Below wr.heap.size wr wx → Calls Try.prog 12 #[.agg #[.int .u32 1, .int .u64 l', .int .i64 1, .string ⟨#[]⟩, .slice a' 1 c'], (invO o).val, .int .u64 3] wx fun e w' => ∃ ar cr, e = .returned (.tuple #[.agg #[.int .u32 1, .int .u64 3, .int .i64 1, .string ⟨#[]⟩, .slice ar 1 cr], .int .i64 0]) ∧ Below wx.heap.size wx w' ∧ StrsFrom wx.heap.size w' ar [t]) := fun wx hb => by
                have st := HB.out.1.str.at.below hb
                rw [HSP.out] at st
                have := apply_inv (c := c') 3 q HB.out.2.2.2 (by omega) HTS.out hq2 st
                rw [← HO.out] at this
                exact this
              generalize invO o = x at *
              clear hdc hoc HO
              simp only [OpV.val] at HIV HAP
              obtain ⟨z0, z1, z2, z3, z4⟩ := HB.out.1.cur.cells5
              have hM2 := HB.out.1.M2
              have hkeep : ∀ wy : World, Below wr.heap.size wr wy →
                  (wy.cell? ⟨M, 0, none⟩ = some (.int .u32 1) ∧ wy.cell? ⟨M, 1, none⟩ = some (.int .u64 l') ∧ wy.cell? ⟨M, 2, none⟩ = some (.int .i64 1) ∧ wy.cell? ⟨M, 3, none⟩ = some (.string ⟨#[]⟩) ∧ wy.cell? ⟨M, 4, none⟩ = some (.slice a' 1 c') ∧
                    wy.cell? ⟨dg, m * 4, none⟩ = some (.int .i64 o.kind) ∧ wy.cell? ⟨dg, m * 4 + 1, none⟩ = some (.int .i64 o.at') ∧ wy.cell? ⟨dg, m * 4 + 2, none⟩ = some (.string o.S) ∧ wy.cell? ⟨dg, m * 4 + 3, none⟩ = some (.string o.old)) := by
                intro wy b
                exact ⟨(b.cell (p := ⟨M, 0, none⟩) hM2).trans z0, (b.cell (p := ⟨M, 1, none⟩) hM2).trans z1, (b.cell (p := ⟨M, 2, none⟩) hM2).trans z2, (b.cell (p := ⟨M, 3, none⟩) hM2).trans z3, (b.cell (p := ⟨M, 4, none⟩) hM2).trans z4,
                  (b.cell (p := ⟨dg, m * 4, none⟩) hdl).trans d0, (b.cell (p := ⟨dg, m * 4 + 1, none⟩) hdl).trans d1, (b.cell (p := ⟨dg, m * 4 + 2, none⟩) hdl).trans d2, (b.cell (p := ⟨dg, m * 4 + 3, none⟩) hdl).trans d3⟩
              have ne1 : M ≠ wr.heap.size := by omega
              have ne2 : dg ≠ wr.heap.size := by omega
              go_upto_region 24 with fail
              go_cut [16, 17] from 92 to 101 (fun np ev wx => ∃ (N : Nat) (ar : Option Addr) (cr : Nat), np = .pointer (some ⟨N, 0, none⟩) ∧ ev = .int .i64 0 ∧ Below wr.heap.size wr wx ∧ RowV wx N 5 (five (.int .u32 1) (.int .u64 3) (.int .i64 1) (.string ⟨#[]⟩) (.slice ar 1 cr)) ∧ wr.heap.size ≤ N ∧ N < wx.heap.size ∧ Hid (StrsFrom wr.heap.size wx ar [t]))
              case first =>
                go_region_held3 (fun wy => wy.cell? ⟨M, 0, none⟩ = some (.int .u32 1) ∧ wy.cell? ⟨M, 1, none⟩ = some (.int .u64 l') ∧ wy.cell? ⟨M, 2, none⟩ = some (.int .i64 1) ∧ wy.cell? ⟨M, 3, none⟩ = some (.string ⟨#[]⟩) ∧ wy.cell? ⟨M, 4, none⟩ = some (.slice a' 1 c') ∧
                    wy.cell? ⟨dg, m * 4, none⟩ = some (.int .i64 o.kind) ∧ wy.cell? ⟨dg, m * 4 + 1, none⟩ = some (.int .i64 o.at') ∧ wy.cell? ⟨dg, m * 4 + 2, none⟩ = some (.string o.S) ∧ wy.cell? ⟨dg, m * 4 + 3, none⟩ = some (.string o.old))
                  (first | go_keep | exact hkeep _ c6 | exact hkeep _ (c6.alloc (by omega) _) | exact hkeep _ (below_set5 c6 (by omega) _ _ _ _ _) | exact hkeep _ c5 | exact hkeep _ (c5.alloc (by omega) _))
                  (first
                    | (go_at_call 18; refine (HIV.out (wr.drew.alloc (.cells #[.int .u32 0, .int .u64 0, .int .i64 0, .string ⟨#[]⟩, .slice none 0 0] 29))).mono ?_; rintro e w5 ⟨rfl, b5⟩; have c5 : Below wr.heap.size wr w5 := (((Below.refl _ _).drew).alloc (Nat.le_refl _) _).trans (b5.mono (by simp)); have hn5 : RowV w5 wr.heap.size 5 (five (.int .u32 0) (.int .u64 0) (.int .i64 0) (.string ⟨#[]⟩) (.slice none 0 0)) := (RowV.five_new wr.drew (.int .u32 0) (.int .u64 0) (.int .i64 0) (.string ⟨#[]⟩) (.slice none 0 0) 29).below b5 (by simp); have t5 : wr.heap.size < w5.heap.size := Nat.lt_of_lt_of_le (by simp) b5.size)
                    | (go_at_call 18; refine (HIV.out wr.drew).mono ?_; rintro e w5 ⟨rfl, b5⟩; have c5 : Below wr.heap.size wr w5 := ((Below.refl _ _).drew).trans b5; have t5' : wr.heap.size ≤ w5.heap.size := b5.size)
                    | (go_at_call 12; refine (HAP.out (w5.alloc (.cells #[.int .u32 0, .int .u64 0, .int .i64 0, .string ⟨#[]⟩, .slice none 0 0] 29)) (c5.alloc (by omega) _)).mono ?_; rintro e w6 ⟨ar, cr, rfl, b6, hr⟩; have c6 : Below wr.heap.size wr w6 := (c5.alloc (by omega) _).trans (b6.mono (by simp; omega)); have hn6 : RowV w6 w5.heap.size 5 (five (.int .u32 0) (.int .u64 0) (.int .i64 0) (.string ⟨#[]⟩) (.slice none 0 0)) := (RowV.five_new w5 (.int .u32 0) (.int .u64 0) (.int .i64 0) (.string ⟨#[]⟩) (.slice none 0 0) 29).below b6 (by simp); have t6 : w5.heap.size < w6.heap.size := Nat.lt_of_lt_of_le (by simp) b6.size; obtain ⟨n0, n1, n2, n3, n4⟩ := hn6.cells5; obtain ⟨m0, m1, m2, m3, m4⟩ := hn6.open5)
                    | (go_at_call 12; refine (HAP.out w5 c5).mono ?_; rintro e w6 ⟨ar, cr, rfl, b6, hr⟩; have c6 : Below wr.heap.size wr w6 := c5.trans (b6.mono (by omega)); have hn6 := hn5.below b6 t5; have t6 := Nat.lt_of_lt_of_le t5 b6.size; obtain ⟨n0, n1, n2, n3, n4⟩ := hn6.cells5; obtain ⟨m0, m1, m2, m3, m4⟩ := hn6.open5)
                    | (go_at_call 12; refine (HAP.out w5 c5).mono ?_; rintro e w6 ⟨ar, cr, rfl, b6, hr⟩; have c6 : Below wr.heap.size wr w6 := c5.trans (b6.mono (by omega)); have t6' : wr.heap.size ≤ w6.heap.size := by have := b6.size; omega))
                · go_wp2_with fail
                  go_meet
                  case rel => exact ⟨w6.heap.size, ar, cr, rfl, rfl, c6.alloc t6' _, RowV.five_new w6 _ _ _ _ _ _, t6', by simp, (hr.mono t5').below ((Below.refl _ _).alloc (Nat.le_refl _) _)⟩
                · go_wp2_with fail
                  go_meet
                  case rel => exact ⟨w5.heap.size, ar, cr, rfl, rfl, below_set5 c6 t5' _ _ _ _ _, hn6.set5 _ _ _ _ _, t5', by simpa [store5] using t6, (hr.store5 (b := w5.heap.size) (by simp) _ _ _ _ _).mono (by simp; omega)⟩
                · go_wp2_with fail
                  go_meet
                  case rel => exact ⟨wr.heap.size, ar, cr, rfl, rfl, below_set5 c6 (Nat.le_refl _) _ _ _ _ _, hn6.set5 _ _ _ _ _, Nat.le_refl _, by simpa [store5] using t6, (hr.store5 (b := wr.heap.size) (by omega) _ _ _ _ _).mono (by omega)⟩
              case rest =>
                obtain ⟨N, ar, cr, rfl, rfl, b6, hn6, hN1, hN2, HSX⟩ := hcut
                have h6 := HB.out.1.below b6
                have HB6 : Hid (SBAt w (store5 wc M (.int .u32 1) (.int .u64 3) (.int .i64 1) (.string ⟨#[]⟩) (.slice ar 1 cr)) M Wb s0 t 3 a0 ar c0 cr L (.slice (some ⟨dg, 0, none⟩) L.length dc) ∧ t = endS s0 (L.take m) ∧ AllPg L ∧ 3 < 18446744073709551616) := ⟨h6.put (StrOff.of HSX.out hM2 (fun g hg => (HB.out.1.own.lt g hg).2)), HT.out, HB.out.2.2.1, by omega⟩
                unfold store5 at HB6
                clear HB HAP HIV hkeep z0 z1 z2 z3 z4 d0 d1 d2 d3
                obtain ⟨n0, n1, n2, n3, n4⟩ := hn6.cells5
                obtain ⟨z0, z1, z2, z3, z4⟩ := h6.cur.cells5
                obtain ⟨m0, m1, m2, m3, m4⟩ := h6.cur.open5
                have neN : N ≠ M := by omega
                clear h6
                go_wp2_with fail
                exact ⟨⟨m, (m : Int) - 1, t, 3, ar, cr, by omega, rfl, by go_num, HB6⟩, by simp [intOf]⟩

end Go.Proofs.Ytkknglcckjhngaa
