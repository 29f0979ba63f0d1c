/-
  The walk of girderlaw07.SpacePlays.
-/
import Derived.Test.YtkknglcckjhngaaPlaysMemC
import Derived.Deep.CutRange
import Derived.Deep.RegionHeld3
namespace Go.Proofs.Ytkknglcckjhngaa
open Go.RowKit Go.Sort Go.Joins
set_option linter.unusedVariables false

/-- A slice of acts that was handed in: kind and number. -/
def IsActs7 (w : World) (a : Option Addr) (len : Nat) (A B : Nat → Int) : Prop :=
  len ≤ maxLen ∧ (len = 0 ∨ ∃ b o, a = some ⟨b, o, none⟩ ∧ b < w.heap.size ∧ ∀ i, i < len → w.cell? ⟨b, o + i * 2, none⟩ = some (.int .i64 (A i)) ∧ w.cell? ⟨b, o + i * 2 + 1, none⟩ = some (.int .i64 (B i)) ∧ -9223372036854775808 ≤ B i ∧ B i ≤ 9223372036854775807)

theorem told_ocell {l : Nat} {s : ByteArray} {m : Nat} {kk ii : Int} {S T : ByteArray} (h : toldO 0 (mapV l s) m = .agg #[.int .i64 kk, .int .i64 ii, .string S, .string T]) : [Value.int .i64 kk, .int .i64 ii, .string S, .string T] = ocell s m := by
  have : Value.agg #[.int .i64 kk, .int .i64 ii, .string S, .string T] = turnV s m := h.symm
  unfold turnV at this
  exact congrArg Array.toList (Value.agg.inj this)

set_option maxHeartbeats 6400000 in
set_option maxRecDepth 60000 in
theorem plays_walk (K : Nat) (hK1 : 1 ≤ K) (hK2 : K ≤ 2048) (la : Option Addr) (n lc : Nat) (A B : Nat → Int) (w : World) (hA : IsActs7 w la n A B) :
    Calls Try.prog 3 #[.int .i64 K, .slice la n lc] w fun e w' => e = .returned (.bool true) ∧ Below w.heap.size w w' := by
  have HZ : Hid (IsActs7 w la n A B) := hA
  have hnm := hA.1
  unfold maxLen at hnm
  clear hA
  have HBG : Hid (∀ wx, Calls Try.prog 6 #[.int .i64 K] wx fun e w' => ∃ a c, e = .returned (.tuple #[(mapV 1 (freshS K)).val a c, .bool true]) ∧ Below wx.heap.size wx w' ∧ StrsFrom (wx.heap.size + 1) w' a [freshS K]) := fun wx => begun_ok K wx hK1 (by omega)
  have HS0 : Hid ((freshS K).size = 256) := freshS_size K
  have HTK0 : Hid (∀ n, tkB (freshS K) n = decide (1 ≤ n ∧ n ≤ 2048 ∧ n ≤ K)) := fun n => fresh_tk K n
  have HAW : Hid (∀ wx, Calls Try.prog 7 #[] wx fun e w' => e = .returned (.bool true) ∧ Below wx.heap.size wx w') := fun wx => awake_any wx
  generalize freshS K = s0 at *
  simp only [SheetV.val, mapV, List.length_cons, List.length_nil, Nat.zero_add] at HBG
  have c1 : decide ((K : Int) < 1) = false := by simp; omega
  have c2 : decide (2048 < (K : Int)) = false := by simp; omega
  obtain ⟨iT, hiT, hzT⟩ := Option.map_eq_some_iff.1 zeroB_info
  simp only [Prod.mk.injEq] at hzT
  obtain ⟨hz0, hz1⟩ := hzT
  obtain ⟨ZB, HZB⟩ : ∃ ZB, Hid (zeroB = ZB) := ⟨_, rfl⟩
  have HZBU : Hid (Try.prog.built 37 [] = some ZB) := by rw [← HZB.out]; exact zeroB_built
  have HZSZ : Hid (ZB.size = 2050) := by rw [← HZB.out]; exact zeroB_size
  have HZON : Hid (ZB.all (·.oneCell') = true) := by rw [← HZB.out]; exact zeroB_one
  have HZAT : Hid (∀ n, n ≤ 2049 → ZB[n]? = some (.bool false)) := by rw [← HZB.out]; exact zeroB_at
  have HZI : Hid (iT.zero = some (.agg ZB)) := by rw [← HZB.out]; exact hz0
  have HZSI : Hid ((Try.prog.info? 37).map (·.size) = some ZB.size) := by rw [HZSZ.out, hiT]; show _ = _; simpa using hz1
  clear hz0 hz1 HZB
  go_enter Try.func3, Try.ntmps3
  go_wp2_with fail
  refine (HBG.out _).mono ?_
  rintro e w1 ⟨a0, c0, rfl, b1, hst⟩
  obtain ⟨W1, HW1⟩ : ∃ W1, Hid (W1 = w1.alloc (.cells #[.int .u32 1, .int .u64 1, .int .i64 1, .string ⟨#[]⟩, .slice a0 1 c0] 29)) := ⟨_, rfl⟩
  have m1 : RowV W1 w1.heap.size 5 (five (.int .u32 1) (.int .u64 1) (.int .i64 1) (.string ⟨#[]⟩) (.slice a0 1 c0)) := by rw [HW1.out]; exact RowV.five_new _ _ _ _ _ _ _
  have k1 : Below w1.heap.size w1 W1 := by rw [HW1.out]; exact (Below.refl _ _).alloc (Nat.le_refl _) _
  have z1 : w1.heap.size < W1.heap.size := by rw [HW1.out]; simp
  have B1 := below_chain b1 k1
  go_wp2_with fail
  rw [← HW1.out]
  refine (HAW.out _).mono ?_
  rintro e w2 ⟨rfl, b2⟩
  go_upto_region 7 with fail
  refine wp_region_lit ?_
  refine wpList_buildNone rfl 37 rfl ZB HZBU.out ?_
  refine wpList_allocBig rfl 37 rfl ZB iT hiT HZI.out ?_
  refine wpList_storeRow rfl (.tmp 9) (.tmp 41) 37 rfl rfl w2.heap.size rfl ZB ZB rfl 37 (heap_alloc_new w2 _) HZSI.out rfl HZON.out ?_
  rw [setRow_self _ _ _ _ _ (heap_alloc_new w2 _)]
  have HP0 : Hid (PLAt w (w2.alloc (.cells ZB 37)) w1.heap.size w2.heap.size s0 1 a0 c0 (fun _ => false)) := by
    have hb := b1.size
    have hk := k1.size
    have hb2 := b2.size
    have b3 : Below w2.heap.size w2 (w2.alloc (.cells ZB 37)) := (Below.refl _ _).alloc (Nat.le_refl _) _
    refine ⟨(B1.trans (b2.mono (by omega))).trans (b3.mono (by omega)), by omega, by omega, by simp, (m1.below b2 z1).below b3 (by omega), ?_, ZB, heap_alloc_new w2 _, HZSZ.out, fun n hn => HZAT.out n hn⟩
    rcases hst with h | ⟨b, o, e, h1, h2, h3⟩
    · cases h
    · refine ⟨b, o, e, by simp; omega, fun q => ?_, by omega, ((b3.cell (p := ⟨b, o, none⟩) (by show b < _; omega)).trans ((b2.cell (p := ⟨b, o, none⟩) (by show b < _; omega)).trans (k1.cell (p := ⟨b, o, none⟩) h2))).trans (h3 0 (by simp))⟩
      have := Option.some.inj q
      simp only at this
      omega
  obtain ⟨V, HV⟩ : ∃ V, Hid (V = w2.alloc (.cells ZB 37)) := ⟨_, rfl⟩
  rw [← HV.out] at HP0 ⊢
  clear HV m1 k1 z1 B1 b1 b2 hst HW1 HBG HAW HZBU HZSZ HZON HZAT HZI HZSI
  generalize w1.heap.size = M at *
  generalize w2.heap.size = Hb at *
  go_wp2_with fail
  go_loopw [10] (fun i wr => ∃ k : Nat, 1 ≤ k ∧ k ≤ K + 1 ∧ i = .int .i64 k ∧ Hid (PLAt w wr M Hb s0 1 a0 c0 (fun n => decide (1 ≤ n ∧ n < k)))) (fun i _ => K + 1 - (intOf i).toNat)
  case atStart => exact ⟨1, by omega, by omega, rfl, HP0.out.congr (fun n _ => by simp; omega)⟩
  case round =>
    obtain ⟨k, hk1, hk2, rfl, HP⟩ := hrel
    clear HP0
    by_cases hlt : k ≤ K
    · have hlt' : (k : Int) ≤ K := by omega
      have hb1 : (0 : Int) ≤ (k : Int) := by omega
      have hb2 : (k : Int) < 2050 := by omega
      have hb3 : k < 2050 := by omega
      obtain ⟨hc, hf⟩ := HP.out.cell k (by omega)
      have HP2 : Hid (PLAt w (wr.setCell ⟨Hb, k, none⟩ (.bool true)) M Hb s0 1 a0 c0 (fun n => decide (1 ≤ n ∧ n < k + 1))) := (HP.out.set k (by omega) true).congr (fun n _ => by
        by_cases e : n = k
        · subst e; rw [if_pos rfl]; simp; omega
        · rw [if_neg e, Bool.eq_iff_iff]; simp only [decide_eq_true_eq]; omega)
      go_wp2_with fail
      go_roundw
      case rel => exact ⟨k + 1, by omega, by omega, by go_num, HP2⟩
      case measure => simp [intOf]; omega
    · obtain rfl : k = K + 1 := by omega
      have HQ0 : Hid (PLAt w wr M Hb s0 1 a0 c0 (tkB s0) ∧ s0.size = 256 ∧ 1 < 18446744073709551616) := ⟨HP.out.congr (fun n _ => by rw [HTK0.out, Bool.eq_iff_iff]; simp only [decide_eq_true_eq]; omega), HS0.out, by omega⟩
      have hlt' : ¬ ((K + 1 : Nat) : Int) ≤ K := by omega
      clear HP
      go_wp2_with fail
      go_loopw [11] (fun i wr => ∃ (k : Nat) (s : ByteArray) (l : Nat) (a : Option Addr) (c : Nat), k ≤ n ∧ k ≤ 60 ∧ i = .int .i64 k ∧ Hid (PLAt w wr M Hb s l a c (tkB s) ∧ s.size = 256 ∧ l < 18446744073709551616)) (fun i _ => 60 - (intOf i).toNat)
      case atStart => exact ⟨0, s0, 1, a0, c0, by omega, by omega, rfl, HQ0⟩
      case round =>
        obtain ⟨k, s, l, a, c, hk1, hk2, rfl, HB⟩ := hrel
        clear HQ0 hlt hlt'
        by_cases hlt : k < n ∧ k < 60
        · obtain ⟨l1, l2⟩ := hlt
          have l1' : (k : Int) < n := by omega
          have l2' : (k : Int) < 60 := by omega
          obtain ⟨lb, lo, rfl, hlb, hcell⟩ : ∃ b o, la = some ⟨b, o, none⟩ ∧ b < w.heap.size ∧ ∀ i, i < n → w.cell? ⟨b, o + i * 2, none⟩ = some (.int .i64 (A i)) ∧ w.cell? ⟨b, o + i * 2 + 1, none⟩ = some (.int .i64 (B i)) ∧ -9223372036854775808 ≤ B i ∧ B i ≤ 9223372036854775807 := by
            rcases HZ.out.2 with h | h
            · omega
            · exact h
          obtain ⟨q0, q1, hq1, hq2⟩ := hcell k l1
          clear hcell
          generalize A k = Kd at *
          generalize B k = X at *
          have q0' := (HB.out.1.bel.cell (p := ⟨lb, lo + k * 2, none⟩) hlb).trans q0
          have q1' := (HB.out.1.bel.cell (p := ⟨lb, lo + k * 2 + 1, none⟩) hlb).trans q1
          have hand := i64_and4095 X
          go_upto_region 16 with fail
          obtain ⟨W, HW⟩ : ∃ W, Hid (W = wr.alloc (.cells #[.int .i64 Kd, .int .i64 X] 39)) := ⟨_, rfl⟩
          have bW : Below wr.heap.size wr W := by rw [HW.out]; exact (Below.refl _ _).alloc (Nat.le_refl _) _
          have zW : W.heap.size = wr.heap.size + 1 := by rw [HW.out]; simp
          have y0 : W.cell? ⟨wr.heap.size, 0, none⟩ = some (.int .i64 Kd) := by rw [HW.out]; simp
          have y1 : W.cell? ⟨wr.heap.size, 1, none⟩ = some (.int .i64 X) := by rw [HW.out]; simp
          rw [← HW.out]
          clear HW q0' q1'
          go_cut [13, 14, 15] from 66 to 69 (fun pv ev nv wx => pv = .pointer (some ⟨wr.heap.size + 1, 0, none⟩) ∧ ev = .int .i64 0 ∧ nv = .int .i64 (X % 4096) ∧ Hid (Below wr.heap.size wr wx ∧ wr.heap.size + 1 < wx.heap.size ∧ wx.cell? ⟨wr.heap.size, 0, none⟩ = some (.int .i64 Kd) ∧ wx.cell? ⟨wr.heap.size, 1, none⟩ = some (.int .i64 X) ∧ RowV wx (wr.heap.size + 1) 4 (four (.int .i64 0) (.int .i64 0) (.string ⟨#[]⟩) (.string ⟨#[]⟩))))
          case first =>
            go_region
            all_goals
              go_wp2_with fail
              go_meet
              case rel =>
                refine ⟨rfl, rfl, rfl, ?_⟩
                have b2 : Below W.heap.size W (W.alloc (.cells #[.int .i64 0, .int .i64 0, .string ⟨#[]⟩, .string ⟨#[]⟩] 41)) := (Below.refl _ _).alloc (Nat.le_refl _) _
                refine ⟨(bW.trans (b2.mono (by omega))).drew, by show _ < (W.alloc _).heap.size; simp; omega, (b2.cell (p := ⟨wr.heap.size, 0, none⟩) (by show wr.heap.size < W.heap.size; omega)).trans y0, (b2.cell (p := ⟨wr.heap.size, 1, none⟩) (by show wr.heap.size < W.heap.size; omega)).trans y1, ?_⟩
                have := RowV.four_new W (.int .i64 0) (.int .i64 0) (.string ⟨#[]⟩) (.string ⟨#[]⟩) 41
                rw [zW] at this
                exact this
          case rest =>
            obtain ⟨rfl, rfl, rfl, HC⟩ := hcut
            have HSS : Hid (s.size = 256) := HB.out.2.1
            have HLI : Hid (∀ wx, Below wr.heap.size wr wx → (mapV l s).Lies wx a) := fun wx k => Fits.lies (mapV_fits l s HB.out.2.2 HSS.out) (HB.out.1.str.at.below k)
            obtain ⟨q, hq⟩ : ∃ q : Nat, (q : Int) = X % 4096 := ⟨(X % 4096).toNat, by omega⟩
            have hq4 : q < 4096 := by omega
            rw [← hq]
            have hu : IntKind.u32.wrap (q : Int) = (q : Int) := by rw [IntKind.wrap_u32]; omega
            clear hand hq y0 y1 zW bW
            have hM2 : M < wr.heap.size := Nat.lt_trans HB.out.1.MH HB.out.1.H2
            have hcell : ∀ wx, Below wr.heap.size wr wx → Hid (PLAt w wx M Hb s l a c (tkB s)) := fun wx k => HB.out.1.below k
            obtain ⟨bc, zc, y0, y1, hO⟩ := HC.out
            clear HC
            have HPc := hcell wc bc
            obtain ⟨x0, x1, x2, x3, x4⟩ := HPc.out.cur.cells5
            obtain ⟨o0, o1, o2, o3⟩ := hO.cells4
            obtain ⟨g0, g1, g2, g3⟩ := hO.open4
            go_upto_block 4 with fail
            go_cut [14, 15, 16, 17, 18] from 72 to 142 (fun ev nv wv fv pv wx => ∃ (E : Int) (m : Nat) (kk ii : Int) (S T : ByteArray), ev = .int .i64 E ∧ nv = .int .i64 m ∧ wv = .int .i64 E ∧ Hid (Below wr.heap.size wr wx ∧ wr.heap.size + 1 < wx.heap.size ∧ RowV wx (wr.heap.size + 1) 4 (four (.int .i64 kk) (.int .i64 ii) (.string S) (.string T)) ∧ (E = 0 → 1 ≤ m ∧ m ≤ 2048 ∧ [.int .i64 kk, .int .i64 ii, .string S, .string T] = ocell s m)))
            case first =>
              by_cases k2 : Kd = 2
              · have k2' : (Kd == 2) = true := by rw [beq_iff_eq]; exact k2
                obtain ⟨kk, ii, S, T, hvv⟩ := told_agg (giveE (mapV l s) q) (mapV l s) q
                have HGI : Hid (∀ wx, Below wr.heap.size wr wx → Calls Try.prog 9 #[.agg #[.int .u32 1, .int .u64 l, .int .i64 1, .string ⟨#[]⟩, .slice a 1 c], .int .u32 q] wx fun e w' => e = .returned (.tuple #[.agg #[.int .i64 kk, .int .i64 ii, .string S, .string T], .int .i64 (giveE (mapV l s) q)]) ∧ Below wx.heap.size wx w') := fun wx kx => by
                  have := give_any (c := c) (HLI.out wx kx) q (by omega)
                  rw [hvv] at this
                  exact this
                have hE : giveE (mapV l s) q = if tkB s q then 0 else 2 := by unfold giveE; rw [mapV_is l s HSS.out]; rfl
                by_cases ht' : tkB s q = true
                · have ht := ht'
                  obtain ⟨hp1, hp2⟩ := tk_page ht
                  rw [ht, if_pos rfl] at hE
                  rw [hE] at HGI hvv
                  have HOC : Hid ([Value.int .i64 kk, .int .i64 ii, .string S, .string T] = ocell s q) := told_ocell hvv
                  clear hvv hE k2
                  have d1 : decide ((q : Int) < 1) = false := by simp; omega
                  have d2 : decide (2048 < (q : Int)) = false := by simp; omega
                  have i1 : (0 : Int) ≤ (q : Int) := by omega
                  have i2 : (q : Int) < 2050 := by omega
                  have i3 : q < 2050 := by omega
                  go_wp2_with fail
                  refine (HGI.out _ bc).mono ?_
                  rintro e w6 ⟨rfl, b6⟩
                  have o6 := hO.below b6 zc
                  have z6 := Nat.lt_of_lt_of_le zc b6.size
                  have c6 : Below wr.heap.size wr w6 := bc.trans (b6.mono (by omega))
                  obtain ⟨v0, v1, v2, v3⟩ := o6.cells4
                  obtain ⟨f0, f1, f2, f3⟩ := o6.open4
                  have cs6 := below_set4 c6 (b := wr.heap.size + 1) (by omega) (.int .i64 kk) (.int .i64 ii) (.string S) (.string T)
                  have hh := ((hcell _ cs6).out.cell q (by omega)).1
                  rw [ht] at hh
                  unfold store4 at hh
                  go_wp2_with fail
                  go_meet
                  case rel => exact ⟨0, q, kk, ii, S, T, rfl, rfl, rfl, cs6, by simpa [store4] using z6, o6.put4 _ _ _ _, fun _ => ⟨hp1, hp2, HOC.out⟩⟩
                · have ht : tkB s q = false := by simpa using ht'
                  rw [ht, if_neg (by decide)] at hE
                  rw [hE] at HGI
                  clear hvv hE k2
                  by_cases r1 : q < 1
                  · skip
                    have d1 : decide ((q : Int) < 1) = true := by simp; omega
                    go_wp2_with fail
                    refine (HGI.out _ bc).mono ?_
                    rintro e w6 ⟨rfl, b6⟩
                    have o6 := hO.below b6 zc
                    have z6 := Nat.lt_of_lt_of_le zc b6.size
                    have c6 : Below wr.heap.size wr w6 := bc.trans (b6.mono (by omega))
                    obtain ⟨v0, v1, v2, v3⟩ := o6.cells4
                    obtain ⟨f0, f1, f2, f3⟩ := o6.open4
                    have cs6 := below_set4 c6 (b := wr.heap.size + 1) (by omega) (.int .i64 kk) (.int .i64 ii) (.string S) (.string T)
                    go_wp2_with fail
                    go_meet
                    case rel => exact ⟨2, q, kk, ii, S, T, rfl, rfl, rfl, cs6, by simpa [store4] using z6, o6.put4 _ _ _ _, fun h => by omega⟩
                  · by_cases r2 : 2048 < q
                    · skip
                      have d1 : decide ((q : Int) < 1) = false := by simp; omega
                      have d2 : decide (2048 < (q : Int)) = true := by simp; omega
                      go_wp2_with fail
                      refine (HGI.out _ bc).mono ?_
                      rintro e w6 ⟨rfl, b6⟩
                      have o6 := hO.below b6 zc
                      have z6 := Nat.lt_of_lt_of_le zc b6.size
                      have c6 : Below wr.heap.size wr w6 := bc.trans (b6.mono (by omega))
                      obtain ⟨v0, v1, v2, v3⟩ := o6.cells4
                      obtain ⟨f0, f1, f2, f3⟩ := o6.open4
                      have cs6 := below_set4 c6 (b := wr.heap.size + 1) (by omega) (.int .i64 kk) (.int .i64 ii) (.string S) (.string T)
                      go_wp2_with fail
                      go_meet
                      case rel => exact ⟨2, q, kk, ii, S, T, rfl, rfl, rfl, cs6, by simpa [store4] using z6, o6.put4 _ _ _ _, fun h => by omega⟩
                    · skip
                      have d1 : decide ((q : Int) < 1) = false := by simp; omega
                      have d2 : decide (2048 < (q : Int)) = false := by simp; omega
                      have i1 : (0 : Int) ≤ (q : Int) := by omega
                      have i2 : (q : Int) < 2050 := by omega
                      have i3 : q < 2050 := by omega
                      go_wp2_with fail
                      refine (HGI.out _ bc).mono ?_
                      rintro e w6 ⟨rfl, b6⟩
                      have o6 := hO.below b6 zc
                      have z6 := Nat.lt_of_lt_of_le zc b6.size
                      have c6 : Below wr.heap.size wr w6 := bc.trans (b6.mono (by omega))
                      obtain ⟨v0, v1, v2, v3⟩ := o6.cells4
                      obtain ⟨f0, f1, f2, f3⟩ := o6.open4
                      have cs6 := below_set4 c6 (b := wr.heap.size + 1) (by omega) (.int .i64 kk) (.int .i64 ii) (.string S) (.string T)
                      have hh := ((hcell _ cs6).out.cell q (by omega)).1
                      rw [ht] at hh
                      unfold store4 at hh
                      go_wp2_with fail
                      go_meet
                      case rel => exact ⟨2, q, kk, ii, S, T, rfl, rfl, rfl, cs6, by simpa [store4] using z6, o6.put4 _ _ _ _, fun h => by omega⟩
              · have k2' : (Kd == 2) = false := by rw [beq_eq_false_iff_ne]; exact k2
                clear k2
                by_cases k3 : Kd = 3
                · have k3' : (Kd == 3) = true := by rw [beq_iff_eq]; exact k3
                  clear k3
                  obtain ⟨kk, ii, S, T, hvv⟩ := told_agg (claimE (mapV l s) q) (mapV l s) q
                  have HCL : Hid (∀ wx, Below wr.heap.size wr wx → Calls Try.prog 10 #[.agg #[.int .u32 1, .int .u64 l, .int .i64 1, .string ⟨#[]⟩, .slice a 1 c], .int .u32 q] wx fun e w' => e = .returned (.tuple #[.agg #[.int .i64 kk, .int .i64 ii, .string S, .string T], .int .i64 (claimE (mapV l s) q)]) ∧ Below wx.heap.size wx w') := fun wx kx => by
                    have := claim_any (c := c) (HLI.out wx kx) q (by omega)
                    rw [hvv] at this
                    exact this
                  have hE : claimE (mapV l s) q = if pgB q && !tkB s q then 0 else 2 := by unfold claimE; rw [mapV_is l s HSS.out]; rfl
                  by_cases r1 : q < 1
                  · rw [show pgB q = false from by simp [pgB]; omega] at hE
                    rw [show (if (false && !tkB s q) = true then (0 : Int) else 2) = 2 from rfl] at hE
                    rw [hE] at HCL
                    clear hvv hE
                    have d1 : decide ((q : Int) < 1) = true := by simp; omega
                    go_wp2_with fail
                    refine (HCL.out _ bc).mono ?_
                    rintro e w6 ⟨rfl, b6⟩
                    have o6 := hO.below b6 zc
                    have z6 := Nat.lt_of_lt_of_le zc b6.size
                    have c6 : Below wr.heap.size wr w6 := bc.trans (b6.mono (by omega))
                    obtain ⟨v0, v1, v2, v3⟩ := o6.cells4
                    obtain ⟨f0, f1, f2, f3⟩ := o6.open4
                    have cs6 := below_set4 c6 (b := wr.heap.size + 1) (by omega) (.int .i64 kk) (.int .i64 ii) (.string S) (.string T)
                    go_wp2_with fail
                    go_meet
                    case rel => exact ⟨2, q, kk, ii, S, T, rfl, rfl, rfl, cs6, by simpa [store4] using z6, o6.put4 _ _ _ _, fun h => by omega⟩
                  · by_cases r2 : 2048 < q
                    · rw [show pgB q = false from by simp [pgB]; omega] at hE
                      rw [show (if (false && !tkB s q) = true then (0 : Int) else 2) = 2 from rfl] at hE
                      rw [hE] at HCL
                      clear hvv hE
                      have d1 : decide ((q : Int) < 1) = false := by simp; omega
                      have d2 : decide (2048 < (q : Int)) = true := by simp; omega
                      go_wp2_with fail
                      refine (HCL.out _ bc).mono ?_
                      rintro e w6 ⟨rfl, b6⟩
                      have o6 := hO.below b6 zc
                      have z6 := Nat.lt_of_lt_of_le zc b6.size
                      have c6 : Below wr.heap.size wr w6 := bc.trans (b6.mono (by omega))
                      obtain ⟨v0, v1, v2, v3⟩ := o6.cells4
                      obtain ⟨f0, f1, f2, f3⟩ := o6.open4
                      have cs6 := below_set4 c6 (b := wr.heap.size + 1) (by omega) (.int .i64 kk) (.int .i64 ii) (.string S) (.string T)
                      go_wp2_with fail
                      go_meet
                      case rel => exact ⟨2, q, kk, ii, S, T, rfl, rfl, rfl, cs6, by simpa [store4] using z6, o6.put4 _ _ _ _, fun h => by omega⟩
                    · rw [show pgB q = true from by simp [pgB]; omega] at hE
                      by_cases ht' : tkB s q = true
                      · have ht := ht'
                        rw [ht, show (if (true && !true) = true then (0 : Int) else 2) = 2 from rfl] at hE
                        rw [hE] at HCL
                        clear hvv hE
                        have d1 : decide ((q : Int) < 1) = false := by simp; omega
                        have d2 : decide (2048 < (q : Int)) = false := by simp; omega
                        have i1 : (0 : Int) ≤ (q : Int) := by omega
                        have i2 : (q : Int) < 2050 := by omega
                        have i3 : q < 2050 := by omega
                        go_wp2_with fail
                        refine (HCL.out _ bc).mono ?_
                        rintro e w6 ⟨rfl, b6⟩
                        have o6 := hO.below b6 zc
                        have z6 := Nat.lt_of_lt_of_le zc b6.size
                        have c6 : Below wr.heap.size wr w6 := bc.trans (b6.mono (by omega))
                        obtain ⟨v0, v1, v2, v3⟩ := o6.cells4
                        obtain ⟨f0, f1, f2, f3⟩ := o6.open4
                        have cs6 := below_set4 c6 (b := wr.heap.size + 1) (by omega) (.int .i64 kk) (.int .i64 ii) (.string S) (.string T)
                        have hh := ((hcell _ cs6).out.cell q (by omega)).1
                        rw [ht] at hh
                        unfold store4 at hh
                        go_wp2_with fail
                        go_meet
                        case rel => exact ⟨2, q, kk, ii, S, T, rfl, rfl, rfl, cs6, by simpa [store4] using z6, o6.put4 _ _ _ _, fun h => by omega⟩
                      · have ht : tkB s q = false := by simpa using ht'
                        rw [ht, show (if (true && !false) = true then (0 : Int) else 2) = 0 from rfl] at hE
                        rw [hE] at HCL hvv
                        have HOC : Hid ([Value.int .i64 kk, .int .i64 ii, .string S, .string T] = ocell s q) := told_ocell hvv
                        clear hvv hE
                        have d1 : decide ((q : Int) < 1) = false := by simp; omega
                        have d2 : decide (2048 < (q : Int)) = false := by simp; omega
                        have i1 : (0 : Int) ≤ (q : Int) := by omega
                        have i2 : (q : Int) < 2050 := by omega
                        have i3 : q < 2050 := by omega
                        go_wp2_with fail
                        refine (HCL.out _ bc).mono ?_
                        rintro e w6 ⟨rfl, b6⟩
                        have o6 := hO.below b6 zc
                        have z6 := Nat.lt_of_lt_of_le zc b6.size
                        have c6 : Below wr.heap.size wr w6 := bc.trans (b6.mono (by omega))
                        obtain ⟨v0, v1, v2, v3⟩ := o6.cells4
                        obtain ⟨f0, f1, f2, f3⟩ := o6.open4
                        have cs6 := below_set4 c6 (b := wr.heap.size + 1) (by omega) (.int .i64 kk) (.int .i64 ii) (.string S) (.string T)
                        have hh := ((hcell _ cs6).out.cell q (by omega)).1
                        rw [ht] at hh
                        unfold store4 at hh
                        go_wp2_with fail
                        go_meet
                        case rel => exact ⟨0, q, kk, ii, S, T, rfl, rfl, rfl, cs6, by simpa [store4] using z6, o6.put4 _ _ _ _, fun _ => ⟨by omega, by omega, HOC.out⟩⟩
                · have k3' : (Kd == 3) = false := by rw [beq_eq_false_iff_ne]; exact k3
                  clear k3
                  go_wp2_with fail
                  go_loop [17] (fun i => ∃ f : Nat, 1 ≤ f ∧ f ≤ 2049 ∧ i = .int .i64 f ∧ Hid (∀ n, 1 ≤ n → n < f → tkB s n = true)) (fun i => 2049 - (intOf i).toNat)
                  case atStart => exact ⟨1, by omega, by omega, rfl, fun n h1 h2 => by omega⟩
                  case round =>
                    obtain ⟨f, hf1, hf2, rfl, HFA⟩ := hrel
                    by_cases hend : 2048 < f ∨ tkB s f = false
                    · have HFI : Hid (IsFirst s f) := ⟨hf1, hf2, HFA.out, fun h => by rcases hend with h' | h'; omega; exact h'⟩
                      obtain ⟨kk, ii, S, T, hvv⟩ := told_agg (takeE (mapV l s) X) (mapV l s) (takeN (mapV l s) X)
                      have HTA : Hid (∀ wx, Below wr.heap.size wr wx → Calls Try.prog 11 #[.agg #[.int .u32 1, .int .u64 l, .int .i64 1, .string ⟨#[]⟩, .slice a 1 c], .int .i64 X] wx fun e w' => e = .returned (.tuple #[.int .u32 (takeN (mapV l s) X), .agg #[.int .i64 kk, .int .i64 ii, .string S, .string T], .int .i64 (takeE (mapV l s) X)]) ∧ Below wx.heap.size wx w') := fun wx kx => by
                        have := take_map (c := c) (HLI.out wx kx) X (mapV_is l s HSS.out) hq1 hq2
                        rw [hvv] at this
                        exact this
                      obtain ⟨hE, hEN⟩ := take_first (l := l) HSS.out HFI.out X
                      have htn : takeN (mapV l s) X < 4294967296 := by
                        have := freeF_first HFI.out (roomN X) 0 (by omega)
                        have hr := roomN_le X
                        unfold takeN
                        rw [mapV_slot, this]
                        split <;> omega
                      obtain ⟨E, HE⟩ : ∃ E, Hid (takeE (mapV l s) X = E) := ⟨_, rfl⟩
                      obtain ⟨P, HP⟩ : ∃ P, Hid (takeN (mapV l s) X = P) := ⟨_, rfl⟩
                      rw [HE.out] at HTA hvv hE hEN
                      rw [HP.out] at HTA hvv hEN htn
                      have HHE : Hid (E = if X < f ∨ 2048 < f then 20 else 0) := hE
                      have HHN : Hid (E = 0 → P = f ∧ [Value.int .i64 kk, .int .i64 ii, .string S, .string T] = ocell s f) := fun h => by
                        have hp := hEN h
                        refine ⟨hp, ?_⟩
                        rw [h, hp] at hvv
                        exact told_ocell hvv
                      clear hvv hE hEN HE HP HFA
                      have HEX : Hid (2048 < f ∨ f ≤ 2048 ∧ tkB s f = false) := by rcases hend with h | h; exact .inl h; by_cases h2 : 2048 < f; exact .inl h2; exact .inr ⟨by omega, h⟩
                      clear hend
                      have i1 : (0 : Int) ≤ (f : Int) := by omega
                      have i2 : (f : Int) < 2050 := by omega
                      have i3 : f < 2050 := by omega
                      have hfc := (HPc.out.cell f (by omega)).1
                      rcases HEX.out with e1 | ⟨e1, e2⟩
                      · have d1 : decide ((f : Int) ≤ 2048) = false := by simp; omega
                        clear HEX
                        go_wp2_with fail
                        refine (HTA.out _ bc).mono ?_
                        rintro e w6 ⟨rfl, b6⟩
                        have o6 := hO.below b6 zc
                        have z6 := Nat.lt_of_lt_of_le zc b6.size
                        have c6 : Below wr.heap.size wr w6 := bc.trans (b6.mono (by omega))
                        obtain ⟨v0, v1, v2, v3⟩ := o6.cells4
                        obtain ⟨f0, f1, f2, f3⟩ := o6.open4
                        have cs6 := below_set4 c6 (b := wr.heap.size + 1) (by omega) (.int .i64 kk) (.int .i64 ii) (.string S) (.string T)
                        have y6 := (b6.cell (p := ⟨wr.heap.size, 1, none⟩) (by show wr.heap.size < _; omega)).trans y1
                        have y16 := ((below_set4 (b6.mono (B' := wr.heap.size + 1) (by omega)) (Nat.le_refl _) (.int .i64 kk) (.int .i64 ii) (.string S) (.string T)).cell (p := ⟨wr.heap.size, 1, none⟩) (by show wr.heap.size < wr.heap.size + 1; omega)).trans y1
                        unfold store4 at y16
                        by_cases xf : X < f
                        · obtain rfl : E = 20 := by rw [HHE.out, if_pos (.inl xf)]
                          have d3 : decide (X < (f : Int)) = true := by simp; omega
                          go_wp2_with fail
                          go_meet
                          case rel => exact ⟨20, f, kk, ii, S, T, rfl, rfl, rfl, cs6, by simpa [store4] using z6, o6.put4 _ _ _ _, fun h => by omega⟩
                        · obtain rfl : E = 20 := by rw [HHE.out, if_pos (.inr e1)]
                          have d3 : decide (X < (f : Int)) = false := by simp; omega
                          have d4 : decide (2048 < (f : Int)) = true := by simp; omega
                          go_wp2_with fail
                          go_meet
                          case rel => exact ⟨20, f, kk, ii, S, T, rfl, rfl, rfl, cs6, by simpa [store4] using z6, o6.put4 _ _ _ _, fun h => by omega⟩
                      · have d1 : decide ((f : Int) ≤ 2048) = true := by simp; omega
                        rw [e2] at hfc
                        clear HEX e2
                        go_wp2_with fail
                        refine (HTA.out _ bc).mono ?_
                        rintro e w6 ⟨rfl, b6⟩
                        have o6 := hO.below b6 zc
                        have z6 := Nat.lt_of_lt_of_le zc b6.size
                        have c6 : Below wr.heap.size wr w6 := bc.trans (b6.mono (by omega))
                        obtain ⟨v0, v1, v2, v3⟩ := o6.cells4
                        obtain ⟨f0, f1, f2, f3⟩ := o6.open4
                        have cs6 := below_set4 c6 (b := wr.heap.size + 1) (by omega) (.int .i64 kk) (.int .i64 ii) (.string S) (.string T)
                        have y6 := (b6.cell (p := ⟨wr.heap.size, 1, none⟩) (by show wr.heap.size < _; omega)).trans y1
                        have y16 := ((below_set4 (b6.mono (B' := wr.heap.size + 1) (by omega)) (Nat.le_refl _) (.int .i64 kk) (.int .i64 ii) (.string S) (.string T)).cell (p := ⟨wr.heap.size, 1, none⟩) (by show wr.heap.size < wr.heap.size + 1; omega)).trans y1
                        unfold store4 at y16
                        by_cases xf : X < f
                        · obtain rfl : E = 20 := by rw [HHE.out, if_pos (.inl xf)]
                          have d3 : decide (X < (f : Int)) = true := by simp; omega
                          go_wp2_with fail
                          go_meet
                          case rel => exact ⟨20, f, kk, ii, S, T, rfl, rfl, rfl, cs6, by simpa [store4] using z6, o6.put4 _ _ _ _, fun h => by omega⟩
                        · obtain rfl : E = 0 := by rw [HHE.out, if_neg (by omega)]
                          have d3 : decide (X < (f : Int)) = false := by simp; omega
                          have d4 : decide (2048 < (f : Int)) = false := by simp; omega
                          obtain ⟨hPf, HOC'⟩ := HHN.out rfl
                          have HOC : Hid ([Value.int .i64 kk, .int .i64 ii, .string S, .string T] = ocell s f) := HOC'
                          clear HOC' HHN
                          subst hPf
                          go_wp2_with fail
                          go_meet
                          case rel => exact ⟨0, P, kk, ii, S, T, rfl, rfl, rfl, cs6, by simpa [store4] using z6, o6.put4 _ _ _ _, fun _ => ⟨hf1, by omega, HOC.out⟩⟩
                    · have g1 : f ≤ 2048 := by omega
                      have g2 : tkB s f = true := by
                        cases h : tkB s f with
                        | true => rfl
                        | false => exact absurd (.inr h) hend
                      have hfc := (HPc.out.cell f (by omega)).1
                      rw [g2] at hfc
                      have HFA2 : Hid (∀ n, 1 ≤ n → n < f + 1 → tkB s n = true) := fun n h1 h2 => by
                        by_cases e : n = f
                        · rw [e]; exact g2
                        · exact HFA.out n h1 (by omega)
                      have d1 : decide ((f : Int) ≤ 2048) = true := by simp; omega
                      have i1 : (0 : Int) ≤ (f : Int) := by omega
                      have i2 : (f : Int) < 2050 := by omega
                      have i3 : f < 2050 := by omega
                      clear hend g2
                      go_wp2_with fail
                      go_round
                      case rel => exact ⟨f + 1, by omega, by omega, by go_num, HFA2⟩
                      case measure => simp [intOf]; omega
            case rest =>
              obtain ⟨E, m, kk, ii, S, T, rfl, rfl, rfl, HCC⟩ := hcut
              clear x0 x1 x2 x3 x4 o0 o1 o2 o3 g0 g1 g2 g3 hO bc zc y0 y1 HPc
              obtain ⟨bd, zd, hOd, hEd⟩ := HCC.out
              have HPd := hcell wc bd
              obtain ⟨x0, x1, x2, x3, x4⟩ := HPd.out.cur.cells5
              obtain ⟨o0, o1, o2, o3⟩ := hOd.cells4
              by_cases hE0 : E = 0
              · subst hE0
                obtain ⟨hm1, hm2, hmc⟩ := hEd rfl
                have HAP : Hid (∀ wx, Below wr.heap.size wr wx → Calls Try.prog 12 #[.agg #[.int .u32 1, .int .u64 l, .int .i64 1, .string ⟨#[]⟩, .slice a 1 c], .agg #[.int .i64 kk, .int .i64 ii, .string S, .string T], .int .u64 2] wx fun e w' => ∃ a' c', e = .returned (.tuple #[.agg #[.int .u32 1, .int .u64 2, .int .i64 1, .string ⟨#[]⟩, .slice a' 1 c'], .int .i64 0]) ∧ Below wx.heap.size wx w' ∧ StrsFrom wx.heap.size w' a' [flipS s m]) := by
                  intro wx kx
                  have := apply_turn (c := c) 2 m HB.out.2.2 HSS.out hm2 (HB.out.1.str.at.below kx)
                  have hv : turnV s m = .agg #[.int .i64 kk, .int .i64 ii, .string S, .string T] := by
                    unfold turnV
                    unfold ocell at hmc
                    simp only [List.cons.injEq] at hmc
                    obtain ⟨e1, e2, e3, e4, _⟩ := hmc
                    rw [e1, e2, e3, e4]
                  rw [hv] at this
                  exact this
                obtain ⟨hk6, hs1⟩ : kk = 6 ∧ S.size = 1 := by
                  unfold ocell at hmc
                  simp only [List.cons.injEq, Value.int.injEq, Value.string.injEq] at hmc
                  exact ⟨hmc.1.2, by rw [hmc.2.2.1]; rfl⟩
                have hk6' : (kk != 6) = false := by rw [hk6]; rfl
                have hs1' : ((S.size : Int) != 1) = false := by rw [hs1]; rfl
                clear hmc hEd HCC hk6 hs1
                go_wp2_with fail
                refine (HAP.out _ bd).mono ?_
                rintro e w7 ⟨a', c', rfl, b7, hs7⟩
                obtain ⟨V7, HV7⟩ : ∃ V7, Hid (V7 = w7.alloc (.cells #[.int .u32 1, .int .u64 2, .int .i64 1, .string ⟨#[]⟩, .slice a' 1 c'] 29)) := ⟨_, rfl⟩
                have k7 : Below w7.heap.size w7 V7 := by rw [HV7.out]; exact (Below.refl _ _).alloc (Nat.le_refl _) _
                have hN : RowV V7 w7.heap.size 5 (five (.int .u32 1) (.int .u64 2) (.int .i64 1) (.string ⟨#[]⟩) (.slice a' 1 c')) := by rw [HV7.out]; exact RowV.five_new _ _ _ _ _ _ _
                have zN : w7.heap.size < V7.heap.size := by rw [HV7.out]; simp
                have c7 := below_chain b7 k7
                have s7 := b7.size
                have sd := bd.size
                have P7 := HPd.out.below c7
                have hO7 := hOd.below c7 zd
                have P8 : PLAt w (store5 V7 M (.int .u32 1) (.int .u64 2) (.int .i64 1) (.string ⟨#[]⟩) (.slice a' 1 c')) M Hb (flipS s m) 2 a' c' (tkB s) := P7.put (StrOff.of (B := wc.heap.size) (hs7.below k7) (by omega) (fun g hg => by have e : Hb = g := Option.some.inj hg; have := HPd.out.H2; omega))
                have P9 : PLAt w ((store5 V7 M (.int .u32 1) (.int .u64 2) (.int .i64 1) (.string ⟨#[]⟩) (.slice a' 1 c')).setCell ⟨Hb, m, none⟩ (.bool (!tkB s m))) M Hb (flipS s m) 2 a' c' (tkB (flipS s m)) := (P8.set m (by omega) (!tkB s m)).congr (fun n _ => by rw [flip_tk HSS.out hm1 hm2])
                have HP9 : Hid (PLAt w ((store5 V7 M (.int .u32 1) (.int .u64 2) (.int .i64 1) (.string ⟨#[]⟩) (.slice a' 1 c')).setCell ⟨Hb, m, none⟩ (.bool (!tkB s m))) M Hb (flipS s m) 2 a' c' (tkB (flipS s m)) ∧ (flipS s m).size = 256 ∧ 2 < 18446744073709551616) := ⟨P9, flip_size HSS.out hm2, by omega⟩
                obtain ⟨p0, pf⟩ := P8.cell m (by omega)
                obtain ⟨z0, z1, z2, z3, z4⟩ := P7.cur.cells5
                obtain ⟨f0, f1, f2, f3, f4⟩ := P7.cur.open5
                obtain ⟨n0, n1, n2, n3, n4⟩ := hN.cells5
                obtain ⟨t0, t1, t2, t3⟩ := hO7.cells4
                rw [HV7.out] at t0 t1 t2 t3
                have i1 : (0 : Int) ≤ (m : Int) := by omega
                have i2 : (m : Int) < 2050 := by omega
                have i3 : m < 2050 := by omega
                have neN : w7.heap.size ≠ M := by omega
                generalize tkB s m = bt at *
                unfold store5 at p0 pf HP9
                clear P7 P8 P9 x0 x1 x2 x3 x4 o0 o1 o2 o3 HAP HPd hOd hO7 hs7 b7 k7 c7
                go_upto_region 43 with fail
                rw [← HV7.out]
                clear HV7 t0 t1 t2 t3
                go_wp2_with fail
                exact ⟨⟨k + 1, flipS s m, 2, a', c', by omega, by omega, by go_num, HP9⟩, by simp [intOf]; omega⟩
              · have hEb : (E != 0) = true := by simpa using hE0
                have hEc : (E != E) = false := by simp
                clear hE0
                go_wp2_with fail
                exact ⟨⟨k + 1, s, l, a, c, by omega, by omega, by go_num, HPd.out, HB.out.2⟩, by simp [intOf]; omega⟩
        · obtain ⟨C, hC1, hC2, hC3⟩ := HB.out.1.has
          have HSY : Hid (Calls Try.prog 13 #[.agg #[.int .u32 1, .int .u64 l, .int .i64 1, .string ⟨#[]⟩, .slice a 1 c], .agg C] wr fun e w' => e = .returned (.bool true) ∧ Below wr.heap.size wr w') := by
            refine says_any (p := mapV l s) (c := c) (Fits.lies (mapV_fits l s HB.out.2.2 HB.out.2.1) HB.out.1.str.at) (mapV_is l s HB.out.2.1) C (fun n hn => ?_)
            rw [hC3 n hn]
            unfold tkP
            rw [mapV_is l s HB.out.2.1]
            rfl
          have HSI : Hid ((Try.prog.info? 37).map (·.size) = some C.size) := by
            rw [hC2]
            obtain ⟨i, hi, hz⟩ := Option.map_eq_some_iff.1 zeroB_info
            simp only [Prod.mk.injEq] at hz
            show _ = _
            rw [hi]; simpa using hz.2
          have HC1 : Hid (wr.heap[Hb]? = some (.cells C 37 (0, 0))) := hC1
          obtain ⟨x0, x1, x2, x3, x4⟩ := HB.out.1.cur.cells5
          clear hC1 hC2 hC3
          have hex : ¬ (k : Int) < n ∨ (k : Int) < n ∧ ¬ (k : Int) < 60 := by omega
          rcases hex with hex | ⟨hex0, hex⟩
          all_goals
            go_wp2_with (refine wpList_loadRowG (by rfl) (.tmp 9) 37 rfl Hb rfl C 37 (0, 0) HC1.out _ Try.underlying37 rfl HSI.out ?_)
            refine HSY.out.mono ?_
            rintro e w9 ⟨rfl, b9⟩
            go_wp2
            go_ret
            exact ⟨rfl, below_chain HB.out.1.bel b9⟩

set_option maxHeartbeats 800000 in
set_option maxRecDepth 60000 in
theorem plays_no (k : Int) (h : k < 1 ∨ 2048 < k) (la : Option Addr) (n lc : Nat) (w : World) :
    Calls Try.prog 3 #[.int .i64 k, .slice la n lc] w fun e w' => e = .returned (.bool true) ∧ Below w.heap.size w w' := by
  have HBG : Hid (∀ wx, Calls Try.prog 6 #[.int .i64 k] wx fun e w' => e = .returned (.tuple #[.agg #[.int .u32 1, .int .u64 0, .int .i64 0, .string ⟨#[]⟩, .slice none 0 0], .bool false]) ∧ Below wx.heap.size wx w') := fun wx => begun_no k wx h
  have HF : Hid (∀ wx, Calls Try.prog 8 #[.int .i64 k] wx fun e w' => e = .returned (.tuple #[.slice none 0 0, .int .i64 1]) ∧ w' = wx) := fun wx => fresh_no k wx h
  have HAW : Hid (∀ wx, Calls Try.prog 7 #[] wx fun e w' => e = .returned (.bool true) ∧ Below wx.heap.size wx w') := fun wx => awake_any wx
  have hex : decide (k < 1) = true ∨ decide (k < 1) = false ∧ decide (2048 < k) = true := by
    by_cases c : k < 1
    · left; simpa using c
    · right; simp; omega
  clear h
  rcases hex with d1 | ⟨d1, d2⟩
  all_goals
    go_enter Try.func3, Try.ntmps3
    go_wp2_with fail
    refine (HBG.out _).mono ?_
    rintro e w1 ⟨rfl, b1⟩
    have B1 := b1.alloc b1.size (.cells #[.int .u32 1, .int .u64 0, .int .i64 0, .string ⟨#[]⟩, .slice none 0 0] 29)
    go_wp2_with fail
    refine (HAW.out _).mono ?_
    rintro e w2 ⟨rfl, b2⟩
    have B2 := below_chain B1 b2
    go_wp2_with fail
    refine (HF.out _).mono ?_
    rintro e w3 ⟨rfl, rfl⟩
    go_wp2
    go_ret
    exact ⟨rfl, B2⟩

end Go.Proofs.Ytkknglcckjhngaa
