/-
  The walk of girderlaw16.bit, whatever the two numbers.
-/
import Derived.Test.YtdhphbokkmofaaaGreatUnOneJ
import Derived.Test.YtdhphbokkmofaaaGreatTxPlJ
import Derived.Test.YtdhphbokkmofaaaGreatSpaceBitsJ
import Derived.BigQuiet
set_option linter.unusedVariables false
set_option linter.unusedSimpArgs false
namespace Go.Proofs.YtdhphbokkmofaaaGreat
open Go.RowKit Go.Sort

set_option maxHeartbeats 6400000 in
set_option maxRecDepth 20000 in
theorem bit16_any (taken turn : Int) (w : World) (ht1 : -9223372036854775808 ≤ taken ∧ taken ≤ 9223372036854775807) (ht2 : -9223372036854775808 ≤ turn ∧ turn ≤ 9223372036854775807) :
    Calls Tryz.prog 16 #[.int .i64 taken, .int .i64 turn] w fun e w' => e = .returned (.bool true) ∧ Below w.heap.size w w' := by
  obtain ⟨n, hN⟩ : ∃ n, btN taken = n := ⟨_, rfl⟩
  have hn := btN_le taken
  rw [hN] at hn
  obtain ⟨n1, n2⟩ := hn
  obtain ⟨g, hG⟩ : ∃ g, btG turn n = g := ⟨_, rfl⟩
  have hg := btG_le turn n n1
  rw [hG] at hg
  obtain ⟨g1, g2⟩ := hg
  have HF : Hid (∀ wx, Calls Tryz.prog 50 #[.int .i64 n] wx fun e w' => ∃ g, e = .returned (.tuple #[.slice (some ⟨g, 0, none⟩) 2 2, .int .i64 0]) ∧ Below wx.heap.size wx w' ∧ wx.heap.size < g ∧ FreshOps w' g n) := fun wx => fresh_ok n wx n1 (by omega)
  have HBL : Hid (∀ wx, Calls Tryz.prog 51 #[.int .u32 1] wx fun x w' => x = .returned (.agg #[.int .u32 1, .int .u64 0, .int .i64 0, .string ⟨#[]⟩, .slice none 0 0]) ∧ Below wx.heap.size wx w') := fun wx => blank_any 1 wx
  have HA0 : Hid (∀ (a : Option Addr) (c : Nat) wx, Calls Tryz.prog 52 #[page0.val a c, opF.val, .int .u64 1] wx fun e w' => ∃ a' c', e = .returned (.tuple #[page1.val a' c', .int .i64 0]) ∧ Below wx.heap.size wx w' ∧ StrsFrom wx.heap.size w' a' page1.slots) := fun a c wx => apply_fmt
  have HA1 : Hid (∀ (a : Option Addr) (c : Nat) wx, Calls Tryz.prog 52 #[page1.val a c, (opIns 0 (freshS n)).val, .int .u64 1] wx fun e w' => ∃ a' c', e = .returned (.tuple #[(mapV 1 (freshS n)).val a' c', .int .i64 0]) ∧ Below wx.heap.size wx w' ∧ StrsFrom wx.heap.size w' a' (mapV 1 (freshS n)).slots) := fun a c wx => apply_slot (freshS n) (freshS_size n)
  obtain ⟨s1, s2, s3, s4, A0, A1, A2, X0, Y0, X1, Y1, X2, Y2, X3, Y3, hBC⟩ := bt_ex n1 n2 g1 g2
  have HBC := hidx hBC
  have HT1 : Hid ((1 < taken → taken % 60 + 1 = n) ∧ (¬ 1 < taken → (1 : Int) = n)) := by
    refine ⟨fun h => ?_, fun h => ?_⟩
    · unfold btN at hN; rw [if_pos h, Int.tmod_eq_emod_of_nonneg (by omega)] at hN; omega
    · unfold btN at hN; rw [if_neg h] at hN; omega
  have HT2 : Hid ((1 < turn → turn % (n : Int) + 1 = g) ∧ (¬ 1 < turn → (1 : Int) = g)) := by
    refine ⟨fun h => ?_, fun h => ?_⟩
    · have := Int.emod_nonneg turn (show (n : Int) ≠ 0 by omega)
      unfold btG at hG; rw [if_pos h, Int.tmod_eq_emod_of_nonneg (by omega)] at hG; omega
    · unfold btG at hG; rw [if_neg h] at hG; omega
  clear hBC hN hG
  go_enter Tryz.func16, Tryz.ntmps16
  go_upto_if 30 with fail
  go_cut [5] from 30 to 33 (fun v5 wx => v5 = .int .i64 (n : Int) ∧ wx = w)
  case first =>
    as_aux_lemma =>
    clear HF HBL HA0 HA1 HBC HT2
    by_cases k : 1 < taken
    · have hT := hidx (HT1.out.1 k)
      have b1 := Int.emod_lt_of_pos taken (show (0 : Int) < 60 by omega)
      have b2 := Int.emod_nonneg taken (show (60 : Int) ≠ 0 by omega)
      clear HT1
      go_wp2
      go_meet
      case rel => exact ⟨congrArg (Value.int .i64) hT.out, rfl⟩
    · have hT := hidx (HT1.out.2 (by omega))
      clear HT1
      go_wp2
      go_meet
      case rel => exact ⟨congrArg (Value.int .i64) hT.out, rfl⟩
  obtain ⟨rfl, hwc⟩ := hcut
  rw [hwc]
  clear hwc
  clear HT1
  go_wp2_with fail
  refine (HF.out _).mono ?_
  rintro e w1 ⟨gb, rfl, b1, hgb, hops⟩
  go_wp2_with fail
  refine (HBL.out _).mono ?_
  rintro e w2 ⟨rfl, b2⟩
  obtain ⟨V, HV⟩ : ∃ V, Hid (V = w2.alloc (.cells #[.int .u32 1, .int .u64 0, .int .i64 0, .string ⟨#[]⟩, .slice none 0 0] 44)) := ⟨_, rfl⟩
  have HB0 : Hid (BtAt w V gb w2.heap.size n page0 none 0) := by
    have s1 := b1.size
    have s2 := b2.size
    have hl := hops.lt
    have b3 : Below w2.heap.size w2 V := by rw [HV.out]; exact (Below.refl _ _).alloc (Nat.le_refl _) _
    exact ⟨below_chain (below_chain b1 b2) b3, TwoOps.below (TwoOps.below hops b2) b3, by rw [HV.out]; exact RowV.five_new _ _ _ _ _ _ _, .inl rfl, hgb, by omega, by rw [HV.out]; simp⟩
  go_wp2_with fail
  rw [← HV.out]
  clear HV hops b1 b2 hgb
  generalize w2.heap.size = M at *
  go_loopw [9] (fun i wr => ∃ (a : Option Addr) (c : Nat), (i = .int .i64 0 ∧ Hid (BtAt w wr gb M n page0 a c)) ∨ (i = .int .i64 1 ∧ Hid (BtAt w wr gb M n page1 a c)) ∨ (i = .int .i64 2 ∧ Hid (BtAt w wr gb M n (mapV 1 (freshS n)) a c))) (fun i _ => 2 - (intOf i).toNat)
  case atStart => exact ⟨none, 0, .inl ⟨rfl, HB0⟩⟩
  case round =>
    clear HB0 HF HBL
    obtain ⟨a, c, ⟨rfl, HB⟩ | ⟨rfl, HB⟩ | ⟨rfl, HB⟩⟩ := hrel
    · as_aux_lemma =>
      clear HBC HT2
      obtain ⟨z0, z1, z2, z3, z4⟩ := HB.out.cur.cells5
      obtain ⟨q0, q1, q2, q3⟩ : _ ∧ _ ∧ _ ∧ _ := ⟨HB.out.ops.c0, HB.out.ops.c1, HB.out.ops.c2, HB.out.ops.c3⟩
      have HAP := HA0.out a c
      simp only [SheetV.val, OpV.val] at HAP
      obtain ⟨p, HP⟩ : ∃ p : SheetV, Hid (page0 = p) := ⟨_, rfl⟩
      obtain ⟨r, HR⟩ : ∃ r : SheetV, Hid (page1 = r) := ⟨_, rfl⟩
      obtain ⟨o, HO⟩ : ∃ o : OpV, Hid (opF = o) := ⟨_, rfl⟩
      rw [HP.out] at z0 z1 z2 z3 z4 HB
      rw [HP.out, HR.out, HO.out] at HAP
      have q0' : wr.cell? ⟨gb, 0, none⟩ = some (.int .i64 o.kind) := by rw [← HO.out]; exact q0
      have q1' : wr.cell? ⟨gb, 1, none⟩ = some (.int .i64 o.at') := by rw [← HO.out]; exact q1
      have q2' : wr.cell? ⟨gb, 2, none⟩ = some (.string o.S) := by rw [← HO.out]; exact q2
      have q3' : wr.cell? ⟨gb, 3, none⟩ = some (.string o.old) := by rw [← HO.out]; exact q3
      clear q0 q1 q2 q3
      have HAP' : Hid (∀ wx, Calls Tryz.prog 52 #[.agg #[.int .u32 p.num, .int .u64 p.lsn, .int .i64 p.kind, .string p.head, .slice a p.slots.length c], .agg #[.int .i64 o.kind, .int .i64 o.at', .string o.S, .string o.old], .int .u64 1] wx fun e w' => ∃ ar cr, e = .returned (.tuple #[.agg #[.int .u32 r.num, .int .u64 r.lsn, .int .i64 r.kind, .string r.head, .slice ar r.slots.length cr], .int .i64 0]) ∧ Below wx.heap.size wx w' ∧ StrsFrom wx.heap.size w' ar r.slots) := HAP
      clear HAP HA0 HA1 HP HO
      have HNX : Hid (∀ (w6 : World) (ar : Option Addr) (cr : Nat), Below wr.heap.size wr w6 → StrsFrom wr.heap.size w6 ar r.slots → BtAt w w6 gb M n p a c ∧ BtAt w (store5 w6 M (.int .u32 r.num) (.int .u64 r.lsn) (.int .i64 r.kind) (.string r.head) (.slice ar r.slots.length cr)) gb M n r ar cr) := fun w6 ar cr b hs => ⟨HB.out.below b, (HB.out.below b).put (hs.mono HB.out.lt3)⟩
      clear HB
      go_upto_region 9 with fail
      go_region_with (go_at_call 52; refine (HAP'.out _).mono ?_; rintro e w6 ⟨ar, cr, rfl, b6, hr⟩; have HY := hidx (HNX.out w6 ar cr (((Below.refl _ _).drew).trans b6) hr); clear b6 hr; obtain ⟨m0, m1, m2, m3, m4⟩ := HY.out.1.cur.open5; obtain ⟨y0, y1, y2, y3, y4⟩ := HY.out.1.cur.cells5)
      all_goals
        go_wp2_with fail
        go_roundw
        case rel => exact ⟨ar, cr, .inr (.inl ⟨rfl, by rw [HR.out]; exact HY.out.2⟩)⟩
        case measure => simp [intOf]
    · as_aux_lemma =>
      clear HBC HT2
      obtain ⟨z0, z1, z2, z3, z4⟩ := HB.out.cur.cells5
      obtain ⟨q0, q1, q2, q3⟩ : _ ∧ _ ∧ _ ∧ _ := ⟨HB.out.ops.c4, HB.out.ops.c5, HB.out.ops.c6, HB.out.ops.c7⟩
      have HAP := HA1.out a c
      simp only [SheetV.val, OpV.val] at HAP
      obtain ⟨p, HP⟩ : ∃ p : SheetV, Hid (page1 = p) := ⟨_, rfl⟩
      obtain ⟨r, HR⟩ : ∃ r : SheetV, Hid (mapV 1 (freshS n) = r) := ⟨_, rfl⟩
      obtain ⟨o, HO⟩ : ∃ o : OpV, Hid (opIns 0 (freshS n) = o) := ⟨_, rfl⟩
      rw [HP.out] at z0 z1 z2 z3 z4 HB
      rw [HP.out, HR.out, HO.out] at HAP
      have q0' : wr.cell? ⟨gb, 4, none⟩ = some (.int .i64 o.kind) := by rw [← HO.out]; exact q0
      have q1' : wr.cell? ⟨gb, 5, none⟩ = some (.int .i64 o.at') := by rw [← HO.out]; exact q1
      have q2' : wr.cell? ⟨gb, 6, none⟩ = some (.string o.S) := by rw [← HO.out]; exact q2
      have q3' : wr.cell? ⟨gb, 7, none⟩ = some (.string o.old) := by rw [← HO.out]; exact q3
      clear q0 q1 q2 q3
      have HAP' : Hid (∀ wx, Calls Tryz.prog 52 #[.agg #[.int .u32 p.num, .int .u64 p.lsn, .int .i64 p.kind, .string p.head, .slice a p.slots.length c], .agg #[.int .i64 o.kind, .int .i64 o.at', .string o.S, .string o.old], .int .u64 1] wx fun e w' => ∃ ar cr, e = .returned (.tuple #[.agg #[.int .u32 r.num, .int .u64 r.lsn, .int .i64 r.kind, .string r.head, .slice ar r.slots.length cr], .int .i64 0]) ∧ Below wx.heap.size wx w' ∧ StrsFrom wx.heap.size w' ar r.slots) := HAP
      clear HAP HA0 HA1 HP HO
      have HNX : Hid (∀ (w6 : World) (ar : Option Addr) (cr : Nat), Below wr.heap.size wr w6 → StrsFrom wr.heap.size w6 ar r.slots → BtAt w w6 gb M n p a c ∧ BtAt w (store5 w6 M (.int .u32 r.num) (.int .u64 r.lsn) (.int .i64 r.kind) (.string r.head) (.slice ar r.slots.length cr)) gb M n r ar cr) := fun w6 ar cr b hs => ⟨HB.out.below b, (HB.out.below b).put (hs.mono HB.out.lt3)⟩
      clear HB
      go_upto_region 9 with fail
      go_region_with (go_at_call 52; refine (HAP'.out _).mono ?_; rintro e w6 ⟨ar, cr, rfl, b6, hr⟩; have HY := hidx (HNX.out w6 ar cr (((Below.refl _ _).drew).trans b6) hr); clear b6 hr; obtain ⟨m0, m1, m2, m3, m4⟩ := HY.out.1.cur.open5; obtain ⟨y0, y1, y2, y3, y4⟩ := HY.out.1.cur.cells5)
      all_goals
        go_wp2_with fail
        go_roundw
        case rel => exact ⟨ar, cr, .inr (.inr ⟨rfl, by rw [HR.out]; exact HY.out.2⟩)⟩
        case measure => simp [intOf]
    · have HP1 : Hid (MpAt w wr M 1 (freshS n) a c) := ⟨HB.out.bel, HB.out.cur, HB.out.strs.at, HB.out.lt3⟩
      clear HB HA0 HA1
      generalize freshS n = s0 at HP1 HBC
      obtain ⟨x0, x1, x2, x3, x4⟩ := HP1.out.row.cells5
      go_wp2_with fail
      refine (HBC.out.t0 _ _ _ HP1.out.mem).mono ?_
      rintro e v1 ⟨rfl, b1⟩
      obtain ⟨W1, HW1⟩ : ∃ W1, Hid (W1 = v1.alloc (.cells #[.int .i64 6, .int .i64 A0, .string X0, .string Y0] 46)) := ⟨_, rfl⟩
      have k1 : Below v1.heap.size v1 W1 := by rw [HW1.out]; exact (Below.refl _ _).alloc (Nat.le_refl _) _
      have HP1' := hidx (HP1.out.below (below_chain b1 k1))
      have HO1 : Hid (OcAt W1 v1.heap.size A0 X0 Y0) := by show OcAt _ _ _ _ _; rw [HW1.out]; exact OcAt.new
      go_upto_region 11 with fail
      rw [← HW1.out]
      clear HW1 k1 b1 x0 x1 x2 x3 x4 HP1
      generalize v1.heap.size = o1 at *
      obtain ⟨x0, x1, x2, x3, x4⟩ := HP1'.out.row.cells5
      obtain ⟨y0, y1, y2, y3⟩ := HO1.out.row.cells4
      go_wp2_with fail
      refine (HBC.out.a0 _ _ _ HP1'.out.mem).mono ?_
      rintro e v2 ⟨a2, c2, rfl, b2, hs2⟩
      obtain ⟨W2, HW2⟩ : ∃ W', Hid (W' = v2.alloc (.cells #[.int .u32 1, .int .u64 2, .int .i64 1, .string ⟨#[]⟩, .slice a2 1 c2] 44)) := ⟨_, rfl⟩
      have k2 : Below v2.heap.size v2 W2 := by rw [HW2.out]; exact (Below.refl _ _).alloc (Nat.le_refl _) _
      have HP2 : Hid (MpAt w W2 v2.heap.size 2 s1 a2 c2) := by show MpAt _ _ _ _ _ _ _; rw [HW2.out]; exact MpAt.new HP1'.out.bel b2 hs2
      have HO1' := hidx (HO1.out.below (below_chain b2 k2))
      go_upto_region 12 with fail
      rw [← HW2.out]
      clear HW2 k2 b2 hs2 x0 x1 x2 x3 x4 y0 y1 y2 y3 HP1' HO1
      generalize v2.heap.size = p2 at *
      obtain ⟨x0, x1, x2, x3, x4⟩ := HP2.out.row.cells5
      go_wp2_with fail
      refine (HBC.out.t1 _ _ _ HP2.out.mem).mono ?_
      rintro e v3 ⟨rfl, b3⟩
      obtain ⟨W3, HW3⟩ : ∃ W', Hid (W' = v3.alloc (.cells #[.int .i64 6, .int .i64 A1, .string X1, .string Y1] 46)) := ⟨_, rfl⟩
      have k3 : Below v3.heap.size v3 W3 := by rw [HW3.out]; exact (Below.refl _ _).alloc (Nat.le_refl _) _
      have HP2' := hidx (HP2.out.below (below_chain b3 k3))
      have HO1 := hidx (HO1'.out.below (below_chain b3 k3))
      have HO2 : Hid (OcAt W3 v3.heap.size A1 X1 Y1) := by show OcAt _ _ _ _ _; rw [HW3.out]; exact OcAt.new
      go_upto_region 15 with fail
      rw [← HW3.out]
      clear HW3 k3 b3 x0 x1 x2 x3 x4 HP2 HO1'
      generalize v3.heap.size = o2 at *
      obtain ⟨x0, x1, x2, x3, x4⟩ := HP2'.out.row.cells5
      obtain ⟨y0, y1, y2, y3⟩ := HO2.out.row.cells4
      go_wp2_with fail
      refine (HBC.out.a1 _ _ _ HP2'.out.mem).mono ?_
      rintro e v4 ⟨a4, c4, rfl, b4, hs4⟩
      obtain ⟨W4, HW4⟩ : ∃ W', Hid (W' = v4.alloc (.cells #[.int .u32 1, .int .u64 3, .int .i64 1, .string ⟨#[]⟩, .slice a4 1 c4] 44)) := ⟨_, rfl⟩
      have k4 : Below v4.heap.size v4 W4 := by rw [HW4.out]; exact (Below.refl _ _).alloc (Nat.le_refl _) _
      have HP3 : Hid (MpAt w W4 v4.heap.size 3 s2 a4 c4) := by show MpAt _ _ _ _ _ _ _; rw [HW4.out]; exact MpAt.new HP2'.out.bel b4 hs4
      have HO1' := hidx (HO1.out.below (below_chain b4 k4))
      go_upto_if 86 with fail
      rw [← HW4.out]
      clear HW4 k4 b4 hs4 x0 x1 x2 x3 x4 y0 y1 y2 y3 HP2' HO2 HO1
      generalize v4.heap.size = p3 at *
      go_cut [20] from 86 to 91 (fun v20 wx => v20 = .int .u32 (g : Int) ∧ wx = W4)
      case first =>
        as_aux_lemma =>
        clear HBC HP3 HO1'
        have nz : ¬ ((n : Int) = 0) := by omega
        by_cases k : 1 < turn
        · have hT := hidx (HT2.out.1 k)
          have b1 := Int.emod_lt_of_pos turn (show (0 : Int) < n by omega)
          have b2 := Int.emod_nonneg turn (show (n : Int) ≠ 0 by omega)
          have hw1 : wrap64 (turn % (n : Int) + 1) = turn % (n : Int) + 1 := IntWalk.wrap64_in _ ⟨by omega, by omega⟩
          have hw2 : (turn % (n : Int) + 1) % 4294967296 = turn % (n : Int) + 1 := by omega
          clear HT2
          go_wp2
          go_meet
          case rel => exact ⟨congrArg (Value.int .u32) (by first | exact hT.out | (rw [hw1, hw2]; exact hT.out)), rfl⟩
        · have hT := hidx (HT2.out.2 (by omega))
          clear HT2
          go_wp2
          go_meet
          case rel => exact ⟨congrArg (Value.int .u32) hT.out, rfl⟩
      obtain ⟨rfl, hwc⟩ := hcut
      rw [hwc]
      clear hwc HT2
      obtain ⟨x0, x1, x2, x3, x4⟩ := HP3.out.row.cells5
      go_wp2_with fail
      refine (HBC.out.gv _ _ _ HP3.out.mem).mono ?_
      rintro e v5 ⟨rfl, b5⟩
      obtain ⟨W5, HW5⟩ : ∃ W', Hid (W' = v5.alloc (.cells #[.int .i64 6, .int .i64 A2, .string X2, .string Y2] 46)) := ⟨_, rfl⟩
      have k5 : Below v5.heap.size v5 W5 := by rw [HW5.out]; exact (Below.refl _ _).alloc (Nat.le_refl _) _
      have HP3' := hidx (HP3.out.below (below_chain b5 k5))
      have HO1 := hidx (HO1'.out.below (below_chain b5 k5))
      have HO3 : Hid (OcAt W5 v5.heap.size A2 X2 Y2) := by show OcAt _ _ _ _ _; rw [HW5.out]; exact OcAt.new
      go_upto_region 20 with fail
      rw [← HW5.out]
      clear HW5 k5 b5 x0 x1 x2 x3 x4 HP3 HO1'
      generalize v5.heap.size = o3 at *
      obtain ⟨x0, x1, x2, x3, x4⟩ := HP3'.out.row.cells5
      obtain ⟨y0, y1, y2, y3⟩ := HO3.out.row.cells4
      go_wp2_with fail
      refine (HBC.out.a2 _ _ _ HP3'.out.mem).mono ?_
      rintro e v6 ⟨a6, c6, rfl, b6, hs6⟩
      obtain ⟨W6, HW6⟩ : ∃ W', Hid (W' = v6.alloc (.cells #[.int .u32 1, .int .u64 4, .int .i64 1, .string ⟨#[]⟩, .slice a6 1 c6] 44)) := ⟨_, rfl⟩
      have k6 : Below v6.heap.size v6 W6 := by rw [HW6.out]; exact (Below.refl _ _).alloc (Nat.le_refl _) _
      have HP4 : Hid (MpAt w W6 v6.heap.size 4 s3 a6 c6) := by show MpAt _ _ _ _ _ _ _; rw [HW6.out]; exact MpAt.new HP3'.out.bel b6 hs6
      have HO1' := hidx (HO1.out.below (below_chain b6 k6))
      go_upto_region 21 with fail
      rw [← HW6.out]
      clear HW6 k6 b6 hs6 x0 x1 x2 x3 x4 y0 y1 y2 y3 HP3' HO3 HO1
      generalize v6.heap.size = p4 at *
      obtain ⟨x0, x1, x2, x3, x4⟩ := HP4.out.row.cells5
      obtain ⟨y0, y1, y2, y3⟩ := HO1'.out.row.cells4
      go_wp2_with fail
      refine (HBC.out.un _ _ _ HP4.out.mem).mono ?_
      rintro e v7 ⟨rfl, b7⟩
      obtain ⟨W7, HW7⟩ : ∃ W', Hid (W' = v7.alloc (.cells #[.int .i64 6, .int .i64 A0, .string X3, .string Y3] 46)) := ⟨_, rfl⟩
      have k7 : Below v7.heap.size v7 W7 := by rw [HW7.out]; exact (Below.refl _ _).alloc (Nat.le_refl _) _
      have HP4' := hidx (HP4.out.below (below_chain b7 k7))
      have HO4 : Hid (OcAt W7 v7.heap.size A0 X3 Y3) := by show OcAt _ _ _ _ _; rw [HW7.out]; exact OcAt.new
      go_upto_region 24 with fail
      rw [← HW7.out]
      clear HW7 k7 b7 x0 x1 x2 x3 x4 y0 y1 y2 y3 HP4 HO1'
      generalize v7.heap.size = o4 at *
      obtain ⟨x0, x1, x2, x3, x4⟩ := HP4'.out.row.cells5
      obtain ⟨y0, y1, y2, y3⟩ := HO4.out.row.cells4
      go_wp2_with fail
      refine (HBC.out.a3 _ _ _ HP4'.out.mem).mono ?_
      rintro e v8 ⟨a8, c8, rfl, b8, hs8⟩
      obtain ⟨W8, HW8⟩ : ∃ W', Hid (W' = v8.alloc (.cells #[.int .u32 1, .int .u64 5, .int .i64 1, .string ⟨#[]⟩, .slice a8 1 c8] 44)) := ⟨_, rfl⟩
      have HP5 : Hid (MpAt w W8 v8.heap.size 5 s4 a8 c8) := by show MpAt _ _ _ _ _ _ _; rw [HW8.out]; exact MpAt.new HP4'.out.bel b8 hs8
      go_upto_region 25 with fail
      rw [← HW8.out]
      clear HW8 b8 hs8 x0 x1 x2 x3 x4 y0 y1 y2 y3 HP4' HO4
      generalize v8.heap.size = p5 at *
      obtain ⟨x0, x1, x2, x3, x4⟩ := HP5.out.row.cells5
      go_wp2_with fail
      refine (HBC.out.k1 _ _ _ HP5.out.mem).mono ?_
      rintro e u1 ⟨rfl, d1⟩
      have HQ1 := hidx (HP5.out.below d1)
      clear d1 x0 x1 x2 x3 x4 HP5
      obtain ⟨x0, x1, x2, x3, x4⟩ := HQ1.out.row.cells5
      go_wp2_with fail
      refine (HBC.out.k2 _ _ _ HQ1.out.mem).mono ?_
      rintro e u2 ⟨rfl, d2⟩
      have HQ2 := hidx (HQ1.out.below d2)
      clear d2 x0 x1 x2 x3 x4 HQ1
      obtain ⟨x0, x1, x2, x3, x4⟩ := HQ2.out.row.cells5
      go_wp2_with fail
      refine (HBC.out.k3 _ _ _ HQ2.out.mem).mono ?_
      rintro e u3 ⟨rfl, d3⟩
      have HQ3 := hidx (HQ2.out.below d3)
      clear d3 x0 x1 x2 x3 x4 HQ2
      obtain ⟨x0, x1, x2, x3, x4⟩ := HQ3.out.row.cells5
      go_wp2_with fail
      refine (HBC.out.ct _ _ _ HQ3.out.mem).mono ?_
      rintro e u4 ⟨rfl, d4⟩
      have HQ4 := hidx (HQ3.out.below d4)
      clear d4 x0 x1 x2 x3 x4 HQ3
      go_wp2
      refine bodyPost_ret (v := .bool true) (by simp [results, Tryz.results16, go_sem]) rfl ?_
      exact ⟨rfl, HQ4.out.bel⟩

end Go.Proofs.YtdhphbokkmofaaaGreat

namespace Go.Proofs.YtdhphbokkmofaaaGreat
open Go.RowKit Go.Sort

def ldM2 : MgG := (mg0.born.pushed 1).gone 1

theorem ldM2_T (j : Int) : ldM2.T j = none := by
  show (if j = 1 then none else if j = ((mg0.next : Nat) : Int) then some (fresh mg0.next) else none) = none
  by_cases h : j = 1
  · rw [if_pos h]
  · rw [if_neg h]
    exact if_neg (show ¬ j = ((mg0.next : Nat) : Int) from h)

structure AwkAt (w0 w' : World) (m p lp : Nat) (A0 : Nat → Prop) : Prop where
  ex : ∃ X d rs0, GN w0 w' m p X A0 lp 1 d ldM2.born rs0 2 0 586 1 True (fun k => k = 1) ldV ldJ [] ∧ d.room = 300

section
variable {w0 w wx : World} {m p lp : Nat} {X : Int → Nat} {A0 : Nat → Prop}

theorem awk_begin (h : LdOut w0 w m p X A0 lp) :
    Calls Tryz.prog 18 #[.pointer (some ⟨m, 0, none⟩)] w fun r w' => r = .returned (.tuple #[.int .i64 2, .int .i64 0]) ∧ AwkAt w0 w' m p lp A0 := by
  obtain ⟨A, P, l, rs, ext, d, last, hM, hR, hk, hF, hP, mv, hext, hlo, hd, hj, hrm⟩ := h.ex
  have hM' : MSys w m p X A P l d ldM2 := hM
  refine (begin_ok hM' (by show 2 ≤ _; omega) (ldM2_T _) (by show 0 < 64; omega) (by omega) (by omega)).mono ?_
  rintro e w' ⟨rfl, A', b, g, mv'⟩
  have hT : ldM2.born.T ((2 : Nat) : Int) = some (fresh 2) := by
    show (if (((2 : Nat) : Int)) = ((ldM2.next : Nat) : Int) then some (fresh ldM2.next) else ldM2.T 2) = _
    rw [if_pos (by rfl)]
    rfl
  refine ⟨rfl, ⟨bornX X ldM2.next b, d, rs, ⟨A', P, { l with kept := l.kept + 128 }, rs, fresh 2, [], by rw [MgG.set_self hT]; exact g, ⟨hR.starts, hR.long, hR.text⟩, TxN.start rs _ 2 (by omega), rfl, ?_, ?_, hP, mv.trans mv', by rw [List.append_nil], ⟨hlo.half, hlo.fl, hlo.most, hlo.at'⟩, trivial, fun _ => rfl⟩, hrm⟩⟩
  · show l.kept + 128 = 0 + 128; omega
  · show l.bytes.length + (l.kept + 128) ≤ 586; omega

end

end Go.Proofs.YtdhphbokkmofaaaGreat

namespace Go.Proofs.YtdhphbokkmofaaaGreat
open Go.RowKit Go.Sort

theorem ld_free : freeF ldS (roomN 300) 0 = 3 := by decide +kernel

structure AwkEnd (w w' : World) (m p : Nat) : Prop where
  ex : ∃ X A P l d M f, MSys w' m p X A P l d M ∧ P.F 1 = some f ∧ f.sh.Fits ∧ f.sh.num = 1 ∧ SameC f.sh (mapV 0 ldS)
  bel : Below w.heap.size w w'

set_option maxHeartbeats 6400000 in
set_option maxRecDepth 20000 in
theorem awake16_any (w : World) : Calls Tryz.prog 13 #[] w fun e w' => e = .returned (.bool true) ∧ Below w.heap.size w w' := by
  have hfree := ld_free
  have h256 := ldS_size
  go_enter Tryz.func13, Tryz.ntmps13
  go_wp2_with fail
  refine (begun16_any w).mono ?_
  rintro e w1 ⟨⟨m, p, lp, w0, X, A0, rfl, h1, b0, hA0⟩⟩
  have HBG := hidx (awk_begin h1)
  have HB0 := hidx b0
  have HA0 := hidx hA0
  clear h1 b0 hA0
  go_wp2_with fail
  refine HBG.out.mono ?_
  rintro e w2 ⟨rfl, ⟨X2, d, rs0, hg, hrm⟩⟩
  have HAL := hidx (halloc_any (ldJ_ok 2) hg rfl ldS rfl h256 (by rw [hrm]; omega) (by rw [hrm]; omega) 3 (by rw [hrm]; exact hfree) (by omega) (by omega) (by omega) (by omega))
  clear HBG hg
  go_wp2_with fail
  refine HAL.out.mono ?_
  rintro e w3 ⟨rfl, ⟨pl, prev, hg3⟩⟩
  have HAB : Hid (Calls Tryz.prog 49 #[.pointer (some ⟨m, 0, none⟩), .int .i64 2] w3 fun e w' => e = .returned (.int .i64 0) ∧ AwkEnd w w' m p) := by
    refine (uabort_any (ldJ_ok 2) (by omega) hg3 (by rw [(turnO_sz ldS 3).1, (turnO_sz ldS 3).2]; omega) (turn_undN rfl rfl h256 (by omega))).mono ?_
    rintro e w' ⟨rfl, A, P, l, rs, ext, last, hM, hR, hk, hF, hP, mv, _⟩
    obtain ⟨f, hf, hfit, hnum, hsame⟩ := hP.at' 1 rfl
    exact ⟨rfl, ⟨_, _, _, _, _, _, f, hM, hf, hfit, hnum, hsame⟩, below_kept HB0.out mv.1 HA0.out⟩
  clear HAL hg3 HB0 HA0
  go_wp2_with fail
  refine HAB.out.mono ?_
  rintro e w4 ⟨rfl, ⟨⟨X4, A4, P4, l4, d4, M4, f, hM, hf, hfit, hnum, hsame⟩, hb4⟩⟩
  clear HAB
  have HPL := hidx (mpool_any hM)
  have HGT : Hid (Calls Tryz.prog 34 #[.pointer (some ⟨p, 0, none⟩), .int .u32 1] w4 (ShOut w4 f.sh fun v => .returned (.tuple #[v, .int .i64 0]))) := by
    obtain ⟨A1, hS, _, _⟩ := hM.sys
    exact get_here hS 1 (by omega) (by omega) hf
  have hsl : f.sh.slots = [ldS] := hsame.slots
  have hs0 : slot0 f.sh = ldS := by unfold slot0; rw [hsl]; rfl
  have hbm : isB f.sh = true := by
    unfold isB
    rw [decide_eq_true_eq]
    exact ⟨hsame.kind, by rw [hsl]; rfl, by rw [hs0]; exact h256⟩
  have HTK : Hid (∀ (wx : World) (a : Option Addr) (c : Nat) (k : Nat), k < 4294967296 → f.sh.Lies wx a → Calls Tryz.prog 45 #[f.sh.val a c, .int .u32 k] wx fun e w' => e = .returned (.bool (decide (1 ≤ k ∧ k ≤ 2048 ∧ k ≤ 2))) ∧ Below wx.heap.size wx w') := fun wx a c k hk hl => by
    have := taken_any (c := c) hl k hk
    rw [show tkP f.sh k = decide (1 ≤ k ∧ k ≤ 2048 ∧ k ≤ 2) from by unfold tkP; rw [hbm, hs0]; exact fresh_tk 2 k] at this
    exact this
  have HLI : Hid (∀ (B : Nat) (wx : World) (a : Option Addr), StrsFrom B wx a f.sh.slots → f.sh.Lies wx a) := fun B wx a hs => Fits.lies hfit hs.at
  have HB4 := hidx hb4
  clear hM hf hfit hnum hsame hb4 hsl hs0 hbm hfree h256
  generalize f.sh = x at HGT HTK HLI
  go_wp2_with fail
  refine HPL.out.mono ?_
  rintro e wz ⟨rfl, rfl⟩
  go_wp2_with fail
  refine HGT.out.mono ?_
  rintro e w5 ⟨⟨a, c, rfl, hs, b5⟩⟩
  have hl5 := HLI.out _ _ _ hs
  obtain ⟨W5, HW5⟩ : ∃ W', Hid (W' = w5.alloc (.cells #[.int .u32 x.num, .int .u64 x.lsn, .int .i64 x.kind, .string x.head, .slice a x.slots.length c] 44)) := ⟨_, rfl⟩
  have b6 : Below w5.heap.size w5 W5 := by rw [HW5.out]; exact (Below.refl _ _).alloc (Nat.le_refl _) _
  have r6 : RowV W5 w5.heap.size 5 (five (.int .u32 x.num) (.int .u64 x.lsn) (.int .i64 x.kind) (.string x.head) (.slice a x.slots.length c)) := by rw [HW5.out]; exact RowV.five_new w5 _ _ _ _ _ _
  have HL6 := hidx (hl5.below b6)
  have HB6 := hidx (below_chain (below_chain HB4.out b5) b6)
  have HR6 : Hid (RowV W5 w5.heap.size 5 (five (.int .u32 x.num) (.int .u64 x.lsn) (.int .i64 x.kind) (.string x.head) (.slice a x.slots.length c)) ∧ w5.heap.size < W5.heap.size) := hidx ⟨r6, by rw [HW5.out]; simp⟩
  obtain ⟨y0, y1, y2, y3, y4⟩ := r6.cells5
  simp only [SheetV.val] at HTK ⊢
  clear hs b5 hl5 b6 r6 HGT HLI HPL HB4
  go_upto_region 8 with fail
  rw [← HW5.out]
  clear HW5
  generalize w5.heap.size = g5 at y0 y1 y2 y3 y4 HR6 ⊢
  go_wp2_with fail
  refine (HTK.out _ a c 3 (by omega) HL6.out).mono ?_
  rintro e w7 ⟨rfl, b7⟩
  have HB7 := hidx (below_chain HB6.out b7)
  have HL7 := hidx (HL6.out.below b7)
  obtain ⟨y0, y1, y2, y3, y4⟩ := (HR6.out.1.below b7 HR6.out.2).cells5
  go_wp2_with fail
  refine (HTK.out _ a c 2 (by omega) HL7.out).mono ?_
  rintro e w8 ⟨rfl, b8⟩
  have HB8 := hidx (below_chain HB7.out b8)
  go_wp2_with fail
  refine bodyPost_ret (v := .bool true) (by simp [results, Tryz.results13, go_sem]) rfl ?_
  exact ⟨rfl, HB8.out⟩

end Go.Proofs.YtdhphbokkmofaaaGreat

namespace Go.Proofs.YtdhphbokkmofaaaGreat
open Go.RowKit Go.Sort

theorem umixed : Tryz.prog.follows .mixedOrders = true := by kernel_rfl

structure UwAt (w wx : World) (p : SheetV) (r : RecV) (a : Option Addr) (c : Nat) (ta da : Option Addr) (tc dc : Nat) (x y : Int) : Prop where
  page : Blk wx w.heap.size #[.int .u32 p.num, .int .u64 p.lsn, .int .i64 p.kind, .string p.head, .slice a p.slots.length c] 44
  rec' : Blk wx (w.heap.size + 1) (r.cells ta da tc dc) 54
  b0 : wx.cell? ⟨w.heap.size + 2, 0, none⟩ = some (.int .i64 x)
  b1 : wx.cell? ⟨w.heap.size + 2, 1, none⟩ = some (.int .i64 y)
  lies : p.Lies wx a
  bel : Below w.heap.size w wx
  lt : w.heap.size + 3 ≤ wx.heap.size

theorem UwAt.below {w wx wy : World} {p : SheetV} {r : RecV} {a : Option Addr} {c : Nat} {ta da : Option Addr} {tc dc : Nat} {x y : Int} (h : UwAt w wx p r a c ta da tc dc x y) (k : Below wx.heap.size wx wy) : UwAt w wy p r a c ta da tc dc x y :=
  have := h.lt
  ⟨h.page.same (k.block _ (by omega)), h.rec'.same (k.block _ (by omega)), (k.cell (p := ⟨w.heap.size + 2, 0, none⟩) (by show w.heap.size + 2 < _; omega)).trans h.b0, (k.cell (p := ⟨w.heap.size + 2, 1, none⟩) (by show w.heap.size + 2 < _; omega)).trans h.b1, h.lies.below k, below_chain h.bel k, by have := k.size; omega⟩

def uwBox (p : SheetV) (r : RecV) (a : Option Addr) (c : Nat) (ta da : Option Addr) (tc dc : Nat) (x y : Int) (w : World) : World := ((w.alloc (.cells #[.int .u32 p.num, .int .u64 p.lsn, .int .i64 p.kind, .string p.head, .slice a p.slots.length c] 44)).alloc (.cells (r.cells ta da tc dc) 54)).alloc (.cells #[.int .i64 x, .int .i64 y] 55)

theorem uwBox_at {p : SheetV} {a : Option Addr} {w : World} (h : p.Lies w a) (r : RecV) (c : Nat) (ta da : Option Addr) (tc dc : Nat) (x y : Int) : UwAt w (uwBox p r a c ta da tc dc x y w) p r a c ta da tc dc x y := by
  unfold uwBox
  have b1 : Below w.heap.size w (w.alloc (.cells #[.int .u32 p.num, .int .u64 p.lsn, .int .i64 p.kind, .string p.head, .slice a p.slots.length c] 44)) := (Below.refl _ _).alloc (Nat.le_refl _) _
  have bb : Below w.heap.size w (((w.alloc (.cells #[.int .u32 p.num, .int .u64 p.lsn, .int .i64 p.kind, .string p.head, .slice a p.slots.length c] 44)).alloc (.cells (r.cells ta da tc dc) 54)).alloc (.cells #[.int .i64 x, .int .i64 y] 55)) := (b1.alloc (by simp) _).alloc (by simp; omega) _
  have hn := Blk.made ((w.alloc (.cells #[.int .u32 p.num, .int .u64 p.lsn, .int .i64 p.kind, .string p.head, .slice a p.slots.length c] 44)).alloc (.cells (r.cells ta da tc dc) 54)) #[.int .i64 x, .int .i64 y] 55
  rw [show ((w.alloc (.cells #[.int .u32 p.num, .int .u64 p.lsn, .int .i64 p.kind, .string p.head, .slice a p.slots.length c] 44)).alloc (.cells (r.cells ta da tc dc) 54)).heap.size = w.heap.size + 2 by simp] at hn
  refine ⟨((Blk.made w _ _).same (heap_old _ _ (by simp))).same (heap_old _ _ (by simp; omega)), ?_, hn.cell 0, hn.cell 1, h.below bb, bb, by simp⟩
  have h1 := Blk.made (w.alloc (.cells #[.int .u32 p.num, .int .u64 p.lsn, .int .i64 p.kind, .string p.head, .slice a p.slots.length c] 44)) (r.cells ta da tc dc) 54
  rw [show (w.alloc (.cells #[.int .u32 p.num, .int .u64 p.lsn, .int .i64 p.kind, .string p.head, .slice a p.slots.length c] 44)).heap.size = w.heap.size + 1 by simp] at h1
  exact h1.same (heap_old _ _ (by simp))

section
variable {p : SheetV} {r : RecV} {a : Option Addr} {c : Nat} {w : World}

set_option maxHeartbeats 6400000 in
set_option maxRecDepth 20000 in
theorem undoOps_walk (h : p.Lies w a) (ho : r.op.Ok) (ta da : Option Addr) (tc dc : Nat) (x y : Int) (hx : -9223372036854775808 ≤ x ∧ x ≤ 9223372036854775807) (hy : -9223372036854775808 ≤ y ∧ y ≤ 9223372036854775807) :
    Calls Tryz.prog 4 #[p.val a c, .agg (r.cells ta da tc dc), .agg #[.int .i64 x, .int .i64 y]] w fun e w' => e = .returned (.bool true) ∧ Below w.heap.size w w' := by
  have HUO : Hid (∀ wx, p.Lies wx a → Calls Tryz.prog 12 #[p.val a c, .agg (r.cells ta da tc dc)] wx fun e w' => e = .returned (.tuple #[(uopO p r).val, .int .i64 (uopE p r)]) ∧ Below wx.heap.size wx w') := fun wx hl => uop_any hl ho ta da tc dc
  have HAW := hidx (fun wx => awake16_any wx)
  have HBT := hidx (fun wx => bit16_any x y wx hx hy)
  have HOP := hidx (fun (o : OpV) wx => op16_any o wx)
  have HRI := hidx (fun (o : OpV) wx => rinverse_any o wx)
  have HPAR : Hid (r.cells ta da tc dc = #[.int .i64 r.kind, .int .i64 r.tx, .int .u64 r.prev, .int .u64 r.next, .int .u32 r.page, .int .i64 r.op.kind, .int .i64 r.op.at', .string r.op.S, .string r.op.old, .int .i64 r.undo, .int .i64 r.index, .string r.key, .int .u32 r.rpage, .int .i64 r.rslot, .bool r.live, .slice ta r.txs.length tc, .slice da r.dirty.length dc]) := rfl
  obtain ⟨W, HW⟩ : ∃ W, Hid (W = uwBox p r a c ta da tc dc x y w) := ⟨_, rfl⟩
  have HA : Hid (UwAt w W p r a c ta da tc dc x y) := by show UwAt _ _ _ _ _ _ _ _ _ _ _ _; rw [HW.out]; exact uwBox_at h r c ta da tc dc x y
  have HO : Hid (uopO p r = if uopX p r then op00 else if uopM r then agO p r.op else invO r.op) := rfl
  have HE : Hid (uopE p r = if uopX p r then 1 else if uopM r then agE p r.op else 0) := rfl
  obtain ⟨U, HU⟩ : ∃ U, Hid (uopO p r = U) := ⟨_, rfl⟩
  obtain ⟨E, HE'⟩ : ∃ E, Hid (uopE p r = E) := ⟨_, rfl⟩
  rw [HU.out] at HUO HO
  rw [HE'.out] at HUO HE
  have HX : Hid ((uopX p r = true → (r.kind ≠ 1 ∨ r.undo ≠ 1 ∨ r.page ≠ p.num)) ∧ (uopX p r = false → r.kind = 1 ∧ r.undo = 1 ∧ r.page = p.num)) := by
    unfold uopX
    refine ⟨fun k => of_decide_eq_true k, fun k => ?_⟩
    have := of_decide_eq_false k
    refine ⟨Classical.byContradiction fun q => this (.inl q), Classical.byContradiction fun q => this (.inr (.inl q)), Classical.byContradiction fun q => this (.inr (.inr q))⟩
  have HM : Hid ((uopM r = true → r.page = 1 ∧ r.op.kind = 6) ∧ (uopM r = false → ¬ (r.page = 1 ∧ r.op.kind = 6))) := by
    unfold uopM
    exact ⟨fun k => of_decide_eq_true k, fun k => of_decide_eq_false k⟩
  have HAG : Hid (agE p r.op = 0 ∨ agE p r.op = 160) := by
    show _ ∨ _
    unfold agE
    split
    · exact .inl rfl
    · exact .inr rfl
  clear h ho HU HE'
  unfold uwBox at HW
  simp only [SheetV.val, OpV.val] at HUO HOP HRI ⊢
  rw [HPAR.out]
  go_enter Tryz.func4, Tryz.ntmps4
  go_upto_region 1 with fail
  rw [← HPAR.out, ← HW.out]
  clear HW
  have hb0 := HA.out.b0
  have hb1 := HA.out.b1
  go_cut [7, 8] from 11 to 14 (fun v7 v8 wx => v7 = .int .i64 x ∧ v8 = .int .i64 y ∧ Hid (UwAt w wx p r a c ta da tc dc x y))
  case first =>
    clear HUO HAW HBT HOP HRI HO HE HX HM HAG
    go_quiet (fail)
    go_wp2_with fail
    go_meet
    case rel => exact ⟨rfl, rfl, hidx (HA.out.below (below_drewN (Below.refl _ _) _))⟩
  obtain ⟨rfl, rfl, H1⟩ := hcut
  clear HA hb0 hb1
  go_upto_region 2 with fail
  refine wp_region_lit ?_
  refine wpList_loadRow rfl _ _ rfl w.heap.size rfl #[.int .u32 p.num, .int .u64 p.lsn, .int .i64 p.kind, .string p.head, .slice a p.slots.length c] _ (0, 0) H1.out.page _ Tryz.underlying44 rfl (by kernel_rfl) ?_
  refine wpList_loadRow rfl _ _ rfl (w.heap.size + 1) rfl (r.cells ta da tc dc) _ (0, 0) H1.out.rec' _ Tryz.underlying54 rfl (by kernel_rfl) ?_
  go_wp2_with fail
  refine (HUO.out _ H1.out.lies).mono ?_
  rintro e w2 ⟨rfl, b2⟩
  obtain ⟨u1, u2, u3, u4⟩ := U
  simp only
  obtain ⟨W2, HW2⟩ : ∃ W', Hid (W' = w2.alloc (.cells #[.int .i64 u1, .int .i64 u2, .string u3, .string u4] 46)) := ⟨_, rfl⟩
  have k2 : Below w2.heap.size w2 W2 := by rw [HW2.out]; exact (Below.refl _ _).alloc (Nat.le_refl _) _
  have H2 := hidx (H1.out.below (below_chain b2 k2))
  have HQ2 : Hid (RowV W2 w2.heap.size 4 (four (.int .i64 u1) (.int .i64 u2) (.string u3) (.string u4)) ∧ w2.heap.size < W2.heap.size) := ⟨by rw [HW2.out]; exact RowV.four_new _ _ _ _ _ _, by rw [HW2.out]; simp⟩
  go_upto_region 3 with fail
  rw [← HW2.out]
  clear HW2 k2 b2 H1 HUO
  generalize w2.heap.size = q at *
  go_wp2_with fail
  refine (HAW.out _).mono ?_
  rintro e w3 ⟨rfl, b3⟩
  have H3 := hidx (H2.out.below b3)
  have HQ3 := hidx (show RowV w3 q 4 (four (.int .i64 u1) (.int .i64 u2) (.string u3) (.string u4)) ∧ q < w3.heap.size from ⟨HQ2.out.1.below b3 HQ2.out.2, Nat.lt_of_lt_of_le HQ2.out.2 b3.size⟩)
  clear H2 HQ2 b3 HAW
  have c0 : w3.cell? ⟨w.heap.size + 1, 0, none⟩ = some (.int .i64 r.kind) := H3.out.rec'.cell 0
  have c4 : w3.cell? ⟨w.heap.size + 1, 4, none⟩ = some (.int .u32 r.page) := H3.out.rec'.cell 4
  have c9 : w3.cell? ⟨w.heap.size + 1, 9, none⟩ = some (.int .i64 r.undo) := H3.out.rec'.cell 9
  have x0 : w3.cell? ⟨w.heap.size, 0, none⟩ = some (.int .u32 p.num) := H3.out.page.cell 0
  go_upto_region 5 with fail
  go_cut [37] from 23 to 37 (fun v37 wx => v37 = .bool (uopX p r) ∧ Hid (UwAt w wx p r a c ta da tc dc x y ∧ RowV wx q 4 (four (.int .i64 u1) (.int .i64 u2) (.string u3) (.string u4)) ∧ q < wx.heap.size))
  case first =>
    have HH := hidx (show UwAt w w3 p r a c ta da tc dc x y ∧ RowV w3 q 4 (four (.int .i64 u1) (.int .i64 u2) (.string u3) (.string u4)) ∧ q < w3.heap.size from ⟨H3.out, HQ3.out⟩)
    clear HBT HOP HRI HO HE HM HAG H3 HQ3
    go_wp2_with fail
    all_goals
      go_meet
      case rel =>
        refine ⟨?_, HH⟩
        clear HH
        unfold uopX
        simp_all
        try (by_cases k : r.page = p.num <;> simp [bne, k]; try omega)
  obtain ⟨rfl, H4⟩ := hcut
  clear H3 HQ3 c0 c4 c9 x0
  by_cases hx1 : uopX p r = true
  · have hO := HO.out
    rw [if_pos hx1] at hO
    have hE := HE.out
    rw [if_pos hx1] at hE
    unfold op00 at hO
    simp only [OpV.mk.injEq] at hO
    obtain ⟨rfl, rfl, rfl, rfl⟩ := hO
    subst hE
    rw [hx1]
    clear HO HE HX HM HAG HOP HRI hx1
    obtain ⟨q0, q1, q2, q3⟩ := H4.out.2.1.cells4
    go_wp2_with fail
    refine (HBT.out _).mono ?_
    rintro e w9 ⟨rfl, b9⟩
    have HF := hidx (below_chain H4.out.1.bel b9)
    clear H4
    go_wp2
    refine bodyPost_ret (v := .bool true) (by simp [results, Tryz.results4, go_sem]) rfl ?_
    exact ⟨rfl, HF.out⟩
  · have hx2 : uopX p r = false := by simpa using hx1
    have hO := HO.out
    rw [if_neg hx1] at hO
    have hE := HE.out
    rw [if_neg hx1] at hE
    have HO2 := hidx hO
    have HE2 := hidx hE
    rw [hx2]
    clear HO HE HX hx1 hx2 hO hE
    have c4 : wc.cell? ⟨w.heap.size + 1, 4, none⟩ = some (.int .u32 r.page) := H4.out.1.rec'.cell 4
    have c5 : wc.cell? ⟨w.heap.size + 1, 5, none⟩ = some (.int .i64 r.op.kind) := H4.out.1.rec'.cell 5
    go_upto_region 8 with fail
    go_cut [53] from 45 to 53 (fun v53 wx => v53 = .bool (!uopM r) ∧ Hid (UwAt w wx p r a c ta da tc dc x y ∧ RowV wx q 4 (four (.int .i64 u1) (.int .i64 u2) (.string u3) (.string u4)) ∧ q < wx.heap.size))
    case first =>
      clear HBT HOP HRI HO2 HE2 HAG
      by_cases k1 : r.page = 1
      · have hX : uopM r = (r.op.kind == 6) := by
          unfold uopM
          by_cases k3 : r.op.kind = 6
          · rw [decide_eq_true ⟨k1, k3⟩, k3]; rfl
          · rw [decide_eq_false (fun q => k3 q.2), beq_eq_false_iff_ne.2 k3]
        have HX := hidu hX
        rw [k1] at c4
        clear k1 hX HM
        go_wp2_with fail
        go_meet
        case rel => exact ⟨by rw [HX.out]; first | rfl | simp [bne], H4⟩
      · have hq : ((r.page : Int) == 1) = false := beq_eq_false_iff_ne.2 (by omega)
        have hX : uopM r = false := decide_eq_false (fun q => k1 q.1)
        have HX := hidu hX
        have hq2 : ((r.page : Int) != 1) = true := by simp [bne, hq]
        have hq3 : decide ((r.page : Int) ≠ 1) = true := by simp; omega
        clear hX HM
        go_wp2_with fail
        go_meet
        case rel => exact ⟨by rw [HX.out]; first | rfl | simp [bne, hq] | (trace_state; rfl), H4⟩
    obtain ⟨rfl, H5⟩ := hcut
    clear H4 c4 c5
    cases hm : uopM r with
    | true =>
      have hE := HE2.out
      rw [if_pos hm] at hE
      clear HO2 HE2 HM HOP HRI
      have hE' : E = 0 ∨ E = 160 := by rw [hE]; exact HAG.out
      clear hE HAG
      rcases hE' with rfl | rfl
      all_goals
        go_wp2_with fail
        refine (HBT.out _).mono ?_
        rintro e w9 ⟨rfl, b9⟩
        have HF := hidx (below_chain H5.out.1.bel b9)
        clear H5
        go_wp2
        refine bodyPost_ret (v := .bool true) (by simp [results, Tryz.results4, go_sem]) rfl ?_
        exact ⟨rfl, HF.out⟩
    | false =>
      have hO := HO2.out
      rw [if_neg (by rw [hm]; simp)] at hO
      have hE := HE2.out
      rw [if_neg (by rw [hm]; simp)] at hE
      subst hE
      have HI := hidx hO
      clear hO HO2 HE2 HM HAG hm
      obtain ⟨q0, q1, q2, q3⟩ := H5.out.2.1.cells4
      have c5 : wc.cell? ⟨w.heap.size + 1, 5, none⟩ = some (.int .i64 r.op.kind) := H5.out.1.rec'.cell 5
      have c6 : wc.cell? ⟨w.heap.size + 1, 6, none⟩ = some (.int .i64 r.op.at') := H5.out.1.rec'.cell 6
      have c7 : wc.cell? ⟨w.heap.size + 1, 7, none⟩ = some (.string r.op.S) := H5.out.1.rec'.cell 7
      have c8 : wc.cell? ⟨w.heap.size + 1, 8, none⟩ = some (.string r.op.old) := H5.out.1.rec'.cell 8
      have HU1 : Hid (∀ wx, Calls Tryz.prog 14 #[.agg #[.int .i64 u1, .int .i64 u2, .string u3, .string u4]] wx fun e w' => e = .returned (.agg #[.int .i64 u1, .int .i64 u2, .string u3, .string u4]) ∧ Below wx.heap.size wx w') := fun wx => HOP.out ⟨u1, u2, u3, u4⟩ wx
      have HU2 := hidx (fun wx => HOP.out r.op wx)
      have HU3 : Hid (∀ wx, Calls Tryz.prog 15 #[.agg #[.int .i64 r.op.kind, .int .i64 r.op.at', .string r.op.S, .string r.op.old]] wx fun e w' => e = .returned (.agg #[.int .i64 u1, .int .i64 u2, .string u3, .string u4]) ∧ Below wx.heap.size wx w') := fun wx => by
        have := HRI.out r.op wx
        rw [← HI.out] at this
        exact this
      clear HOP HRI HI
      go_upto_region 9 with fail
      go_cut [64] from 54 to 64 (fun v64 wx => v64 = .bool false ∧ Hid (Below w.heap.size w wx))
      case first =>
        clear HBT
        have e0 := cell_regrown q0
        have e1 := cell_regrown q1
        have e2 := cell_regrown q2
        have e3 := cell_regrown q3
        have e5 := cell_regrown c5
        have e6 := cell_regrown c6
        have e7 := cell_regrown c7
        have e8 := cell_regrown c8
        have cO1 : ∀ dd os, Calls Tryz.prog 14 #[.agg #[.int .i64 u1, .int .i64 u2, .string u3, .string u4]] (grow (redrawn wc dd) os) fun e w'' => e = .returned (.agg #[.int .i64 u1, .int .i64 u2, .string u3, .string u4]) ∧ ∃ p : Regrown, w'' = grow (redrawn wc p.d) p.os := fun dd os => Calls.regrown_of (HU1.out _)
        have cO2 : ∀ dd os, Calls Tryz.prog 14 #[.agg #[.int .i64 r.op.kind, .int .i64 r.op.at', .string r.op.S, .string r.op.old]] (grow (redrawn wc dd) os) fun e w'' => e = .returned (.agg #[.int .i64 r.op.kind, .int .i64 r.op.at', .string r.op.S, .string r.op.old]) ∧ ∃ p : Regrown, w'' = grow (redrawn wc p.d) p.os := fun dd os => Calls.regrown_of (HU2.out _)
        have cI : ∀ dd os, Calls Tryz.prog 15 #[.agg #[.int .i64 r.op.kind, .int .i64 r.op.at', .string r.op.S, .string r.op.old]] (grow (redrawn wc dd) os) fun e w'' => e = .returned (.agg #[.int .i64 u1, .int .i64 u2, .string u3, .string u4]) ∧ ∃ p : Regrown, w'' = grow (redrawn wc p.d) p.os := fun dd os => Calls.regrown_of (HU3.out _)
        have HBL := hidx H5.out.1.bel
        generalize r.op.kind = o1 at *
        generalize r.op.at' = o2 at *
        generalize r.op.S = o3 at *
        generalize r.op.old = o4 at *
        clear HU1 HU2 HU3 H5 q0 q1 q2 q3 c5 c6 c7 c8
        refine wp_region_quiet_below umixed (by kernel_rfl) ?_
        iterate 5 (quiet_step (first | (go_at_call 14; exact cO1 _ _)))
        iterate 3 (quiet_step (first | (go_at_call 14; exact cO2 _ _)))
        iterate 3 (quiet_step (first | (go_at_call 15; exact cI _ _)))
        refine wpQuiet_nil ?_
        intro _ hw'
        obtain ⟨⟨dq, osq⟩, hw''⟩ := hw'
        subst hw''
        go_wp2_with fail
        go_meet
        case rel => exact ⟨rfl, hidx (below_chain HBL.out (below_regrown wc dq osq))⟩
      obtain ⟨rfl, H6⟩ := hcut
      clear H5 q0 q1 q2 q3 c5 c6 c7 c8
      go_wp2_with fail
      refine (HBT.out _).mono ?_
      rintro e w9 ⟨rfl, b9⟩
      have HF := hidx (below_chain H6.out b9)
      clear H6
      go_wp2
      refine bodyPost_ret (v := .bool true) (by simp [results, Tryz.results4, go_sem]) rfl ?_
      exact ⟨rfl, HF.out⟩

end

end Go.Proofs.YtdhphbokkmofaaaGreat
