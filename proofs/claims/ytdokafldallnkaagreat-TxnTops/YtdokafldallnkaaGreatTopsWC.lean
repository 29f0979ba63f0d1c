/-
  The walk of girderlaw09.TxnTops.
-/
import Derived.Test.YtdokafldallnkaaGreatTxGJ
import Derived.Deep.RegionHeld3
import Derived.BigQuiet
namespace Go.Proofs.YtdokafldallnkaaGreat
open Go.RowKit Go.Sort
set_option linter.unusedVariables false
set_option linter.unusedSimpArgs false

/-- Behind the abort: the slots are V. -/
structure TpE (W0 wx : World) (m p : Nat) (X : Int → Nat) (lp : Nat) (A3 : Nat → Prop) (V : Nat → ByteArray) : Prop where
  ex : ∃ A P l d M, MSys wx m p X A P l d M ∧ PgV lp P V ∧ Moves A3 A W0 wx

theorem TpE.below {W0 wx wy : World} {m p : Nat} {X : Int → Nat} {lp : Nat} {A3 : Nat → Prop} {V : Nat → ByteArray} (h : TpE W0 wx m p X lp A3 V) (b : Below wx.heap.size wx wy) : TpE W0 wy m p X lp A3 V := by
  obtain ⟨A, P, l, d, M, hM, hP, mv⟩ := h.ex
  exact ⟨A, P, l, d, M, hM.below b, hP, mv.trans (Moves.of_kept (Kept.of_below b))⟩

theorem TpE.slot {W0 wx : World} {m p : Nat} {X : Int → Nat} {lp : Nat} {A3 : Nat → Prop} {V : Nat → ByteArray} (h : TpE W0 wx m p X lp A3 V) (pg : Nat) (h1 : 1 ≤ pg) (h5 : pg ≤ 5) (s : ByteArray) (hs : V pg = s) :
    Calls Tryz.prog 35 #[.pointer (some ⟨m, 0, none⟩), .int .i64 pg] wx fun e w' => e = .returned (.string s) ∧ Below wx.heap.size wx w' := by
  obtain ⟨A, P, l, d, M, hM, hP, mv⟩ := h.ex
  obtain ⟨f, hf, hfit, hnum, hsl, hh⟩ := hP.slot pg h1 h5
  rw [hs] at hsl
  exact slot_any hM pg h1 (by omega) hf _ hsl

theorem tpmixed : Tryz.prog.follows .mixedOrders = true := by kernel_rfl

set_option maxHeartbeats 6400000 in
set_option maxRecDepth 20000 in
theorem ttops_walk (fi ne be : Int) (hf1 : -9223372036854775808 ≤ fi) (hf2 : fi ≤ 9223372036854775807) (hn1 : -9223372036854775808 ≤ ne) (hn2 : ne ≤ 9223372036854775807) (hb1 : -9223372036854775808 ≤ be) (hb2 : be ≤ 9223372036854775807) (w : World) :
    Calls Tryz.prog 6 #[.int .i64 fi, .int .i64 ne, .int .i64 be] w fun e w' => e = .returned (.bool true) ∧ Below w.heap.size w w' := by
  have HB := hidx (tbegun_any w)
  have HCN : Hid (∀ (k : Int), -9223372036854775808 ≤ k → k ≤ 9223372036854775807 → ∀ wx, Calls Tryz.prog 33 #[.int .i64 k] wx fun e w' => e = .returned (.int .i64 (cntT k)) ∧ wx = w') := fun k a b wx => count_any k a b wx
  have hmf : ∀ (fn : Fn) (first cap : Array Value) (w : World), (Instr.makeFunc fn first cap).run Tryz.prog w = .ok (.func fn first cap) w := fun _ _ _ _ => rfl
  go_enter Tryz.func6, Tryz.ntmps6
  go_wp2_with fail
  refine HB.out.mono ?_
  rintro e w1 ⟨⟨m, p, dp, lp, A1, rfl, h1, hA1, b1⟩⟩
  obtain ⟨W1, HW1⟩ : ∃ W, Hid (W = w1.alloc (.cells #[.pointer (some ⟨m, 0, none⟩)] 23)) := ⟨_, rfl⟩
  have bW1 : Below w1.heap.size w1 W1 := by rw [HW1.out]; exact (Below.refl _ _).alloc (Nat.le_refl _) _
  have x1 : Blk W1 w1.heap.size #[.pointer (some ⟨m, 0, none⟩)] 23 := by rw [HW1.out]; exact Blk.made _ _ _
  have X1 := hidx x1
  have O1 : Hid (Ours w W1 A1) := hidx (Ours.below ⟨hA1, b1⟩ bW1)
  have HNM : Hid (¬ A1 w1.heap.size) := fun y => by have := h1.lt _ y; omega
  have H1 := hidx (h1.below bW1)
  have HAW := hidx (tawake_any W1)
  clear HB h1 hA1 b1 bW1 x1
  go_upto_region 2 with fail
  rw [← HW1.out]
  clear HW1
  go_wp2_with fail
  refine HAW.out.mono ?_
  rintro e w2 ⟨rfl, b2⟩
  have H2 := hidx (H1.out.below b2)
  have O2 := hidx (O1.out.below b2)
  have X2 := hidx (X1.out.same (b2.block _ X1.out.lt))
  have c2 : w2.cell? ⟨w1.heap.size, 0, none⟩ = some (.pointer (some ⟨m, 0, none⟩)) := X2.out.cell 0
  have HBE := hidx (begin_ok H2.out (by show 1 ≤ _; omega) rfl (by show 0 < 64; omega) (by show 0 ≤ _; omega) (by show 0 + 128 + 0 ≤ _; omega))
  clear HAW H1 O1 b2 X1 H2
  go_wp2_with fail
  refine HBE.out.mono ?_
  rintro e w3 ⟨rfl, A3, b, h3, mv3⟩
  have e1 : (mg0.next : Int) = 1 := rfl
  rw [e1] at h3
  rw [e1]
  obtain ⟨X, HX⟩ : ∃ X, Hid (bornX (fun _ => 0) 1 b = X) := ⟨_, rfl⟩
  rw [HX.out] at h3
  have O3 := hidx (O2.out.step mv3)
  have hoM := mv3.off X2.out.lt HNM.out
  obtain ⟨W0, HW0⟩ : ∃ W, Hid (W = w3.alloc (.cells #[.int .i64 1] 3)) := ⟨_, rfl⟩
  have bW0 : Below w3.heap.size w3 W0 := by rw [HW0.out]; exact (Below.refl _ _).alloc (Nat.le_refl _) _
  have xT : Blk W0 w3.heap.size #[.int .i64 1] 3 := by rw [HW0.out]; exact Blk.made _ _ _
  have xM3 : Blk w3 w1.heap.size #[.pointer (some ⟨m, 0, none⟩)] 23 := X2.out.same hoM.1
  have xM : Blk W0 w1.heap.size #[.pointer (some ⟨m, 0, none⟩)] 23 := xM3.same (bW0.block _ xM3.lt)
  have cM : W0.cell? ⟨w1.heap.size, 0, none⟩ = some (.pointer (some ⟨m, 0, none⟩)) := xM.cell 0
  have cT : W0.cell? ⟨w3.heap.size, 0, none⟩ = some (.int .i64 1) := xT.cell 0
  have hnT : ¬ A3 w3.heap.size := fun y => by have := h3.lt _ y; omega
  have g0 : GX W0 W0 m p X A3 lp (newD 64) mg0.born 1 0 128 128 0 0 [] (fun _ => ⟨#[48]⟩) [] := by
    have hT : mg0.born.T (1 : Nat) = some (fresh 1) := rfl
    refine ⟨A3, _, { log0 dp with kept := (log0 dp).kept + 128 }, [], fresh 1, by rw [MgG.set_self hT]; exact h3.below bW0, ⟨(RecsAt.nil dp).starts, (RecsAt.nil dp).long, (RecsAt.nil dp).text⟩, TxG.start [] _ 1 (by omega), rfl, rfl, by show 0 + (0 + 128) ≤ 128; omega, PgV.start dp lp, Moves.refl _ _, by show 0 + 128 ≤ 128; omega, Nat.zero_le _, Nat.zero_le _, GTo.refl _ _ _, ⟨rfl, Nat.le_refl _, Nat.zero_le _, rfl⟩⟩
  have HKB : Hid (∀ wx F C B a Ls V L, GX W0 wx m p X A3 lp (newD 64) mg0.born 1 0 F C B a Ls V L → wx.cell? ⟨w1.heap.size, 0, none⟩ = some (.pointer (some ⟨m, 0, none⟩)) ∧ wx.cell? ⟨w3.heap.size, 0, none⟩ = some (.int .i64 1)) := fun wx F C B a Ls V L hx => by
    obtain ⟨A, P, l, rs, t, hM, hR, hG, hst, hq, hbF, hP, mv, _⟩ := hx.ex
    exact ⟨(xM.same (mv.off xM.lt hoM.2).1).cell 0, (xT.same (mv.off xT.lt hnT).1).cell 0⟩
  have HDO : Hid (∀ wx F C B a Ls V L (pg : Nat) (times : Nat) (mk : UInt8), GX W0 wx m p X A3 lp (newD 64) mg0.born 1 0 F C B a Ls V L → UndOk V L → 1 ≤ pg → pg ≤ 5 → times ≤ 4 → (V pg).size ≤ 10 → F + 10000 ≤ 4194304 → Calls Tryz.prog 34 #[.int .u32 pg, .int .i64 times, .string ⟨#[mk]⟩, .pointer (some ⟨w1.heap.size, 0, none⟩), .pointer (some ⟨w3.heap.size, 0, none⟩)] wx fun e w' => e = .returned (.bool true) ∧ DoOut W0 w' m p X A3 lp (newD 64) mg0.born 1 0 (F + 2000 * times) C B a Ls V L pg (repB (V pg) mk times)) := fun wx F C B a Ls V L pg times mk g hU p1 p5 ht hV hF => do_any w1.heap.size w3.heap.size cM hoM.2 cT hnT g hU pg p1 p5 times ht mk hV hF
  have O0 := hidx (O3.out.below bW0)
  have HKM : Hid (∀ A wx, Moves A3 A W0 wx → wx.cell? ⟨w1.heap.size, 0, none⟩ = some (.pointer (some ⟨m, 0, none⟩)) ∧ wx.cell? ⟨w3.heap.size, 0, none⟩ = some (.int .i64 1)) := fun A wx mv => ⟨(xM.same (mv.off xM.lt hoM.2).1).cell 0, (xT.same (mv.off xT.lt hnT).1).cell 0⟩
  have HLT0 : Hid (∀ k, A3 k → k < W0.heap.size) := fun k y => by have := h3.lt k y; have := bW0.size; omega
  obtain ⟨V0, HV0⟩ : ∃ V0 : Nat → ByteArray, Hid ((fun _ => ⟨#[48]⟩) = V0) := ⟨_, rfl⟩
  rw [HV0.out] at g0
  have hv0 : ∀ k, V0 k = ⟨#[48]⟩ := fun k => by rw [← HV0.out]
  have HVS : Hid (∀ k, (V0 k).size = 1 ∧ V0 k = ⟨#[48]⟩) := fun k => by rw [hv0]; exact ⟨rfl, rfl⟩
  have HF1 := cntT_le fi
  have HN1 := cntT_le ne
  have HE1 := cntT_le be
  have HD1 := hidx (HDO.out W0 128 128 0 0 [] V0 [] 1 (cntT fi) 97 g0 trivial (by omega) (by omega) HF1 (by rw [(HVS.out 1).1]; omega) (by omega))
  have HC1 := hidx (HCN.out fi hf1 hf2 W0)
  have HC2 := hidx (HCN.out ne hn1 hn2)
  have HC3 := hidx (HCN.out be hb1 hb2)
  clear HBE O2 h3 mv3 HX X2 hoM bW0 xT xM3 xM cM cT hnT g0 hv0 HV0 O3 HNM c2 HCN
  obtain ⟨kf, Hkf⟩ : ∃ k, Hid (cntT fi = k) := ⟨_, rfl⟩
  obtain ⟨kn, Hkn⟩ : ∃ k, Hid (cntT ne = k) := ⟨_, rfl⟩
  obtain ⟨kb, Hkb⟩ : ∃ k, Hid (cntT be = k) := ⟨_, rfl⟩
  rw [Hkf.out] at HF1 HD1 HC1
  rw [Hkn.out] at HN1 HC2
  rw [Hkb.out] at HE1 HC3
  clear Hkf Hkn Hkb
  go_upto_region 6 with fail
  rw [← HW0.out]
  clear HW0
  go_wp2_with fail
  refine HC1.out.mono ?_
  rintro e w4 ⟨rfl, rfl⟩
  go_wp2_with fail
  refine HD1.out.mono ?_
  rintro e w5 ⟨rfl, hdo1⟩
  obtain ⟨K1, g1, nk1⟩ := hdo1.ex
  rw [List.append_nil] at g1
  have NK1 := hidx nk1
  obtain ⟨c5, c5'⟩ := HKB.out _ _ _ _ _ _ _ _ g1
  have HSV := hidx (gx_save g1)
  clear HC1 HD1 hdo1 g1 nk1
  go_wp2_with fail
  refine HSV.out.mono ?_
  rintro e w6 ⟨sa, sB, rfl, hsab, g6, rfl⟩
  have G6 := hidx g6
  have hU1 : UndOk (updV V0 1 (repB (V0 1) 97 kf)) K1 := by have := NK1.out.ok; rw [List.append_nil] at this; exact this
  obtain ⟨V1, HV1⟩ : ∃ V1, Hid (updV V0 1 (repB (V0 1) 97 kf) = V1) := ⟨_, rfl⟩
  rw [HV1.out] at g6 hU1 G6 NK1
  have hV12 : V1 2 = V0 2 := by rw [← HV1.out]; simp [updV]
  have hV13 : V1 3 = V0 3 := by rw [← HV1.out]; simp [updV]
  have HD2 := hidx (HDO.out _ _ _ _ _ _ V1 K1 2 kn 98 g6 hU1 (by omega) (by omega) HN1 (by rw [hV12, (HVS.out 2).1]; omega) (by omega))
  have HU1 := hidx hU1
  have HSAB := hidx hsab
  have HV2' := hidx (⟨hV12, hV13⟩ : V1 2 = V0 2 ∧ V1 3 = V0 3)
  clear HSV g6 c5 c5' hU1 hV12 hV13 hsab G6
  go_wp2_with fail
  refine (HC2.out _).mono ?_
  rintro e w7 ⟨rfl, rfl⟩
  go_wp2_with fail
  refine HD2.out.mono ?_
  rintro e w8 ⟨rfl, hdo2⟩
  obtain ⟨K2, g8, nk2⟩ := hdo2.ex
  obtain ⟨c8, c8'⟩ := HKB.out _ _ _ _ _ _ _ _ g8
  have HTP := hidx (gx_top g8 (by omega) (fun y hy => by have := nk2.pls y hy; have := HSAB.out; omega) (by omega))
  have NK2 := hidx nk2
  clear HD2 hdo2 g8 nk2
  go_wp2_with fail
  refine HTP.out.mono ?_
  rintro e w9 ⟨pl9, rfl, g9⟩
  obtain ⟨s2, Hs2⟩ : ∃ s, Hid (repB (V1 2) 98 kn = s) := ⟨_, rfl⟩
  rw [Hs2.out] at g9 NK2
  have hs2 : s2.size = 1 + kn := by rw [← Hs2.out, repB_size, HV2'.out.1, (HVS.out 2).1]
  have hpg1 : ∀ y ∈ K1, y.pg ≠ 2 := fun y hy => by have := NK1.out.pgs y hy; omega
  have hU2 : UndOk (updV V1 2 s2) K1 := UndOk.other s2 hpg1 HU1.out
  have hV23 : updV V1 2 s2 3 = V0 3 := by rw [← HV2'.out.2]; simp [updV]
  have HD3 := hidx (HDO.out _ _ _ _ _ _ (updV V1 2 s2) K1 3 kb 99 g9 hU2 (by omega) (by omega) HE1 (by rw [hV23, (HVS.out 3).1]; omega) (by omega))
  clear HTP g9 c8 c8' hU2
  go_wp2_with fail
  refine (HC3.out _).mono ?_
  rintro e w10 ⟨rfl, rfl⟩
  go_wp2_with fail
  refine HD3.out.mono ?_
  rintro e w11 ⟨rfl, hdo3⟩
  obtain ⟨K3, g11, nk3⟩ := hdo3.ex
  obtain ⟨c11, c11'⟩ := HKB.out _ _ _ _ _ _ _ _ g11
  have hst : updV (updV V1 2 s2) 3 (repB (updV V1 2 s2 3) 99 kb) 2 = s2 := by simp [updV]
  have HSL := hidx (gx_slot g11 2 (by omega) (by omega))
  rw [hst] at HSL
  have hVE : undV (updV (updV V1 2 s2) 3 (repB (updV V1 2 s2 3) 99 kb)) (K3 ++ K1) = updV V0 2 s2 := by
    rw [undV_append, nk3.back, undV_other s2 hpg1]
    have := NK1.out.back
    rw [this]
  have HVE := hidx hVE
  have HOK := hidx nk3.ok
  have HPL : Hid (∀ y ∈ K3 ++ K1, 0 < y.u.pl) := fun y hy => by
    rcases List.mem_append.1 hy with h | h
    · have := nk3.pls y h; omega
    · have := NK1.out.pls y h; omega
  have G11 := hidx g11
  have HS2 := hidx hs2
  clear HC3 HD3 hdo3 g11 nk3 hst hVE hV23 hpg1 NK2 NK1 HU1 HV2' HSAB Hs2 HV1
  go_wp2_with fail
  refine HSL.out.mono ?_
  rintro e w12 ⟨rfl, b12⟩
  have G12 := hidx (G11.out.below b12)
  obtain ⟨c12, c12'⟩ := HKB.out _ _ _ _ _ _ _ _ G12.out
  have HKT : Hid (∀ wx, TpE W0 wx m p X lp A3 (updV V0 2 s2) → wx.cell? ⟨w1.heap.size, 0, none⟩ = some (.pointer (some ⟨m, 0, none⟩)) ∧ wx.cell? ⟨w3.heap.size, 0, none⟩ = some (.int .i64 1)) := fun wx h => by
    obtain ⟨A, P, l, d, M, hM, hP, mv⟩ := h.ex
    exact HKM.out A wx mv
  have hV1 : updV V0 2 s2 1 = ⟨#[48]⟩ := by show (if (1 : Nat) = 2 then s2 else V0 1) = _; rw [if_neg (by omega)]; exact (HVS.out 1).2
  have hV2 : updV V0 2 s2 2 = s2 := updV_get _ _ _
  have hV3 : updV V0 2 s2 3 = ⟨#[48]⟩ := by show (if (3 : Nat) = 2 then s2 else V0 3) = _; rw [if_neg (by omega)]; exact (HVS.out 3).2
  have HV1 := hidx hV1
  have HV2 := hidx hV2
  have HV3 := hidx hV3
  have HEND : Hid (∀ wx, TpE W0 wx m p X lp A3 (updV V0 2 s2) → Below w.heap.size w wx) := fun wx h => by
    obtain ⟨A, P, l, d, M, hM, hP, mv⟩ := h.ex
    exact (O0.out.step mv).bl
  have HAL : Hid (∀ wy, w12.drew.alloc (.cells #[.pointer (some ⟨m, 0, none⟩)] 23) = wy → (wy.cell? ⟨w1.heap.size, 0, none⟩ = some (.pointer (some ⟨m, 0, none⟩)) ∧ wy.cell? ⟨w3.heap.size, 0, none⟩ = some (.int .i64 1)) ∧ Calls Tryz.prog 25 #[.pointer (some ⟨m, 0, none⟩), .int .i64 1, .func (.func 80) #[] #[.pointer (some ⟨w12.drew.heap.size, 0, none⟩)]] wy fun e w' => e = .returned (.int .i64 0) ∧ TpE W0 w' m p X lp A3 (updV V0 2 s2)) := fun wy hwy => by
    have by1 : Below w12.heap.size w12 wy := by rw [← hwy]; exact ((Below.refl _ _).drew).alloc (Nat.le_refl _) _
    have xb : Blk wy w12.drew.heap.size #[.pointer (some ⟨m, 0, none⟩)] 23 := by rw [← hwy]; exact Blk.made _ _ _
    refine ⟨HKB.out _ _ _ _ _ _ _ _ (G12.out.below by1), ?_⟩
    obtain ⟨rs0, gs⟩ := G12.out.gs
    have := g_abort gs by1 w12.drew.heap.size (Nat.le_refl _) (xb.cell 0) (by omega) HOK.out HPL.out
    rw [HVE.out] at this
    refine this.mono ?_
    rintro e w' ⟨rfl, gab⟩
    obtain ⟨A, P, l, rs, ext, hM, _, _, _, hP, mv, _, _⟩ := gab.ex
    exact ⟨rfl, ⟨A, P, l, _, _, hM, hP, mv⟩⟩
  have h1b : IntKind.i64.wrap (1 + (kn : Int)) = 1 + (kn : Int) := by rw [IntKind.wrap_i64]; omega
  have hlen : (s2.size : Int) = 1 + (kn : Int) := by have := HS2.out; omega
  clear HSL b12 G11 c11 c11' HDO hV1 hV2 hV3
  go_upto_region 16 with fail
  refine wp_region_noPanic ?_
  refine wp_region_held_drew (S := (fun wy : World => wy.cell? ⟨w1.heap.size, 0, none⟩ = some (.pointer (some ⟨m, 0, none⟩)) ∧ wy.cell? ⟨w3.heap.size, 0, none⟩ = some (.int .i64 1))) tpmixed ⟨c12, c12'⟩ (fun hH => ?_)
  refine wpAnyH_take (i := 0) (v := (.pointer (some ⟨m, 0, none⟩))) (by simp only [List.getElem?_toArray, List.getElem?_cons_zero]; rfl) (by kernel_rfl) (by kernel_rfl) (by kernel_rfl) (fun _ _ _ h => h) (Or.inl ⟨by rfl, ?_⟩) hH ?_
  · intro wz hSw
    obtain ⟨s0, s1⟩ := hSw
    go_simp
  try simp only [Act.put, List.setIfInBounds_toArray, List.set_cons_zero, List.set_cons_succ]
  refine wpAnyH_take (i := 1) (v := (.int .i64 1)) (by simp only [List.getElem?_toArray, List.getElem?_cons_succ, List.getElem?_cons_zero]; rfl) (by kernel_rfl) (by kernel_rfl) (by kernel_rfl) (fun _ _ _ h => h) (Or.inl ⟨by rfl, ?_⟩) hH ?_
  · intro wz hSw
    obtain ⟨s0, s1⟩ := hSw
    go_simp
  try simp only [Act.put, List.setIfInBounds_toArray, List.set_cons_zero, List.set_cons_succ]
  refine wpAnyH_take (i := 2) (v := (.pointer (some ⟨m, 0, none⟩))) (by simp only [List.getElem?_toArray, List.getElem?_cons_succ, List.getElem?_cons_zero]; rfl) (by kernel_rfl) (by kernel_rfl) (by kernel_rfl) (fun _ _ _ h => h) (Or.inl ⟨by rfl, ?_⟩) hH ?_
  · intro wz hSw
    obtain ⟨s0, s1⟩ := hSw
    go_simp
  try simp only [Act.put, List.setIfInBounds_toArray, List.set_cons_zero, List.set_cons_succ]
  refine wpAnyH_ready (rs := [3]) (by kernel_rfl) (by simp) ?_
  refine AllReadyH.cons (i := 3) (by simp only [List.getElem?_toArray, List.getElem?_cons_succ, List.getElem?_cons_zero]; rfl) (fun K hK => ?_) AllReadyH.nil
  go_simp
  refine (back_any m _).mono ?_
  rintro e w13 ⟨rfl, h13⟩
  obtain ⟨c13, ab13⟩ := HAL.out w13 h13
  clear h13
  refine hK.out _ _ (c13) (fun hH1 => ?_)
  clear hK K hH
  try simp only [Act.put, List.setIfInBounds_toArray, List.set_cons_zero, List.set_cons_succ]
  refine wpAnyH_ready (rs := [4]) (by kernel_rfl) (by simp) ?_
  refine AllReadyH.cons (i := 4) (by simp only [List.getElem?_toArray, List.getElem?_cons_succ, List.getElem?_cons_zero]; rfl) (fun K hK => ?_) AllReadyH.nil
  go_simp
  refine ab13.mono ?_
  rintro e w14 ⟨rfl, T14⟩
  clear ab13 c13
  refine hK.out _ _ (HKT.out _ T14) (fun hH2 => ?_)
  clear hK K hH1
  try simp only [Act.put, List.setIfInBounds_toArray, List.set_cons_zero, List.set_cons_succ]
  refine wpAnyH_take (i := 5) (v := (.bool true)) (by simp only [List.getElem?_toArray, List.getElem?_cons_succ, List.getElem?_cons_zero]; rfl) (by kernel_rfl) (by kernel_rfl) (by kernel_rfl) (fun _ _ _ h => h) (Or.inl ⟨by rfl, ?_⟩) hH2 ?_
  · intro wz hSw
    clear hSw
    go_simp
  try simp only [Act.put, List.setIfInBounds_toArray, List.set_cons_zero, List.set_cons_succ]
  refine wpAnyH_take (i := 6) (v := (.bool true)) (by simp only [List.getElem?_toArray, List.getElem?_cons_succ, List.getElem?_cons_zero]; rfl) (by kernel_rfl) (by kernel_rfl) (by kernel_rfl) (fun _ _ _ h => h) (Or.inl ⟨by rfl, ?_⟩) hH2 ?_
  · intro wz hSw
    clear hSw
    go_simp
  try simp only [Act.put, List.setIfInBounds_toArray, List.set_cons_zero, List.set_cons_succ]
  refine wpAnyH_take (i := 7) (v := (.pointer (some ⟨m, 0, none⟩))) (by simp only [List.getElem?_toArray, List.getElem?_cons_succ, List.getElem?_cons_zero]; rfl) (by kernel_rfl) (by kernel_rfl) (by kernel_rfl) (fun _ _ _ h => h) (Or.inl ⟨by rfl, ?_⟩) hH2 ?_
  · intro wz hSw
    obtain ⟨s0, s1⟩ := hSw
    go_simp
  try simp only [Act.put, List.setIfInBounds_toArray, List.set_cons_zero, List.set_cons_succ]
  refine wpAnyH_ready (rs := [8]) (by kernel_rfl) (by simp) ?_
  refine AllReadyH.cons (i := 8) (by simp only [List.getElem?_toArray, List.getElem?_cons_succ, List.getElem?_cons_zero]; rfl) (fun K hK => ?_) AllReadyH.nil
  go_simp
  refine (T14.slot 1 (by omega) (by omega) _ HV1.out).mono ?_
  rintro e w15 ⟨rfl, b8⟩
  have T15 := T14.below b8
  clear b8
  refine hK.out _ _ (HKT.out _ T15) (fun hH3 => ?_)
  clear hK K hH2
  try simp only [Act.put, List.setIfInBounds_toArray, List.set_cons_zero, List.set_cons_succ]
  refine wpAnyH_take (i := 9) (v := (.bool true)) (by simp only [List.getElem?_toArray, List.getElem?_cons_succ, List.getElem?_cons_zero]; rfl) (by kernel_rfl) (by kernel_rfl) (by kernel_rfl) (fun _ _ _ h => h) (Or.inl ⟨by rfl, ?_⟩) hH3 ?_
  · intro wz hSw
    clear hSw
    go_simp
  try simp only [Act.put, List.setIfInBounds_toArray, List.set_cons_zero, List.set_cons_succ]
  refine wpAnyH_take (i := 10) (v := (.bool true)) (by simp only [List.getElem?_toArray, List.getElem?_cons_succ, List.getElem?_cons_zero]; rfl) (by kernel_rfl) (by kernel_rfl) (by kernel_rfl) (fun _ _ _ h => h) (Or.inl ⟨by rfl, ?_⟩) hH3 ?_
  · intro wz hSw
    clear hSw
    go_simp
  try simp only [Act.put, List.setIfInBounds_toArray, List.set_cons_zero, List.set_cons_succ]
  refine wpAnyH_take (i := 11) (v := (.bool true)) (by simp only [List.getElem?_toArray, List.getElem?_cons_succ, List.getElem?_cons_zero]; rfl) (by kernel_rfl) (by kernel_rfl) (by kernel_rfl) (fun _ _ _ h => h) (Or.inl ⟨by rfl, ?_⟩) hH3 ?_
  · intro wz hSw
    clear hSw
    go_simp
  try simp only [Act.put, List.setIfInBounds_toArray, List.set_cons_zero, List.set_cons_succ]
  refine wpAnyH_take (i := 12) (v := (.pointer (some ⟨m, 0, none⟩))) (by simp only [List.getElem?_toArray, List.getElem?_cons_succ, List.getElem?_cons_zero]; rfl) (by kernel_rfl) (by kernel_rfl) (by kernel_rfl) (fun _ _ _ h => h) (Or.inl ⟨by rfl, ?_⟩) hH3 ?_
  · intro wz hSw
    obtain ⟨s0, s1⟩ := hSw
    go_simp
  try simp only [Act.put, List.setIfInBounds_toArray, List.set_cons_zero, List.set_cons_succ]
  refine wpAnyH_take (i := 14) (v := (.string s2)) (by simp only [List.getElem?_toArray, List.getElem?_cons_succ, List.getElem?_cons_zero]; rfl) (by kernel_rfl) (by kernel_rfl) (by kernel_rfl) (fun _ _ _ h => h) (Or.inl ⟨by rfl, ?_⟩) hH3 ?_
  · intro wz hSw
    clear hSw
    go_simp
  try simp only [Act.put, List.setIfInBounds_toArray, List.set_cons_zero, List.set_cons_succ]
  refine wpAnyH_ready (rs := [13]) (by kernel_rfl) (by simp) ?_
  refine AllReadyH.cons (i := 13) (by simp only [List.getElem?_toArray, List.getElem?_cons_succ, List.getElem?_cons_zero]; rfl) (fun K hK => ?_) AllReadyH.nil
  go_simp
  refine (T15.slot 2 (by omega) (by omega) _ HV2.out).mono ?_
  rintro e w16 ⟨rfl, b13⟩
  have T16 := T15.below b13
  clear b13
  refine hK.out _ _ (HKT.out _ T16) (fun hH4 => ?_)
  clear hK K hH3
  try simp only [Act.put, List.setIfInBounds_toArray, List.set_cons_zero, List.set_cons_succ]
  refine wpAnyH_take (i := 15) (v := (.bool true)) (by simp only [List.getElem?_toArray, List.getElem?_cons_succ, List.getElem?_cons_zero]; rfl) (by kernel_rfl) (by kernel_rfl) (by kernel_rfl) (fun _ _ _ h => h) (Or.inl ⟨by rfl, ?_⟩) hH4 ?_
  · intro wz hSw
    clear hSw
    go_simp
  try simp only [Act.put, List.setIfInBounds_toArray, List.set_cons_zero, List.set_cons_succ]
  refine wpAnyH_take (i := 16) (v := (.bool true)) (by simp only [List.getElem?_toArray, List.getElem?_cons_succ, List.getElem?_cons_zero]; rfl) (by kernel_rfl) (by kernel_rfl) (by kernel_rfl) (fun _ _ _ h => h) (Or.inl ⟨by rfl, ?_⟩) hH4 ?_
  · intro wz hSw
    clear hSw
    go_simp
  try simp only [Act.put, List.setIfInBounds_toArray, List.set_cons_zero, List.set_cons_succ]
  refine wpAnyH_take (i := 17) (v := (.bool true)) (by simp only [List.getElem?_toArray, List.getElem?_cons_succ, List.getElem?_cons_zero]; rfl) (by kernel_rfl) (by kernel_rfl) (by kernel_rfl) (fun _ _ _ h => h) (Or.inl ⟨by rfl, ?_⟩) hH4 ?_
  · intro wz hSw
    clear hSw
    go_simp
  try simp only [Act.put, List.setIfInBounds_toArray, List.set_cons_zero, List.set_cons_succ]
  refine wpAnyH_take (i := 18) (v := (.string s2)) (by simp only [List.getElem?_toArray, List.getElem?_cons_succ, List.getElem?_cons_zero]; rfl) (by kernel_rfl) (by kernel_rfl) (by kernel_rfl) (fun _ _ _ h => h) (Or.inl ⟨by rfl, ?_⟩) hH4 ?_
  · intro wz hSw
    clear hSw
    go_simp
  try simp only [Act.put, List.setIfInBounds_toArray, List.set_cons_zero, List.set_cons_succ]
  refine wpAnyH_take (i := 19) (v := (.int .i64 (1 + (kn : Int)))) (by simp only [List.getElem?_toArray, List.getElem?_cons_succ, List.getElem?_cons_zero]; rfl) (by kernel_rfl) (by kernel_rfl) (by kernel_rfl) (fun _ _ _ h => h) (Or.inl ⟨by rfl, ?_⟩) hH4 ?_
  · intro wz hSw
    clear hSw
    go_simp
  try simp only [Act.put, List.setIfInBounds_toArray, List.set_cons_zero, List.set_cons_succ]
  refine wpAnyH_take (i := 20) (v := (.func (.func 33) #[] #[])) (by simp only [List.getElem?_toArray, List.getElem?_cons_succ, List.getElem?_cons_zero]; rfl) (by kernel_rfl) (by kernel_rfl) (by kernel_rfl) (fun _ _ _ h => h) (Or.inl ⟨by rfl, ?_⟩) hH4 ?_
  · intro wz hSw
    clear hSw
    go_simp
  try simp only [Act.put, List.setIfInBounds_toArray, List.set_cons_zero, List.set_cons_succ]
  refine wpAnyH_take (i := 21) (v := (.int .i64 ne)) (by simp only [List.getElem?_toArray, List.getElem?_cons_succ, List.getElem?_cons_zero]; rfl) (by kernel_rfl) (by kernel_rfl) (by kernel_rfl) (fun _ _ _ h => h) (Or.inl ⟨by rfl, ?_⟩) hH4 ?_
  · intro wz hSw
    clear hSw
    go_simp
  try simp only [Act.put, List.setIfInBounds_toArray, List.set_cons_zero, List.set_cons_succ]
  refine wpAnyH_ready (rs := [22]) (by kernel_rfl) (by simp) ?_
  refine AllReadyH.cons (i := 22) (by simp only [List.getElem?_toArray, List.getElem?_cons_succ, List.getElem?_cons_zero]; rfl) (fun K hK => ?_) AllReadyH.nil
  go_simp
  refine (HC2.out _).mono ?_
  rintro e w17 ⟨rfl, h17⟩
  obtain rfl := h17.symm
  refine hK.out _ _ (HKT.out _ T16) (fun hH5 => ?_)
  clear hK K hH4
  try simp only [Act.put, List.setIfInBounds_toArray, List.set_cons_zero, List.set_cons_succ]
  refine wpAnyH_take (i := 23) (v := (.int .i64 (1 + (kn : Int)))) (by simp only [List.getElem?_toArray, List.getElem?_cons_succ, List.getElem?_cons_zero]; rfl) (by kernel_rfl) (by kernel_rfl) (by kernel_rfl) (fun _ _ _ h => h) (Or.inl ⟨by rfl, ?_⟩) hH5 ?_
  · intro wz hSw
    clear hSw
    go_simp
  try simp only [Act.put, List.setIfInBounds_toArray, List.set_cons_zero, List.set_cons_succ]
  refine wpAnyH_take (i := 24) (v := (.bool true)) (by simp only [List.getElem?_toArray, List.getElem?_cons_succ, List.getElem?_cons_zero]; rfl) (by kernel_rfl) (by kernel_rfl) (by kernel_rfl) (fun _ _ _ h => h) (Or.inl ⟨by rfl, ?_⟩) hH5 ?_
  · intro wz hSw
    clear hSw
    go_simp
  try simp only [Act.put, List.setIfInBounds_toArray, List.set_cons_zero, List.set_cons_succ]
  refine wpAnyH_take (i := 25) (v := (.bool true)) (by simp only [List.getElem?_toArray, List.getElem?_cons_succ, List.getElem?_cons_zero]; rfl) (by kernel_rfl) (by kernel_rfl) (by kernel_rfl) (fun _ _ _ h => h) (Or.inl ⟨by rfl, ?_⟩) hH5 ?_
  · intro wz hSw
    clear hSw
    go_simp
  try simp only [Act.put, List.setIfInBounds_toArray, List.set_cons_zero, List.set_cons_succ]
  refine wpAnyH_take (i := 26) (v := (.bool true)) (by simp only [List.getElem?_toArray, List.getElem?_cons_succ, List.getElem?_cons_zero]; rfl) (by kernel_rfl) (by kernel_rfl) (by kernel_rfl) (fun _ _ _ h => h) (Or.inl ⟨by rfl, ?_⟩) hH5 ?_
  · intro wz hSw
    clear hSw
    go_simp
  try simp only [Act.put, List.setIfInBounds_toArray, List.set_cons_zero, List.set_cons_succ]
  refine wpAnyH_take (i := 27) (v := (.pointer (some ⟨m, 0, none⟩))) (by simp only [List.getElem?_toArray, List.getElem?_cons_succ, List.getElem?_cons_zero]; rfl) (by kernel_rfl) (by kernel_rfl) (by kernel_rfl) (fun _ _ _ h => h) (Or.inl ⟨by rfl, ?_⟩) hH5 ?_
  · intro wz hSw
    obtain ⟨s0, s1⟩ := hSw
    go_simp
  try simp only [Act.put, List.setIfInBounds_toArray, List.set_cons_zero, List.set_cons_succ]
  refine wpAnyH_ready (rs := [28]) (by kernel_rfl) (by simp) ?_
  refine AllReadyH.cons (i := 28) (by simp only [List.getElem?_toArray, List.getElem?_cons_succ, List.getElem?_cons_zero]; rfl) (fun K hK => ?_) AllReadyH.nil
  go_simp
  refine (T16.slot 3 (by omega) (by omega) _ HV3.out).mono ?_
  rintro e w18 ⟨rfl, b28⟩
  have T18 := T16.below b28
  clear b28
  refine hK.out _ _ (HKT.out _ T18) (fun hH6 => ?_)
  clear hK K hH5
  try simp only [Act.put, List.setIfInBounds_toArray, List.set_cons_zero, List.set_cons_succ]
  refine wpAnyH_take (i := 29) (v := (.bool true)) (by simp only [List.getElem?_toArray, List.getElem?_cons_succ, List.getElem?_cons_zero]; rfl) (by kernel_rfl) (by kernel_rfl) (by kernel_rfl) (fun _ _ _ h => h) (Or.inl ⟨by rfl, ?_⟩) hH6 ?_
  · intro wz hSw
    clear hSw
    go_simp
  try simp only [Act.put, List.setIfInBounds_toArray, List.set_cons_zero, List.set_cons_succ]
  refine wpAnyH_take (i := 30) (v := (.bool true)) (by simp only [List.getElem?_toArray, List.getElem?_cons_succ, List.getElem?_cons_zero]; rfl) (by kernel_rfl) (by kernel_rfl) (by kernel_rfl) (fun _ _ _ h => h) (Or.inl ⟨by rfl, ?_⟩) hH6 ?_
  · intro wz hSw
    clear hSw
    go_simp
  try simp only [Act.put, List.setIfInBounds_toArray, List.set_cons_zero, List.set_cons_succ]
  refine wpAnyH_take (i := 31) (v := (.bool true)) (by simp only [List.getElem?_toArray, List.getElem?_cons_succ, List.getElem?_cons_zero]; rfl) (by kernel_rfl) (by kernel_rfl) (by kernel_rfl) (fun _ _ _ h => h) (Or.inl ⟨by rfl, ?_⟩) hH6 ?_
  · intro wz hSw
    clear hSw
    go_simp
  try simp only [Act.put, List.setIfInBounds_toArray, List.set_cons_zero, List.set_cons_succ]
  refine wpAnyH_done (by kernel_rfl) ?_ _
  refine NoPanic.normal ?_
  go_wp2
  go_ret
  exact ⟨rfl, HEND.out _ T18⟩

end Go.Proofs.YtdokafldallnkaaGreat
