/-
  The walk of TreeSeeks.
-/
import Derived.Test.YtpllidadpcahbaaGreatTreeWkC
import Derived.Test.YtpllidadpcahbaaGreatBase16C
import Derived.Test.YtpllidadpcahbaaGreatBase17C
namespace Go.Proofs.YtpllidadpcahbaaGreat
open Go.RowKit Go.Sort
set_option linter.unusedVariables false
set_option linter.unusedSimpArgs false

/-- Where TreeSeeks stands behind Check. -/
structure TsAt (wr : World) (eb : Nat) (e : EntV) (g : Nat) (L : List EntV) (p : Nat) (A : Nat → Prop) (P : PG) (l : LG) (d : DG) (ia : Option Addr) (lg pg N : Nat) : Prop where
  en : EBox wr eb e
  ents : EntsAt wr (some ⟨g, 0, none⟩) L
  sys : Sys wr p A P l d
  items : ItemsAt wr ia (live L)
  lvs : RowsAt 1 pgEnc wr (some ⟨lg, 0, none⟩) ((List.range N).map fun t => 4 + t)
  pgs : RowsAt 1 pgEnc wr (some ⟨pg, 0, none⟩) (3 :: (List.range N).map fun t => 4 + t)

theorem TsAt.below {wr wx : World} {eb : Nat} {e : EntV} {g : Nat} {L : List EntV} {p : Nat} {A : Nat → Prop} {P : PG} {l : LG} {d : DG} {ia : Option Addr} {lg pg N : Nat} (h : TsAt wr eb e g L p A P l d ia lg pg N) (k : Below wr.heap.size wr wx) : TsAt wx eb e g L p A P l d ia lg pg N :=
  ⟨h.en.below k h.en.lt, h.ents.below k, h.sys.below k, h.items.below k, h.lvs.below k, h.pgs.below k⟩

theorem RowsAt.pg {w : World} {g : Nat} {S : List Nat} (h : RowsAt 1 pgEnc w (some ⟨g, 0, none⟩) S) {i : Nat} (hi : i < S.length) : w.cell? ⟨g, i, none⟩ = some (.int .u32 S[i]) := by
  rcases h with h | ⟨b, o, e, hb, hc⟩
  · subst h; simp at hi
  · simp only [Option.some.injEq, Addr.mk.injEq, and_true] at e
    obtain ⟨rfl, rfl⟩ := e
    have := hc i hi 0 _ rfl
    simpa using this

/-- The zero entry goes down to the first leaf. -/
theorem down_zero {L : List EntV} {k N : Nat} (hL : SortedE L) (hk : 1 ≤ k) (hc : IsCnt L.length k N) : DownIs (kids L k N 0 false) ⟨⟨#[]⟩, 0, 0⟩ 0 := by
  refine ⟨.inl rfl, fun j hj h0 => ?_⟩
  have hjN : j < N := by rw [kids_length] at hj; exact hj
  have e1 : (kids L k N 0 false)[j].e = L.getD (j * k) zeroE := by
    have h2 := kids_at (L := L) (k := k) (N := N) (odd := 0) (sp := false) hjN
    rw [List.getElem?_eq_getElem hj] at h2
    rw [Option.some.inj h2]
    exact kid_plain j h0
  rw [e1, gtE_iff]
  have hin := hc.in hjN (.inr h0)
  have : 1 * 1 ≤ j * k := Nat.mul_le_mul h0 hk
  exact zero_lt (hL.may 0).may (hL.may _).may (hL.lt (by omega) hin)

theorem kids_pages {L : List EntV} {k N : Nat} : (kids L k N 0 false).map ChildV.page = (List.range N).map fun t => 4 + t := by
  unfold kids
  rw [List.map_map]
  apply List.map_congr_left
  intro t _
  show kidP 0 false t = 4 + t
  unfold kidP
  rw [if_neg (by simp)]

set_option maxHeartbeats 6400000 in
set_option maxRecDepth 20000 in
theorem tseeks_walk (a : Option Addr) (c : Nat) (X : List EntV) (each : Int) (e : EntV) (w : World) (hX : EntsAt w a X) (hl : X.length ≤ 9223372036854775806) (hp : ∀ x ∈ X, x.page < 4294967296 ∧ x.key.size ≤ 140737488351232) :
    Calls Tryz.prog 3 #[.slice a X.length c, .int .i64 each, e.val] w fun r w' => r = .returned (.bool true) ∧ Below w.heap.size w w' := by
  obtain ⟨W, HW⟩ : ∃ W, Hid (W = w.alloc (.cells #[.string e.key, .int .u32 e.page, .int .i64 e.slot] 28)) := ⟨_, rfl⟩
  have bW : Below w.heap.size w W := by rw [HW.out]; exact (Below.refl _ _).alloc (Nat.le_refl _) _
  have E0 : EBox W w.heap.size e := by rw [HW.out]; exact EBox.new _ _
  have HSO := hidn (sorted_any a c X W (hX.below bW) hl hp)
  obtain ⟨kk, Hkk⟩ : ∃ kk : Nat, Hid (each % 8 = (kk : Int) ∧ kk ≤ 7) := ⟨(each % 8).toNat, hidn ⟨by omega, by omega⟩⟩
  have hm1 : bits .and .i64 each 7 = (kk : Int) := (and8 each).trans Hkk.out.1
  have hk7 := Hkk.out.2
  have HAW := hidn tawake_any
  simp only [EntV.val]
  go_enter Tryz.func3, Tryz.ntmps3
  go_wp2_with fail
  rw [← HW.out]
  clear HW
  refine HSO.out.mono ?_
  rintro r w1 ⟨g, cap, L, rfl, hso⟩
  have hE := OwnR.rows (k := 3) (enc := EntV.enc) (fun x => rfl) (by omega) hso.own
  have HLD := hidn (laid_any L hso.sort (1 + kk) 0 (by omega) (by omega) (by omega) g 0 cap w1 hE hso.own.lt hso.own.room)
  have HSL := hidn hso.sort
  have hL24 := hso.sort.len
  have E1 := E0.below hso.bel E0.lt
  have B1 := hidn (below_chain bW hso.bel)
  rw [show (((1 + kk : Nat)) : Int) = 1 + (kk : Int) by omega] at HLD
  clear hso HSO E0 bW
  go_wp2_with fail
  refine HLD.out.mono ?_
  rintro r w2 ⟨⟨p, A, P, l, d, N, sp, hc, hsp, rfl, hS, hA, h3, h4⟩, b2⟩
  have hspf : sp = false := by rw [hsp]; unfold spB; simp
  subst hspf
  have HT := hidn (tree13 HSL.out (by omega) (by omega) hc hsp rfl h3 h4)
  have HC := hidn hc
  have HDZ := hidn (down_zero (k := 1 + kk) HSL.out (by omega) hc)
  have HCK := hidn (fun wx (b : Below w2.heap.size w2 wx) => check13 HSL.out (by omega) (by omega) hc (by omega) hsp (hS.below b) h3 h4)
  have hN24 := hc.le (by omega) hL24
  have hN0 := hc.pos
  have E2 := E1.below b2 E1.lt
  have R2 := hE.below b2
  have B2 := hidn (below_chain B1.out b2)
  have HS2 := hidn hS
  clear HLD h3 h4 hS hA hc b2 hsp B1 E1 hE
  go_wp2_with fail
  refine (HAW.out w2).mono ?_
  rintro r w3 ⟨rfl, b3⟩
  have Hne : Hid (∀ t, t < N → live (lvs L (1 + kk) N 0 t) = [] → N = 1) := hidn fun t ht h0 => by
    have hl0 : (lvs L (1 + kk) N 0 t).length = 0 := by have := congrArg List.length h0; unfold live at this; simpa using this
    rw [lvs_zero, chunk_length] at hl0
    rcases HC.out with ⟨_, q⟩ | ⟨q1, q2, q3, q4⟩
    · exact q
    · have := HC.out.in ht (.inl q1); omega
  have HAL := hidn (tall_any HT.out (HS2.out.below b3) HDZ.out Hne.out)
  have hfrom : fromL (fun i => live (lvs L (1 + kk) N 0 i)) 0 N = live L := by
    have := from_zero (D := 0) HC.out (by omega) hN0
    rw [Nat.zero_mul, List.drop_zero, Nat.sub_zero] at this
    exact this
  rw [hfrom] at HAL
  have hll : (live L).length = L.length := by unfold live; simp
  have HLE := hidn (fun wx (b : Below w2.heap.size w2 wx) => tleaves_any HT.out (HS2.out.below b) HDZ.out)
  have E3 := E2.below b3 E2.lt
  have R3 := R2.below b3
  have B3 := hidn (below_chain B2.out b3)
  have b23 := hidn b3
  clear E2 R2 b3 B2 hfrom
  go_wp2_with fail
  refine HAL.out.mono ?_
  rintro r w4 ⟨⟨ia, ic, rfl, hia⟩, b4⟩
  rw [hll]
  have HLE4 := hidn (HLE.out w4 (below_chain b23.out b4))
  clear HAL
  go_wp2_with fail
  refine HLE4.out.mono ?_
  rintro r w5 ⟨⟨lg, lcap, rfl, hlv⟩, b5⟩
  have HCK5 := hidn (HCK.out w5 (below_chain b23.out (below_chain b4 b5)))
  clear HLE4 HLE
  go_wp2_with fail
  refine HCK5.out.mono ?_
  intro r w6 hck
  obtain ⟨v, rfl, hv⟩ := hck.yes rfl
  have b6 := hck.bel
  rw [kids_pages] at hv
  obtain ⟨pg, pcap, rfl⟩ : ∃ pg pcap, v = .slice (some ⟨pg, 0, none⟩) (N + 1) pcap := by
    rcases hv.2 with ⟨_, e2⟩ | ⟨g9, cap9, cur9, e1, _⟩
    · omega
    · exact ⟨g9, cap9, e1⟩
  have hpr : RowsAt 1 pgEnc w6 (some ⟨pg, 0, none⟩) (3 :: (List.range N).map fun t => 4 + t) := by
    have e1 : ∀ M : List Nat, (M.map fun n : Nat => Value.int .u32 (n : Int)) = M.flatMap pgEnc := fun M => by
      induction M with
      | nil => rfl
      | cons x M ih => rw [List.map_cons, List.flatMap_cons, ih]; rfl
    have hl' : (3 :: (List.range N).map fun t => 4 + t).length = N + 1 := by simp
    rw [e1] at hv
    exact OwnR.rows (k := 1) (enc := pgEnc) (fun x => rfl) (by omega) (show OwnR 1 pgEnc 24 w6 w5.heap.size pg pcap (3 :: (List.range N).map fun t => 4 + t) by unfold OwnR; rw [hl']; exact hv)
  have T6 := hidn (show TsAt w6 w.heap.size e g L p A P l d ia lg pg N from
    ⟨E3.below (below_chain (below_chain b4 b5) b6) E3.lt, R3.below (below_chain (below_chain b4 b5) b6), HS2.out.below (below_chain (below_chain (below_chain b23.out b4) b5) b6), hia.below (below_chain b5 b6), hlv.below b6, hpr⟩)
  have B6 := hidn (below_chain (below_chain (below_chain B3.out b4) b5) b6)
  clear hck hv hpr HCK5 HCK E3 R3 B3 b23 b4 b5 b6 hia hlv HS2
  have p0 := T6.out.pgs.pg (i := 0) (by simp)
  have p0' : w6.cell? ⟨pg, 0, none⟩ = some (.int .u32 3) := p0
  have qN : (0 : Int) < (N : Int) + 1 := by omega
  clear p0
  go_upto_block 0 with fail
  go_cut [18] from 103 to 126 (fun v18 wx => wx = w6)
  case first =>
    as_aux_lemma =>
    go_wp2_with fail
    go_loopw [18] (fun v18 wr => ∃ t : Nat, t ≤ N ∧ v18 = .int .i64 t ∧ wr = w6) (fun v18 _ => N - (intOf v18).toNat)
    case atStart => exact ⟨0, by omega, rfl, rfl⟩
    case round =>
      obtain ⟨t, ht, rfl, rfl⟩ := hrel
      by_cases hlt : t < N
      · have q0 : (0 : Int) ≤ (t : Int) := by omega
        have q1 : (t : Int) < (N : Int) := by omega
        have q2 : (0 : Int) ≤ (t : Int) + 1 := by omega
        have q3 : (t : Int) + 1 < (N : Int) + 1 := by omega
        have c1 := T6.out.lvs.pg (i := t) (by simpa using hlt)
        have c1' : wr.cell? ⟨lg, t, none⟩ = some (.int .u32 (4 + (t : Int))) := by rw [c1]; simp
        have c2 := T6.out.pgs.pg (i := t + 1) (by simpa using hlt)
        have c2' : wr.cell? ⟨pg, t + 1, none⟩ = some (.int .u32 (4 + (t : Int))) := by rw [c2]; simp
        have hcv : IntKind.u32.wrap (4 + (t : Int)) = 4 + (t : Int) := by rw [IntKind.wrap_u32]; omega
        clear c1 c2
        go_wp2
        go_roundw
        case rel => exact ⟨t + 1, by omega, by go_num, by first | rfl | trivial⟩
        case measure => simp [intOf]; omega
      · have q1 : ¬ (t : Int) < (N : Int) := by omega
        go_wp2
        go_meet
        case rel => rfl
  rw [hcut]
  clear hcut p0'
  go_upto_block 2 with fail
  go_cut [19, 20] from 127 to 158 (fun v19 v20 wx => v19 = .int .i64 (cntB L e) ∧ Hid (Below w6.heap.size w6 wx))
  case first =>
    as_aux_lemma =>
    go_wp2_with fail
    go_loopw [19, 20] (fun v19 v20 wr => ∃ t : Nat, t ≤ L.length ∧ v20 = .int .i64 t ∧ v19 = .int .i64 (cntB (L.take t) e) ∧ Hid (Below w6.heap.size w6 wr)) (fun _ v20 _ => L.length - (intOf v20).toNat)
    case atStart => exact ⟨0, by omega, rfl, rfl, Below.refl _ _⟩
    case round =>
      obtain ⟨t, ht, rfl, rfl, HB⟩ := hrel
      by_cases hlt : t < L.length
      · have q0 : (0 : Int) ≤ (t : Int) := by omega
        have q1 : (t : Int) < (L.length : Int) := by omega
        have HT8 := hidn (T6.out.below HB.out)
        obtain ⟨bi, oi, ei, hbi, y0, y1, y2, y3⟩ := HT8.out.items.item (i := t) (by rw [hll]; exact hlt)
        have hlive : (live L)[t]'(by rw [hll]; exact hlt) = ⟨L[t], true⟩ := by unfold live; simp
        rw [hlive] at y0 y1 y2 y3
        obtain ⟨bl, ol, el, hbl, d0, d1, d2⟩ := HT8.out.ents.ent hlt
        simp only [Option.some.injEq, Addr.mk.injEq, and_true] at el
        obtain ⟨rfl, rfl⟩ := el
        rw [Nat.zero_add] at d0 d1 d2
        have hcn : cntB (L.take (t + 1)) e = cntB (L.take t) e + if ltE L[t] e = true then 1 else 0 := by
          unfold cntB
          rw [List.take_add_one, List.getElem?_eq_getElem hlt, List.filter_append, List.length_append]
          cases hb : ltE L[t] e <;> simp [hb]
        have Hcn := hidn hcn
        have hcl : cntB (L.take t) e ≤ t := by unfold cntB; have := List.length_filter_le (fun x => ltE x e) (L.take t); rw [List.length_take] at this; omega
        obtain ⟨cn, Hc⟩ : ∃ cn, Hid (cntB (L.take t) e = cn) := ⟨_, rfl⟩
        rw [Hc.out] at Hcn hcl ⊢
        clear hcn hlive Hc
        subst ei
        go_upto_region 20 with fail
        go_cut [150] from 133 to 149 (fun v150 wx => v150 = .bool false ∧ Hid (Below wr.heap.size wr wx))
        case first =>
          as_aux_lemma =>
          generalize L[t] = y at *
          have e1 : (y.key.toList == y.key.toList) = true := by rw [beq_iff_eq]
          go_quiet (fail)
          go_wp2
          go_meet
          case rel => exact ⟨by first | rfl | simp, by show RowKit.Below _ _ _; exact below_drewN (Below.refl _ _) _⟩
        obtain ⟨rfl, HB8⟩ := hcut
        have HT9 := hidn (HT8.out.below HB8.out)
        have HB9 := hidn (below_chain HB.out HB8.out)
        obtain ⟨K9, HK9⟩ : ∃ W, W = wc := ⟨_, rfl⟩
        rw [← HK9] at HT9 HB9 ⊢
        clear HK9 HB8 HT8 HB d0 d1 d2 y0 y1 y2 y3
        obtain ⟨bl, ol, el, hbl', d0, d1, d2⟩ := HT9.out.ents.ent hlt
        simp only [Option.some.injEq, Addr.mk.injEq, and_true] at el
        obtain ⟨rfl, rfl⟩ := el
        rw [Nat.zero_add] at d0 d1 d2
        obtain ⟨u0, u1, u2, ul⟩ := HT9.out.en
        have HBE := hidn (fun wx => before13_any L[t] e wx)
        have gd0 := cell_regrown d0
        have gd1 := cell_regrown d1
        have gd2 := cell_regrown d2
        have gu0 := cell_regrown u0
        have gu1 := cell_regrown u1
        have gu2 := cell_regrown u2
        clear d0 d1 d2 u0 u1 u2
        go_upto_region 22 with fail
        cases hb : ltE L[t] e with
        | true =>
          rw [hb] at HBE Hcn
          have HcnT := hidn (show cntB (L.take (t + 1)) e = cn + 1 by have := Hcn.out; simpa using this)
          clear Hcn hb
          generalize L[t] = y at *
          simp only [EntV.val] at HBE
          have cB : ∀ dd os, Calls Tryz.prog 11 #[.agg #[.string y.key, .int .u32 y.page, .int .i64 y.slot], .agg #[.string e.key, .int .u32 e.page, .int .i64 e.slot]] (grow (redrawn K9 dd) os) fun r w'' => r = .returned (.bool true) ∧ ∃ p : Regrown, w'' = grow (redrawn K9 p.d) p.os := fun dd os => Calls.regrown_of (HBE.out _)
          refine wp_region_quiet_below nmixed (by kernel_rfl) ?_
          iterate 6 (quiet_step (first | (go_at_call 11; exact cB _ _)))
          refine wpQuiet_nil ?_
          intro _ hw'
          obtain ⟨⟨dq, osq⟩, hw''⟩ := hw'
          have bb := hidn (below_chain HB9.out (below_regrown K9 dq osq))
          rw [hw'']
          generalize grow (redrawn K9 dq) osq = V9 at *
          go_wp2
          go_roundw
          case rel => exact ⟨t + 1, by omega, by go_num, by rw [HcnT.out]; go_num, bb⟩
          case measure => simp [intOf]; omega
        | false =>
          rw [hb] at HBE Hcn
          have HcnT := hidn (show cntB (L.take (t + 1)) e = cn by have := Hcn.out; simpa using this)
          clear Hcn hb
          generalize L[t] = y at *
          simp only [EntV.val] at HBE
          have cB : ∀ dd os, Calls Tryz.prog 11 #[.agg #[.string y.key, .int .u32 y.page, .int .i64 y.slot], .agg #[.string e.key, .int .u32 e.page, .int .i64 e.slot]] (grow (redrawn K9 dd) os) fun r w'' => r = .returned (.bool false) ∧ ∃ p : Regrown, w'' = grow (redrawn K9 p.d) p.os := fun dd os => Calls.regrown_of (HBE.out _)
          refine wp_region_quiet_below nmixed (by kernel_rfl) ?_
          iterate 6 (quiet_step (first | (go_at_call 11; exact cB _ _)))
          refine wpQuiet_nil ?_
          intro _ hw'
          obtain ⟨⟨dq, osq⟩, hw''⟩ := hw'
          have bb := hidn (below_chain HB9.out (below_regrown K9 dq osq))
          rw [hw'']
          generalize grow (redrawn K9 dq) osq = V9 at *
          go_wp2
          go_roundw
          case rel => exact ⟨t + 1, by omega, by go_num, by rw [HcnT.out], bb⟩
          case measure => simp [intOf]; omega
      · have q1 : ¬ (t : Int) < (L.length : Int) := by omega
        obtain rfl : t = L.length := by omega
        rw [List.take_length]
        go_wp2
        go_meet
        case rel => exact ⟨rfl, HB⟩
  obtain ⟨rfl, HB7⟩ := hcut
  have T7 := hidn (T6.out.below HB7.out)
  have B7 := hidn (below_chain B6.out HB7.out)
  obtain ⟨w7, Hw7⟩ : ∃ W, W = wc := ⟨_, rfl⟩
  rw [← Hw7] at T7 B7 ⊢
  clear Hw7 HB7 T6 B6
  obtain ⟨th, Hth⟩ : ∃ th, Hid (th = thereB L e) := ⟨_, rfl⟩
  obtain ⟨cn, Hcn⟩ : ∃ cn, Hid (cn = cntB L e) := ⟨_, rfl⟩
  have hcnl : cn ≤ L.length := by rw [Hcn.out]; exact (cntB_spec (e := e) HSL.out.rise).1
  rw [← Hcn.out]
  go_upto_region 24 with fail
  go_cut [21] from 159 to 170 (fun v21 wx => v21 = .bool th ∧ Hid (Below w7.heap.size w7 wx))
  case first =>
    as_aux_lemma =>
    by_cases hlt : cn < L.length
    · have hth : th = eqE L[cn] e := by
        rw [Hth.out]; unfold thereB; rw [← Hcn.out, List.getElem?_eq_getElem hlt]
      have r0 : (0 : Int) ≤ (cn : Int) := by omega
      have r1 : (cn : Int) < (L.length : Int) := by omega
      obtain ⟨bm, om, e1, hbm, d0, d1, d2⟩ := T7.out.ents.ent hlt
      simp only [Option.some.injEq, Addr.mk.injEq, and_true] at e1
      obtain ⟨rfl, rfl⟩ := e1
      rw [Nat.zero_add] at d0 d1 d2
      obtain ⟨u0, u1, u2, ul⟩ := T7.out.en
      have Hth2 := hidn hth
      clear Hth hth Hcn
      generalize L[cn] = y at *
      by_cases h1 : y.key.toList = e.key.toList
      · by_cases h2 : (y.page : Int) = e.page
        · by_cases h3 : y.slot = e.slot
          · have he := hidn (show eqE y e = true by unfold eqE; simp [h1, h2, h3])
            go_quiet (fail)
            go_wp2
            go_meet
            case rel => exact ⟨by rw [Hth2.out, he.out], by show RowKit.Below _ _ _; exact below_drewN (Below.refl _ _) _⟩
          · have he := hidn (show eqE y e = false by unfold eqE; simp [h1, h2, h3])
            go_quiet (fail)
            go_wp2
            go_meet
            case rel => exact ⟨by rw [Hth2.out, he.out], by show RowKit.Below _ _ _; exact below_drewN (Below.refl _ _) _⟩
        · have he := hidn (show eqE y e = false by unfold eqE; simp [h1, h2])
          go_quiet (fail)
          go_wp2
          go_meet
          case rel => exact ⟨by rw [Hth2.out, he.out], by show RowKit.Below _ _ _; exact below_drewN (Below.refl _ _) _⟩
      · have he := hidn (show eqE y e = false by unfold eqE; simp [h1])
        go_quiet (fail)
        go_wp2
        go_meet
        case rel => exact ⟨by rw [Hth2.out, he.out], by show RowKit.Below _ _ _; exact below_drewN (Below.refl _ _) _⟩
    · have Hth2 := hidn (show th = false by rw [Hth.out]; unfold thereB; rw [← Hcn.out, List.getElem?_eq_none (by omega)])
      have r1 : ¬ (cn : Int) < (L.length : Int) := by omega
      clear Hth Hcn
      go_quiet (fail)
      go_wp2
      go_meet
      case rel => exact ⟨by rw [Hth2.out], by show RowKit.Below _ _ _; exact below_drewN (Below.refl _ _) _⟩
  obtain ⟨rfl, HB8⟩ := hcut
  have T8 := hidn (T7.out.below HB8.out)
  have B8 := hidn (below_chain B7.out HB8.out)
  obtain ⟨w8, Hw8⟩ : ∃ W, W = wc := ⟨_, rfl⟩
  rw [← Hw8] at T8 B8 ⊢
  clear Hw8 HB8 T7 B7
  obtain ⟨bh, Hbh⟩ : ∃ bh : Nat, Hid (bh = if th = true then cn + 1 else cn) := ⟨_, rfl⟩
  go_upto_if 172 with fail
  go_cut [21, 22] from 172 to 174 (fun v21 v22 wx => v21 = .bool th ∧ v22 = .int .i64 bh ∧ wx = w8)
  case first =>
    as_aux_lemma =>
    cases hth : th with
    | true =>
      have H1 := hidn (show (bh : Int) = (cn : Int) + 1 by rw [Hbh.out, hth]; simp)
      have H2 := hidn hth
      clear hth Hth Hbh
      go_wp2
      go_meet
      case rel => exact ⟨by first | rfl | rw [H2.out], by rw [H1.out], rfl⟩
    | false =>
      have H1 := hidn (show bh = cn by rw [Hbh.out, hth]; simp)
      have H2 := hidn hth
      clear hth Hth Hbh
      go_wp2
      go_meet
      case rel => exact ⟨by first | rfl | rw [H2.out], by rw [H1.out], rfl⟩
  obtain ⟨rfl, rfl, hwc⟩ := hcut
  rw [hwc]
  clear hwc
  have Hlt : Hid (∀ D, DownIs (kids L (1 + kk) N 0 false) e D → D < N) := hidn fun D h => by have := h.lt (by rw [kids_length]; exact hN0); rwa [kids_length] at this
  have HSK := hidn (seek_any HT.out T8.out.sys e)
  obtain ⟨u0, u1, u2, ul⟩ := T8.out.en
  simp only [EntV.val] at HSK
  go_wp2_with fail
  refine HSK.out.mono ?_
  rintro r w9 ⟨⟨D, y, fd, hD, rfl, hsp⟩, b9⟩
  rw [seek_at HSL.out (by omega) HC.out hD (Hlt.out D hD), ← Hcn.out] at hsp
  have Hy : Hid ((∃ h : cn < L.length, fd = true ∧ y = ⟨L[cn], true⟩) ∨ (¬ cn < L.length ∧ fd = false)) := by
    by_cases hlt : cn < L.length
    · rw [List.getElem?_eq_getElem hlt] at hsp
      rcases hsp with ⟨q, _⟩ | ⟨q, r⟩
      · cases q
      · exact hidn (.inl ⟨hlt, r, (Option.some.inj q).symm⟩)
    · rw [List.getElem?_eq_none (by omega)] at hsp
      rcases hsp with ⟨_, _, r⟩ | ⟨q, _⟩
      · exact hidn (.inr ⟨hlt, r⟩)
      · cases q
  simp only [ItemV.val]
  obtain ⟨W9, HW9⟩ : ∃ W, Hid (W = w9.alloc (.cells #[.string y.e.key, .int .u32 y.e.page, .int .i64 y.e.slot, .bool y.live] 42)) := ⟨_, rfl⟩
  have k9 : Below w9.heap.size w9 W9 := by rw [HW9.out]; exact (Below.refl _ _).alloc (Nat.le_refl _) _
  have x9 : Blk W9 w9.heap.size #[.string y.e.key, .int .u32 y.e.page, .int .i64 y.e.slot, .bool y.live] 42 := by rw [HW9.out]; exact Blk.made _ _ _
  have T9 := hidn (T8.out.below (below_chain b9 k9))
  have B9 := hidn (below_chain B8.out (below_chain b9 k9))
  clear HSK u0 u1 u2 hsp hD b9 k9 T8 B8
  have HBH := hidn (tbehind_any HT.out T9.out.sys e)
  obtain ⟨u0, u1, u2, ul⟩ := T9.out.en
  simp only [EntV.val] at HBH
  go_upto_region 29 with fail
  rw [← HW9.out]
  clear HW9
  go_wp2_with fail
  refine HBH.out.mono ?_
  rintro r w10 ⟨⟨D, y2, fd2, hD, rfl, hsp⟩, b10⟩
  rw [behind_at HSL.out (by omega) HC.out hD (Hlt.out D hD), ← Hcn.out, ← Hth.out, ← Hbh.out] at hsp
  have Hy2 : Hid ((∃ h : bh < L.length, fd2 = true ∧ y2 = ⟨L[bh], true⟩) ∨ (¬ bh < L.length ∧ fd2 = false)) := by
    by_cases hlt : bh < L.length
    · rw [List.getElem?_eq_getElem hlt] at hsp
      rcases hsp with ⟨q, _⟩ | ⟨q, r⟩
      · cases q
      · exact hidn (.inl ⟨hlt, r, (Option.some.inj q).symm⟩)
    · rw [List.getElem?_eq_none (by omega)] at hsp
      rcases hsp with ⟨_, _, r⟩ | ⟨q, _⟩
      · exact hidn (.inr ⟨hlt, r⟩)
      · cases q
  simp only [ItemV.val]
  obtain ⟨W10, HW10⟩ : ∃ W, Hid (W = w10.alloc (.cells #[.string y2.e.key, .int .u32 y2.e.page, .int .i64 y2.e.slot, .bool y2.live] 42)) := ⟨_, rfl⟩
  have k10 : Below w10.heap.size w10 W10 := by rw [HW10.out]; exact (Below.refl _ _).alloc (Nat.le_refl _) _
  have x10 : Blk W10 w10.heap.size #[.string y2.e.key, .int .u32 y2.e.page, .int .i64 y2.e.slot, .bool y2.live] 42 := by rw [HW10.out]; exact Blk.made _ _ _
  have bb10 := below_chain b10 k10
  have x9' := x9.same (bb10.block _ x9.lt)
  have T10 := hidn (T9.out.below bb10)
  have B10 := hidn (below_chain B9.out bb10)
  clear HBH u0 u1 u2 hsp hD b10 k10 T9 B9 x9 bb10
  have HFD := hidn (tfind_any HT.out T10.out.sys e)
  obtain ⟨u0, u1, u2, ul⟩ := T10.out.en
  simp only [EntV.val] at HFD
  go_upto_region 30 with fail
  rw [← HW10.out]
  clear HW10
  go_wp2_with fail
  refine HFD.out.mono ?_
  rintro r w11 ⟨⟨D, y3, fd3, hD, rfl, hsp⟩, b11⟩
  have hfd3 := find_at HSL.out (by omega) HC.out hD (Hlt.out D hD) hsp
  rw [← Hth.out] at hfd3
  have Hy3 : Hid (th = true → y3.e = e) := hidn fun q => by
    rcases hsp with ⟨_, _, r⟩ | ⟨r, _⟩
    · exact r
    · rw [hfd3, q] at r; cases r
  subst hfd3
  simp only [ItemV.val]
  obtain ⟨W11, HW11⟩ : ∃ W, Hid (W = w11.alloc (.cells #[.string y3.e.key, .int .u32 y3.e.page, .int .i64 y3.e.slot, .bool y3.live] 42)) := ⟨_, rfl⟩
  have k11 : Below w11.heap.size w11 W11 := by rw [HW11.out]; exact (Below.refl _ _).alloc (Nat.le_refl _) _
  have x11 : Blk W11 w11.heap.size #[.string y3.e.key, .int .u32 y3.e.page, .int .i64 y3.e.slot, .bool y3.live] 42 := by rw [HW11.out]; exact Blk.made _ _ _
  have bb11 := below_chain b11 k11
  have x9'' := x9'.same (bb11.block _ x9'.lt)
  have x10' := x10.same (bb11.block _ x10.lt)
  have T11 := hidn (T10.out.below bb11)
  have B11 := hidn (below_chain B10.out bb11)
  clear HFD u0 u1 u2 hsp hD b11 k11 T10 B10 x9' x10 bb11
  have HPA := hidn (tpath_any HT.out T11.out.sys e)
  obtain ⟨u0, u1, u2, ul⟩ := T11.out.en
  simp only [EntV.val] at HPA
  go_upto_region 31 with fail
  rw [← HW11.out]
  clear HW11
  go_wp2_with fail
  refine HPA.out.mono ?_
  rintro r w12 ⟨⟨pa, pc, rfl⟩, b12⟩
  have z9 := x9''.same (b12.block _ x9''.lt)
  have z10 := x10'.same (b12.block _ x10'.lt)
  have z11 := x11.same (b12.block _ x11.lt)
  have T12 := hidn (T11.out.below b12)
  have B12 := hidn (below_chain B11.out b12)
  clear HPA u0 u1 u2 T11 B11 x9'' x10' x11 b12
  obtain ⟨u0, u1, u2, ul⟩ := T12.out.en
  have hent := hidn (fun (i : Nat) (h : i < L.length) => T12.out.ents.ent h)
  have a0 : w12.cell? ⟨w9.heap.size, 0, none⟩ = some (.string y.e.key) := z9.cell 0
  have a1 : w12.cell? ⟨w9.heap.size, 1, none⟩ = some (.int .u32 y.e.page) := z9.cell 1
  have a2 : w12.cell? ⟨w9.heap.size, 2, none⟩ = some (.int .i64 y.e.slot) := z9.cell 2
  have b0 : w12.cell? ⟨w10.heap.size, 0, none⟩ = some (.string y2.e.key) := z10.cell 0
  have b1 : w12.cell? ⟨w10.heap.size, 1, none⟩ = some (.int .u32 y2.e.page) := z10.cell 1
  have b2 : w12.cell? ⟨w10.heap.size, 2, none⟩ = some (.int .i64 y2.e.slot) := z10.cell 2
  have c0 : w12.cell? ⟨w11.heap.size, 0, none⟩ = some (.string y3.e.key) := z11.cell 0
  have c1 : w12.cell? ⟨w11.heap.size, 1, none⟩ = some (.int .u32 y3.e.page) := z11.cell 1
  have c2 : w12.cell? ⟨w11.heap.size, 2, none⟩ = some (.int .i64 y3.e.slot) := z11.cell 2
  have n0 : (0 : Int) ≤ (cn : Int) := by omega
  have n1 : (0 : Int) ≤ (bh : Int) := by omega
  obtain ⟨e3, He3⟩ : ∃ q, Hid (y3.e = q) := ⟨_, rfl⟩
  rw [He3.out] at c0 c1 c2
  have Hy4 := hidn (show fd3 = true → e3 = e from fun q => by rw [← He3.out]; exact Hy3.out q)
  clear z9 z10 z11 T12 Hcn Hbh Hth hcnl Hlt HT HC HDZ HSL Hy3 He3 Hne HAW
  rcases Hy.out with ⟨h1, rfl, hy1⟩ | ⟨h1, rfl⟩
  · have r1 : (cn : Int) < (L.length : Int) := by omega
    have d1 : cn < L.length := h1
    obtain ⟨dab, dao, dae, _, da0, da1, da2⟩ := hent.out cn h1
    simp only [Option.some.injEq, Addr.mk.injEq, and_true] at dae
    obtain ⟨rfl, rfl⟩ := dae
    rw [Nat.zero_add] at da0 da1 da2
    obtain ⟨daq, daH⟩ : ∃ q, Hid (L[cn]'h1 = q) := ⟨_, rfl⟩
    rw [daH.out] at da0 da1 da2
    have hy1e : y.e = daq := by rw [hy1]; exact daH.out
    rw [hy1e] at a0 a1 a2
    clear hy1 hy1e daH Hy h1
    rcases Hy2.out with ⟨h2, rfl, hy2⟩ | ⟨h2, rfl⟩
    · have r2 : (bh : Int) < (L.length : Int) := by omega
      have d2 : bh < L.length := h2
      obtain ⟨fab, fao, fae, _, fa0, fa1, fa2⟩ := hent.out bh h2
      simp only [Option.some.injEq, Addr.mk.injEq, and_true] at fae
      obtain ⟨rfl, rfl⟩ := fae
      rw [Nat.zero_add] at fa0 fa1 fa2
      obtain ⟨faq, faH⟩ : ∃ q, Hid (L[bh]'h2 = q) := ⟨_, rfl⟩
      rw [faH.out] at fa0 fa1 fa2
      have hy2e : y2.e = faq := by rw [hy2]; exact faH.out
      rw [hy2e] at b0 b1 b2
      clear hy2 hy2e faH Hy2 h2
      cases fd3 with
      | true =>
        have h3 := Hy4.out rfl
        subst h3
        clear hent Hy4
        as_aux_lemma =>
          go_upto_region 32 with fail
          simp only [List.append]
          go_quiet (fail)
          go_wp2
          go_ret
          exact ⟨by first | rfl | simp, by first | exact B12.out | (show RowKit.Below _ _ _; exact below_drewN B12.out _)⟩
      | false =>
        clear hent Hy4
        as_aux_lemma =>
          go_upto_region 32 with fail
          simp only [List.append]
          go_quiet (fail)
          go_wp2
          go_ret
          exact ⟨by first | rfl | simp, by first | exact B12.out | (show RowKit.Below _ _ _; exact below_drewN B12.out _)⟩
    · have r2 : ¬ (bh : Int) < (L.length : Int) := by omega
      have d2 : ¬ bh < L.length := by omega
      clear Hy2 h2
      cases fd3 with
      | true =>
        have h3 := Hy4.out rfl
        subst h3
        clear hent Hy4
        as_aux_lemma =>
          go_upto_region 32 with fail
          simp only [List.append]
          go_quiet (fail)
          go_wp2
          go_ret
          exact ⟨by first | rfl | simp, by first | exact B12.out | (show RowKit.Below _ _ _; exact below_drewN B12.out _)⟩
      | false =>
        clear hent Hy4
        as_aux_lemma =>
          go_upto_region 32 with fail
          simp only [List.append]
          go_quiet (fail)
          go_wp2
          go_ret
          exact ⟨by first | rfl | simp, by first | exact B12.out | (show RowKit.Below _ _ _; exact below_drewN B12.out _)⟩
  · have r1 : ¬ (cn : Int) < (L.length : Int) := by omega
    have d1 : ¬ cn < L.length := by omega
    clear Hy h1
    rcases Hy2.out with ⟨h2, rfl, hy2⟩ | ⟨h2, rfl⟩
    · have r2 : (bh : Int) < (L.length : Int) := by omega
      have d2 : bh < L.length := h2
      obtain ⟨fab, fao, fae, _, fa0, fa1, fa2⟩ := hent.out bh h2
      simp only [Option.some.injEq, Addr.mk.injEq, and_true] at fae
      obtain ⟨rfl, rfl⟩ := fae
      rw [Nat.zero_add] at fa0 fa1 fa2
      obtain ⟨faq, faH⟩ : ∃ q, Hid (L[bh]'h2 = q) := ⟨_, rfl⟩
      rw [faH.out] at fa0 fa1 fa2
      have hy2e : y2.e = faq := by rw [hy2]; exact faH.out
      rw [hy2e] at b0 b1 b2
      clear hy2 hy2e faH Hy2 h2
      cases fd3 with
      | true =>
        have h3 := Hy4.out rfl
        subst h3
        clear hent Hy4
        as_aux_lemma =>
          go_upto_region 32 with fail
          simp only [List.append]
          go_quiet (fail)
          go_wp2
          go_ret
          exact ⟨by first | rfl | simp, by first | exact B12.out | (show RowKit.Below _ _ _; exact below_drewN B12.out _)⟩
      | false =>
        clear hent Hy4
        as_aux_lemma =>
          go_upto_region 32 with fail
          simp only [List.append]
          go_quiet (fail)
          go_wp2
          go_ret
          exact ⟨by first | rfl | simp, by first | exact B12.out | (show RowKit.Below _ _ _; exact below_drewN B12.out _)⟩
    · have r2 : ¬ (bh : Int) < (L.length : Int) := by omega
      have d2 : ¬ bh < L.length := by omega
      clear Hy2 h2
      cases fd3 with
      | true =>
        have h3 := Hy4.out rfl
        subst h3
        clear hent Hy4
        as_aux_lemma =>
          go_upto_region 32 with fail
          simp only [List.append]
          go_quiet (fail)
          go_wp2
          go_ret
          exact ⟨by first | rfl | simp, by first | exact B12.out | (show RowKit.Below _ _ _; exact below_drewN B12.out _)⟩
      | false =>
        clear hent Hy4
        as_aux_lemma =>
          go_upto_region 32 with fail
          simp only [List.append]
          go_quiet (fail)
          go_wp2
          go_ret
          exact ⟨by first | rfl | simp, by first | exact B12.out | (show RowKit.Below _ _ _; exact below_drewN B12.out _)⟩

end Go.Proofs.YtpllidadpcahbaaGreat
