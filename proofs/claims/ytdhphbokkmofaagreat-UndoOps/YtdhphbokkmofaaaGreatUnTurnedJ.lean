/-
  The walk of undo.turned: the bit that a change of one byte turned over.
-/
import Derived.Test.YtdhphbokkmofaaaGreatSpaceBitsJ
import Derived.BigQuiet
import Derived.Test.YtdhphbokkmofaaaGreatBackMathJ
import Derived.Deep.RegionHeld3
import Derived.Lib.QuietBelow
import Derived.Test.YtdhphbokkmofaaaGreatTxUpdateJ
import Derived.Test.YtdhphbokkmofaaaGreatRowOpsJ
import Derived.Test.YtdhphbokkmofaaaGreatTxCompC
set_option linter.unusedVariables false
set_option linter.unusedSimpArgs false
namespace Go.Proofs.YtdhphbokkmofaaaGreat
open Go.RowKit Go.Sort

theorem hidu {p : Prop} (h : p) : Hid p := h

def trnN (o : OpV) : Nat := if o.S.size = 1 ∧ o.old.size = 1 then bytN o.S 0 ^^^ bytN o.old 0 else 0
def trnI (o : OpV) : Bool := decide (o.S.size = 1 ∧ o.old.size = 1 ∧ Lib.onesCount (trnN o) = 1)

set_option maxHeartbeats 1600000 in
set_option maxRecDepth 8000 in
theorem turned_any (o : OpV) (ho : o.Ok) (w : World) :
    Calls Tryz.prog 112 #[o.val] w fun e w' => e = .returned (.tuple #[.int .u8 ((trnN o : Nat) : Int), .bool (trnI o)]) ∧ Below w.heap.size w w' := by
  have hS := ho.S
  have hT := ho.old
  clear ho
  obtain ⟨K, A, S, T⟩ := o
  unfold trnI trnN
  unfold OpV.val
  simp only at hS hT ⊢
  obtain ⟨W, HW⟩ : ∃ W, Hid (W = w.alloc (.cells #[.int .i64 K, .int .i64 A, .string S, .string T] 46)) := ⟨_, rfl⟩
  have bW : Below w.heap.size w W := by rw [HW.out]; exact (Below.refl _ _).alloc (Nat.le_refl _) _
  have r : RowV W w.heap.size 4 (four (.int .i64 K) (.int .i64 A) (.string S) (.string T)) := by rw [HW.out]; exact RowV.four_new w _ _ _ _ _
  obtain ⟨y0, y1, y2, y3⟩ := r.cells4
  have HB := hidu bW
  clear r bW
  by_cases h1 : S.size = 1
  · by_cases h2 : T.size = 1
    · have q1 : 0 < S.size := by omega
      have q2 : 0 < T.size := by omega
      rw [if_pos ⟨h1, h2⟩, bytN_at q1, bytN_at q2]
      have hxor : bits .xor .u8 ((S[0].toNat : Nat) : Int) ((T[0].toNat : Nat) : Int) = ((S[0].toNat ^^^ T[0].toNat : Nat) : Int) := u8_xor_nat _ _ (UInt8.toNat_lt _) (UInt8.toNat_lt _)
      have hlt : S[0].toNat ^^^ T[0].toNat < 256 := Nat.xor_lt_two_pow (n := 8) (UInt8.toNat_lt _) (UInt8.toNat_lt _)
      have HO : Hid (∀ wx, Calls Tryz.prog 117 #[.int .u8 ((S[0].toNat ^^^ T[0].toNat : Nat) : Int)] wx fun e w' => e = .returned (.int .i64 (Lib.onesCount (S[0].toNat ^^^ T[0].toNat) : Nat)) ∧ w' = wx) := fun wx => ones_any _ wx hlt
      generalize Lib.onesCount (S[0].toNat ^^^ T[0].toNat) = oc at HO ⊢
      obtain ⟨R, HR⟩ : ∃ R : Bool, Hid (decide (S.size = 1 ∧ T.size = 1 ∧ oc = 1) = R) := ⟨_, rfl⟩
      have hcmp : ((oc : Int) == 1) = R := by
        rw [← HR.out]
        by_cases e : oc = 1
        · rw [decide_eq_true ⟨h1, h2, e⟩, beq_iff_eq]; omega
        · rw [decide_eq_false (fun q => e q.2.2), beq_eq_false_iff_ne]; omega
      rw [HR.out]
      clear HR
      clear hlt
      generalize S[0].toNat ^^^ T[0].toNat = xo at HO hxor ⊢
      go_enter Tryz.func112, Tryz.ntmps112
      go_upto_region 1 with fail
      rw [← HW.out]
      clear HW
      go_upto_region 3 with fail
      go_quiet (fail)
      go_wp2_with fail
      refine (HO.out _).mono ?_
      rintro e w1 ⟨rfl, rfl⟩
      go_wp2
      go_ret2
      exact ⟨rfl, below_drewN HB.out _⟩
    · rw [if_neg (fun e => h2 e.2), show decide (S.size = 1 ∧ T.size = 1 ∧ Lib.onesCount 0 = 1) = false from by simp [h2]]
      have q2 : ((T.size : Int) == 1) = false := by rw [beq_eq_false_iff_ne]; omega
      have q1 : ((S.size : Int) == 1) = true := by rw [h1]; rfl
      go_enter Tryz.func112, Tryz.ntmps112
      go_upto_region 1 with fail
      rw [← HW.out]
      clear HW
      go_wp2
      go_ret2
      exact ⟨rfl, HB.out⟩
  · rw [if_neg (fun e => h1 e.1), show decide (S.size = 1 ∧ T.size = 1 ∧ Lib.onesCount 0 = 1) = false from by simp [h1]]
    have q1 : ((S.size : Int) == 1) = false := by rw [beq_eq_false_iff_ne]; omega
    go_enter Tryz.func112, Tryz.ntmps112
    go_upto_region 1 with fail
    rw [← HW.out]
    clear HW
    go_wp2
    go_ret2
    exact ⟨rfl, HB.out⟩

end Go.Proofs.YtdhphbokkmofaaaGreat

namespace Go.Proofs.YtdhphbokkmofaaaGreat
open Go.RowKit Go.Sort

def agB (p : SheetV) (o : OpV) : Bool := decide (trnI o = true ∧ isB p = true ∧ 0 ≤ o.at' ∧ o.at' < 256)
def agE (p : SheetV) (o : OpV) : Int := if agB p o then 0 else 160
def op00 : OpV := ⟨0, 0, ⟨#[]⟩, ⟨#[]⟩⟩
def agO (p : SheetV) (o : OpV) : OpV := if agB p o then ⟨6, o.at', one (bytN (slot0 p) o.at'.toNat ^^^ trnN o), one (bytN (slot0 p) o.at'.toNat)⟩ else op00

theorem trnN_lt (o : OpV) : trnN o < 256 := by
  unfold trnN
  split
  · exact Nat.xor_lt_two_pow (n := 8) (bytN_lt _ _) (bytN_lt _ _)
  · omega

structure AgAt (w wx : World) (p : SheetV) (o : OpV) (a : Option Addr) (c : Nat) : Prop where
  page : RowV wx w.heap.size 5 (five (.int .u32 p.num) (.int .u64 p.lsn) (.int .i64 p.kind) (.string p.head) (.slice a p.slots.length c))
  op : RowV wx (w.heap.size + 1) 4 (four (.int .i64 o.kind) (.int .i64 o.at') (.string o.S) (.string o.old))
  res : RowV wx (w.heap.size + 2) 4 (four (.int .i64 0) (.int .i64 0) (.string ⟨#[]⟩) (.string ⟨#[]⟩))
  bel : Below w.heap.size w wx
  lt : w.heap.size + 3 ≤ wx.heap.size

theorem AgAt.below {w wx wy : World} {p : SheetV} {o : OpV} {a : Option Addr} {c : Nat} (h : AgAt w wx p o a c) (k : Below wx.heap.size wx wy) : AgAt w wy p o a c := by
  have := h.lt
  exact ⟨h.page.below k (by omega), h.op.below k (by omega), h.res.below k (by omega), below_chain h.bel k, Nat.le_trans h.lt k.size⟩

section
variable {p : SheetV} {o : OpV} {a : Option Addr} {c : Nat} {w : World}

theorem agmixed : Tryz.prog.follows .mixedOrders = true := by kernel_rfl

def agBox (p : SheetV) (o : OpV) (a : Option Addr) (c : Nat) (w : World) : World := ((w.alloc (.cells #[.int .u32 p.num, .int .u64 p.lsn, .int .i64 p.kind, .string p.head, .slice a p.slots.length c] 44)).alloc (.cells #[.int .i64 o.kind, .int .i64 o.at', .string o.S, .string o.old] 46)).alloc (.cells #[.int .i64 0, .int .i64 0, .string ⟨#[]⟩, .string ⟨#[]⟩] 46)

theorem agBox_at (p : SheetV) (o : OpV) (a : Option Addr) (c : Nat) (w : World) : AgAt w (agBox p o a c w) p o a c := by
  unfold agBox
  refine ⟨((RowV.five_new w _ _ _ _ _ _).below ((Below.refl _ _).alloc (Nat.le_refl _) _) (by simp)).below ((Below.refl _ _).alloc (Nat.le_refl _) _) (by simp; omega), ?_, ?_, (((Below.refl _ _).alloc (Nat.le_refl _) _).alloc (by simp) _).alloc (by simp; omega) _, by simp⟩
  · have := (RowV.four_new (w.alloc (.cells #[.int .u32 p.num, .int .u64 p.lsn, .int .i64 p.kind, .string p.head, .slice a p.slots.length c] 44)) (.int .i64 o.kind) (.int .i64 o.at') (.string o.S) (.string o.old) 46).below ((Below.refl _ _).alloc (Nat.le_refl _) (.cells #[.int .i64 0, .int .i64 0, .string ⟨#[]⟩, .string ⟨#[]⟩] 46)) (by simp)
    simpa using this
  · have := RowV.four_new ((w.alloc (.cells #[.int .u32 p.num, .int .u64 p.lsn, .int .i64 p.kind, .string p.head, .slice a p.slots.length c] 44)).alloc (.cells #[.int .i64 o.kind, .int .i64 o.at', .string o.S, .string o.old] 46)) (.int .i64 0) (.int .i64 0) (.string ⟨#[]⟩) (.string ⟨#[]⟩) 46
    simpa using this

set_option maxHeartbeats 3200000 in
set_option maxRecDepth 8000 in
theorem again_any (h : p.Lies w a) (ho : o.Ok) :
    Calls Tryz.prog 48 #[p.val a c, o.val] w fun e w' => e = .returned (.tuple #[(agO p o).val, .int .i64 (agE p o)]) ∧ Below w.heap.size w w' := by
  have HTR : Hid (∀ wx, Calls Tryz.prog 112 #[o.val] wx fun e w' => e = .returned (.tuple #[.int .u8 ((trnN o : Nat) : Int), .bool (trnI o)]) ∧ Below wx.heap.size wx w') := fun wx => turned_any o ho wx
  have HIS : Hid (∀ wx, Below w.heap.size w wx → Calls Tryz.prog 94 #[p.val a c] wx fun e w' => e = .returned (.bool (isB p)) ∧ Below wx.heap.size wx w') := fun wx k => is_any (h.below k)
  have HH := hidu h
  have htl := trnN_lt o
  have ha := ho.at'
  obtain ⟨R, HR⟩ : ∃ R, Hid (agO p o = R) := ⟨_, rfl⟩
  obtain ⟨E, HE⟩ : ∃ E, Hid (agE p o = E) := ⟨_, rfl⟩
  rw [HR.out, HE.out]
  have HR2 := HR.out
  have HE2 := HE.out
  unfold agO agB at HR2
  unfold agE agB at HE2
  obtain ⟨tn, Htn⟩ : ∃ q, Hid (trnN o = q) := ⟨_, rfl⟩
  obtain ⟨ti, Hti⟩ : ∃ q, Hid (trnI o = q) := ⟨_, rfl⟩
  rw [Htn.out] at htl HR2 HTR
  rw [Hti.out] at HR2 HE2 HTR
  obtain ⟨W, HW⟩ : ∃ W, Hid (W = agBox p o a c w) := ⟨_, rfl⟩
  have HA : Hid (AgAt w W p o a c) := by show AgAt _ _ _ _ _ _; rw [HW.out]; exact agBox_at p o a c w
  unfold agBox at HW
  obtain ⟨K, A, S, T⟩ := o
  obtain ⟨y0, y1, y2, y3⟩ := HA.out.op.cells4
  clear h ho HR HE Htn Hti
  simp only at ha HR2 HE2 y0 y1 y2 y3
  simp only [SheetV.val, OpV.val] at HTR HIS HW ⊢
  have HSM : Hid (isB p = true → ∃ b o', a = some ⟨b, o', none⟩ ∧ b < w.heap.size ∧ w.cell? ⟨b, o', none⟩ = some (.string (slot0 p)) ∧ (slot0 p).size = 256 ∧ p.slots.length = 1) := hidu fun hb => by
    obtain ⟨k1, k2, k3⟩ := isB_true hb
    obtain ⟨b, o', e, hb', hc, hz⟩ := HH.out.first k2
    exact ⟨b, o', e, hb', hc, k3, k2⟩
  go_enter Tryz.func48, Tryz.ntmps48
  go_upto_region 1 with fail
  rw [← HW.out]
  clear HW
  go_wp2_with fail
  refine (HTR.out _).mono ?_
  rintro e w1 ⟨rfl, b1⟩
  have H1 := hidu (HA.out.below b1)
  clear HA b1 y0 y1 y2 y3 HTR
  obtain ⟨x0, x1, x2, x3, x4⟩ := H1.out.page.cells5
  obtain ⟨y0, y1, y2, y3⟩ := H1.out.op.cells4
  simp only at y0 y1 y2 y3
  go_upto_region 2 with fail
  go_cut [35] from 14 to 35 (fun v35 wx => v35 = .bool (!(decide (ti = true ∧ isB p = true ∧ 0 ≤ A ∧ A < 256))) ∧ Hid (AgAt w wx p ⟨K, A, S, T⟩ a c))
  case first =>
    as_aux_lemma =>
    have gx0 := cell_regrown x0
    have gx1 := cell_regrown x1
    have gx2 := cell_regrown x2
    have gx3 := cell_regrown x3
    have gx4 := cell_regrown x4
    have gy1 := cell_regrown y1
    have cI : ∀ dd os, Calls Tryz.prog 94 #[.agg #[.int .u32 p.num, .int .u64 p.lsn, .int .i64 p.kind, .string p.head, .slice a p.slots.length c]] (grow (redrawn w1 dd) os) fun e w' => e = .returned (.bool (isB p)) ∧ ∃ q : Regrown, w' = grow (redrawn w1 q.d) q.os := fun dd os => Calls.regrown_of (HIS.out _ (below_chain H1.out.bel (below_regrown w1 dd os)))
    clear x0 x1 x2 x3 x4 y0 y1 y2 y3
    cases ti with
    | false =>
      refine wp_region_quiet_below agmixed (by kernel_rfl) ?_
      iterate 22 ((with_reducible refine wpQuiet_step (fun K hK => ?_)); go_simp; first | (refine hK _ ?_; clear hK K) | (apply Exists.intro; refine ⟨fun _ => ?_, hK _ ?_⟩; (first | (go_at_call 94; exact cI _ _)); clear hK K))
      refine wpQuiet_nil ?_
      intro _ hw'
      obtain ⟨⟨dq, osq⟩, hw''⟩ := hw'
      subst hw''
      go_wp2_with fail
      go_meet
      case rel => exact ⟨by simp, H1.out.below (below_regrown w1 dq osq)⟩
    | true =>
      by_cases k : isB p = true
      · obtain ⟨b, o', rfl, hb, hc, hz, hl1⟩ := HSM.out k
        rw [k] at cI
        have hc1 : w1.cell? ⟨b, o', none⟩ = some (.string (slot0 p)) := (H1.out.bel.cell (p := ⟨b, o', none⟩) hb).trans hc
        have gc := cell_regrown hc1
        have HK := hidu k
        have HZ := hidu hl1
        obtain ⟨s, HS⟩ : ∃ s, Hid (slot0 p = s) := ⟨_, rfl⟩
        rw [HS.out] at gc hz
        have hzi : (s.size : Int) = 256 := by omega
        have hq : (0 : Int) < (p.slots.length : Int) := by omega
        have hq' : 0 < p.slots.length := by omega
        clear k hc hc1 hl1 HSM HH HIS hb
        by_cases a1 : A < 0
        · have e1 : decide (A < 0) = true := by simpa using a1
          refine wp_region_quiet_below agmixed (by kernel_rfl) ?_
          iterate 22 ((with_reducible refine wpQuiet_step (fun K hK => ?_)); go_simp; first | (refine hK _ ?_; clear hK K) | (apply Exists.intro; refine ⟨fun _ => ?_, hK _ ?_⟩; (first | (go_at_call 94; exact cI _ _)); clear hK K))
          refine wpQuiet_nil ?_
          intro _ hw'
          obtain ⟨⟨dq, osq⟩, hw''⟩ := hw'
          subst hw''
          go_wp2_with fail
          go_meet
          case rel => exact ⟨by rw [decide_eq_false (by omega)]; rfl, H1.out.below (below_regrown w1 dq osq)⟩
        · have e1 : decide (A < 0) = false := by simpa using a1
          by_cases a2 : 256 ≤ A
          · have e2 : decide ((s.size : Int) ≤ A) = true := by simp; omega
            refine wp_region_quiet_below agmixed (by kernel_rfl) ?_
            iterate 22 ((with_reducible refine wpQuiet_step (fun K hK => ?_)); go_simp; first | (refine hK _ ?_; clear hK K) | (apply Exists.intro; refine ⟨fun _ => ?_, hK _ ?_⟩; (first | (go_at_call 94; exact cI _ _)); clear hK K))
            refine wpQuiet_nil ?_
            intro _ hw'
            obtain ⟨⟨dq, osq⟩, hw''⟩ := hw'
            subst hw''
            go_wp2_with fail
            go_meet
            case rel => exact ⟨by rw [decide_eq_false (by omega)]; rfl, H1.out.below (below_regrown w1 dq osq)⟩
          · have e2 : decide ((s.size : Int) ≤ A) = false := by simp; omega
            refine wp_region_quiet_below agmixed (by kernel_rfl) ?_
            iterate 22 ((with_reducible refine wpQuiet_step (fun K hK => ?_)); go_simp; first | (refine hK _ ?_; clear hK K) | (apply Exists.intro; refine ⟨fun _ => ?_, hK _ ?_⟩; (first | (go_at_call 94; exact cI _ _)); clear hK K))
            refine wpQuiet_nil ?_
            intro _ hw'
            obtain ⟨⟨dq, osq⟩, hw''⟩ := hw'
            subst hw''
            go_wp2_with fail
            go_meet
            case rel => exact ⟨by rw [decide_eq_true (⟨trivial, HK.out, by omega, by omega⟩ : True ∧ isB p = true ∧ 0 ≤ A ∧ A < 256)]; rfl, H1.out.below (below_regrown w1 dq osq)⟩
      · have k' : isB p = false := by simpa using k
        rw [k'] at cI
        have HK := hidu k'
        clear k k' HSM HH HIS
        refine wp_region_quiet_below agmixed (by kernel_rfl) ?_
        iterate 22 ((with_reducible refine wpQuiet_step (fun K hK => ?_)); go_simp; first | (refine hK _ ?_; clear hK K) | (apply Exists.intro; refine ⟨fun _ => ?_, hK _ ?_⟩; (first | (go_at_call 94; exact cI _ _)); clear hK K))
        refine wpQuiet_nil ?_
        intro _ hw'
        obtain ⟨⟨dq, osq⟩, hw''⟩ := hw'
        subst hw''
        go_wp2_with fail
        go_meet
        case rel => exact ⟨by rw [HK.out]; simp, H1.out.below (below_regrown w1 dq osq)⟩
  obtain ⟨rfl, H2⟩ := hcut
  clear H1 x0 x1 x2 x3 x4 y0 y1 y2 y3 HIS
  by_cases hok : ti = true ∧ isB p = true ∧ 0 ≤ A ∧ A < 256
  · rw [if_pos (decide_eq_true hok)] at HR2 HE2
    rw [decide_eq_true hok]
    subst HR2 HE2
    obtain ⟨-, hb, h0, h256⟩ := hok
    obtain ⟨A, rfl⟩ := Int.eq_ofNat_of_zero_le h0
    obtain ⟨b, o', rfl, hb', hc, hz, hl1⟩ := HSM.out hb
    have hAs : A < (slot0 p).size := by omega
    have hx := Nat.xor_lt_two_pow (n := 8) (bytN_lt (slot0 p) A) htl
    have HVAL : Hid (one (bytN (slot0 p) A ^^^ tn) = one ((slot0 p)[A].toNat ^^^ tn) ∧ one (bytN (slot0 p) A) = one ((slot0 p)[A].toNat)) := by rw [bytN_at hAs]; exact ⟨rfl, rfl⟩
    rw [bytN_at hAs] at hx
    generalize HS : slot0 p = s at hAs hx hz hc HVAL
    have HSS := hidu HS
    clear HS
    have hxor : bits .xor .u8 ((s[A].toNat : Nat) : Int) (tn : Int) = ((s[A].toNat ^^^ tn : Nat) : Int) := u8_xor_nat _ _ (UInt8.toNat_lt _) htl
    have hq : (0 : Int) < (p.slots.length : Int) := by omega
    have hq' : 0 < p.slots.length := by omega
    have hcc : wc.cell? ⟨b, o', none⟩ = some (.string s) := (H2.out.bel.cell (p := ⟨b, o', none⟩) hb').trans hc
    obtain ⟨x0, x1, x2, x3, x4⟩ := H2.out.page.cells5
    obtain ⟨y0, y1, y2, y3⟩ := H2.out.op.cells4
    simp only at y0 y1 y2 y3
    clear hb HSM hl1 hc
    go_upto_region 4 with fail
    go_quiet (fail)
    have H3 := hidu (H2.out.below (below_drewN (Below.refl wc.heap.size wc) nq))
    obtain ⟨V, HV⟩ : ∃ V, Hid (V = wc.drewN nq) := ⟨_, rfl⟩
    rw [← HV.out] at H3 ⊢
    clear HV H2 x0 x1 x2 x3 x4 y0 y1 y2 y3 hcc
    obtain ⟨y0, y1, y2, y3⟩ := H3.out.op.cells4
    obtain ⟨z0, z1, z2, z3⟩ := H3.out.res.cells4
    obtain ⟨g0, g1, g2, g3⟩ := H3.out.res.open4
    have hl := H3.out.lt
    simp only at y0 y1 y2 y3
    have hcv1 := one_run (V.alloc (.cells #[.int .u8 ((s[A].toNat ^^^ tn : Nat) : Int)] 5)) V.heap.size (s[A].toNat ^^^ tn) hx (by simp)
    have hcv2 := one_run ((V.alloc (.cells #[.int .u8 ((s[A].toNat ^^^ tn : Nat) : Int)] 5)).alloc (.cells #[.int .u8 ((s[A].toNat : Nat) : Int)] 5)) (V.heap.size + 1) s[A].toNat (UInt8.toNat_lt _) (by simp)
    have bb : Below V.heap.size V ((V.alloc (.cells #[.int .u8 ((s[A].toNat ^^^ tn : Nat) : Int)] 5)).alloc (.cells #[.int .u8 ((s[A].toNat : Nat) : Int)] 5)) := ((Below.refl _ _).alloc (Nat.le_refl _) _).alloc (by simp) _
    have BB := hidu bb
    have hb2 : w.heap.size + 2 < V.heap.size := by omega
    have k0 := (bb.cell (p := ⟨w.heap.size + 2, 0, none⟩) hb2).trans z0
    have k1 := (bb.cell (p := ⟨w.heap.size + 2, 1, none⟩) hb2).trans z1
    have k2 := (bb.cell (p := ⟨w.heap.size + 2, 2, none⟩) hb2).trans z2
    have k3 := (bb.cell (p := ⟨w.heap.size + 2, 3, none⟩) hb2).trans z3
    have e0 := (bb.frozen (p := ⟨w.heap.size + 2, 0, none⟩) hb2).trans g0
    have e1 := (bb.frozen (p := ⟨w.heap.size + 2, 1, none⟩) hb2).trans g1
    have e2 := (bb.frozen (p := ⟨w.heap.size + 2, 2, none⟩) hb2).trans g2
    have e3 := (bb.frozen (p := ⟨w.heap.size + 2, 3, none⟩) hb2).trans g3
    have HF : Hid (Below w.heap.size w (store4 ((V.alloc (.cells #[.int .u8 ((s[A].toNat ^^^ tn : Nat) : Int)] 5)).alloc (.cells #[.int .u8 ((s[A].toNat : Nat) : Int)] 5)) (w.heap.size + 2) (.int .i64 6) (.int .i64 A) (.string (one (s[A].toNat ^^^ tn))) (.string (one s[A].toNat)))) := hidu (below_set4 (below_chain H3.out.bel bb) (by omega) _ _ _ _)
    have hr := (H3.out.res.below bb (by omega)).put4 (.int .i64 6) (.int .i64 A) (.string (one (s[A].toNat ^^^ tn))) (.string (one s[A].toNat))
    have HRR := hidu hr
    clear bb z0 z1 z2 z3 g0 g1 g2 g3 hr
    obtain ⟨WX, HWX⟩ : ∃ WX, Hid (WX = store4 ((V.alloc (.cells #[.int .u8 ((s[A].toNat ^^^ tn : Nat) : Int)] 5)).alloc (.cells #[.int .u8 ((s[A].toNat : Nat) : Int)] 5)) (w.heap.size + 2) (.int .i64 6) (.int .i64 A) (.string (one (s[A].toNat ^^^ tn))) (.string (one s[A].toNat))) := ⟨_, hidu rfl⟩
    rw [← HWX.out] at HF HRR
    go_wp2
    rw [show ((((((V.alloc (.cells #[.int .u8 ((s[A].toNat ^^^ tn : Nat) : Int)] 5)).alloc (.cells #[.int .u8 ((s[A].toNat : Nat) : Int)] 5)).setCell ⟨w.heap.size + 2, 0, none⟩ (.int .i64 6)).setCell ⟨w.heap.size + 2, 1, none⟩ (.int .i64 A)).setCell ⟨w.heap.size + 2, 2, none⟩ (.string (one (s[A].toNat ^^^ tn)))).setCell ⟨w.heap.size + 2, 3, none⟩ (.string (one s[A].toNat))) = WX from HWX.out.symm]
    obtain ⟨r0, r1, r2, r3⟩ := HRR.out.cells4
    refine bodyPost_ret (v := .tuple #[.agg #[.int .i64 6, .int .i64 A, .string (one (s[A].toNat ^^^ tn)), .string (one s[A].toNat)], .int .i64 0]) (by simp [results, Tryz.results48, go_sem, r0, r1, r2, r3]) rfl ?_
    refine ⟨?_, HF.out⟩
    rw [HSS.out, HVAL.out.1, HVAL.out.2]
  · rw [if_neg (by rw [decide_eq_false hok]; decide)] at HR2 HE2
    rw [decide_eq_false hok]
    subst HR2 HE2
    obtain ⟨z0, z1, z2, z3⟩ := H2.out.res.cells4
    obtain ⟨g0, g1, g2, g3⟩ := H2.out.res.open4
    have hl := H2.out.lt
    have hr := H2.out.res.put4 (.int .i64 0) (.int .i64 0) (.string ⟨#[]⟩) (.string ⟨#[]⟩)
    have br := below_set4 H2.out.bel (b := w.heap.size + 2) (by omega) (.int .i64 0) (.int .i64 0) (.string ⟨#[]⟩) (.string ⟨#[]⟩)
    obtain ⟨WX, HWX⟩ : ∃ WX, Hid (WX = store4 wc (w.heap.size + 2) (.int .i64 0) (.int .i64 0) (.string ⟨#[]⟩) (.string ⟨#[]⟩)) := ⟨_, rfl⟩
    rw [← HWX.out] at hr br
    go_wp2
    rw [show ((((wc.setCell ⟨w.heap.size + 2, 0, none⟩ (.int .i64 0)).setCell ⟨w.heap.size + 2, 1, none⟩ (.int .i64 0)).setCell ⟨w.heap.size + 2, 2, none⟩ (.string ⟨#[]⟩)).setCell ⟨w.heap.size + 2, 3, none⟩ (.string ⟨#[]⟩)) = WX from HWX.out.symm]
    obtain ⟨r0, r1, r2, r3⟩ := hr.cells4
    refine bodyPost_ret (v := .tuple #[.agg #[.int .i64 0, .int .i64 0, .string ⟨#[]⟩, .string ⟨#[]⟩], .int .i64 160]) (by simp [results, Tryz.results48, go_sem, r0, r1, r2, r3]) rfl ?_
    exact ⟨rfl, br⟩

end

end Go.Proofs.YtdhphbokkmofaaaGreat

namespace Go.Proofs.YtdhphbokkmofaaaGreat
open Go.RowKit Go.Sort

def chgU (n : Nat) (o : OpV) : ChgV := ⟨n, o, 1, 0, ⟨#[]⟩, 0, 0, false⟩
def zeroChg : Array Value := #[.int .u32 0, .int .i64 0, .int .i64 0, .string ⟨#[]⟩, .string ⟨#[]⟩, .int .i64 0, .int .i64 0, .string ⟨#[]⟩, .int .u32 0, .int .i64 0, .bool false]

def chgParts (n : Nat) (o : OpV) (u : Int) : List (Nat × Value) := [(0, .int .u32 n), (1, .agg #[.int .i64 o.kind, .int .i64 o.at', .string o.S, .string o.old]), (2, .int .i64 u)]
theorem built_chgU (n : Nat) (o : OpV) : Tryz.prog.built 88 (chgParts n o 1) = some (chgU n o).cells := by kernel_rfl

theorem chg_one (c : ChgV) : c.cells.all (·.oneCell') = true := by simp [ChgV.cells, Value.oneCell']

set_option maxHeartbeats 1600000 in
set_option maxRecDepth 20000 in
theorem hundoable_any (n : Nat) (o : OpV) (w : World) :
    Calls Tryz.prog 36 #[.int .u32 n, o.val] w fun e w' => e = .returned (.agg (chgU n o).cells) ∧ Below w.heap.size w w' := by
  have HV : Hid (o.val = .agg #[.int .i64 o.kind, .int .i64 o.at', .string o.S, .string o.old]) := rfl
  rw [HV.out]
  obtain ⟨W, HW⟩ : ∃ W, Hid (W = (w.alloc (.cells #[.int .i64 o.kind, .int .i64 o.at', .string o.S, .string o.old] 46)).alloc (.cells zeroChg 88)) := ⟨_, rfl⟩
  have bW : Below w.heap.size w W := by rw [HW.out]; exact ((Below.refl _ _).alloc (Nat.le_refl _) _).alloc (by simp) _
  have x0 : BlkR W w.heap.size #[.int .i64 o.kind, .int .i64 o.at', .string o.S, .string o.old] 46 := by rw [HW.out]; exact (heap_old _ _ (by simp)).trans (heap_alloc_new w _)
  have x1 : BlkR W (w.heap.size + 1) zeroChg 88 := by
    rw [HW.out]
    have := heap_alloc_new (w.alloc (.cells #[.int .i64 o.kind, .int .i64 o.at', .string o.S, .string o.old] 46)) (.cells zeroChg 88)
    rw [show (w.alloc (.cells #[.int .i64 o.kind, .int .i64 o.at', .string o.S, .string o.old] 46)).heap.size = w.heap.size + 1 by simp] at this
    exact this
  have HB := hidx bW
  have X0 := hidx x0
  have X1 := hidx x1
  have HZ : Hid (zeroChg = #[.int .u32 0, .int .i64 0, .int .i64 0, .string ⟨#[]⟩, .string ⟨#[]⟩, .int .i64 0, .int .i64 0, .string ⟨#[]⟩, .int .u32 0, .int .i64 0, .bool false]) := rfl
  clear bW x0 x1
  go_enter Tryz.func36, Tryz.ntmps36
  go_upto_region 1 with fail
  rw [← HZ.out, ← HW.out]
  clear HW HZ
  obtain ⟨WX, HWX⟩ : ∃ WX, Hid (WX = W.setRow (w.heap.size + 1) (chgU n o).cells) := ⟨_, rfl⟩
  have hb : BlkR WX (w.heap.size + 1) (chgU n o).cells 88 := by rw [HWX.out]; exact setRow_heap W _ _ _ _ _ X1.out
  have HF : Hid (Below w.heap.size w WX) := by show Below _ _ _; rw [HWX.out]; exact below_setRow HB.out (by omega) _
  have HBB := hidx hb
  clear hb
  refine wp_region_lit ?_
  refine wpList_plain rfl fun K hK => ?_
  go_simp
  refine hK _ _ ?_
  clear hK K
  refine wpList_loadRow rfl _ _ rfl w.heap.size rfl #[.int .i64 o.kind, .int .i64 o.at', .string o.S, .string o.old] _ (0, 0) X0.out _ Tryz.underlying46 rfl (by kernel_rfl) ?_
  refine wpList_buildAny rfl 88 _ rfl (chgParts n o 1) (by simp only [List.map_toArray, List.map_cons, List.map_nil]; rfl) _ (built_chgU n o) ?_
  refine wpList_storeRow rfl _ _ 88 rfl rfl (w.heap.size + 1) rfl (chgU n o).cells zeroChg rfl _ X1.out (by kernel_rfl) rfl (chg_one _) ?_
  rw [← HWX.out]
  clear X0 X1 HWX HB
  have z0 : WX.cell? ⟨w.heap.size + 1, 0, none⟩ = some (.int .u32 n) := BlkR.cell HBB.out 0
  have z1 : WX.cell? ⟨w.heap.size + 1, 1, none⟩ = some (.int .i64 o.kind) := BlkR.cell HBB.out 1
  have z2 : WX.cell? ⟨w.heap.size + 1, 2, none⟩ = some (.int .i64 o.at') := BlkR.cell HBB.out 2
  have z3 : WX.cell? ⟨w.heap.size + 1, 3, none⟩ = some (.string o.S) := BlkR.cell HBB.out 3
  have z4 : WX.cell? ⟨w.heap.size + 1, 4, none⟩ = some (.string o.old) := BlkR.cell HBB.out 4
  have z5 : WX.cell? ⟨w.heap.size + 1, 5, none⟩ = some (.int .i64 1) := BlkR.cell HBB.out 5
  have z6 : WX.cell? ⟨w.heap.size + 1, 6, none⟩ = some (.int .i64 0) := BlkR.cell HBB.out 6
  have z7 : WX.cell? ⟨w.heap.size + 1, 7, none⟩ = some (.string ⟨#[]⟩) := BlkR.cell HBB.out 7
  have z8 : WX.cell? ⟨w.heap.size + 1, 8, none⟩ = some (.int .u32 0) := BlkR.cell HBB.out 8
  have z9 : WX.cell? ⟨w.heap.size + 1, 9, none⟩ = some (.int .i64 0) := BlkR.cell HBB.out 9
  have z10 : WX.cell? ⟨w.heap.size + 1, 10, none⟩ = some (.bool false) := BlkR.cell HBB.out 10
  clear HBB
  go_wp2_with fail
  refine bodyPost_ret (v := .agg #[.int .u32 n, .int .i64 o.kind, .int .i64 o.at', .string o.S, .string o.old, .int .i64 1, .int .i64 0, .string ⟨#[]⟩, .int .u32 0, .int .i64 0, .bool false]) (by simp [results, Tryz.results36, go_sem, z0, z1, z2, z3, z4, z5, z6, z7, z8, z9, z10]) rfl ?_
  exact ⟨rfl, HF.out⟩

end Go.Proofs.YtdhphbokkmofaaaGreat

namespace Go.Proofs.YtdhphbokkmofaaaGreat
open Go.RowKit Go.Sort

def uopX (p : SheetV) (r : RecV) : Bool := decide (r.kind ≠ 1 ∨ r.undo ≠ 1 ∨ r.page ≠ p.num)
def uopM (r : RecV) : Bool := decide (r.page = 1 ∧ r.op.kind = 6)
def uopE (p : SheetV) (r : RecV) : Int := if uopX p r then 1 else if uopM r then agE p r.op else 0
def uopO (p : SheetV) (r : RecV) : OpV := if uopX p r then op00 else if uopM r then agO p r.op else invO r.op

structure UoAt (w wx : World) (p : SheetV) (r : RecV) (a : Option Addr) (c : Nat) (ta da : Option Addr) (tc dc : Nat) : Prop where
  page : RowV wx w.heap.size 5 (five (.int .u32 p.num) (.int .u64 p.lsn) (.int .i64 p.kind) (.string p.head) (.slice a p.slots.length c))
  rec' : Blk wx (w.heap.size + 1) (r.cells ta da tc dc) 54
  res : RowV wx (w.heap.size + 2) 4 (four (.int .i64 0) (.int .i64 0) (.string ⟨#[]⟩) (.string ⟨#[]⟩))
  bel : Below w.heap.size w wx
  lt : w.heap.size + 3 ≤ wx.heap.size

def uoBox (p : SheetV) (r : RecV) (a : Option Addr) (c : Nat) (ta da : Option Addr) (tc dc : Nat) (w : World) : World := ((w.alloc (.cells #[.int .u32 p.num, .int .u64 p.lsn, .int .i64 p.kind, .string p.head, .slice a p.slots.length c] 44)).alloc (.cells (r.cells ta da tc dc) 54)).alloc (.cells #[.int .i64 0, .int .i64 0, .string ⟨#[]⟩, .string ⟨#[]⟩] 46)

theorem uoBox_at (p : SheetV) (r : RecV) (a : Option Addr) (c : Nat) (ta da : Option Addr) (tc dc : Nat) (w : World) : UoAt w (uoBox p r a c ta da tc dc w) p r a c ta da tc dc := by
  unfold uoBox
  refine ⟨((RowV.five_new w _ _ _ _ _ _).below ((Below.refl _ _).alloc (Nat.le_refl _) _) (by simp)).below ((Below.refl _ _).alloc (Nat.le_refl _) _) (by simp; omega), ?_, ?_, (((Below.refl _ _).alloc (Nat.le_refl _) _).alloc (by simp) _).alloc (by simp; omega) _, by simp⟩
  · have h1 := Blk.made (w.alloc (.cells #[.int .u32 p.num, .int .u64 p.lsn, .int .i64 p.kind, .string p.head, .slice a p.slots.length c] 44)) (r.cells ta da tc dc) 54
    rw [show (w.alloc (.cells #[.int .u32 p.num, .int .u64 p.lsn, .int .i64 p.kind, .string p.head, .slice a p.slots.length c] 44)).heap.size = w.heap.size + 1 by simp] at h1
    exact h1.same (heap_old _ _ (by simp))
  · have := RowV.four_new ((w.alloc (.cells #[.int .u32 p.num, .int .u64 p.lsn, .int .i64 p.kind, .string p.head, .slice a p.slots.length c] 44)).alloc (.cells (r.cells ta da tc dc) 54)) (.int .i64 0) (.int .i64 0) (.string ⟨#[]⟩) (.string ⟨#[]⟩) 46
    simpa using this

section
variable {p : SheetV} {r : RecV} {a : Option Addr} {c : Nat} {w : World}

set_option maxHeartbeats 3200000 in
set_option maxRecDepth 8000 in
theorem uop_any (h : p.Lies w a) (ho : r.op.Ok) (ta da : Option Addr) (tc dc : Nat) :
    Calls Tryz.prog 12 #[p.val a c, .agg (r.cells ta da tc dc)] w fun e w' => e = .returned (.tuple #[(uopO p r).val, .int .i64 (uopE p r)]) ∧ Below w.heap.size w w' := by
  have HAG : Hid (∀ wx, Below w.heap.size w wx → Calls Tryz.prog 48 #[p.val a c, r.op.val] wx fun e w' => e = .returned (.tuple #[(agO p r.op).val, .int .i64 (agE p r.op)]) ∧ Below wx.heap.size wx w') := fun wx k => again_any (h.below k) ho
  have HIN : Hid (∀ wx, Calls Tryz.prog 44 #[r.op.val] wx fun e w' => e = .returned (invO r.op).val ∧ Below wx.heap.size wx w') := fun wx => inverse_any r.op wx ho
  have HPAR : Hid (r.cells ta da tc dc = #[.int .i64 r.kind, .int .i64 r.tx, .int .u64 r.prev, .int .u64 r.next, .int .u32 r.page, .int .i64 r.op.kind, .int .i64 r.op.at', .string r.op.S, .string r.op.old, .int .i64 r.undo, .int .i64 r.index, .string r.key, .int .u32 r.rpage, .int .i64 r.rslot, .bool r.live, .slice ta r.txs.length tc, .slice da r.dirty.length dc]) := rfl
  obtain ⟨R, HR⟩ : ∃ R, Hid (uopO p r = R) := ⟨_, rfl⟩
  obtain ⟨E, HE⟩ : ∃ E, Hid (uopE p r = E) := ⟨_, rfl⟩
  rw [HR.out, HE.out]
  have HR2 := HR.out
  have HE2 := HE.out
  unfold uopO at HR2
  unfold uopE at HE2
  clear HR HE
  generalize agO p r.op = gO at HAG HR2
  generalize agE p r.op = gE at HAG HE2
  generalize invO r.op = iO at HIN HR2
  obtain ⟨W, HW⟩ : ∃ W, Hid (W = uoBox p r a c ta da tc dc w) := ⟨_, rfl⟩
  have HA : Hid (UoAt w W p r a c ta da tc dc) := by show UoAt _ _ _ _ _ _ _ _ _ _; rw [HW.out]; exact uoBox_at p r a c ta da tc dc w
  unfold uoBox at HW
  clear h ho
  simp only [SheetV.val, OpV.val] at HAG HIN HW ⊢
  rw [HPAR.out]
  go_enter Tryz.func12, Tryz.ntmps12
  go_upto_region 1 with fail
  rw [← HPAR.out, ← HW.out]
  clear HW HPAR
  have c0 : W.cell? ⟨w.heap.size + 1, 0, none⟩ = some (.int .i64 r.kind) := HA.out.rec'.cell 0
  have c4 : W.cell? ⟨w.heap.size + 1, 4, none⟩ = some (.int .u32 r.page) := HA.out.rec'.cell 4
  have c9 : W.cell? ⟨w.heap.size + 1, 9, none⟩ = some (.int .i64 r.undo) := HA.out.rec'.cell 9
  obtain ⟨x0, x1, x2, x3, x4⟩ := HA.out.page.cells5
  go_cut [20] from 6 to 20 (fun v20 wx => v20 = .bool (uopX p r) ∧ Hid (UoAt w wx p r a c ta da tc dc))
  case first =>
    as_aux_lemma =>
    clear x1 x2 x3 x4 HAG HIN HR2 HE2
    go_wp2_with fail
    all_goals
      go_meet
      case rel =>
        refine ⟨?_, HA⟩
        unfold uopX
        simp_all
        try (by_cases k : r.page = p.num <;> simp [bne, k]; try omega)
  obtain ⟨rfl, H1⟩ := hcut
  clear HA c0 c4 c9 x0 x1 x2 x3 x4
  by_cases hx : uopX p r = true
  · rw [if_pos hx] at HR2 HE2
    rw [hx]
    subst HR2 HE2
    clear HAG HIN hx
    obtain ⟨z0, z1, z2, z3⟩ := H1.out.res.cells4
    obtain ⟨g0, g1, g2, g3⟩ := H1.out.res.open4
    have hl := H1.out.lt
    have hr := H1.out.res.put4 (.int .i64 0) (.int .i64 0) (.string ⟨#[]⟩) (.string ⟨#[]⟩)
    have br := below_set4 H1.out.bel (b := w.heap.size + 2) (by omega) (.int .i64 0) (.int .i64 0) (.string ⟨#[]⟩) (.string ⟨#[]⟩)
    obtain ⟨WX, HWX⟩ : ∃ WX, Hid (WX = store4 wc (w.heap.size + 2) (.int .i64 0) (.int .i64 0) (.string ⟨#[]⟩) (.string ⟨#[]⟩)) := ⟨_, hidu rfl⟩
    rw [← HWX.out] at hr br
    go_wp2
    rw [show ((((wc.setCell ⟨w.heap.size + 2, 0, none⟩ (.int .i64 0)).setCell ⟨w.heap.size + 2, 1, none⟩ (.int .i64 0)).setCell ⟨w.heap.size + 2, 2, none⟩ (.string ⟨#[]⟩)).setCell ⟨w.heap.size + 2, 3, none⟩ (.string ⟨#[]⟩)) = WX from HWX.out.symm]
    obtain ⟨r0, r1, r2, r3⟩ := hr.cells4
    refine bodyPost_ret (v := .tuple #[.agg #[.int .i64 0, .int .i64 0, .string ⟨#[]⟩, .string ⟨#[]⟩], .int .i64 1]) (by simp [results, Tryz.results12, go_sem, r0, r1, r2, r3]) rfl ?_
    exact ⟨rfl, br⟩
  · rw [if_neg hx] at HR2 HE2
    have hx' : uopX p r = false := by simpa using hx
    rw [hx']
    clear hx hx'
    go_upto_region 3 with fail
    have c4 : wc.cell? ⟨w.heap.size + 1, 4, none⟩ = some (.int .u32 r.page) := H1.out.rec'.cell 4
    have c5 : wc.cell? ⟨w.heap.size + 1, 5, none⟩ = some (.int .i64 r.op.kind) := H1.out.rec'.cell 5
    go_cut [30] from 22 to 30 (fun v30 wx => v30 = .bool (uopM r) ∧ Hid (UoAt w wx p r a c ta da tc dc))
    case first =>
      as_aux_lemma =>
      clear HAG HIN HR2 HE2
      by_cases k1 : r.page = 1
      · rw [k1] at c4
        have hX : uopM r = (r.op.kind == 6) := by
          unfold uopM
          by_cases k3 : r.op.kind = 6
          · rw [decide_eq_true ⟨k1, k3⟩, k3]; rfl
          · rw [decide_eq_false (fun q => k3 q.2), beq_eq_false_iff_ne.2 k3]
        have HX := hidu hX
        clear k1 hX
        go_wp2_with fail
        go_meet
        case rel => exact ⟨by rw [HX.out], H1⟩
      · have hq : ((r.page : Int) == 1) = false := beq_eq_false_iff_ne.2 (by omega)
        have hX : uopM r = false := decide_eq_false (fun q => k1 q.1)
        have HX := hidu hX
        clear k1 hX
        go_wp2_with fail
        go_meet
        case rel => exact ⟨by rw [HX.out], H1⟩
    obtain ⟨rfl, H2⟩ := hcut
    clear H1 c4 c5
    obtain ⟨x0, x1, x2, x3, x4⟩ := H2.out.page.cells5
    have c5 : wc.cell? ⟨w.heap.size + 1, 5, none⟩ = some (.int .i64 r.op.kind) := H2.out.rec'.cell 5
    have c6 : wc.cell? ⟨w.heap.size + 1, 6, none⟩ = some (.int .i64 r.op.at') := H2.out.rec'.cell 6
    have c7 : wc.cell? ⟨w.heap.size + 1, 7, none⟩ = some (.string r.op.S) := H2.out.rec'.cell 7
    have c8 : wc.cell? ⟨w.heap.size + 1, 8, none⟩ = some (.string r.op.old) := H2.out.rec'.cell 8
    by_cases hm : uopM r = true
    · rw [if_pos hm] at HR2 HE2
      rw [hm]
      subst HR2 HE2
      clear hm HIN
      go_wp2_with fail
      refine (HAG.out _ H2.out.bel).mono ?_
      rintro e w1 ⟨rfl, b1⟩
      have hl := H2.out.lt
      have hz := H2.out.res.below b1 (by omega)
      have hr := hz.put4 (.int .i64 gO.kind) (.int .i64 gO.at') (.string gO.S) (.string gO.old)
      have br := below_set4 (below_chain H2.out.bel b1) (b := w.heap.size + 2) (by omega) (.int .i64 gO.kind) (.int .i64 gO.at') (.string gO.S) (.string gO.old)
      obtain ⟨WX, HWX⟩ : ∃ WX, Hid (WX = store4 w1 (w.heap.size + 2) (.int .i64 gO.kind) (.int .i64 gO.at') (.string gO.S) (.string gO.old)) := ⟨_, hidu rfl⟩
      rw [← HWX.out] at hr br
      have HRR := hidu hr
      have HF := hidu br
      obtain ⟨z0, z1, z2, z3⟩ := hz.cells4
      obtain ⟨g0, g1, g2, g3⟩ := hz.open4
      clear hr br hz b1 H2 x0 x1 x2 x3 x4 c5 c6 c7 c8
      go_wp2
      rw [show ((((w1.setCell ⟨w.heap.size + 2, 0, none⟩ (.int .i64 gO.kind)).setCell ⟨w.heap.size + 2, 1, none⟩ (.int .i64 gO.at')).setCell ⟨w.heap.size + 2, 2, none⟩ (.string gO.S)).setCell ⟨w.heap.size + 2, 3, none⟩ (.string gO.old)) = WX from HWX.out.symm]
      obtain ⟨r0, r1, r2, r3⟩ := HRR.out.cells4
      refine bodyPost_ret (v := .tuple #[.agg #[.int .i64 gO.kind, .int .i64 gO.at', .string gO.S, .string gO.old], .int .i64 gE]) (by simp [results, Tryz.results12, go_sem, r0, r1, r2, r3]) rfl ?_
      exact ⟨rfl, HF.out⟩
    · rw [if_neg hm] at HR2 HE2
      have hm' : uopM r = false := by simpa using hm
      rw [hm']
      subst HR2 HE2
      clear hm hm' HAG
      go_wp2_with fail
      refine (HIN.out _).mono ?_
      rintro e w1 ⟨rfl, b1⟩
      have hl := H2.out.lt
      have hz := H2.out.res.below b1 (by omega)
      have hr := hz.put4 (.int .i64 iO.kind) (.int .i64 iO.at') (.string iO.S) (.string iO.old)
      have br := below_set4 (below_chain H2.out.bel b1) (b := w.heap.size + 2) (by omega) (.int .i64 iO.kind) (.int .i64 iO.at') (.string iO.S) (.string iO.old)
      obtain ⟨WX, HWX⟩ : ∃ WX, Hid (WX = store4 w1 (w.heap.size + 2) (.int .i64 iO.kind) (.int .i64 iO.at') (.string iO.S) (.string iO.old)) := ⟨_, hidu rfl⟩
      rw [← HWX.out] at hr br
      have HRR := hidu hr
      have HF := hidu br
      obtain ⟨z0, z1, z2, z3⟩ := hz.cells4
      obtain ⟨g0, g1, g2, g3⟩ := hz.open4
      clear hr br hz b1 H2 x0 x1 x2 x3 x4 c5 c6 c7 c8
      go_wp2
      rw [show ((((w1.setCell ⟨w.heap.size + 2, 0, none⟩ (.int .i64 iO.kind)).setCell ⟨w.heap.size + 2, 1, none⟩ (.int .i64 iO.at')).setCell ⟨w.heap.size + 2, 2, none⟩ (.string iO.S)).setCell ⟨w.heap.size + 2, 3, none⟩ (.string iO.old)) = WX from HWX.out.symm]
      obtain ⟨r0, r1, r2, r3⟩ := HRR.out.cells4
      refine bodyPost_ret (v := .tuple #[.agg #[.int .i64 iO.kind, .int .i64 iO.at', .string iO.S, .string iO.old], .int .i64 0]) (by simp [results, Tryz.results12, go_sem, r0, r1, r2, r3]) rfl ?_
      exact ⟨rfl, HF.out⟩

end

end Go.Proofs.YtdhphbokkmofaaaGreat
