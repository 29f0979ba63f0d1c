/-
  The walk of girderref04.Decode, where it accepts.
-/
import Derived.Test.YtndfjjcflbpdnaaBase8C
import Derived.Test.YtndfjjcflbpdnaaRefMayBC
import Derived.Test.YtndfjjcflbpdnaaRefBytesC
import Derived.Test.YtndfjjcflbpdnaaBase6C
import Derived.Deep.CutRange
namespace Go.Proofs.Ytndfjjcflbpdnaa
open Go.RowKit Go.Sort
set_option linter.unusedVariables false
set_option linter.unusedSimpArgs false

/-- What comes out of Decode, where it accepts. -/
structure DecYes (s : ByteArray) (w : World) (x : Ending) (w' : World) : Prop where
  bel : Below w.heap.size w w'
  out : ∃ ta da tc dc, x = .returned (.tuple #[.agg ((xrecK s 0 0).2.2.cells ta da tc dc), .bool true]) ∧ TxsAt w' ta (xrecK s 0 0).2.2.txs ∧ DisAt w' da (xrecK s 0 0).2.2.dirty

set_option maxHeartbeats 6400000 in
set_option maxRecDepth 20000 in
theorem xdecode_yes (s : ByteArray) (w : World) (hsz : s.size ≤ 140737488351232) (hacc : accX s) :
    Calls Try.prog 5 #[.string s] w fun x w' => DecYes s w x w' := by
  have HACC := hidr hacc
  clear hacc
  obtain ⟨q0, f0, a0, h0⟩ : ∃ q f a, numF s 0 0 1 = (q, f, a) := ⟨_, _, _, rfl⟩
  have hn0 : a0 < 256 := by have := numF_lt s 0 0 1; rw [show (((1 : Nat) : Int)) = 1 from rfl, h0] at this; exact this
  have l0 : q0 ≤ s.size := by have := numF_place (e := 0) 1 (Nat.zero_le s.size); rw [h0] at this; exact this
  have N0 : Hid (∀ wx, Calls Try.prog 23 #[.agg #[.string s, .int .i64 0, .int .i64 0], .int .i64 1] wx fun x w' => x = .returned (.tuple #[.agg #[.string s, .int .i64 q0, .int .i64 f0], .int .u64 (a0 : Nat)]) ∧ Below wx.heap.size wx w') := fun wx => by
    have := xnumber_any (s := s) (p := 0) (e := 0) (w := wx) hsz (Nat.zero_le s.size) 1 (by omega)
    rw [h0] at this
    exact this
  obtain ⟨q1, f1, a1, h1⟩ : ∃ q f a, numF s q0 f0 4 = (q, f, a) := ⟨_, _, _, rfl⟩
  have hn1 : a1 < 4294967296 := by have := numF_lt s q0 f0 4; rw [show (((4 : Nat) : Int)) = 4 from rfl, h1] at this; exact this
  have l1 : q1 ≤ s.size := by have := numF_place (e := f0) 4 l0; rw [h1] at this; exact this
  have N1 : Hid (∀ wx, Calls Try.prog 23 #[.agg #[.string s, .int .i64 q0, .int .i64 f0], .int .i64 4] wx fun x w' => x = .returned (.tuple #[.agg #[.string s, .int .i64 q1, .int .i64 f1], .int .u64 (a1 : Nat)]) ∧ Below wx.heap.size wx w') := fun wx => by
    have := xnumber_any (s := s) (p := q0) (e := f0) (w := wx) hsz l0 4 (by omega)
    rw [h1] at this
    exact this
  obtain ⟨q2, f2, a2, h2⟩ : ∃ q f a, numF s q1 f1 8 = (q, f, a) := ⟨_, _, _, rfl⟩
  have hn2 : a2 < 18446744073709551616 := by have := numF_lt s q1 f1 8; rw [show (((8 : Nat) : Int)) = 8 from rfl, h2] at this; exact this
  have l2 : q2 ≤ s.size := by have := numF_place (e := f1) 8 l1; rw [h2] at this; exact this
  have N2 : Hid (∀ wx, Calls Try.prog 23 #[.agg #[.string s, .int .i64 q1, .int .i64 f1], .int .i64 8] wx fun x w' => x = .returned (.tuple #[.agg #[.string s, .int .i64 q2, .int .i64 f2], .int .u64 (a2 : Nat)]) ∧ Below wx.heap.size wx w') := fun wx => by
    have := xnumber_any (s := s) (p := q1) (e := f1) (w := wx) hsz l1 8 (by omega)
    rw [h2] at this
    exact this
  have HHD := hidr (head_plain h0 h1 h2)
  clear h0 h1 h2
  obtain ⟨R1, HR1⟩ : ∃ R, Hid (R = plainV a0 a1 a2) := ⟨_, rfl⟩
  rw [← HR1.out] at HHD
  have hk1 : R1.kind = (a0 : Int) := by rw [HR1.out]; rfl
  have ht1 : R1.txs = [] ∧ R1.dirty = [] := by rw [HR1.out]; exact ⟨rfl, rfl⟩
  obtain ⟨W, HW⟩ : ∃ W, Hid (W = ((w.alloc (.cells zeroCellsR 43)).alloc (.cells (rdCells s 0 0) 63)).alloc (.cells zeroCellsR 43)) := ⟨_, rfl⟩
  have HS0 : Hid (DcR w W s 0 0 zeroCellsR) := by show DcR _ _ _ _ _ _; rw [HW.out]; exact DcR.start w s
  unfold zeroCellsR rdCells at HW
  rw [show ((0 : Nat) : Int) = 0 from rfl] at HW
  go_enter Try.func5, Try.ntmps5
  go_upto_region 3 with fail
  rw [← HW.out]
  clear HW
  have x1z : W.cell? ⟨w.heap.size + 1, 1, none⟩ = some (.int .i64 0) := (rdRow HS0.out.rd).c1
  obtain ⟨x0, x1, x2, g0, g1, g2⟩ := rdRow HS0.out.rd
  go_wp2_with fail
  refine (N0.out _).mono ?_
  rintro x y0 ⟨rfl, b0⟩
  have HX := hidr (HS0.out.call b0)
  clear HS0 b0 N0 x0 x1 x2 g0 g1 g2 x1z
  obtain ⟨x0, x1, x2, g0, g1, g2⟩ := rdRow HX.out.rd
  have c0 := HX.out.rc.cell 0
  have d0 := HX.out.rc.frozen 0
  have qq : IntKind.i64.wrap (a0 : Int) = (a0 : Int) := by rw [IntKind.wrap_i64]; omega
  obtain ⟨W0, HW⟩ : ∃ y, Hid (y = (((y0.setCell ⟨w.heap.size + 1, 0, none⟩ (.string s)).setCell ⟨w.heap.size + 1, 1, none⟩ (.int .i64 q0)).setCell ⟨w.heap.size + 1, 2, none⟩ (.int .i64 f0)).setCell ⟨w.heap.size + 1 + 1, 0, none⟩ (.int .i64 (a0 : Int))) := ⟨_, rfl⟩
  have HS1 := hidr ((HX.out.read q0 f0).cell 0 (.int .i64 (a0 : Int)))
  rw [← HW.out] at HS1
  go_upto_region 5 with fail
  rw [← HW.out]
  clear HW HX x0 x1 x2 g0 g1 g2 c0 d0 qq
  obtain ⟨x0, x1, x2, g0, g1, g2⟩ := rdRow HS1.out.rd
  go_wp2_with fail
  refine (N1.out _).mono ?_
  rintro x y1 ⟨rfl, b0⟩
  have HX := hidr (HS1.out.call b0)
  clear HS1 b0 N1 x0 x1 x2 g0 g1 g2
  obtain ⟨x0, x1, x2, g0, g1, g2⟩ := rdRow HX.out.rd
  have c0 := HX.out.rc.cell 1
  have d0 := HX.out.rc.frozen 1
  have qq : IntKind.i64.wrap (a1 : Int) = (a1 : Int) := by rw [IntKind.wrap_i64]; omega
  obtain ⟨W1, HW⟩ : ∃ y, Hid (y = (((y1.setCell ⟨w.heap.size + 1, 0, none⟩ (.string s)).setCell ⟨w.heap.size + 1, 1, none⟩ (.int .i64 q1)).setCell ⟨w.heap.size + 1, 2, none⟩ (.int .i64 f1)).setCell ⟨w.heap.size + 1 + 1, 1, none⟩ (.int .i64 (a1 : Int))) := ⟨_, rfl⟩
  have HS2 := hidr ((HX.out.read q1 f1).cell 1 (.int .i64 (a1 : Int)))
  rw [← HW.out] at HS2
  go_upto_region 7 with fail
  rw [← HW.out]
  clear HW HX x0 x1 x2 g0 g1 g2 c0 d0 qq
  obtain ⟨x0, x1, x2, g0, g1, g2⟩ := rdRow HS2.out.rd
  go_wp2_with fail
  refine (N2.out _).mono ?_
  rintro x y2 ⟨rfl, b0⟩
  have HX := hidr (HS2.out.call b0)
  clear HS2 b0 N2 x0 x1 x2 g0 g1 g2
  obtain ⟨x0, x1, x2, g0, g1, g2⟩ := rdRow HX.out.rd
  have c0 := HX.out.rc.cell 2
  have d0 := HX.out.rc.frozen 2
  obtain ⟨W2, HW⟩ : ∃ y, Hid (y = (((y2.setCell ⟨w.heap.size + 1, 0, none⟩ (.string s)).setCell ⟨w.heap.size + 1, 1, none⟩ (.int .i64 q2)).setCell ⟨w.heap.size + 1, 2, none⟩ (.int .i64 f2)).setCell ⟨w.heap.size + 1 + 1, 2, none⟩ (.int .u64 (a2 : Int))) := ⟨_, rfl⟩
  have HS3 := hidr ((HX.out.read q2 f2).cell 2 (.int .u64 (a2 : Int)))
  rw [← HW.out] at HS3
  go_upto_region 8 with fail
  rw [← HW.out]
  clear HW HX x0 x1 x2 g0 g1 g2 c0 d0
  have HF1 : Hid (DcR w W2 s q2 f2 ((plainV a0 a1 a2).cells none none 0 0)) := HS3.out
  clear HS3
  rw [← HR1.out] at HF1
  clear HR1
  have hl2 := l2
  obtain ⟨p4, e4, R2, HN⟩ : ∃ p e R, Hid (nextK R1 s q2 f2 = (p, e, R)) := ⟨_, _, _, rfl⟩
  have ck : W2.cell? ⟨w.heap.size + 1 + 1, 0, none⟩ = some (.int .i64 (a0 : Int)) := by have := HF1.out.rc.cell 0; rw [← hk1]; exact this
  go_cut [39] from 32 to 38 (fun v wx => v = .bool (nextB R1) ∧ wx = W2)
  case first =>
    by_cases k2 : a0 = 2
    · have e2 : ((a0 : Int) == 2) = true := by rw [k2]; rfl
      have HK := hidr k2
      clear k2
      go_wp2
      go_meet
      case rel => exact ⟨by unfold nextB; rw [hk1, decide_eq_true (by have := HK.out; omega)], rfl⟩
    · have e2 : ((a0 : Int) == 2) = false := by rw [beq_eq_false_iff_ne]; omega
      by_cases k3 : a0 = 3
      · have e3 : ((a0 : Int) == 3) = true := by rw [k3]; rfl
        have HK := hidr k3
        clear k3
        go_wp2
        go_meet
        case rel => exact ⟨by unfold nextB; rw [hk1, decide_eq_true (by have := HK.out; omega)], rfl⟩
      · have e3 : ((a0 : Int) == 3) = false := by rw [beq_eq_false_iff_ne]; omega
        go_wp2
        go_meet
        case rel => exact ⟨by unfold nextB; rw [hk1, decide_eq_false (by omega)], rfl⟩
  case rest =>
    obtain ⟨rfl, hwc⟩ := hcut
    obtain rfl := hwc.symm
    obtain ⟨bn, HBN⟩ : ∃ b, Hid (nextB R1 = b) := ⟨_, rfl⟩
    rw [HBN.out]
    have HP4 : Hid (p4 ≤ s.size ∧ R2.kind = R1.kind ∧ R2.txs = R1.txs ∧ R2.dirty = R1.dirty) := by
      have := HN.out
      unfold nextK at this
      split at this
      · have hp := numF_place (e := f2) 8 hl2
        unfold bindK retK at this
        simp only [Prod.mk.injEq] at this
        obtain ⟨q1, q2, rfl⟩ := this
        exact ⟨by rw [← q1]; exact hp, rfl, rfl, rfl⟩
      · unfold retK at this
        simp only [Prod.mk.injEq] at this
        obtain ⟨rfl, rfl, rfl⟩ := this
        exact ⟨hl2, rfl, rfl, rfl⟩
    go_upto_if 39 with fail
    go_cut [] from 39 to 45 (fun wx => Hid (DcR w wx s p4 e4 (R2.cells none none 0 0)))
    case first =>
      cases bn with
      | false =>
        have he : nextK R1 s q2 f2 = (q2, f2, R1) := by unfold nextK; rw [if_neg (by rw [HBN.out]; simp)]; rfl
        rw [HN.out] at he
        simp only [Prod.mk.injEq] at he
        obtain ⟨rfl, rfl, rfl⟩ := he
        go_wp2
        go_meet
        case rel => exact HF1
      | true =>
        obtain ⟨q3, f3, a3, h3⟩ : ∃ q f a, numF s q2 f2 8 = (q, f, a) := ⟨_, _, _, rfl⟩
        have hn3 : a3 < 18446744073709551616 := by have := numF_lt s q2 f2 8; rw [show (((8 : Nat) : Int)) = 8 from rfl, h3] at this; exact this
        have l3 : q3 ≤ s.size := by have := numF_place (e := f2) 8 hl2; rw [h3] at this; exact this
        have N3 : Hid (∀ wx, Calls Try.prog 23 #[.agg #[.string s, .int .i64 q2, .int .i64 f2], .int .i64 8] wx fun x w' => x = .returned (.tuple #[.agg #[.string s, .int .i64 q3, .int .i64 f3], .int .u64 (a3 : Nat)]) ∧ Below wx.heap.size wx w') := fun wx => by
          have := xnumber_any (s := s) (p := q2) (e := f2) (w := wx) hsz hl2 8 (by omega)
          rw [h3] at this
          exact this
        have he : nextK R1 s q2 f2 = (q3, f3, { R1 with next := a3 }) := by
          have g3 : numK 8 s q2 f2 = (q3, f3, a3) := h3
          unfold nextK
          rw [if_pos HBN.out]
          unfold bindK retK
          simp only [g3]
        rw [HN.out] at he
        simp only [Prod.mk.injEq] at he
        obtain ⟨rfl, rfl, rfl⟩ := he
        clear h3
        obtain ⟨x0, x1, x2, g0, g1, g2⟩ := rdRow HF1.out.rd
        go_wp2_with fail
        refine (N3.out _).mono ?_
        rintro x y3 ⟨rfl, b0⟩
        have HX := hidr (HF1.out.call b0)
        clear HF1 b0 N3 x0 x1 x2 g0 g1 g2
        obtain ⟨x0, x1, x2, g0, g1, g2⟩ := rdRow HX.out.rd
        have c0 := HX.out.rc.cell 3
        have d0 := HX.out.rc.frozen 3
        obtain ⟨W3, HW⟩ : ∃ y, Hid (y = (((y3.setCell ⟨w.heap.size + 1, 0, none⟩ (.string s)).setCell ⟨w.heap.size + 1, 1, none⟩ (.int .i64 p4)).setCell ⟨w.heap.size + 1, 2, none⟩ (.int .i64 e4)).setCell ⟨w.heap.size + 1 + 1, 3, none⟩ (.int .u64 (a3 : Int))) := ⟨_, rfl⟩
        have HS4 := hidr ((HX.out.read p4 e4).cell 3 (.int .u64 (a3 : Int)))
        rw [← HW.out] at HS4
        clear HX
        have HF : Hid (DcR w W3 s p4 e4 (({ R1 with next := a3 } : RecV).cells none none 0 0)) := HS4.out
        rw [HW.out] at HF
        clear HW HS4
        go_wp2
        go_meet
        case rel => exact HF
    case rest =>
      have HS4 := hcut
      clear hcut HF1 ck HBN
      generalize wc = W4 at *
      have hk2 : R2.kind = (a0 : Int) := HP4.out.2.1.trans hk1
      have ck : W4.cell? ⟨w.heap.size + 1 + 1, 0, none⟩ = some (.int .i64 (a0 : Int)) := by have := HS4.out.rc.cell 0; rw [← hk2]; exact this
      go_upto_region 10 with fail
      go_cut [53] from 46 to 52 (fun v wx => v = .bool (changeB R2) ∧ wx = W4)
      case first =>
        by_cases k1 : a0 = 1
        · have e2 : ((a0 : Int) == 1) = true := by rw [k1]; rfl
          have HK := hidr k1
          clear k1
          go_wp2
          go_meet
          case rel => exact ⟨by unfold changeB; rw [hk2, decide_eq_true (by have := HK.out; omega)], rfl⟩
        · have e2 : ((a0 : Int) == 1) = false := by rw [beq_eq_false_iff_ne]; omega
          by_cases k3 : a0 = 2
          · have e3 : ((a0 : Int) == 2) = true := by rw [k3]; rfl
            have HK := hidr k3
            clear k3
            go_wp2
            go_meet
            case rel => exact ⟨by unfold changeB; rw [hk2, decide_eq_true (by have := HK.out; omega)], rfl⟩
          · have e3 : ((a0 : Int) == 2) = false := by rw [beq_eq_false_iff_ne]; omega
            go_wp2
            go_meet
            case rel => exact ⟨by unfold changeB; rw [hk2, decide_eq_false (by omega)], rfl⟩
      case rest =>
        obtain ⟨rfl, hwc⟩ := hcut
        obtain rfl := hwc.symm
        obtain ⟨bc, HBC⟩ : ∃ b, Hid (changeB R2 = b) := ⟨_, rfl⟩
        rw [HBC.out]
        obtain ⟨p5, e5, R3, HCK, hp5, hk3, ht3, hd3, HTC⟩ : ∃ (p5 : Nat) (e5 : Int) (R3 : RecV), Hid (bindK (changeK R2) xkeyK s p4 e4 = (p5, e5, R3)) ∧ p5 ≤ s.size ∧ R3.kind = R2.kind ∧ R3.txs = R2.txs ∧ R3.dirty = R2.dirty ∧ Hid (if bc = true then ∀ w, Calls Try.prog 24 #[.agg #[.string s, .int .i64 p4, .int .i64 e4], .agg (R2.cells none none 0 0)] w fun x w' => x = .returned (.tuple #[.agg #[.string s, .int .i64 p5, .int .i64 e5], .agg (R3.cells none none 0 0)]) ∧ Below w.heap.size w w' else p5 = p4 ∧ e5 = e4 ∧ R3 = R2) := by
          cases bc with
          | true => exact xchange_any R2 HBC.out none none 0 0 hsz HP4.out.1
          | false =>
            refine ⟨p4, e4, R2, ?_, HP4.out.1, rfl, rfl, rfl, ⟨rfl, rfl, rfl⟩⟩
            have hc : changeK R2 s p4 e4 = (p4, e4, R2) := by unfold changeK; rw [if_neg (by rw [HBC.out]; simp)]; rfl
            show xkeyK (changeK R2 s p4 e4).2.2 s (changeK R2 s p4 e4).1 (changeK R2 s p4 e4).2.1 = _
            rw [hc]
            unfold xkeyK
            simp only
            have hy : keyB R2 = false := decide_eq_false fun x => by have := HBC.out; unfold changeB at this; exact absurd x.1 (of_decide_eq_false this)
            rw [if_neg (by rw [hy]; simp)]
            rfl
        go_upto_if 53 with fail
        go_cut [] from 53 to 59 (fun wx => Hid (DcR w wx s p5 e5 (R3.cells none none 0 0)))
        case first =>
          cases bc with
          | false =>
            obtain ⟨rfl, rfl, rfl⟩ := HTC.out
            go_wp2
            go_meet
            case rel => exact HS4
          | true =>
            have HTC' : Hid (∀ w, Calls Try.prog 24 #[.agg #[.string s, .int .i64 p4, .int .i64 e4], .agg (R2.cells none none 0 0)] w fun x w' => x = .returned (.tuple #[.agg #[.string s, .int .i64 p5, .int .i64 e5], .agg (R3.cells none none 0 0)]) ∧ Below w.heap.size w w') := HTC.out
            clear HTC
            obtain ⟨C, HC⟩ : ∃ C, Hid (C = R2.cells none none 0 0) := ⟨_, rfl⟩
            obtain ⟨D, HD⟩ : ∃ D, Hid (D = R3.cells none none 0 0) := ⟨_, rfl⟩
            have HS4' : Hid (DcR w W4 s p4 e4 C) := by show DcR _ _ _ _ _ _; rw [HC.out]; exact HS4.out
            have HSI : Hid (C.size = 17 ∧ D.size = 17 ∧ D.all (·.oneCell') = true) := by rw [HC.out, HD.out]; exact ⟨rfl, rfl, ref_one _ _ _ _ _ _ _⟩
            rw [← HC.out, ← HD.out] at HTC'
            clear HS4
            obtain ⟨x0, x1, x2, g0, g1, g2⟩ := rdRow HS4'.out.rd
            go_wp2_with (first | (refine wpList_loadRow rfl (.tmp 5) 43 rfl (w.heap.size + 1 + 1) rfl C 43 (0, 0) HS4'.out.rc _ Try.underlying43 rfl (by rw [HSI.out.1]; kernel_rfl) ?_))
            refine (HTC'.out _).mono ?_
            rintro x y5 ⟨rfl, b5⟩
            have HX := hidr (HS4'.out.call b5)
            clear HS4' b5 HTC' x0 x1 x2 g0 g1 g2
            obtain ⟨x0, x1, x2, g0, g1, g2⟩ := rdRow HX.out.rd
            have HX2 := hidr (HX.out.read p5 e5)
            go_wp2_with (first | (refine wpList_storeRow rfl (.tmp 5) (.tmp 59) 43 rfl rfl (w.heap.size + 1 + 1) rfl D C rfl 43 HX2.out.rc (by rw [HSI.out.2.1]; kernel_rfl) (by rw [HSI.out.1, HSI.out.2.1]) HSI.out.2.2 ?_))
            have HF := hidr (HX2.out.row D)
            rw [HD.out] at HF
            go_meet
            case rel => rw [HD.out]; exact HF
        case rest =>
          have HS5 := hcut
          clear hcut HS4 ck HBC HTC
          generalize wc = W5 at *
          have hk3' : R3.kind = (a0 : Int) := hk3.trans hk2
          have ht3' : R3.txs = [] ∧ R3.dirty = [] := ⟨ht3.trans (HP4.out.2.2.1.trans ht1.1), hd3.trans (HP4.out.2.2.2.trans ht1.2)⟩
          have HXR : Hid (∀ p6 e6 R4, xlistsK R3 s p5 e5 = (p6, e6, R4) → xrecK s 0 0 = (p6, e6, R4)) := fun p6 e6 R4 h => xrec_of HHD.out HN.out HCK.out h
          have HT3 := hidr ht3'
          have HK3 := hidr hk3'
          clear HHD HN HCK ht3 hd3 ht1 HP4 hk3 hk2 hk1 ht3'
          have ck : W5.cell? ⟨w.heap.size + 1 + 1, 0, none⟩ = some (.int .i64 (a0 : Int)) := by have := HS5.out.rc.cell 0; rw [← hk3']; exact this
          clear hk3'
          obtain ⟨bl, HBL⟩ : ∃ b, Hid (((a0 : Int) == 8) = b) := ⟨_, rfl⟩
          have hbl8 : ((a0 : Int) == 8) = bl := HBL.out
          go_upto_if 62 with fail
          clear hbl8
          go_cut [] from 62 to 68 (fun wx => ∃ (p6 : Nat) (e6 : Int) (R4 : RecV) (ta da : Option Addr) (tc dc : Nat), p6 ≤ s.size ∧ Hid (xrecK s 0 0 = (p6, e6, R4)) ∧ Hid (DcR w wx s p6 e6 (R4.cells ta da tc dc)) ∧ Hid (TxsAt wx ta R4.txs ∧ DisAt wx da R4.dirty) ∧ Hid (NewR (w.heap.size + 1) ta ∧ NewR (w.heap.size + 1) da))
          case first =>
            cases bl with
            | false =>
              have HE := hidr (HXR.out p5 e5 R3 (by unfold xlistsK; rw [if_neg (by unfold listsB; rw [HK3.out]; have := HBL.out; rw [beq_eq_false_iff_ne] at this; simpa using this)]; rfl))
              go_wp2
              go_meet
              case rel => exact ⟨p5, e5, R3, none, none, 0, 0, hp5, HE, HS5, ⟨.inl HT3.out.1, .inl HT3.out.2⟩, ⟨(fun x h => nomatch h), (fun x h => nomatch h)⟩⟩
            | true =>
              have HTB := xtables_any R3 (s := s) (p := p5) (e := e5)
              obtain ⟨C, HC⟩ : ∃ C, Hid (C = refCells R3 (.slice none 0 0) (.slice none 0 0)) := ⟨_, rfl⟩
              have HTB' : Hid (∀ w, Calls Try.prog 25 #[.agg #[.string s, .int .i64 p5, .int .i64 e5], .agg C] w fun x w' => ∃ (p3 : Nat) (e3 : Int) (R4 : RecV) (ta da : Option Addr) (tc dc : Nat), Hid (xrecK s 0 0 = (p3, e3, R4)) ∧ x = .returned (.tuple #[.agg #[.string s, .int .i64 p3, .int .i64 e3], .agg (R4.cells ta da tc dc)]) ∧ p3 ≤ s.size ∧ Hid ((TxsAt w' ta R4.txs ∧ DisAt w' da R4.dirty) ∧ (NewR w.heap.size ta ∧ NewR w.heap.size da)) ∧ Below w.heap.size w w') := fun w => by
                rw [HC.out]
                refine (HTB w hsz hp5).mono ?_
                rintro x w' ⟨⟨p3, e3, LT, LD, ta, da, tc, dc, h1, h2, h3, h4, h5, h6⟩⟩
                exact ⟨p3, e3, { R3 with txs := LT, dirty := LD }, ta, da, tc, dc, HXR.out _ _ _ (xlists_of (by unfold listsB; rw [HK3.out]; have := HBL.out; rw [beq_iff_eq] at this; simpa using this) h1), h2, h3, ⟨h4, h5⟩, h6⟩
              clear HTB
              have HS5' : Hid (DcR w W5 s p5 e5 C) := by
                have h := HS5.out
                have e : R3.cells none none 0 0 = C := by rw [HC.out]; unfold RecV.cells refCells; rw [HT3.out.1, HT3.out.2]; rfl
                rw [e] at h
                exact h
              have HSI : Hid (C.size = 17) := by rw [HC.out]; rfl
              clear HS5 HC HT3 HXR HK3
              obtain ⟨x0, x1, x2, g0, g1, g2⟩ := rdRow HS5'.out.rd
              go_wp2_with (first | (refine wpList_loadRow rfl (.tmp 5) 43 rfl (w.heap.size + 1 + 1) rfl C 43 (0, 0) HS5'.out.rc _ Try.underlying43 rfl (by rw [HSI.out]; kernel_rfl) ?_))
              refine (HTB'.out _).mono ?_
              rintro x y6 ⟨p6, e6, R4, ta, da, tc, dc, HE, rfl, hp6, HLL, b6⟩
              have HX := hidr (HS5'.out.call b6)
              have HOFF := hidr HS5'.out.sz
              clear HS5' b6 HTB' x0 x1 x2 g0 g1 g2
              obtain ⟨D, HD⟩ : ∃ D, Hid (D = R4.cells ta da tc dc) := ⟨_, rfl⟩
              have HSD : Hid (D.size = 17 ∧ D.all (·.oneCell') = true) := by rw [HD.out]; exact ⟨rfl, ref_one _ _ _ _ _ _ _⟩
              rw [← HD.out]
              obtain ⟨x0, x1, x2, g0, g1, g2⟩ := rdRow HX.out.rd
              have HX2 := hidr (HX.out.read p6 e6)
              go_wp2_with (first | (refine wpList_storeRow rfl (.tmp 5) (.tmp 68) 43 rfl rfl (w.heap.size + 1 + 1) rfl D C rfl 43 HX2.out.rc (by rw [HSD.out.1]; kernel_rfl) (by rw [HSI.out, HSD.out.1]) HSD.out.2 ?_))
              have HF := hidr (HX2.out.row D)
              have HLX := hidr (dec_keep HOFF.out HLL.out.1 HLL.out.2 (.string s) (.int .i64 p6) (.int .i64 e6) D)
              rw [HD.out] at HF HLX
              rw [HD.out]
              go_meet
              case rel => exact ⟨p6, e6, R4, ta, da, tc, dc, hp6, HE, HF, HLX, ⟨fun x h => Nat.le_trans (by have := HOFF.out; omega) (HLL.out.2.1 x h), fun x h => Nat.le_trans (by have := HOFF.out; omega) (HLL.out.2.2 x h)⟩⟩
          case rest =>
            obtain ⟨p6, e6, R4, ta, da, tc, dc, hp6, HE, HS6, HLL, HNL⟩ := hcut
            clear HS5 HT3 HK3 HXR HBL ck
            generalize wc = W6 at *
            have HAI := hidr (acc_iff HE.out)
            have cE := (rdRow HS6.out.rd).c2
            have cP := (rdRow HS6.out.rd).c1
            obtain ⟨C, HC⟩ : ∃ C, Hid (C = R4.cells ta da tc dc) := ⟨_, rfl⟩
            have HSI : Hid (C.size = 17 ∧ C.all (·.oneCell') = true) := by rw [HC.out]; exact ⟨rfl, ref_one _ _ _ _ _ _ _⟩
            have HSC : Hid (DcR w W6 s p6 e6 C) := by show DcR _ _ _ _ _ _; rw [HC.out]; exact HS6.out
            clear HS6
            go_upto_region 14 with fail
            go_cut [89] from 69 to 88 (fun v wx => ∃ b : Bool, v = .bool b ∧ Hid (b = false ↔ accX s) ∧ Hid (Below W6.heap.size W6 wx))
            case first =>
              by_cases he : e6 = 0
              · subst he
                by_cases hp : p6 = s.size
                · have hRF := (post_xrec s 0 p6 R4 (Nat.zero_le _) HE.out).2.2
                  have HOK := hidr (hRF.ok W6 ta da HLL.out.1 HLL.out.2)
                  have HM : Hid (∀ wx, Below W6.heap.size W6 wx → Calls Try.prog 10 #[.agg C] wx fun e w' => e = .returned (.bool (mayR R4)) ∧ Below wx.heap.size wx w') := fun wx b => by rw [HC.out]; exact rmay_any R4 ta da tc dc wx (HOK.out.below b)
                  have HBY : Hid (mayR R4 = true → ∀ wx, Below W6.heap.size W6 wx → Calls Try.prog 8 #[.agg C] wx fun e w' => e = .returned (.string ⟨(encR R4).toArray⟩) ∧ Below wx.heap.size wx w') := fun hm wx b => by rw [HC.out]; exact rbytes_any R4 ta da tc dc wx (HOK.out.below b) hm hRF.wide
                  clear hRF HOK
                  have hpn : ((p6 : Int) != (s.size : Int)) = false := by rw [hp]; simp
                  obtain ⟨my, HMY⟩ : ∃ b, Hid (mayR R4 = b) := ⟨_, rfl⟩
                  rw [HMY.out] at HM
                  go_wp2_with (first | (refine wpList_loadRowW (by rfl) (.tmp 5) 43 rfl (w.heap.size + 1 + 1) rfl C 43 (0, 0) HSC.out.rc _ Try.underlying43 rfl (by rw [HSI.out.1]; kernel_rfl) ?_))
                  refine (HM.out _ (Below.refl _ _)).mono ?_
                  rintro x y7 ⟨rfl, b7⟩
                  have HY7 := hidr (HSC.out.call b7)
                  have HB7 := hidr b7
                  clear b7 HM
                  cases my with
                  | false =>
                    go_wp2
                    go_meet
                    case rel => exact ⟨true, rfl, ⟨(fun h => by cases h), fun h => by have := (HAI.out.1 h).2.2.1; rw [HMY.out] at this; cases this⟩, HB7⟩
                  | true =>
                    have HBZ := hidr (HBY.out HMY.out y7 HB7.out)
                    obtain ⟨S, HS⟩ : ∃ S, Hid (ByteArray.mk (encR R4).toArray = S) := ⟨_, rfl⟩
                    rw [HS.out] at HBZ
                    clear HBY
                    go_wp2_with (first | (refine wpList_loadRowW (by rfl) (.tmp 5) 43 rfl (w.heap.size + 1 + 1) rfl C 43 (0, 0) HY7.out.rc _ Try.underlying43 rfl (by rw [HSI.out.1]; kernel_rfl) ?_))
                    refine HBZ.out.mono ?_
                    rintro x y8 ⟨rfl, b8⟩
                    have HB8 := hidr (below_chain HB7.out b8)
                    clear b8 HBZ HB7
                    by_cases hS : S = s
                    · have hs1 := str_eq hS
                      go_wp2
                      go_meet
                      case rel => exact ⟨false, by simp_all, ⟨fun _ => HAI.out.2 ⟨trivial, hp, HMY.out, HS.out.trans hS⟩, fun _ => rfl⟩, HB8⟩
                    · have hs1 := str_ne hS
                      go_wp2
                      go_meet
                      case rel => exact ⟨true, by simp_all, ⟨(fun h => by cases h), fun h => absurd (HS.out.symm.trans (HAI.out.1 h).2.2.2) hS⟩, HB8⟩
                · have hpn : ((p6 : Int) != (s.size : Int)) = true := by rw [bne_iff_ne]; omega
                  go_wp2
                  go_meet
                  case rel => exact ⟨true, rfl, ⟨(fun h => by cases h), fun h => absurd (HAI.out.1 h).2.1 hp⟩, Below.refl _ _⟩
              · have hen : (e6 != 0) = true := by rw [bne_iff_ne]; exact he
                go_wp2
                go_meet
                case rel => exact ⟨true, rfl, ⟨(fun h => by cases h), fun h => absurd (HAI.out.1 h).1 he⟩, Below.refl _ _⟩
            case rest =>
              obtain ⟨bb, rfl, HBB, HBW⟩ := hcut
              generalize wc = W7 at *
              have HS7 := hidr (HSC.out.call HBW.out)
              have HL7 : Hid (TxsAt W7 ta R4.txs ∧ DisAt W7 da R4.dirty) := ⟨HLL.out.1.below HBW.out, HLL.out.2.below HBW.out⟩
              have HEX := hidr HE.out
              have HSZ := hidr HSC.out.sz
              clear HSC HBW HLL HAI cE cP
              cases bb with
              | true =>
                have := HBB.out.2 HACC.out
                cases this
              | false =>
                have HZ := hidr HS7.out.z2
                go_upto_region 16 with fail
                refine wp_region_lit ?_
                refine wpList_loadRow rfl (.tmp 5) 43 rfl (w.heap.size + 1 + 1) rfl C 43 (0, 0) HS7.out.rc _ Try.underlying43 rfl (by rw [HSI.out.1]; kernel_rfl) ?_
                go_wp2_with (first | (refine wpList_storeRow rfl (.tmp 2) (.tmp 91) 43 rfl rfl w.heap.size rfl C zeroCellsR rfl 43 HZ.out (by rw [HSI.out.1]; kernel_rfl) (by rw [HSI.out.1]; rfl) HSI.out.2 ?_))
                obtain ⟨V, HV⟩ : ∃ V, Hid (V = W7.setRow w.heap.size C) := ⟨_, rfl⟩
                have r4 : BlkR V w.heap.size C 43 := by rw [HV.out]; exact setRow_heap _ _ _ _ _ _ HZ.out
                have HBV : Hid (Below w.heap.size w V) := by show Below _ _ _; rw [HV.out]; exact below_setRow HS7.out.bel (Nat.le_refl _) _
                have HLV : Hid (TxsAt V ta R4.txs ∧ DisAt V da R4.dirty) := by
                  have k : ∀ b, w.heap.size + 1 ≤ b → V.heap[b]? = W7.heap[b]? := fun b hb => by rw [HV.out]; exact setRow_other _ _ _ _ (by omega)
                  have hs : W7.heap.size ≤ V.heap.size := by rw [HV.out]; simp [World.setRow]
                  exact ⟨HL7.out.1.moved HNL.out.1 k hs, HL7.out.2.moved HNL.out.2 k hs⟩
                rw [← HV.out]
                rw [HC.out] at r4
                clear HV HZ HS7 HL7 HC HSI
                obtain ⟨z0, z1, z2, z3, z4, z5, z6, z7, z8, z9, z10, z11, z12, z13, z14, z15, z16⟩ := out_cells r4
                clear r4
                go_wp2_with fail
                refine bodyPost_ret (v := .tuple #[.agg (R4.cells ta da tc dc), .bool true]) (by simp [results, Try.results5, go_sem, z0, z1, z2, z3, z4, z5, z6, z7, z8, z9, z10, z11, z12, z13, z14, z15, z16, RecV.cells]) rfl ?_
                refine ⟨HBV.out, ?_⟩
                rw [HEX.out]
                exact ⟨ta, da, tc, dc, rfl, HLV.out.1, HLV.out.2⟩

end Go.Proofs.Ytndfjjcflbpdnaa
