/-
  The walk of girderref04.takeTables.
-/
import Derived.Test.YtndfjjcflbpdnaaBase7C
import Derived.Maps.AppendAt
import Derived.Deep.CutRange
import Derived.Deep.CutBlock
namespace Go.Proofs.Ytndfjjcflbpdnaa
open Go.RowKit Go.Sort
set_option linter.unusedVariables false
set_option linter.unusedSimpArgs false

/-- What comes out of takeTables. -/
structure TabOut (R : RecV) (s : ByteArray) (p : Nat) (e : Int) (w : World) (x : Ending) (w' : World) : Prop where
  out : ∃ (p3 : Nat) (e3 : Int) (LT : List TxV) (LD : List DiV) (ta da : Option Addr) (tc dc : Nat), (bindK (numK 2) fun a => bindK (xtxsK a) fun b => bindK (numK 2) fun c => bindK (xdisK c) fun d => retK (b, d)) s p e = (p3, e3, LT, LD) ∧ x = .returned (.tuple #[.agg #[.string s, .int .i64 p3, .int .i64 e3], .agg (({ R with txs := LT, dirty := LD } : RecV).cells ta da tc dc)]) ∧ p3 ≤ s.size ∧ (TxsAt w' ta LT ∧ DisAt w' da LD) ∧ (NewR w.heap.size ta ∧ NewR w.heap.size da) ∧ Below w.heap.size w w'

set_option maxHeartbeats 6400000 in
set_option maxRecDepth 20000 in
theorem xtables_any (R : RecV) {s : ByteArray} {p : Nat} {e : Int} (w : World) (hsz : s.size ≤ 140737488351232) (hle : p ≤ s.size) :
    Calls Try.prog 25 #[.agg #[.string s, .int .i64 p, .int .i64 e], .agg (refCells R (.slice none 0 0) (.slice none 0 0))] w fun x w' => TabOut R s p e w x w' := by
  obtain ⟨q0, f0, a0, h0⟩ : ∃ q f a, numF s p e 2 = (q, f, a) := ⟨_, _, _, rfl⟩
  have hn0 : a0 < 65536 := by have := numF_lt s p e 2; rw [show (((2 : Nat) : Int)) = 2 from rfl, h0] at this; exact this
  have l0 : q0 ≤ s.size := by have := numF_place (e := e) 2 hle; rw [h0] at this; exact this
  have N0 : Hid (∀ wx, Calls Try.prog 23 #[.agg #[.string s, .int .i64 p, .int .i64 e], .int .i64 2] wx fun x w' => x = .returned (.tuple #[.agg #[.string s, .int .i64 q0, .int .i64 f0], .int .u64 (a0 : Nat)]) ∧ Below wx.heap.size wx w') := fun wx => by
    have := xnumber_any (s := s) (p := p) (e := e) (w := wx) hsz hle 2 (by omega)
    rw [h0] at this
    exact this
  obtain ⟨i1, hi1, hz10, hz11, hz12⟩ := rinfo_split infoSt
  obtain ⟨i2, hi2, hz20, hz21, hz22⟩ := rinfo_split infoDi
  obtain ⟨W, HW⟩ : ∃ W, Hid (W = (((w.alloc (.cells (rdCells s p e) 63)).alloc (.cells (refCells R (.slice none 0 0) (.slice none 0 0)) 43)).alloc (.cells #[.string ⟨#[]⟩, .int .i64 0, .int .i64 0] 63)).alloc (.cells zeroCellsR 43)) := ⟨_, rfl⟩
  have HS0 : Hid (TbR w W s p e R (.slice none 0 0) (.slice none 0 0) [] []) := by rw [HW.out]; exact TbR.start (TkR.start w s p e _)
  have HPAR : Hid (refCells R (.slice none 0 0) (.slice none 0 0) = #[.int .i64 R.kind, .int .i64 R.tx, .int .u64 R.prev, .int .u64 R.next, .int .u32 R.page, .int .i64 R.op.kind, .int .i64 R.op.at', .string R.op.S, .string R.op.old, .int .i64 R.undo, .int .i64 R.index, .string R.key, .int .u32 R.rpage, .int .i64 R.rslot, .bool R.live, .slice none 0 0, .slice none 0 0]) := rfl
  unfold zeroCellsR rdCells at HW
  rw [HPAR.out]
  rw [HPAR.out] at HW
  have HH0 := hidr h0
  clear h0
  go_enter Try.func25, Try.ntmps25
  go_upto_region 1 with fail
  rw [← HW.out, ← HPAR.out]
  clear HW HPAR
  obtain ⟨x0, x1, x2, g0, g1, g2⟩ := rdRow HS0.out.rd
  go_wp2_with fail
  refine (N0.out _).mono ?_
  rintro x y0 ⟨rfl, b0⟩
  have HX := hidr (HS0.out.call b0)
  clear HS0 b0 N0 x0 x1 x2 g0 g1 g2
  obtain ⟨x0, x1, x2, g0, g1, g2⟩ := rdRow HX.out.rd
  obtain ⟨W0, HW⟩ : ∃ y, Hid (y = (((y0.setCell ⟨w.heap.size, 0, none⟩ (.string s)).setCell ⟨w.heap.size, 1, none⟩ (.int .i64 q0)).setCell ⟨w.heap.size, 2, none⟩ (.int .i64 f0))) := ⟨_, rfl⟩
  have HS1 := hidr (HX.out.read q0 f0)
  rw [← HW.out] at HS1
  go_upto_region 2 with fail
  rw [← HW.out]
  clear HW HX x0 x1 x2 g0 g1 g2
  go_upto_block 0 with fail
  go_cut [7, 8, 9] from 18 to 62 (fun v7 v8 v9 wx => ∃ (p' : Nat) (e' : Int) (L : List TxV) (v : Value), p' ≤ s.size ∧ L.length ≤ 65535 ∧ Hid (TbR w wx s p' e' R v (.slice none 0 0) L []) ∧ Hid (xtxsK a0 s q0 f0 = (p', e', L)))
  case first =>
    go_wp2_with fail
    go_loopw [7] (fun i wr => ∃ (k p' : Nat) (e' : Int) (L : List TxV) (v : Value), k ≤ a0 ∧ i = .int .u64 (k : Int) ∧ p' ≤ s.size ∧ L.length ≤ k ∧ Hid (TbR w wr s p' e' R v (.slice none 0 0) L []) ∧ Hid (xtxsK k s q0 f0 = (p', e', L))) (fun i _ => a0 - (intOf i).toNat)
    case atStart => exact ⟨0, q0, f0, [], _, Nat.zero_le _, rfl, l0, Nat.le_refl _, HS1, rfl⟩
    case round =>
      obtain ⟨k, p', e', L, v, hk, rfl, hp', hL, HB, HX0⟩ := hrel
      clear HS1
      have ce := (rdRow HB.out.rd).c2
      by_cases hka : k < a0
      · have hka' : (k : Int) < (a0 : Int) := by omega
        by_cases he0 : e' = 0
        · subst he0
          obtain ⟨qt0, ft0, at0, ht0⟩ : ∃ q f a, numF s p' 0 4 = (q, f, a) := ⟨_, _, _, rfl⟩
          have hnt0 : at0 < 4294967296 := by have := numF_lt s p' 0 4; rw [show (((4 : Nat) : Int)) = 4 from rfl, ht0] at this; exact this
          have lt0 : qt0 ≤ s.size := by have := numF_place (e := 0) 4 hp'; rw [ht0] at this; exact this
          have Nt0 : Hid (∀ wx, Calls Try.prog 23 #[.agg #[.string s, .int .i64 p', .int .i64 0], .int .i64 4] wx fun x w' => x = .returned (.tuple #[.agg #[.string s, .int .i64 qt0, .int .i64 ft0], .int .u64 (at0 : Nat)]) ∧ Below wx.heap.size wx w') := fun wx => by
            have := xnumber_any (s := s) (p := p') (e := 0) (w := wx) hsz hp' 4 (by omega)
            rw [ht0] at this
            exact this
          obtain ⟨qt1, ft1, at1, ht1⟩ : ∃ q f a, numF s qt0 ft0 1 = (q, f, a) := ⟨_, _, _, rfl⟩
          have hnt1 : at1 < 256 := by have := numF_lt s qt0 ft0 1; rw [show (((1 : Nat) : Int)) = 1 from rfl, ht1] at this; exact this
          have lt1 : qt1 ≤ s.size := by have := numF_place (e := ft0) 1 lt0; rw [ht1] at this; exact this
          have Nt1 : Hid (∀ wx, Calls Try.prog 23 #[.agg #[.string s, .int .i64 qt0, .int .i64 ft0], .int .i64 1] wx fun x w' => x = .returned (.tuple #[.agg #[.string s, .int .i64 qt1, .int .i64 ft1], .int .u64 (at1 : Nat)]) ∧ Below wx.heap.size wx w') := fun wx => by
            have := xnumber_any (s := s) (p := qt0) (e := ft0) (w := wx) hsz lt0 1 (by omega)
            rw [ht1] at this
            exact this
          obtain ⟨qt2, ft2, at2, ht2⟩ : ∃ q f a, numF s qt1 ft1 8 = (q, f, a) := ⟨_, _, _, rfl⟩
          have hnt2 : at2 < 18446744073709551616 := by have := numF_lt s qt1 ft1 8; rw [show (((8 : Nat) : Int)) = 8 from rfl, ht2] at this; exact this
          have lt2 : qt2 ≤ s.size := by have := numF_place (e := ft1) 8 lt1; rw [ht2] at this; exact this
          have Nt2 : Hid (∀ wx, Calls Try.prog 23 #[.agg #[.string s, .int .i64 qt1, .int .i64 ft1], .int .i64 8] wx fun x w' => x = .returned (.tuple #[.agg #[.string s, .int .i64 qt2, .int .i64 ft2], .int .u64 (at2 : Nat)]) ∧ Below wx.heap.size wx w') := fun wx => by
            have := xnumber_any (s := s) (p := qt1) (e := ft1) (w := wx) hsz lt1 8 (by omega)
            rw [ht2] at this
            exact this
          obtain ⟨qt3, ft3, at3, ht3⟩ : ∃ q f a, numF s qt2 ft2 8 = (q, f, a) := ⟨_, _, _, rfl⟩
          have hnt3 : at3 < 18446744073709551616 := by have := numF_lt s qt2 ft2 8; rw [show (((8 : Nat) : Int)) = 8 from rfl, ht3] at this; exact this
          have lt3 : qt3 ≤ s.size := by have := numF_place (e := ft2) 8 lt2; rw [ht3] at this; exact this
          have Nt3 : Hid (∀ wx, Calls Try.prog 23 #[.agg #[.string s, .int .i64 qt2, .int .i64 ft2], .int .i64 8] wx fun x w' => x = .returned (.tuple #[.agg #[.string s, .int .i64 qt3, .int .i64 ft3], .int .u64 (at3 : Nat)]) ∧ Below wx.heap.size wx w') := fun wx => by
            have := xnumber_any (s := s) (p := qt2) (e := ft2) (w := wx) hsz lt2 8 (by omega)
            rw [ht3] at this
            exact this
          have HXN := hidr (xtxs_step HX0.out ht0 ht1 ht2 ht3)
          clear ht0 ht1 ht2 ht3 HX0 lt0 lt1 lt2
          have HS0 := hidr (TbT.start HB.out #[.int .i64 0, .int .i64 0, .int .u64 0, .int .u64 0] 79)
          have hbl : w.heap.size + 1 + 1 + 1 < wr.heap.size := HB.out.sz
          go_upto_region 6 with fail
          generalize wr.alloc (.cells #[.int .i64 0, .int .i64 0, .int .u64 0, .int .u64 0] 79) = V at *
          clear ce HB
          obtain ⟨x0, x1, x2, g0, g1, g2⟩ := rdRow HS0.out.on.rd
          go_wp2_with fail
          refine (Nt0.out _).mono ?_
          rintro x yt0 ⟨rfl, b0⟩
          have HX := hidr (HS0.out.call b0)
          clear HS0 b0 Nt0 x0 x1 x2 g0 g1 g2
          obtain ⟨x0, x1, x2, g0, g1, g2⟩ := rdRow HX.out.on.rd
          have c0 := HX.out.t.cell 0
          have d0 := HX.out.t.frozen 0
          have qq : IntKind.i64.wrap (at0 : Int) = (at0 : Int) := by rw [IntKind.wrap_i64]; omega
          obtain ⟨Wt0, HW⟩ : ∃ y, Hid (y = (((yt0.setCell ⟨w.heap.size, 0, none⟩ (.string s)).setCell ⟨w.heap.size, 1, none⟩ (.int .i64 qt0)).setCell ⟨w.heap.size, 2, none⟩ (.int .i64 ft0)).setCell ⟨wr.heap.size, 0, none⟩ (.int .i64 (at0 : Int))) := ⟨_, rfl⟩
          have HS2 := hidr ((HX.out.read qt0 ft0).cell 0 (.int .i64 (at0 : Int)))
          rw [← HW.out] at HS2
          go_upto_region 8 with fail
          rw [← HW.out]
          clear HW HX x0 x1 x2 g0 g1 g2 c0 d0 qq
          obtain ⟨x0, x1, x2, g0, g1, g2⟩ := rdRow HS2.out.on.rd
          go_wp2_with fail
          refine (Nt1.out _).mono ?_
          rintro x yt1 ⟨rfl, b0⟩
          have HX := hidr (HS2.out.call b0)
          clear HS2 b0 Nt1 x0 x1 x2 g0 g1 g2
          obtain ⟨x0, x1, x2, g0, g1, g2⟩ := rdRow HX.out.on.rd
          have c0 := HX.out.t.cell 1
          have d0 := HX.out.t.frozen 1
          have qq : IntKind.i64.wrap (at1 : Int) = (at1 : Int) := by rw [IntKind.wrap_i64]; omega
          obtain ⟨Wt1, HW⟩ : ∃ y, Hid (y = (((yt1.setCell ⟨w.heap.size, 0, none⟩ (.string s)).setCell ⟨w.heap.size, 1, none⟩ (.int .i64 qt1)).setCell ⟨w.heap.size, 2, none⟩ (.int .i64 ft1)).setCell ⟨wr.heap.size, 1, none⟩ (.int .i64 (at1 : Int))) := ⟨_, rfl⟩
          have HS3 := hidr ((HX.out.read qt1 ft1).cell 1 (.int .i64 (at1 : Int)))
          rw [← HW.out] at HS3
          go_upto_region 10 with fail
          rw [← HW.out]
          clear HW HX x0 x1 x2 g0 g1 g2 c0 d0 qq
          obtain ⟨x0, x1, x2, g0, g1, g2⟩ := rdRow HS3.out.on.rd
          go_wp2_with fail
          refine (Nt2.out _).mono ?_
          rintro x yt2 ⟨rfl, b0⟩
          have HX := hidr (HS3.out.call b0)
          clear HS3 b0 Nt2 x0 x1 x2 g0 g1 g2
          obtain ⟨x0, x1, x2, g0, g1, g2⟩ := rdRow HX.out.on.rd
          have c0 := HX.out.t.cell 2
          have d0 := HX.out.t.frozen 2
          obtain ⟨Wt2, HW⟩ : ∃ y, Hid (y = (((yt2.setCell ⟨w.heap.size, 0, none⟩ (.string s)).setCell ⟨w.heap.size, 1, none⟩ (.int .i64 qt2)).setCell ⟨w.heap.size, 2, none⟩ (.int .i64 ft2)).setCell ⟨wr.heap.size, 2, none⟩ (.int .u64 (at2 : Int))) := ⟨_, rfl⟩
          have HS4 := hidr ((HX.out.read qt2 ft2).cell 2 (.int .u64 (at2 : Int)))
          rw [← HW.out] at HS4
          go_upto_region 11 with fail
          rw [← HW.out]
          clear HW HX x0 x1 x2 g0 g1 g2 c0 d0
          obtain ⟨x0, x1, x2, g0, g1, g2⟩ := rdRow HS4.out.on.rd
          go_wp2_with fail
          refine (Nt3.out _).mono ?_
          rintro x yt3 ⟨rfl, b0⟩
          have HX := hidr (HS4.out.call b0)
          clear HS4 b0 Nt3 x0 x1 x2 g0 g1 g2
          obtain ⟨x0, x1, x2, g0, g1, g2⟩ := rdRow HX.out.on.rd
          have c0 := HX.out.t.cell 3
          have d0 := HX.out.t.frozen 3
          obtain ⟨Wt3, HW⟩ : ∃ y, Hid (y = (((yt3.setCell ⟨w.heap.size, 0, none⟩ (.string s)).setCell ⟨w.heap.size, 1, none⟩ (.int .i64 qt3)).setCell ⟨w.heap.size, 2, none⟩ (.int .i64 ft3)).setCell ⟨wr.heap.size, 3, none⟩ (.int .u64 (at3 : Int))) := ⟨_, rfl⟩
          have HS5 := hidr ((HX.out.read qt3 ft3).cell 3 (.int .u64 (at3 : Int)))
          rw [← HW.out] at HS5
          go_upto_region 12 with fail
          rw [← HW.out]
          clear HW HX x0 x1 x2 g0 g1 g2 c0 d0
          have HT : Hid (TbT w Wt3 s qt3 ft3 R v (.slice none 0 0) L [] wr.heap.size #[.int .i64 (at0 : Int), .int .i64 (at1 : Int), .int .u64 (at2 : Int), .int .u64 (at3 : Int)] 79) := HS5.out
          clear HS5
          have cx : Wt3.cell? ⟨w.heap.size + 1, 15, none⟩ = some v := (HT.out.on.rc.cell 15).trans rfl
          have fx : Wt3.frozen? ⟨w.heap.size + 1, 15, none⟩ = false := HT.out.on.rc.frozen 15
          have t0 : Wt3.cell? ⟨wr.heap.size, 0, none⟩ = some (.int .i64 (at0 : Int)) := HT.out.t.cell 0
          have t1 : Wt3.cell? ⟨wr.heap.size, 1, none⟩ = some (.int .i64 (at1 : Int)) := HT.out.t.cell 1
          have t2 : Wt3.cell? ⟨wr.heap.size, 2, none⟩ = some (.int .u64 (at2 : Int)) := HT.out.t.cell 2
          have t3 : Wt3.cell? ⟨wr.heap.size, 3, none⟩ = some (.int .u64 (at3 : Int)) := HT.out.t.cell 3
          have hw3 : w.heap.size + 1 + 1 + 1 < Wt3.heap.size := HT.out.on.sz
          have KA : Below Wt3.heap.size Wt3 (Wt3.alloc (.cells #[.int .i64 (at0 : Int), .int .i64 (at1 : Int), .int .u64 (at2 : Int), .int .u64 (at3 : Int)] 79)) := (Below.refl _ _).alloc (Nat.le_refl _) _
          have hown := hidr (HT.out.on.call KA).txs
          have cxa : (Wt3.alloc (.cells #[.int .i64 (at0 : Int), .int .i64 (at1 : Int), .int .u64 (at2 : Int), .int .u64 (at3 : Int)] 79)).cell? ⟨w.heap.size + 1, 15, none⟩ = some v := ((HT.out.on.call KA).rc.cell 15).trans rfl
          have HNW : Hid (∀ j u, (txCells ((at0 : Int), (at1 : Int), at2, at3))[j]? = some u → (Wt3.alloc (.cells #[.int .i64 (at0 : Int), .int .i64 (at1 : Int), .int .u64 (at2 : Int), .int .u64 (at3 : Int)] 79)).cell? ((⟨Wt3.heap.size, 0, none⟩ : Addr).add j) = some u) := World.news_of_block (heap_alloc_new Wt3 _)
          have HON : Hid (∀ x ∈ txCells ((at0 : Int), (at1 : Int), at2, at3), x.oneCell' = true) := by intro x hx; simp [txCells] at hx; rcases hx with rfl | rfl | rfl | rfl <;> rfl
          go_wp2_with (at_builtin; refine wpList_append_own_at _ rfl _ _ 40 rfl (w.heap.size + 1 + 1 + 1 + 1) 79 i1 _ 4 32 Try.underlying40 hi1 hz10 hz11 hz12 rfl (by decide) v L.length (L.flatMap txCells) rfl hown.out ⟨Wt3.heap.size, 0, none⟩ 1 1 (txCells ((at0 : Int), (at1 : Int), at2, at3)) rfl rfl HNW.out HON.out (by unfold maxLen; omega) (by omega) (by simp; omega) ?_; intro v' w7 hown7 hgr7 hnil7 hat7; obtain ⟨va7, vm7, vc7, rfl⟩ := rownsB_val hown7; have HN7 := hidr (HT.out.on.pushT (t := ((at0 : Int), (at1 : Int), at2, at3)) KA hown7 hgr7); have hne : v.ownBlock ≠ some (w.heap.size + 1) := (fun e => by have := (World.ownsRow.lt HT.out.on.txs _ e).1; omega); have hb7 : BlkR w7 (w.heap.size + 1) (refCells R v (.slice none 0 0)) 43 := (HT.out.on.call KA).rc.same (hgr7.block (w.heap.size + 1) (by simp; omega) (fun e => hne e.symm)); have c7 : w7.cell? ⟨w.heap.size + 1, 15, none⟩ = some v := (hb7.cell 15).trans rfl; have f7 : w7.frozen? ⟨w.heap.size + 1, 15, none⟩ = false := hb7.frozen 15; clear hown7 hgr7 hnil7 hat7 hown KA HT cx fx cxa hne hb7 HNW HON t0 t1 t2 t3)
          go_roundw
          case rel => exact ⟨k + 1, qt3, ft3, L ++ [((at0 : Int), (at1 : Int), at2, at3)], _, by omega, by go_num, lt3, by simp; omega, HN7, HXN⟩
          case measure => simp [intOf]; omega
        · have HFX := hidr ((xtxs_stop (n := a0) (by rw [HX0.out]; exact he0) hk).trans HX0.out)
          have he1 : (e' == 0) = false := by rw [beq_eq_false_iff_ne]; exact he0
          clear HX0
          go_wp2
          go_meet
          case rel => exact ⟨p', e', L, v, hp', by omega, HB, HFX⟩
      · obtain rfl : k = a0 := by omega
        have hka' : ¬ (k : Int) < (k : Int) := by omega
        go_wp2
        go_meet
        case rel => exact ⟨p', e', L, v, hp', by omega, HB, HX0⟩
  case rest =>
    clear HS1
    obtain ⟨p1, e1, LT, vT, hp1, hLT, HS3, HXT⟩ := hcut
    obtain ⟨qm0, fm0, am0, hm0⟩ : ∃ q f a, numF s p1 e1 2 = (q, f, a) := ⟨_, _, _, rfl⟩
    have hnm0 : am0 < 65536 := by have := numF_lt s p1 e1 2; rw [show (((2 : Nat) : Int)) = 2 from rfl, hm0] at this; exact this
    have lm0 : qm0 ≤ s.size := by have := numF_place (e := e1) 2 hp1; rw [hm0] at this; exact this
    have Nm0 : Hid (∀ wx, Calls Try.prog 23 #[.agg #[.string s, .int .i64 p1, .int .i64 e1], .int .i64 2] wx fun x w' => x = .returned (.tuple #[.agg #[.string s, .int .i64 qm0, .int .i64 fm0], .int .u64 (am0 : Nat)]) ∧ Below wx.heap.size wx w') := fun wx => by
      have := xnumber_any (s := s) (p := p1) (e := e1) (w := wx) hsz hp1 2 (by omega)
      rw [hm0] at this
      exact this
    have HHm := hidr hm0
    clear hm0
    generalize wc = W1 at *
    go_upto_region 13 with fail
    obtain ⟨x0, x1, x2, g0, g1, g2⟩ := rdRow HS3.out.rd
    go_wp2_with fail
    refine (Nm0.out _).mono ?_
    rintro x ym0 ⟨rfl, b0⟩
    have HX := hidr (HS3.out.call b0)
    clear HS3 b0 Nm0 x0 x1 x2 g0 g1 g2
    obtain ⟨x0, x1, x2, g0, g1, g2⟩ := rdRow HX.out.rd
    obtain ⟨Wm0, HW⟩ : ∃ y, Hid (y = (((ym0.setCell ⟨w.heap.size, 0, none⟩ (.string s)).setCell ⟨w.heap.size, 1, none⟩ (.int .i64 qm0)).setCell ⟨w.heap.size, 2, none⟩ (.int .i64 fm0))) := ⟨_, rfl⟩
    have HS1 := hidr (HX.out.read qm0 fm0)
    rw [← HW.out] at HS1
    go_upto_region 14 with fail
    rw [← HW.out]
    clear HW HX x0 x1 x2 g0 g1 g2
    go_upto_block 2 with fail
    go_cut [10, 11, 12] from 68 to 98 (fun v7 v8 v9 wx => ∃ (p' : Nat) (e' : Int) (L : List DiV) (v : Value), p' ≤ s.size ∧ L.length ≤ 65535 ∧ Hid (TbR w wx s p' e' R vT v LT L) ∧ Hid (xdisK am0 s qm0 fm0 = (p', e', L)))
    case first =>
      go_wp2_with fail
      go_loopw [10] (fun i wr => ∃ (k p' : Nat) (e' : Int) (L : List DiV) (v : Value), k ≤ am0 ∧ i = .int .u64 (k : Int) ∧ p' ≤ s.size ∧ L.length ≤ k ∧ Hid (TbR w wr s p' e' R vT v LT L) ∧ Hid (xdisK k s qm0 fm0 = (p', e', L))) (fun i _ => am0 - (intOf i).toNat)
      case atStart => exact ⟨0, qm0, fm0, [], _, Nat.zero_le _, rfl, lm0, Nat.le_refl _, HS1, rfl⟩
      case round =>
        obtain ⟨k, p', e', L, v, hk, rfl, hp', hL, HB, HX0⟩ := hrel
        clear HS1
        have ce := (rdRow HB.out.rd).c2
        by_cases hka : k < am0
        · have hka' : (k : Int) < (am0 : Int) := by omega
          by_cases he0 : e' = 0
          · subst he0
            obtain ⟨qt0, ft0, at0, ht0⟩ : ∃ q f a, numF s p' 0 4 = (q, f, a) := ⟨_, _, _, rfl⟩
            have hnt0 : at0 < 4294967296 := by have := numF_lt s p' 0 4; rw [show (((4 : Nat) : Int)) = 4 from rfl, ht0] at this; exact this
            have lt0 : qt0 ≤ s.size := by have := numF_place (e := 0) 4 hp'; rw [ht0] at this; exact this
            have Nt0 : Hid (∀ wx, Calls Try.prog 23 #[.agg #[.string s, .int .i64 p', .int .i64 0], .int .i64 4] wx fun x w' => x = .returned (.tuple #[.agg #[.string s, .int .i64 qt0, .int .i64 ft0], .int .u64 (at0 : Nat)]) ∧ Below wx.heap.size wx w') := fun wx => by
              have := xnumber_any (s := s) (p := p') (e := 0) (w := wx) hsz hp' 4 (by omega)
              rw [ht0] at this
              exact this
            obtain ⟨qt1, ft1, at1, ht1⟩ : ∃ q f a, numF s qt0 ft0 8 = (q, f, a) := ⟨_, _, _, rfl⟩
            have hnt1 : at1 < 18446744073709551616 := by have := numF_lt s qt0 ft0 8; rw [show (((8 : Nat) : Int)) = 8 from rfl, ht1] at this; exact this
            have lt1 : qt1 ≤ s.size := by have := numF_place (e := ft0) 8 lt0; rw [ht1] at this; exact this
            have Nt1 : Hid (∀ wx, Calls Try.prog 23 #[.agg #[.string s, .int .i64 qt0, .int .i64 ft0], .int .i64 8] wx fun x w' => x = .returned (.tuple #[.agg #[.string s, .int .i64 qt1, .int .i64 ft1], .int .u64 (at1 : Nat)]) ∧ Below wx.heap.size wx w') := fun wx => by
              have := xnumber_any (s := s) (p := qt0) (e := ft0) (w := wx) hsz lt0 8 (by omega)
              rw [ht1] at this
              exact this
            have HXN := hidr (xdis_step HX0.out ht0 ht1)
            clear ht0 ht1 HX0 lt0
            have HS0 := hidr (TbT.start HB.out #[.int .u32 0, .int .u64 0] 81)
            have hbl : w.heap.size + 1 + 1 + 1 < wr.heap.size := HB.out.sz
            go_upto_region 18 with fail
            generalize wr.alloc (.cells #[.int .u32 0, .int .u64 0] 81) = V at *
            clear ce HB
            obtain ⟨x0, x1, x2, g0, g1, g2⟩ := rdRow HS0.out.on.rd
            go_wp2_with fail
            refine (Nt0.out _).mono ?_
            rintro x yt0 ⟨rfl, b0⟩
            have HX := hidr (HS0.out.call b0)
            clear HS0 b0 Nt0 x0 x1 x2 g0 g1 g2
            obtain ⟨x0, x1, x2, g0, g1, g2⟩ := rdRow HX.out.on.rd
            have c0 := HX.out.t.cell 0
            have d0 := HX.out.t.frozen 0
            have qq : IntKind.u32.wrap (at0 : Int) = (at0 : Int) := by rw [IntKind.wrap_u32]; omega
            obtain ⟨Wt0, HW⟩ : ∃ y, Hid (y = (((yt0.setCell ⟨w.heap.size, 0, none⟩ (.string s)).setCell ⟨w.heap.size, 1, none⟩ (.int .i64 qt0)).setCell ⟨w.heap.size, 2, none⟩ (.int .i64 ft0)).setCell ⟨wr.heap.size, 0, none⟩ (.int .u32 (at0 : Int))) := ⟨_, rfl⟩
            have HS2 := hidr ((HX.out.read qt0 ft0).cell 0 (.int .u32 (at0 : Int)))
            rw [← HW.out] at HS2
            go_upto_region 20 with fail
            rw [← HW.out]
            clear HW HX x0 x1 x2 g0 g1 g2 c0 d0 qq
            obtain ⟨x0, x1, x2, g0, g1, g2⟩ := rdRow HS2.out.on.rd
            go_wp2_with fail
            refine (Nt1.out _).mono ?_
            rintro x yt1 ⟨rfl, b0⟩
            have HX := hidr (HS2.out.call b0)
            clear HS2 b0 Nt1 x0 x1 x2 g0 g1 g2
            obtain ⟨x0, x1, x2, g0, g1, g2⟩ := rdRow HX.out.on.rd
            have c0 := HX.out.t.cell 1
            have d0 := HX.out.t.frozen 1
            obtain ⟨Wt1, HW⟩ : ∃ y, Hid (y = (((yt1.setCell ⟨w.heap.size, 0, none⟩ (.string s)).setCell ⟨w.heap.size, 1, none⟩ (.int .i64 qt1)).setCell ⟨w.heap.size, 2, none⟩ (.int .i64 ft1)).setCell ⟨wr.heap.size, 1, none⟩ (.int .u64 (at1 : Int))) := ⟨_, rfl⟩
            have HS3 := hidr ((HX.out.read qt1 ft1).cell 1 (.int .u64 (at1 : Int)))
            rw [← HW.out] at HS3
            go_upto_region 21 with fail
            rw [← HW.out]
            clear HW HX x0 x1 x2 g0 g1 g2 c0 d0
            have HT : Hid (TbT w Wt1 s qt1 ft1 R vT v LT L wr.heap.size #[.int .u32 (at0 : Int), .int .u64 (at1 : Int)] 81) := HS3.out
            clear HS3
            have cx : Wt1.cell? ⟨w.heap.size + 1, 16, none⟩ = some v := (HT.out.on.rc.cell 16).trans rfl
            have fx : Wt1.frozen? ⟨w.heap.size + 1, 16, none⟩ = false := HT.out.on.rc.frozen 16
            have t0 : Wt1.cell? ⟨wr.heap.size, 0, none⟩ = some (.int .u32 (at0 : Int)) := HT.out.t.cell 0
            have t1 : Wt1.cell? ⟨wr.heap.size, 1, none⟩ = some (.int .u64 (at1 : Int)) := HT.out.t.cell 1
            have hw3 : w.heap.size + 1 + 1 + 1 < Wt1.heap.size := HT.out.on.sz
            have KA : Below Wt1.heap.size Wt1 (Wt1.alloc (.cells #[.int .u32 (at0 : Int), .int .u64 (at1 : Int)] 81)) := (Below.refl _ _).alloc (Nat.le_refl _) _
            have hown := hidr (HT.out.on.call KA).dis
            have cxa : (Wt1.alloc (.cells #[.int .u32 (at0 : Int), .int .u64 (at1 : Int)] 81)).cell? ⟨w.heap.size + 1, 16, none⟩ = some v := ((HT.out.on.call KA).rc.cell 16).trans rfl
            have HNW : Hid (∀ j u, (diCells (at0, at1))[j]? = some u → (Wt1.alloc (.cells #[.int .u32 (at0 : Int), .int .u64 (at1 : Int)] 81)).cell? ((⟨Wt1.heap.size, 0, none⟩ : Addr).add j) = some u) := World.news_of_block (heap_alloc_new Wt1 _)
            have HON : Hid (∀ x ∈ diCells (at0, at1), x.oneCell' = true) := by intro x hx; simp [diCells] at hx; rcases hx with rfl | rfl <;> rfl
            go_wp2_with (at_builtin; refine wpList_append_own_at _ rfl _ _ 41 rfl (w.heap.size + 1 + 1 + 1 + 1) 81 i2 _ 2 16 Try.underlying41 hi2 hz20 hz21 hz22 rfl (by decide) v L.length (L.flatMap diCells) rfl hown.out ⟨Wt1.heap.size, 0, none⟩ 1 1 (diCells (at0, at1)) rfl rfl HNW.out HON.out (by unfold maxLen; omega) (by omega) (by simp; omega) ?_; intro v' w7 hown7 hgr7 hnil7 hat7; obtain ⟨va7, vm7, vc7, rfl⟩ := rownsB_val hown7; have HN7 := hidr (HT.out.on.pushD (t := (at0, at1)) KA hown7 hgr7); have hne : v.ownBlock ≠ some (w.heap.size + 1) := (fun e => by have := (World.ownsRow.lt HT.out.on.dis _ e).1; omega); have hb7 : BlkR w7 (w.heap.size + 1) (refCells R vT v) 43 := (HT.out.on.call KA).rc.same (hgr7.block (w.heap.size + 1) (by simp; omega) (fun e => hne e.symm)); have c7 : w7.cell? ⟨w.heap.size + 1, 16, none⟩ = some v := (hb7.cell 16).trans rfl; have f7 : w7.frozen? ⟨w.heap.size + 1, 16, none⟩ = false := hb7.frozen 16; clear hown7 hgr7 hnil7 hat7 hown KA HT cx fx cxa hne hb7 HNW HON t0 t1)
            go_roundw
            case rel => exact ⟨k + 1, qt1, ft1, L ++ [(at0, at1)], _, by omega, by go_num, lt1, by simp; omega, HN7, HXN⟩
            case measure => simp [intOf]; omega
          · have HFX := hidr ((xdis_stop (n := am0) (by rw [HX0.out]; exact he0) hk).trans HX0.out)
            have he1 : (e' == 0) = false := by rw [beq_eq_false_iff_ne]; exact he0
            clear HX0
            go_wp2
            go_meet
            case rel => exact ⟨p', e', L, v, hp', by omega, HB, HFX⟩
        · obtain rfl : k = am0 := by omega
          have hka' : ¬ (k : Int) < (k : Int) := by omega
          go_wp2
          go_meet
          case rel => exact ⟨p', e', L, v, hp', by omega, HB, HX0⟩
    case rest =>
      clear HS1
      obtain ⟨p3, e3, LD, vD, hp3, hLD, HS4, HXD⟩ := hcut
      generalize wc = W2 at *
      obtain ⟨ta, tc, rfl, _⟩ := owns_txs (rownsB_down HS4.out.txs)
      obtain ⟨da, dc, rfl, _⟩ := owns_dis (rownsB_down HS4.out.dis)
      have HLT := hidr HS4.out.txs
      have HLD := hidr HS4.out.dis
      have HNW2 : Hid (NewR w.heap.size ta ∧ NewR w.heap.size da) := ⟨rownsB_new HLT.out (by omega), rownsB_new HLD.out (by omega)⟩
      have HF : Hid (TkR w W2 s p3 e3 (({ R with txs := LT, dirty := LD } : RecV).cells ta da tc dc)) := ⟨HS4.out.bel, HS4.out.rd, HS4.out.rc, HS4.out.z3, HS4.out.z4, HS4.out.sz⟩
      clear HS4
      go_upto_region 22 with fail
      obtain ⟨C, HC⟩ : ∃ C, Hid (C = (({ R with txs := LT, dirty := LD } : RecV).cells ta da tc dc)) := ⟨_, rfl⟩
      have HON : Hid (C.all (·.oneCell') = true ∧ C.size = 17) := by rw [HC.out]; exact ⟨ref_one _ _ _ _ _ _ _, rfl⟩
      have HF2 : Hid (TkR w W2 s p3 e3 C) := by show TkR _ _ _ _ _ _; rw [HC.out]; exact HF.out
      clear HF
      refine wp_region_noPanic ?_
      refine wp_region_held_drew (S := fun wy : World => wy.heap[w.heap.size]? = some (.cells (rdCells s p3 e3) 63 (0, 0)) ∧ wy.heap[w.heap.size + 1]? = some (.cells C 43 (0, 0))) cmixed ⟨HF2.out.rd, HF2.out.rc⟩ (fun hS0 => ?_)
      obtain ⟨v0, HV0⟩ : ∃ y, Hid (y = W2.drew) := ⟨_, rfl⟩
      have HT : Hid (TkR w v0 s p3 e3 C) := by show TkR _ _ _ _ _ _; rw [HV0.out]; exact HF2.out.call ((Below.refl _ _).drew)
      have HVB : Hid (∀ g : Nat, v0.heap[g]? = W2.heap[g]?) := by intro g; rw [HV0.out]; rfl
      rw [← HV0.out] at hS0 ⊢
      clear HV0 HF2
      refine wpAnyH_take (i := 0) (v := .agg (rdCells s p3 e3)) (by simp only [List.getElem?_toArray, List.getElem?_cons_zero]; rfl) (by kernel_rfl) (by kernel_rfl) (by kernel_rfl) (fun _ _ _ h => h) (yields_loadRow (by rfl) _ _ (by rfl) w.heap.size (by rfl) _ _ (0, 0) (fun _ h => h.1) _ Try.underlying63 rfl (by kernel_rfl)) hS0 ?_
      try simp only [Act.put, List.setIfInBounds_toArray, List.set_cons_zero, List.set_cons_succ]
      refine wpAnyH_take (i := 1) (v := .agg C) (by simp only [List.getElem?_toArray, List.getElem?_cons_succ, List.getElem?_cons_zero]; rfl) (by kernel_rfl) (by kernel_rfl) (by kernel_rfl) (fun _ _ _ h => h) (yields_loadRow (by rfl) _ _ (by rfl) (w.heap.size + 1) (by rfl) _ _ (0, 0) (fun _ h => h.2) _ Try.underlying43 rfl (by rw [HON.out.2]; kernel_rfl)) hS0 ?_
      try simp only [Act.put, List.setIfInBounds_toArray, List.set_cons_zero, List.set_cons_succ]
      have HZ3 : Hid (v0.heap[w.heap.size + 1 + 1]? = some (.cells #[.string ⟨#[]⟩, .int .i64 0, .int .i64 0] 63 (0, 0))) := HT.out.z3
      have HZ4 : Hid (v0.heap[w.heap.size + 1 + 1 + 1]? = some (.cells zeroCellsR 43 (0, 0))) := HT.out.z4
      refine wpAnyH_ready (rs := [2]) (by kernel_rfl) (by simp) ?_
      refine AllReadyH.cons (i := 2) (by simp only [List.getElem?_toArray, List.getElem?_cons_succ, List.getElem?_cons_zero]; rfl) (fun K hK => ?_) AllReadyH.nil
      refine step_storeRow (by rfl) _ _ _ (by rfl) (by rfl) (w.heap.size + 1 + 1) (by rfl) (rdCells s p3 e3) #[.string ⟨#[]⟩, .int .i64 0, .int .i64 0] (by rfl) _ HZ3.out (by kernel_rfl) (by rfl) (by simp [rdCells, Value.oneCell']) ?_
      refine hK.out _ _ ⟨(setRow_other _ _ _ _ (by omega)).trans hS0.1, (setRow_other _ _ _ _ (by omega)).trans hS0.2⟩ (fun hS1 => ?_)
      clear hK K
      refine wpAnyH_ready (rs := [3]) (by kernel_rfl) (by simp) ?_
      refine AllReadyH.cons (i := 3) (by simp only [List.getElem?_toArray, List.getElem?_cons_succ, List.getElem?_cons_zero]; rfl) (fun K hK => ?_) AllReadyH.nil
      refine step_storeRow (by rfl) _ _ _ (by rfl) (by rfl) (w.heap.size + 1 + 1 + 1) (by rfl) C zeroCellsR (by rfl) _ ((setRow_other _ _ _ _ (by omega)).trans HZ4.out) (by rw [HON.out.2]; kernel_rfl) (by rw [HON.out.2]; rfl) HON.out.1 ?_
      refine hK.out _ _ ⟨(setRow_other _ _ _ _ (by omega)).trans hS1.1, (setRow_other _ _ _ _ (by omega)).trans hS1.2⟩ (fun hS2 => ?_)
      clear hK K
      refine wpAnyH_done (by kernel_rfl) ?_ _
      refine NoPanic.normal ?_
      obtain ⟨v2, HV2⟩ : ∃ y, Hid (y = (v0.setRow (w.heap.size + 1 + 1) (rdCells s p3 e3)).setRow (w.heap.size + 1 + 1 + 1) C) := ⟨_, rfl⟩
      have r3 : BlkR v2 (w.heap.size + 1 + 1) (rdCells s p3 e3) 63 := by rw [HV2.out]; exact (setRow_other _ _ _ _ (by omega)).trans (setRow_heap v0 _ _ _ _ _ HZ3.out)
      have r4 : BlkR v2 (w.heap.size + 1 + 1 + 1) C 43 := by rw [HV2.out]; exact setRow_heap _ _ _ _ _ _ ((setRow_other _ _ _ _ (by omega)).trans HZ4.out)
      have HBE : Hid (Below w.heap.size w v2) := by show Below _ _ _; rw [HV2.out]; exact below_setRow (below_setRow HT.out.bel (by omega) _) (by omega) _
      have ho : ∀ g, w.heap.size + 1 + 1 + 1 + 1 ≤ g → v2.heap[g]? = W2.heap[g]? := fun g hg => by rw [HV2.out]; exact (setRow_other _ _ _ _ (by omega)).trans ((setRow_other _ _ _ _ (by omega)).trans (HVB.out g))
      have HTA : Hid (TxsAt v2 ta LT) := by obtain ⟨a, c, he, hh⟩ := owns_txs (rownsB_down (rownsB_same HLT.out fun g hg => ho g (World.ownsRow.lt HLT.out g hg).1)); cases he; exact hh
      have HDA : Hid (DisAt v2 da LD) := by obtain ⟨a, c, he, hh⟩ := owns_dis (rownsB_down (rownsB_same HLD.out fun g hg => ho g (World.ownsRow.lt HLD.out g hg).1)); cases he; exact hh
      clear ho HLT HLD HVB
      rw [← HV2.out]
      rw [HC.out] at r4
      clear HV2 HT HZ3 HZ4 hS0 hS1 hS2 HON HC
      obtain ⟨x0, x1, x2, g0, g1, g2⟩ := rdRow r3
      obtain ⟨z0, z1, z2, z3, z4, z5, z6, z7, z8, z9, z10, z11, z12, z13, z14, z15, z16⟩ := out_cells r4
      clear r3 r4
      go_wp2_with fail
      refine bodyPost_ret (v := .tuple #[.agg #[.string s, .int .i64 p3, .int .i64 e3], .agg (({ R with txs := LT, dirty := LD } : RecV).cells ta da tc dc)]) (by simp [results, Try.results25, go_sem, x0, x1, x2, z0, z1, z2, z3, z4, z5, z6, z7, z8, z9, z10, z11, z12, z13, z14, z15, z16, RecV.cells]) rfl ?_
      refine ⟨⟨p3, e3, LT, LD, ta, da, tc, dc, ?_, rfl, hp3, ⟨HTA.out, HDA.out⟩, HNW2.out, HBE.out⟩⟩
      have r0 : numK 2 s p e = (q0, f0, a0) := HH0.out
      have r1 : xtxsK a0 s q0 f0 = (p1, e1, LT) := HXT.out
      have r2 : numK 2 s p1 e1 = (qm0, fm0, am0) := HHm.out
      have r3 : xdisK am0 s qm0 fm0 = (p3, e3, LD) := HXD.out
      unfold bindK retK
      simp only [r0, r1, r2, r3]

end Go.Proofs.Ytndfjjcflbpdnaa
