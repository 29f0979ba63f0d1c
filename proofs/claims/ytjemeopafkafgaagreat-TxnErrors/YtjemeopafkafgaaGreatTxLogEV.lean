/-
  The walk of (*txn.Manager).Log: where its change tells an error.
-/
import Derived.Test.YtjemeopafkafgaaGreatTxLogCQ
import Derived.Test.YtjemeopafkafgaaGreatTxChg0Q
namespace Go.Proofs.YtjemeopafkafgaaGreat
open Go.RowKit Go.Sort
set_option linter.unusedVariables false
set_option linter.unusedSimpArgs false

section
variable {w : World} {m p : Nat} {X : Int → Nat} {A : Nat → Prop} {P P1 : PG} {l l1 : LG} {d d1 : DG} {M : MgG}

set_option maxHeartbeats 6400000 in
set_option maxRecDepth 20000 in
theorem tlog_err (h : MSys w m p X A P l d M) (n : Int) (hn1 : -9223372036854775808 ≤ n) (hn2 : n ≤ 9223372036854775807) {t : MtV} (ht : M.T n = some t) (hst : t.state = 1) (c : ChgV) (hok : ∀ wx, (recU t c).Ok wx none none) (hmay : mayR (recU t c) = true) (hsz : 1 ≤ (logS t c).size ∧ (logS t c).size ≤ 8192) {E : Int} (hE : (E != 0) = true)
    (hb : l.bytes.length ≤ 4194304) (hkp : l.kept + ((logS t c).size + 172) + l.bytes.length ≤ 4194304)
    (hchg : ∀ (rm : Nat) wx A1 caps, MSys wx m p X A1 P { l with kept := l.kept + rm } d M → Calls Tryz.prog 54 #[.pointer (some ⟨m, 0, none⟩), .agg ((recU t c).cells none none 0 0), .func (.func 55) #[] caps] wx fun e w' => e = .returned (.tuple #[.int .u64 0, .int .i64 E]) ∧ ∃ A' P1 d1, MSys w' m p X A' P1 { l with kept := l.kept + rm } d1 M ∧ Moves A1 A' wx w') :
    Calls Tryz.prog 14 #[.pointer (some ⟨m, 0, none⟩), .int .i64 n, .agg c.cells] w fun e w' => e = .returned (.tuple #[.int .u64 0, .int .i64 E]) ∧ ∃ A' P1 d1, MSys w' m p X A' P1 l d1 M ∧ Moves A A' w w' := by
  have HA := hidx (fun (k : Nat) (hk : w.heap.size ≤ k) (x : A k) => by have := h.lt k x; omega : ∀ k, w.heap.size ≤ k → A k → False)
  obtain ⟨W1, HW1⟩ : ∃ W, Hid (W = w.alloc (.cells #[.pointer (some ⟨m, 0, none⟩)] 23)) := ⟨_, rfl⟩
  have b1 : Below w.heap.size w W1 := by rw [HW1.out]; exact (Below.refl _ _).alloc (Nat.le_refl _) _
  have x1 : Blk W1 w.heap.size #[.pointer (some ⟨m, 0, none⟩)] 23 := by rw [HW1.out]; exact Blk.made _ _ _
  have z1 : W1.heap.size = w.heap.size + 1 := by rw [HW1.out]; simp
  obtain ⟨W, HW⟩ : ∃ W, Hid (W = W1.alloc (.cells c.cells 64)) := ⟨_, rfl⟩
  have b2 : Below W1.heap.size W1 W := by rw [HW.out]; exact (Below.refl _ _).alloc (Nat.le_refl _) _
  have xC : Blk W W1.heap.size c.cells 64 := by rw [HW.out]; exact Blk.made _ _ _
  have xM : Blk W w.heap.size #[.pointer (some ⟨m, 0, none⟩)] 23 := x1.same (b2.block _ x1.lt)
  have bW : Below w.heap.size w W := below_chain b1 b2
  have hW := h.below bW
  have HFI := hidx (find_yes hW n hn1 hn2 ht)
  obtain ⟨S0, hT0, _, _⟩ := hW.tx ht
  have HUP := hidx (update_any hT0 c)
  have st0 : W.cell? ⟨X n, 1, none⟩ = some (.int .i64 1) := by have := hT0.cells.c1; rw [hst] at this; exact this
  have HPAR : Hid (c.cells = #[.int .u32 c.page, .int .i64 c.op.kind, .int .i64 c.op.at', .string c.op.S, .string c.op.old, .int .i64 c.undo, .int .i64 c.index, .string c.key, .int .u32 c.rpage, .int .i64 c.rslot, .bool c.live]) := rfl
  have HENC : Hid (∀ wx, Calls Tryz.prog 52 #[.agg ((recU t c).cells none none 0 0)] wx fun e w' => e = .returned (.tuple #[.string (logS t c), .int .i64 0]) ∧ Below wx.heap.size wx w') := fun wx => renc_ok (recU t c) none none 0 0 wx (hok wx) hmay ⟨fun i hi => by simp [recU] at hi, fun i hi => by simp [recU] at hi⟩
  have HUN : Hid (∀ wx, Calls Tryz.prog 53 #[.agg ((recU t c).cells none none 0 0)] wx fun e w' => e = .returned (.bool (decide (c.undo ≠ 0))) ∧ Below wx.heap.size wx w') := fun wx => by
    have := undoable_any (recU t c) none none 0 0 wx
    rw [show decide ((recU t c).kind = 1 ∧ (recU t c).undo ≠ 0) = decide (c.undo ≠ 0) from by simp [recU]] at this
    exact this
  have m0 : W.cell? ⟨w.heap.size, 0, none⟩ = some (.pointer (some ⟨m, 0, none⟩)) := xM.cell 0
  have z2 : W1.heap.size = w.heap.size + 1 := z1
  have HXC : Hid (W.heap[w.heap.size + 1]? = some (.cells c.cells 64 (0, 0))) := by show _ = _; rw [← z1]; exact xC
  have HXM := hidx xM
  have HBW := hidx bW
  have HH := hidx h
  have HT := hidx ht
  obtain ⟨s, Hs⟩ : ∃ s, Hid (logS t c = s) := ⟨_, rfl⟩
  rw [Hs.out] at hsz hkp HENC
  clear h hW hT0 b1 b2 x1 xC xM bW z1 z2 ht hst
  rw [HPAR.out]
  go_enter Tryz.func14, Tryz.ntmps14
  go_upto_region 1 with fail
  rw [← HPAR.out, ← HW1.out, ← HW.out]
  clear HW HW1
  go_wp2_with fail
  refine HFI.out.mono ?_
  rintro e w2 ⟨rfl, rfl⟩
  clear HFI
  have e0 : W.cell? ⟨w.heap.size + 1, 0, none⟩ = some (.int .u32 c.page) := BlkR.cell HXC.out 0
  have e1 : W.cell? ⟨w.heap.size + 1, 1, none⟩ = some (.int .i64 c.op.kind) := BlkR.cell HXC.out 1
  have e2 : W.cell? ⟨w.heap.size + 1, 2, none⟩ = some (.int .i64 c.op.at') := BlkR.cell HXC.out 2
  have e3 : W.cell? ⟨w.heap.size + 1, 3, none⟩ = some (.string c.op.S) := BlkR.cell HXC.out 3
  have e4 : W.cell? ⟨w.heap.size + 1, 4, none⟩ = some (.string c.op.old) := BlkR.cell HXC.out 4
  have e5 : W.cell? ⟨w.heap.size + 1, 5, none⟩ = some (.int .i64 c.undo) := BlkR.cell HXC.out 5
  have e6 : W.cell? ⟨w.heap.size + 1, 6, none⟩ = some (.int .i64 c.index) := BlkR.cell HXC.out 6
  have e7 : W.cell? ⟨w.heap.size + 1, 7, none⟩ = some (.string c.key) := BlkR.cell HXC.out 7
  have e8 : W.cell? ⟨w.heap.size + 1, 8, none⟩ = some (.int .u32 c.rpage) := BlkR.cell HXC.out 8
  have e9 : W.cell? ⟨w.heap.size + 1, 9, none⟩ = some (.int .i64 c.rslot) := BlkR.cell HXC.out 9
  have e10 : W.cell? ⟨w.heap.size + 1, 10, none⟩ = some (.bool c.live) := BlkR.cell HXC.out 10
  have HRC : Hid ((recU t c).cells none none 0 0 = #[.int .i64 1, .int .i64 t.tx, .int .u64 t.last, .int .u64 0, .int .u32 c.page, .int .i64 c.op.kind, .int .i64 c.op.at', .string c.op.S, .string c.op.old, .int .i64 c.undo, .int .i64 c.index, .string c.key, .int .u32 c.rpage, .int .i64 c.rslot, .bool c.live, .slice none 0 0, .slice none 0 0]) := rfl
  go_upto_region 6 with fail
  go_wp2_with fail
  refine HUP.out.mono ?_
  rintro e w3 ⟨rfl, b3⟩
  rw [HRC.out]
  clear e0 e1 e2 e3 e4 e5 e6 e7 e8 e9 e10 HUP HXC st0
  obtain ⟨W4, HW4⟩ : ∃ W', Hid (W' = w3.alloc (.cells ((recU t c).cells none none 0 0) 56)) := ⟨_, rfl⟩
  have b4 : Below w3.heap.size w3 W4 := by rw [HW4.out]; exact (Below.refl _ _).alloc (Nat.le_refl _) _
  have x4 : BlkR W4 w3.heap.size ((recU t c).cells none none 0 0) 56 := by rw [HW4.out]; exact Blk.made _ _ _
  have B4 := hidx (below_chain b3 b4)
  have X4 := hidx x4
  have hw3 : W.heap.size ≤ w3.heap.size := b3.size
  have m0' : W4.cell? ⟨w.heap.size, 0, none⟩ = some (.pointer (some ⟨m, 0, none⟩)) := (HXM.out.same (B4.out.block _ HXM.out.lt)).cell 0
  clear b3 b4 x4 m0
  go_upto_region 7 with fail
  rw [← HRC.out, ← HW4.out]
  clear HW4
  refine wp_region_lit ?_
  refine wpList_loadRow rfl _ _ rfl w3.heap.size rfl ((recU t c).cells none none 0 0) _ (0, 0) X4.out _ Tryz.underlying56 rfl (by kernel_rfl) ?_
  go_wp2_with fail
  refine (HENC.out W4).mono ?_
  rintro e w5 ⟨rfl, b5⟩
  obtain ⟨W6, HW6⟩ : ∃ W', Hid (W' = w5.alloc (.cells #[.string s] 9)) := ⟨_, rfl⟩
  have b6 : Below w5.heap.size w5 W6 := by rw [HW6.out]; exact (Below.refl _ _).alloc (Nat.le_refl _) _
  have x6 : Blk W6 w5.heap.size #[.string s] 9 := by rw [HW6.out]; exact Blk.made _ _ _
  have b56 := below_chain b5 b6
  have hw4 : w3.heap.size < W4.heap.size := X4.out.lt
  have hw5 : W4.heap.size ≤ w5.heap.size := b5.size
  have B6 := hidx (below_chain B4.out b56)
  have X6 := hidx (X4.out.same (b56.block _ X4.out.lt))
  have Y6 := hidx x6
  clear b5 b6 x6 b56 B4 X4 m0' HENC
  go_upto_region 11 with fail
  rw [← HW6.out]
  clear HW6
  have B6w := hidx (below_chain HBW.out B6.out)
  clear hmay hok
  go_cut [42] from 41 to 42 (fun v42 wx => ∃ b : Bool, v42 = .bool b ∧ Hid (Below W6.heap.size W6 wx))
  case first =>
    as_aux_lemma =>
    refine wp_region_lit ?_
    refine wpList_loadRow rfl _ _ rfl w3.heap.size rfl ((recU t c).cells none none 0 0) _ (0, 0) X6.out _ Tryz.underlying56 rfl (by kernel_rfl) ?_
    go_wp2_with fail
    refine (HUN.out W6).mono ?_
    rintro e w7 ⟨rfl, b7⟩
    have B7 := hidx b7
    clear b7
    obtain ⟨bu, Hbu⟩ : ∃ b : Bool, Hid (decide (c.undo ≠ 0) = b) := ⟨_, rfl⟩
    rw [Hbu.out]
    clear Hbu
    go_wp2_with fail
    go_meet
    case rel => exact ⟨bu, rfl, B7⟩
  obtain ⟨bu, rfl, B67⟩ := hcut
  obtain ⟨W7, HW7⟩ : ∃ W, W = wc := ⟨_, rfl⟩
  rw [← HW7] at B67 ⊢
  clear HW7
  go_upto_if 42 with fail
  go_cut [12] from 43 to 46 (fun v12 wx => ∃ rm : Nat, v12 = .int .i64 (rm : Int) ∧ rm ≤ s.size + 172 ∧ wx = W7)
  case first =>
    as_aux_lemma =>
    have s7 : W7.cell? ⟨w5.heap.size, 0, none⟩ = some (.string s) := (Y6.out.same (B67.out.block _ Y6.out.lt)).cell 0
    have hs1 : s.size ≤ 8192 := hsz.2
    cases bu with
    | false =>
      clear s7
      go_wp2_with fail
      go_meet
      case rel => exact ⟨0, rfl, Nat.zero_le _, rfl⟩
    | true =>
      go_wp2_with fail
      go_meet
      case rel => exact ⟨s.size + 172, by go_num, Nat.le_refl _, rfl⟩
  obtain ⟨rm, rfl, hrm, hwc⟩ := hcut
  rw [hwc]
  clear hwc
  have X7 := hidx (X6.out.same (B67.out.block _ X6.out.lt))
  have B7w := hidx (below_chain B6w.out B67.out)
  have H7 := hidx (HH.out.below B7w.out)
  have HLG := hidx (mlog_any H7.out)
  have m7 : W7.cell? ⟨w.heap.size, 0, none⟩ = some (.pointer (some ⟨m, 0, none⟩)) := (HXM.out.same ((below_chain B6.out B67.out).block _ HXM.out.lt)).cell 0
  obtain ⟨L, hL, _, lstep⟩ := H7.out.log
  have hs1 : s.size ≤ 8192 := hsz.2
  have HKP := hidx (keep_ok hL hb (by omega) rm (by omega) (by have := hrm; have := hkp; omega))
  have HSt := hidx lstep
  clear HUN hL lstep
  go_wp2_with fail
  refine HLG.out.mono ?_
  rintro e w8 ⟨rfl, rfl⟩
  clear HLG
  go_wp2_with fail
  refine HKP.out.mono ?_
  rintro e w8 ⟨rfl, hL8, mv8⟩
  obtain ⟨A8, h8, mvA8⟩ := HSt.out w8 _ _ hL8 rfl mv8
  have off8 : ∀ k, w.heap.size ≤ k → k < W7.heap.size → w8.heap[k]? = W7.heap[k]? := fun k hk hl => mvA8.1.block k hl fun x => HA.out k hk x
  have hwW : w.heap.size ≤ W.heap.size := HBW.out.size
  have x8 : BlkR w8 w3.heap.size (refCells (recU t c) (.slice none 0 0) (.slice none 0 0)) 56 := (off8 _ (by omega) X7.out.lt).trans X7.out
  have hm7 := HXM.out.same ((below_chain B6.out B67.out).block _ HXM.out.lt)
  have q8 : Blk w8 w.heap.size #[.pointer (some ⟨m, 0, none⟩)] 23 := hm7.same (off8 _ (Nat.le_refl _) hm7.lt)
  have Q8 := hidx q8
  have MV8 := hidx ((Moves.of_kept (Kept.of_below B7w.out) : Moves A A w W7).trans mvA8)
  have hmf : ∀ (fn : Fn) (first cap : Array Value) (w : World), (Instr.makeFunc fn first cap).run Tryz.prog w = .ok (.func fn first cap) w := fun _ _ _ _ => rfl
  have HCH := hidx (hchg rm w8 A8 #[.pointer (some ⟨w.heap.size, 0, none⟩), .pointer (some ⟨w5.heap.size, 0, none⟩)] h8)
  have HNA : Hid (¬ A8 w.heap.size) := hidx (mvA8.off hm7.lt fun y => HA.out _ (Nat.le_refl _) y).2
  have m8 : w8.cell? ⟨w.heap.size, 0, none⟩ = some (.pointer (some ⟨m, 0, none⟩)) := q8.cell 0
  obtain ⟨z0, z1, z2, z3, z4, z5, z6, z7, z8, z9, z10, z11, z12, z13, z14, z15, z16⟩ := out_cells x8
  clear hL8 mv8 h8 mvA8 off8 q8 x8 hm7 HKP HSt m7 X7 B7w H7 hchg HRC hwW B6w Y6 X6
  go_wp2_with fail
  refine HCH.out.mono ?_
  rintro e w9 ⟨rfl, A9, P9, d9, h9, mv9⟩
  have MV9 := hidx (MV8.out.trans mv9)
  have HLG := hidx (mlog_any h9)
  obtain ⟨L, hL, _, lstep⟩ := h9.log
  have HGV := hidx (give_any hL (by show l.kept + rm ≤ _; omega) rm (by omega))
  have HSt := hidx lstep
  have m9 : w9.cell? ⟨w.heap.size, 0, none⟩ = some (.pointer (some ⟨m, 0, none⟩)) := (Q8.out.same (mv9.off Q8.out.lt HNA.out).1).cell 0
  clear z0 z1 z2 z3 z4 z5 z6 z7 z8 z9 z10 z11 z12 z13 z14 z15 z16 HCH mv9 h9 MV8 hmf m8 hL lstep Q8 HNA
  go_wp2_with fail
  refine HLG.out.mono ?_
  rintro e w10 ⟨rfl, rfl⟩
  clear HLG m9
  go_wp2_with fail
  refine HGV.out.mono ?_
  rintro e w11 ⟨rfl, hL11, mvl⟩
  obtain ⟨A11, h11, mv11⟩ := HSt.out _ _ _ hL11 rfl mvl
  rw [show ({ l with kept := l.kept + rm - rm } : LG) = l from by rw [Nat.add_sub_cancel]] at h11
  have HF := hidx (⟨A11, P9, d9, h11, MV9.out.trans mv11⟩ : ∃ A' P1 d1, MSys w11 m p X A' P1 l d1 M ∧ Moves A A' w w11)
  clear HGV HSt h11 mv11 hL11 mvl MV9 HH HT HA HPAR HXM HBW
  go_wp2
  go_ret2
  exact ⟨rfl, HF.out⟩

end

end Go.Proofs.YtjemeopafkafgaaGreat
