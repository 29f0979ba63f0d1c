/-
  The walk of heap.freePage: the first free page of the map, and the change that takes it.
-/
import Derived.Test.YtdhphbokkmofaaaGreatUnTurnedJ
import Derived.Test.YtdhphbokkmofaaaGreatSpaceBitsJ
import Derived.Test.YtdhphbokkmofaaaGreatTxChg0J
import Derived.Test.YtdhphbokkmofaaaGreatTxPartJ
import Derived.Test.YtdhphbokkmofaaaGreatNilMathJ
import Derived.Test.YtdhphbokkmofaaaGreatBackMathJ
import Derived.Test.YtdhphbokkmofaaaGreatRepeatJ
import Derived.Deep.RegionHeld3
set_option linter.unusedVariables false
set_option linter.unusedSimpArgs false
namespace Go.Proofs.YtdhphbokkmofaaaGreat
open Go.RowKit Go.Sort

theorem hpdisk_any {w : World} {p dp : Nat} (c0 : w.cell? ⟨p, 0, none⟩ = some (.pointer (some ⟨dp, 0, none⟩))) :
    Calls Tryz.prog 84 #[.pointer (some ⟨p, 0, none⟩)] w fun r w' => r = .returned (.pointer (some ⟨dp, 0, none⟩)) ∧ w = w' := by
  go_enter Tryz.func84, Tryz.ntmps84
  go_wp2
  go_ret
  exact ⟨rfl, rfl⟩

section
variable {w : World} {m p : Nat} {X : Int → Nat} {A : Nat → Prop} {P : PG} {l : LG} {d : DG} {M : MgG}

theorem hproom_any (h : MSys w m p X A P l d M) :
    (∀ wx, Below w.heap.size w wx → Calls Tryz.prog 84 #[.pointer (some ⟨p, 0, none⟩)] wx fun r w' => r = .returned (.pointer (some ⟨P.dp, 0, none⟩)) ∧ wx = w')
    ∧ ∀ wx, Below w.heap.size w wx → Calls Tryz.prog 85 #[.pointer (some ⟨P.dp, 0, none⟩)] wx fun r w' => r = .returned (.int .i64 d.room) ∧ wx = w' := by
  refine ⟨fun wx b => ?_, fun wx b => ?_⟩
  · obtain ⟨A1, hS, _, _⟩ := (h.below b).sys
    obtain ⟨S, L, D, ⟨fb, pv, Mx, hP⟩, _⟩ := hS.ex
    exact hpdisk_any hP.cells.c0
  · obtain ⟨A1, hS, _, _⟩ := (h.below b).sys
    obtain ⟨S, L, D, _, _, ⟨mm, hD, _⟩, _⟩ := hS.ex
    refine (droom_any hD.blk.cells).mono ?_
    rintro e w' ⟨rfl, rfl⟩
    exact ⟨rfl, rfl⟩

structure FpAt (w wx : World) (b : Nat) (p : SheetV) (a : Option Addr) (c : Nat) : Prop where
  page : RowV wx b 5 (five (.int .u32 p.num) (.int .u64 p.lsn) (.int .i64 p.kind) (.string p.head) (.slice a p.slots.length c))
  old : BlkR wx w.heap.size zeroChg 88
  lies : p.Lies wx a
  bel : Below w.heap.size w wx
  lt : w.heap.size < b ∧ b < wx.heap.size

theorem FpAt.made {w W w1 : World} {x : SheetV} {a : Option Addr} {c : Nat} (hW : W = w.alloc (.cells zeroChg 88)) (b1 : Below W.heap.size W w1) (hx : x.Lies w1 a) :
    FpAt w (w1.alloc (.cells #[.int .u32 x.num, .int .u64 x.lsn, .int .i64 x.kind, .string x.head, .slice a x.slots.length c] 44)) w1.heap.size x a c := by
  have bW : Below w.heap.size w W := by rw [hW]; exact (Below.refl _ _).alloc (Nat.le_refl _) _
  have x1 : BlkR W w.heap.size zeroChg 88 := by rw [hW]; exact heap_alloc_new w _
  have zW : W.heap.size = w.heap.size + 1 := by rw [hW]; simp
  have z1 := b1.size
  have ba : Below w1.heap.size w1 (w1.alloc (.cells #[.int .u32 x.num, .int .u64 x.lsn, .int .i64 x.kind, .string x.head, .slice a x.slots.length c] 44)) := (Below.refl _ _).alloc (Nat.le_refl _) _
  exact ⟨RowV.five_new w1 _ _ _ _ _ _, (x1.under b1 (by omega)).under ba (by omega), hx.below ba, below_chain (below_chain bW b1) ba, by omega, by simp⟩

theorem FpAt.below {w wx wy : World} {b : Nat} {x : SheetV} {a : Option Addr} {c : Nat} (h : FpAt w wx b x a c) (k : Below wx.heap.size wx wy) : FpAt w wy b x a c := by
  have h2 := h.lt.2
  have h1 := h.lt.1
  exact ⟨h.page.below k h2, h.old.under k (by omega), h.lies.below k, below_chain h.bel k, h1, Nat.lt_of_lt_of_le h2 k.size⟩

set_option maxHeartbeats 6400000 in
set_option maxRecDepth 20000 in
theorem hfree_any (h : MSys w m p X A P l d M) {f : FrV} (hf : P.F 1 = some f) (hfit : f.sh.Fits) (hb : isB f.sh = true) (hr1 : 0 ≤ d.room) (hr2 : d.room ≤ 4611686018427387904) (k : Nat) (hk : takeN f.sh d.room = k) (hk0 : k ≠ 0) :
    Calls Tryz.prog 31 #[.pointer (some ⟨m, 0, none⟩)] w fun e w' => e = .returned (.tuple #[.int .u32 k, .agg (chgU 1 (turnO (slot0 f.sh) k)).cells, .int .i64 0]) ∧ Below w.heap.size w w' := by
  have HPL : Hid (∀ wx, Below w.heap.size w wx → Calls Tryz.prog 33 #[.pointer (some ⟨m, 0, none⟩)] wx fun e w' => e = .returned (.pointer (some ⟨p, 0, none⟩)) ∧ wx = w') := fun wx b => mpool_any (h.below b)
  have HGT : Hid (∀ wx, Below w.heap.size w wx → Calls Tryz.prog 34 #[.pointer (some ⟨p, 0, none⟩), .int .u32 1] wx (ShOut wx f.sh fun v => .returned (.tuple #[v, .int .i64 0]))) := fun wx b => by
    obtain ⟨A1, hS, _, _⟩ := (h.below b).sys
    exact get_here hS 1 (by omega) (by omega) hf
  have HDR := hidx (hproom_any h)
  have HTK : Hid (∀ wx a c, f.sh.Lies wx a → Calls Tryz.prog 53 #[f.sh.val a c, .int .i64 d.room] wx fun e w' => e = .returned (.tuple #[.int .u32 k, (turnO (slot0 f.sh) k).val, .int .i64 0]) ∧ Below wx.heap.size wx w') := fun wx a c hl => by
    have := take_map (c := c) hl d.room hb (by omega) (by omega)
    have hE : takeE f.sh d.room = 0 := by unfold takeE; rw [if_pos hb, hk, if_neg hk0]
    rw [hE, hk] at this
    exact this
  have HUN : Hid (∀ wx, Calls Tryz.prog 36 #[.int .u32 1, (turnO (slot0 f.sh) k).val] wx fun e w' => e = .returned (.agg (chgU 1 (turnO (slot0 f.sh) k)).cells) ∧ Below wx.heap.size wx w') := fun wx => hundoable_any 1 _ wx
  have HLI : Hid (∀ (B : Nat) (wx : World) (a : Option Addr), StrsFrom B wx a f.sh.slots → f.sh.Lies wx a) := fun B wx a hs => Fits.lies hfit hs.at
  obtain ⟨W, HW⟩ : ∃ W, Hid (W = w.alloc (.cells zeroChg 88)) := ⟨_, rfl⟩
  have HBW : Hid (Below w.heap.size w W) := by show Below _ _ _; rw [HW.out]; exact (Below.refl _ _).alloc (Nat.le_refl _) _
  have HZ : Hid (zeroChg = #[.int .u32 0, .int .i64 0, .int .i64 0, .string ⟨#[]⟩, .string ⟨#[]⟩, .int .i64 0, .int .i64 0, .string ⟨#[]⟩, .int .u32 0, .int .i64 0, .bool false]) := rfl
  generalize turnO (slot0 f.sh) k = o at HTK HUN ⊢
  clear h hf hfit hb hr1 hr2 hk hk0
  generalize f.sh = x at HGT HTK HLI
  simp only [SheetV.val, OpV.val] at HTK HUN
  go_enter Tryz.func31, Tryz.ntmps31
  go_upto_region 1 with fail
  rw [← HZ.out, ← HW.out]
  clear HZ
  go_wp2_with fail
  refine (HPL.out _ HBW.out).mono ?_
  rintro e v1 ⟨rfl, rfl⟩
  go_wp2_with fail
  refine (HGT.out _ HBW.out).mono ?_
  rintro e w1 ⟨⟨a, c, rfl, hs, b1⟩⟩
  have HF1 := hidx (FpAt.made (c := c) HW.out b1 (HLI.out _ _ _ hs))
  obtain ⟨V, HV⟩ : ∃ V, Hid (V = w1.alloc (.cells #[.int .u32 x.num, .int .u64 x.lsn, .int .i64 x.kind, .string x.head, .slice a x.slots.length c] 44)) := ⟨_, rfl⟩
  rw [← HV.out] at HF1
  simp only [SheetV.val]
  go_upto_region 4 with fail
  rw [← HV.out]
  clear HV HLI HGT HW HBW hs b1
  generalize w1.heap.size = b at HF1 ⊢
  go_cut [6, 7, 8] from 19 to 28 (fun v6 v7 v8 wx => ∃ N : Nat, v6 = .int .i64 0 ∧ v7 = .int .u32 k ∧ v8 = .pointer (some ⟨N, 0, none⟩) ∧ Hid (FpAt w wx b x a c) ∧ Hid (RowV wx N 4 (four (.int .i64 o.kind) (.int .i64 o.at') (.string o.S) (.string o.old))))
  case first =>
    as_aux_lemma =>
    have hbv := HF1.out.lt.2
    have hb0 : Below w.heap.size w V.drew := HF1.out.bel.trans ((Below.refl _ _).drew)
    have hb1 : Below w.heap.size w (V.drew.alloc (.cells #[.int .i64 0, .int .i64 0, .string ⟨#[]⟩, .string ⟨#[]⟩] 46)) := hb0.alloc (by have := HF1.out.bel.size; simpa using this) _
    have d0 : Below V.heap.size V V.drew := (Below.refl _ _).drew
    have d1 : Below V.heap.size V (V.drew.alloc (.cells #[.int .i64 0, .int .i64 0, .string ⟨#[]⟩, .string ⟨#[]⟩] 46)) := d0.alloc (by simp) _
    have hl0 : x.Lies V.drew a := HF1.out.lies.below d0
    have hl1 : x.Lies (V.drew.alloc (.cells #[.int .i64 0, .int .i64 0, .string ⟨#[]⟩, .string ⟨#[]⟩] 46)) a := HF1.out.lies.below d1
    have hkeep : ∀ wy, Below V.heap.size V wy → (wy.cell? ⟨b, 0, none⟩ = some (.int .u32 x.num) ∧ wy.cell? ⟨b, 1, none⟩ = some (.int .u64 x.lsn) ∧ wy.cell? ⟨b, 2, none⟩ = some (.int .i64 x.kind) ∧ wy.cell? ⟨b, 3, none⟩ = some (.string x.head) ∧ wy.cell? ⟨b, 4, none⟩ = some (.slice a x.slots.length c)) := fun wy k => by
      obtain ⟨x0, x1, x2, x3, x4⟩ := (HF1.out.page.below k hbv).cells5
      exact ⟨x0, x1, x2, x3, x4⟩
    have HK := hidu HF1.out
    clear HF1 HUN
    have hne : b ≠ V.heap.size := by omega
    obtain ⟨q0, q1, q2, q3, q4⟩ := hkeep V (Below.refl _ _)
    go_region_held3 (fun wy => wy.cell? ⟨b, 0, none⟩ = some (.int .u32 x.num) ∧ wy.cell? ⟨b, 1, none⟩ = some (.int .u64 x.lsn) ∧ wy.cell? ⟨b, 2, none⟩ = some (.int .i64 x.kind) ∧ wy.cell? ⟨b, 3, none⟩ = some (.string x.head) ∧ wy.cell? ⟨b, 4, none⟩ = some (.slice a x.slots.length c))
      (first | go_keep | exact hkeep _ d0 | exact hkeep _ d1 | exact hkeep _ c6 | exact hkeep _ (c6.alloc (by have := b6.size; simpa using this) _) | exact hkeep _ (below_set4 c6 (Nat.le_refl _) _ _ _ _))
      (first
        | (go_at_call 33; refine (HPL.out _ (by first | exact hb0 | exact hb1)).mono ?_; rintro e wz ⟨rfl, hwz⟩; subst hwz)
        | (go_at_call 84; refine (HDR.out.1 _ (by first | exact hb0 | exact hb1)).mono ?_; rintro e wz ⟨rfl, hwz⟩; subst hwz)
        | (go_at_call 85; refine (HDR.out.2 _ (by first | exact hb0 | exact hb1)).mono ?_; rintro e wz ⟨rfl, hwz⟩; subst hwz)
        | (go_at_call 53; refine (HTK.out (V.drew.alloc (.cells #[.int .i64 0, .int .i64 0, .string ⟨#[]⟩, .string ⟨#[]⟩] 46)) a c hl1).mono ?_; rintro e w6 ⟨rfl, b6⟩; have c6 : Below V.heap.size V w6 := d1.trans (b6.mono (by simp)); have hn6 : RowV w6 V.heap.size 4 (four (.int .i64 0) (.int .i64 0) (.string ⟨#[]⟩) (.string ⟨#[]⟩)) := (RowV.four_new V.drew (.int .i64 0) (.int .i64 0) (.string ⟨#[]⟩) (.string ⟨#[]⟩) 46).below b6 (by simp); obtain ⟨n0, n1, n2, n3⟩ := hn6.cells4; obtain ⟨m0, m1, m2, m3⟩ := hn6.open4)
        | (go_at_call 53; refine (HTK.out V.drew a c hl0).mono ?_; rintro e w6 ⟨rfl, b6⟩; have c6 : Below V.heap.size V w6 := d0.trans b6))
    all_goals
      go_wp2_with fail
      go_meet
      case rel =>
        first
          | exact ⟨w6.heap.size, rfl, rfl, rfl, HK.out.below (c6.alloc (by have := b6.size; simpa using this) _), RowV.four_new w6 _ _ _ _ _⟩
          | exact ⟨V.heap.size, rfl, rfl, rfl, HK.out.below (below_set4 c6 (Nat.le_refl _) _ _ _ _), hn6.put4 _ _ _ _⟩
  obtain ⟨N, rfl, rfl, rfl, HF2, HR2⟩ := hcut
  clear HF1 HPL HDR HTK
  obtain ⟨y0, y1, y2, y3⟩ := HR2.out.cells4
  go_upto_region 7 with fail
  clear y0 y1 y2 y3
  obtain ⟨y0, y1, y2, y3⟩ := HR2.out.cells4
  go_wp2_with fail
  refine (HUN.out _).mono ?_
  rintro e w8 ⟨rfl, b8⟩
  have H8 := hidx (HF2.out.below b8)
  obtain ⟨WX, HWX⟩ : ∃ WX, Hid (WX = w8.setRow w.heap.size (chgU 1 o).cells) := ⟨_, rfl⟩
  have HBB : Hid (BlkR WX w.heap.size (chgU 1 o).cells 88) := by show BlkR _ _ _ _; rw [HWX.out]; exact setRow_heap w8 _ _ _ _ _ H8.out.old
  have HFF : Hid (Below w.heap.size w WX) := by show Below _ _ _; rw [HWX.out]; exact below_setRow H8.out.bel (Nat.le_refl _) _
  clear HUN HF2 HR2 b8 y0 y1 y2 y3
  dsimp only
  rename_i hQ
  refine hQ _ _ ?_
  clear hQ
  refine wpList_plain rfl fun K hK => ?_
  go_simp
  refine hK _ _ ?_
  clear hK K
  refine wpList_storeRow rfl _ _ 88 rfl rfl w.heap.size rfl (chgU 1 o).cells zeroChg rfl _ H8.out.old (by kernel_rfl) rfl (chg_one _) ?_
  rw [← HWX.out]
  clear H8 HWX
  have z0 : WX.cell? ⟨w.heap.size, 0, none⟩ = some (.int .u32 1) := BlkR.cell HBB.out 0
  have z1 : WX.cell? ⟨w.heap.size, 1, none⟩ = some (.int .i64 o.kind) := BlkR.cell HBB.out 1
  have z2 : WX.cell? ⟨w.heap.size, 2, none⟩ = some (.int .i64 o.at') := BlkR.cell HBB.out 2
  have z3 : WX.cell? ⟨w.heap.size, 3, none⟩ = some (.string o.S) := BlkR.cell HBB.out 3
  have z4 : WX.cell? ⟨w.heap.size, 4, none⟩ = some (.string o.old) := BlkR.cell HBB.out 4
  have z5 : WX.cell? ⟨w.heap.size, 5, none⟩ = some (.int .i64 1) := BlkR.cell HBB.out 5
  have z6 : WX.cell? ⟨w.heap.size, 6, none⟩ = some (.int .i64 0) := BlkR.cell HBB.out 6
  have z7 : WX.cell? ⟨w.heap.size, 7, none⟩ = some (.string ⟨#[]⟩) := BlkR.cell HBB.out 7
  have z8 : WX.cell? ⟨w.heap.size, 8, none⟩ = some (.int .u32 0) := BlkR.cell HBB.out 8
  have z9 : WX.cell? ⟨w.heap.size, 9, none⟩ = some (.int .i64 0) := BlkR.cell HBB.out 9
  have z10 : WX.cell? ⟨w.heap.size, 10, none⟩ = some (.bool false) := BlkR.cell HBB.out 10
  clear HBB
  go_wp2_with fail
  refine bodyPost_ret (v := .tuple #[.int .u32 k, .agg #[.int .u32 1, .int .i64 o.kind, .int .i64 o.at', .string o.S, .string o.old, .int .i64 1, .int .i64 0, .string ⟨#[]⟩, .int .u32 0, .int .i64 0, .bool false], .int .i64 0]) (by simp [results, Tryz.results31, go_sem, z0, z1, z2, z3, z4, z5, z6, z7, z8, z9, z10]) rfl ?_
  exact ⟨rfl, HFF.out⟩

end

end Go.Proofs.YtdhphbokkmofaaaGreat
