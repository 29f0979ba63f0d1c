/-
  The walk of undo.byPage, where the page stands in a frame.
-/
import Derived.Test.YtdhphbokkmofaaaGreatUnTurnedJ
import Derived.Test.YtdhphbokkmofaaaGreatHpFreeC
import Derived.Test.YtdhphbokkmofaaaGreatTxGJ
import Derived.Deep.RegionHeld3
set_option linter.unusedVariables false
set_option linter.unusedSimpArgs false
namespace Go.Proofs.YtdhphbokkmofaaaGreat
open Go.RowKit Go.Sort

section
variable {w : World} {m p : Nat} {X : Int → Nat} {A : Nat → Prop} {P : PG} {l : LG} {d : DG} {M : MgG}

structure ByAt (w wx : World) (b : Nat) (x : SheetV) (a : Option Addr) (c : Nat) (r : RecV) (ta da : Option Addr) (tc dc : Nat) : Prop where
  page : RowV wx b 5 (five (.int .u32 x.num) (.int .u64 x.lsn) (.int .i64 x.kind) (.string x.head) (.slice a x.slots.length c))
  rec' : BlkR wx w.heap.size (r.cells ta da tc dc) 54
  lies : x.Lies wx a
  bel : Below w.heap.size w wx
  lt : b < wx.heap.size

theorem ByAt.below {w wx wy : World} {b : Nat} {x : SheetV} {a : Option Addr} {c : Nat} {r : RecV} {ta da : Option Addr} {tc dc : Nat} (h : ByAt w wx b x a c r ta da tc dc) (k : Below wx.heap.size wx wy) : ByAt w wy b x a c r ta da tc dc :=
  ⟨h.page.below k h.lt, h.rec'.under k h.rec'.lt, h.lies.below k, below_chain h.bel k, Nat.lt_of_lt_of_le h.lt k.size⟩

set_option maxHeartbeats 6400000 in
set_option maxRecDepth 20000 in
theorem ubyPage_any (h : MSys w m p X A P l d M) (n : Int) (r : RecV) (ta da : Option Addr) (tc dc at' : Nat) (P' : PG) (l' : LG) (M' : MgG) (io : OpV) {f : FrV} (hf : P.F r.page = some f) (hfit : f.sh.Fits) (h1 : 1 ≤ r.page) (h2 : r.page ≤ 2048) (ho : r.op.Ok) (hE : uopE f.sh r = 0) (hO : uopO f.sh r = io)
    (hcomp : ∀ wx, Below w.heap.size w wx → Calls Tryz.prog 47 #[.pointer (some ⟨m, 0, none⟩), .int .i64 n, .int .u32 r.page, io.val, .int .u64 r.prev] wx fun e w' => e = .returned (.tuple #[.int .u64 at', .int .i64 0]) ∧ ∃ A', MSys w' m p X A' P' l' d M' ∧ Moves A A' wx w') :
    Calls Tryz.prog 59 #[.pointer (some ⟨m, 0, none⟩), .int .i64 n, .agg (r.cells ta da tc dc)] w fun e w' => e = .returned (.int .i64 0) ∧ ∃ A', MSys w' m p X A' P' l' d M' ∧ Moves A A' w w' := by
  have HPL : Hid (∀ wx, Below w.heap.size w wx → Calls Tryz.prog 33 #[.pointer (some ⟨m, 0, none⟩)] wx fun e w' => e = .returned (.pointer (some ⟨p, 0, none⟩)) ∧ wx = w') := fun wx b => mpool_any (h.below b)
  have HGT : Hid (∀ wx, Below w.heap.size w wx → Calls Tryz.prog 34 #[.pointer (some ⟨p, 0, none⟩), .int .u32 r.page] wx (ShOut wx f.sh fun v => .returned (.tuple #[v, .int .i64 0]))) := fun wx b => by
    obtain ⟨A1, hS, _, _⟩ := (h.below b).sys
    exact get_here hS r.page h1 h2 hf
  have HOP : Hid (∀ wx a c, f.sh.Lies wx a → Calls Tryz.prog 12 #[f.sh.val a c, .agg (r.cells ta da tc dc)] wx fun e w' => e = .returned (.tuple #[io.val, .int .i64 0]) ∧ Below wx.heap.size wx w') := fun wx a c hl => by
    have := uop_any (c := c) hl ho ta da tc dc
    rw [hE, hO] at this
    exact this
  have HCM : Hid (∀ wx, Below w.heap.size w wx → Calls Tryz.prog 47 #[.pointer (some ⟨m, 0, none⟩), .int .i64 n, .int .u32 r.page, io.val, .int .u64 r.prev] wx fun e w' => e = .returned (.tuple #[.int .u64 at', .int .i64 0]) ∧ ∃ A', MSys w' m p X A' P' l' d M' ∧ Moves A A' w w') := fun wx b => by
    refine (hcomp wx b).mono ?_
    rintro e w' ⟨rfl, A', g, mv⟩
    exact ⟨rfl, A', g, (Moves.of_kept (Kept.of_below b)).trans mv⟩
  have HLI : Hid (∀ (B : Nat) (wx : World) (a : Option Addr), StrsFrom B wx a f.sh.slots → f.sh.Lies wx a) := fun B wx a hs => Fits.lies hfit hs.at
  have HPAR : Hid (r.cells ta da tc dc = #[.int .i64 r.kind, .int .i64 r.tx, .int .u64 r.prev, .int .u64 r.next, .int .u32 r.page, .int .i64 r.op.kind, .int .i64 r.op.at', .string r.op.S, .string r.op.old, .int .i64 r.undo, .int .i64 r.index, .string r.key, .int .u32 r.rpage, .int .i64 r.rslot, .bool r.live, .slice ta r.txs.length tc, .slice da r.dirty.length dc]) := rfl
  clear h hf hfit h1 h2 ho hE hO hcomp
  generalize f.sh = x at HGT HOP HLI
  obtain ⟨W, HW⟩ : ∃ W, Hid (W = w.alloc (.cells (r.cells ta da tc dc) 54)) := ⟨_, rfl⟩
  have HBW : Hid (Below w.heap.size w W) := by show Below _ _ _; rw [HW.out]; exact (Below.refl _ _).alloc (Nat.le_refl _) _
  have HXW : Hid (BlkR W w.heap.size (r.cells ta da tc dc) 54) := by show BlkR _ _ _ _; rw [HW.out]; exact heap_alloc_new w _
  have hwl : w.heap.size < W.heap.size := by rw [HW.out]; simp
  simp only [SheetV.val, OpV.val] at HOP HCM
  rw [HPAR.out]
  go_enter Tryz.func59, Tryz.ntmps59
  go_upto_region 1 with fail
  rw [← HPAR.out, ← HW.out]
  clear HW
  go_cut [7, 8] from 10 to 17 (fun v7 v8 wx => ∃ (N : Nat) (a : Option Addr) (c : Nat), v7 = .pointer (some ⟨N, 0, none⟩) ∧ v8 = .int .i64 0 ∧ Hid (ByAt w wx N x a c r ta da tc dc))
  case first =>
    as_aux_lemma =>
    have hb0 : Below w.heap.size w W.drew := HBW.out.trans ((Below.refl _ _).drew)
    have hb1 : Below w.heap.size w (W.drew.alloc (.cells #[.int .u32 0, .int .u64 0, .int .i64 0, .string ⟨#[]⟩, .slice none 0 0] 44)) := hb0.alloc (by have := HBW.out.size; simpa using this) _
    have d0 : Below W.heap.size W W.drew := (Below.refl _ _).drew
    have d1 : Below W.heap.size W (W.drew.alloc (.cells #[.int .u32 0, .int .u64 0, .int .i64 0, .string ⟨#[]⟩, .slice none 0 0] 44)) := d0.alloc (by simp) _
    have hkeep : ∀ wy, Below W.heap.size W wy → wy.cell? ⟨w.heap.size, 4, none⟩ = some (.int .u32 r.page) := fun wy k => BlkR.cell (HXW.out.under k hwl) 4
    have HKX : Hid (∀ wy, Below W.heap.size W wy → BlkR wy w.heap.size (r.cells ta da tc dc) 54 ∧ Below w.heap.size w wy) := fun wy k => ⟨HXW.out.under k hwl, below_chain HBW.out k⟩
    clear HOP HCM HXW HBW HPAR
    have hne : w.heap.size ≠ W.heap.size := by omega
    have q0 := hkeep W (Below.refl _ _)
    go_region_held3 (fun wy => wy.cell? ⟨w.heap.size, 4, none⟩ = some (.int .u32 r.page))
      (first | go_keep | exact hkeep _ d0 | exact hkeep _ d1 | exact hkeep _ c6 | exact hkeep _ (c6.alloc (by have := b6.size; simpa using this) _) | exact hkeep _ (below_set5 c6 (Nat.le_refl _) _ _ _ _ _))
      (first
        | (go_at_call 33; refine (HPL.out _ (by first | exact hb0 | exact hb1)).mono ?_; rintro e wz ⟨rfl, hwz⟩; subst hwz)
        | (go_at_call 34; refine (HGT.out (W.drew.alloc (.cells #[.int .u32 0, .int .u64 0, .int .i64 0, .string ⟨#[]⟩, .slice none 0 0] 44)) hb1).mono ?_; rintro e w6 ⟨⟨a, c, rfl, hs, b6⟩⟩; have c6 : Below W.heap.size W w6 := d1.trans (b6.mono (by simp)); have hn6 : RowV w6 W.heap.size 5 (five (.int .u32 0) (.int .u64 0) (.int .i64 0) (.string ⟨#[]⟩) (.slice none 0 0)) := (RowV.five_new W.drew (.int .u32 0) (.int .u64 0) (.int .i64 0) (.string ⟨#[]⟩) (.slice none 0 0) 44).below b6 (by simp); obtain ⟨n0, n1, n2, n3, n4⟩ := hn6.cells5; obtain ⟨m0, m1, m2, m3, m4⟩ := hn6.open5; have hli := HLI.out _ _ _ hs; simp only [SheetV.val])
        | (go_at_call 34; refine (HGT.out W.drew hb0).mono ?_; rintro e w6 ⟨⟨a, c, rfl, hs, b6⟩⟩; have c6 : Below W.heap.size W w6 := d0.trans b6; have hli := HLI.out _ _ _ hs; simp only [SheetV.val]))
    · go_wp2_with fail
      go_meet
      case rel => exact ⟨w6.heap.size, a, c, rfl, rfl, hidx ⟨RowV.five_new w6 _ _ _ _ _ _, (HKX.out _ (c6.alloc (by have := b6.size; simpa using this) _)).1, hli.below ((Below.refl _ _).alloc (Nat.le_refl _) _), (HKX.out _ (c6.alloc (by have := b6.size; simpa using this) _)).2, by simp⟩⟩
    · go_wp2_with fail
      go_meet
      case rel => exact ⟨W.heap.size, a, c, rfl, rfl, hidx ⟨hn6.set5 _ _ _ _ _, (HKX.out _ (below_set5 c6 (Nat.le_refl _) _ _ _ _ _)).1, HLI.out _ _ _ (hs.store5 (b := W.heap.size) (by simp) _ _ _ _ _), (HKX.out _ (below_set5 c6 (Nat.le_refl _) _ _ _ _ _)).2, by have := b6.size; simp at this; simp; omega⟩⟩
    · go_wp2_with fail
      go_meet
      case rel => exact ⟨W.heap.size, a, c, rfl, rfl, hidx ⟨hn6.set5 _ _ _ _ _, (HKX.out _ (below_set5 c6 (Nat.le_refl _) _ _ _ _ _)).1, HLI.out _ _ _ (hs.store5 (b := W.heap.size) (by simp) _ _ _ _ _), (HKX.out _ (below_set5 c6 (Nat.le_refl _) _ _ _ _ _)).2, by have := b6.size; simp at this; simp; omega⟩⟩
  obtain ⟨N, a, c, rfl, rfl, HB⟩ := hcut
  clear HPL HGT HLI HBW HXW hwl
  obtain ⟨x0, x1, x2, x3, x4⟩ := HB.out.page.cells5
  go_upto_region 4 with fail
  refine wp_region_lit ?_
  refine wpList_plain rfl fun K hK => ?_
  go_simp
  refine hK _ _ ?_
  clear hK K
  refine wpList_loadRow rfl _ _ rfl w.heap.size rfl (r.cells ta da tc dc) _ (0, 0) HB.out.rec' _ Tryz.underlying54 rfl (by kernel_rfl) ?_
  go_wp2_with fail
  refine (HOP.out _ a c HB.out.lies).mono ?_
  rintro e w4 ⟨rfl, b4⟩
  have H4 := hidx (HB.out.below b4)
  clear HOP HB x0 x1 x2 x3 x4 b4
  obtain ⟨W7, HW7⟩ : ∃ W', Hid (W' = w4.alloc (.cells #[.int .i64 io.kind, .int .i64 io.at', .string io.S, .string io.old] 46)) := ⟨_, rfl⟩
  have b7 : Below w4.heap.size w4 W7 := by rw [HW7.out]; exact (Below.refl _ _).alloc (Nat.le_refl _) _
  have r7 : RowV W7 w4.heap.size 4 (four (.int .i64 io.kind) (.int .i64 io.at') (.string io.S) (.string io.old)) := by rw [HW7.out]; exact RowV.four_new w4 _ _ _ _ _
  obtain ⟨y0, y1, y2, y3⟩ := r7.cells4
  have h7 := H4.out.below b7
  have c4 : W7.cell? ⟨w.heap.size, 4, none⟩ = some (.int .u32 r.page) := BlkR.cell h7.rec' 4
  have c2 : W7.cell? ⟨w.heap.size, 2, none⟩ = some (.int .u64 r.prev) := BlkR.cell h7.rec' 2
  have H7 := hidx (HCM.out _ h7.bel)
  clear H4 b7 r7 h7 HCM
  go_upto_region 7 with fail
  rw [← HW7.out]
  clear HW7
  generalize w4.heap.size = g4 at y0 y1 y2 y3 ⊢
  go_wp2_with fail
  refine H7.out.mono ?_
  rintro e w8 ⟨rfl, h8⟩
  have H8 := hidx h8
  clear H7 h8 y0 y1 y2 y3 c4 c2
  go_wp2_with fail
  refine bodyPost_ret (v := .int .i64 0) (by simp [results, Tryz.results59, go_sem]) rfl ?_
  exact ⟨rfl, H8.out⟩

end

end Go.Proofs.YtdhphbokkmofaaaGreat
