/-
  The walk of girderlaw20.change, of a change that can be done and logged.
-/
import Derived.Test.YtgkfdakieebnmaaGreatRdOneC
import Derived.Test.YtgkfdakieebnmaaGreatRecPutsJ
import Derived.Deep.RegionWith
import Derived.Deep.RegionHeld3
import Derived.Deep.CutRange
set_option linter.unusedVariables false
set_option linter.unusedSimpArgs false
namespace Go.Proofs.YtgkfdakieebnmaaGreat
open Go.RowKit Go.Sort Go.Shelf Go.Lib

def chgR (n : Nat) (o : OpV) : RecV := ⟨1, 1, 0, 0, n, o, 0, 0, ⟨#[]⟩, 0, 0, false, [], []⟩

theorem chgR_ok {n : Nat} {o : OpV} (hn : n < 4294967296) (ho : o.Ok) (w : World) : (chgR n o).Ok w none none :=
  ⟨by show -9223372036854775808 ≤ (1 : Int) ∧ (1 : Int) ≤ 9223372036854775807; omega, by show -9223372036854775808 ≤ (1 : Int) ∧ (1 : Int) ≤ 9223372036854775807; omega, by show (0 : Nat) < _; omega, by show (0 : Nat) < _; omega, hn, ho, by show -9223372036854775808 ≤ (0 : Int) ∧ (0 : Int) ≤ 9223372036854775807; omega, by show -9223372036854775808 ≤ (0 : Int) ∧ (0 : Int) ≤ 9223372036854775807; omega, by show (⟨#[]⟩ : ByteArray).size ≤ 140737488351232; decide, by show (0 : Nat) < _; omega, by show -9223372036854775808 ≤ (0 : Int) ∧ (0 : Int) ≤ 9223372036854775807; omega, by show ([] : List TxV).length * 32 ≤ _; decide, by show ([] : List DiV).length * 16 ≤ _; decide, .inl rfl, .inl rfl⟩
theorem chgR_wide (n : Nat) (o : OpV) : (chgR n o).Wide := ⟨fun i hi => absurd hi (Nat.not_lt_zero _), fun i hi => absurd hi (Nat.not_lt_zero _)⟩

theorem textR_pos (r : RecV) : 1 ≤ (textR r).size := by
  rw [textR_size]
  unfold encR
  simp only [List.length_append, putL_length]
  omega

set_option maxHeartbeats 6400000 in
set_option maxRecDepth 20000 in
theorem change_any {w W : World} {p q pp : Nat} {A S : Nat → Prop} {l : LG} {d : DG} {rs : List ByteArray} {sure j : Nat} {P : PG} (h : RdS w W p q A l d rs sure j) (hp : PoAt w W A p q pp S P) (hj : j ≤ 900) (n : Nat) (o : OpV) (h1 : 1 ≤ n) (h2 : n ≤ 64) (ho : o.Ok) (hm : mayR (chgR n o) = true) (hpl : placeOf rs rs.length ≤ 1000000)
    (hz : P.F n = none → P.z < P.most) (hzz : P.z ≤ 900) (hmo : P.most ≤ 256) (hfe : P.fetched ≤ 100000) (hfit : (shOf P n).Fits) {y : SheetV} (hA : ApplyIs (shOf P n) o 0 y) (hnum : (shOf P n).num = n) :
    Calls Tryz.prog 27 #[.pointer (some ⟨q, 0, none⟩), .pointer (some ⟨pp, 0, none⟩), .int .u32 n, .agg #[.int .i64 o.kind, .int .i64 o.at', .string o.S, .string o.old]] W fun e w' => e = .returned (.bool true) ∧ ∃ A' S' l', RdS w w' p q A' l' d (rs ++ [textR (chgR n o)]) sure (j + 1) ∧ PoAt w w' A' p q pp S' (putP (ofG P n) { y with lsn := placeOf rs rs.length }) := by
  obtain ⟨V1, HV1⟩ : ∃ V1, Hid (V1 = W.alloc (.cells #[.int .i64 o.kind, .int .i64 o.at', .string o.S, .string o.old] 58)) := ⟨_, rfl⟩
  have b1 : Below W.heap.size W V1 := by rw [HV1.out]; exact (Below.refl _ _).alloc (Nat.le_refl _) _
  have hOB : Blk V1 W.heap.size #[.int .i64 o.kind, .int .i64 o.at', .string o.S, .string o.old] 58 := by rw [HV1.out]; exact Blk.made _ _ _
  have HG := hida (rd_get (h.below b1) (hp.below b1) n h1 h2 hz hmo hfe)
  have HLT := hida (show (∀ k, S k ∨ A k → k < W.heap.size) from fun k x => by
    rcases x with x | x
    · exact hp.pool.lt x
    · exact h.lt x)
  have HOB := hida hOB
  have HAI := hida hA
  have HFT := hida hfit
  have HNM := hida hnum
  have HEN0 := hida (renc_ok (chgR n o))
  have HM := hida hm
  clear h hp b1 hOB hz hA hfit hnum hm
  go_enter Tryz.func27, Tryz.ntmps27
  go_upto_region 1 with fail
  rw [← HV1.out]
  clear HV1
  go_wp2_with fail
  refine HG.out.mono ?_
  rintro e w2 ⟨a, c, rfl, hst, A2, S2, r2, p2, mv2⟩
  obtain ⟨x, hx⟩ : ∃ x, shOf P n = x := ⟨_, rfl⟩
  rw [hx] at hst HAI HFT HNM ⊢
  have hOB2 : Blk w2 W.heap.size #[.int .i64 o.kind, .int .i64 o.at', .string o.S, .string o.old] 58 := HOB.out.same (mv2.1.block _ HOB.out.lt fun z => by have := HLT.out _ z; omega)
  rw [show x.val a c = .agg #[.int .u32 x.num, .int .u64 x.lsn, .int .i64 x.kind, .string x.head, .slice a x.slots.length c] from rfl]
  obtain ⟨V3, HV3⟩ : ∃ V3, Hid (V3 = w2.alloc (.cells #[.int .u32 x.num, .int .u64 x.lsn, .int .i64 x.kind, .string x.head, .slice a x.slots.length c] 52)) := ⟨_, rfl⟩
  have b3 : Below w2.heap.size w2 V3 := by rw [HV3.out]; exact (Below.refl _ _).alloc (Nat.le_refl _) _
  have H3 := hida (show RdS w V3 p q A2 l d rs sure j ∧ PoAt w V3 A2 p q pp S2 (ofG P n) ∧ Blk V3 W.heap.size #[.int .i64 o.kind, .int .i64 o.at', .string o.S, .string o.old] 58 ∧ Blk V3 w2.heap.size #[.int .u32 x.num, .int .u64 x.lsn, .int .i64 x.kind, .string x.head, .slice a x.slots.length c] 52 ∧ StrsAt V3 a x.slots from ⟨r2.below b3, p2.below b3, hOB2.same (b3.block _ hOB2.lt), by rw [HV3.out]; exact Blk.made _ _ _, hst.at.below b3⟩)
  have HWS := hida (show W.heap.size ≠ w2.heap.size ∧ W.heap.size < V3.heap.size ∧ w2.heap.size < V3.heap.size ∧ ∀ k, S2 k ∨ A2 k → k ≠ W.heap.size from ⟨by have := hOB2.lt; omega, by have := hOB2.lt; have := b3.size; omega, by rw [HV3.out]; simp, fun k z e => by
    subst e
    rcases mv2.2 _ z with g | g
    · have := HLT.out _ g; omega
    · have := HOB.out.lt; omega⟩)
  clear HG HOB hst r2 p2 mv2 hOB2 b3 HLT
  go_upto_region 2 with fail
  rw [← HV3.out]
  clear HV3
  generalize W.heap.size = ob at *
  generalize w2.heap.size = xb at *
  have x0 : V3.cell? ⟨xb, 0, none⟩ = some (.int .u32 (x.num : Nat)) := H3.out.2.2.2.1.cell 0
  have x1 : V3.cell? ⟨xb, 1, none⟩ = some (.int .u64 (x.lsn : Nat)) := H3.out.2.2.2.1.cell 1
  have x2 : V3.cell? ⟨xb, 2, none⟩ = some (.int .i64 x.kind) := H3.out.2.2.2.1.cell 2
  have x3 : V3.cell? ⟨xb, 3, none⟩ = some (.string x.head) := H3.out.2.2.2.1.cell 3
  have x4 : V3.cell? ⟨xb, 4, none⟩ = some (.slice a x.slots.length c) := H3.out.2.2.2.1.cell 4
  have o0 : V3.cell? ⟨ob, 0, none⟩ = some (.int .i64 o.kind) := H3.out.2.2.1.cell 0
  have o1 : V3.cell? ⟨ob, 1, none⟩ = some (.int .i64 o.at') := H3.out.2.2.1.cell 1
  have o2 : V3.cell? ⟨ob, 2, none⟩ = some (.string o.S) := H3.out.2.2.1.cell 2
  have o3 : V3.cell? ⟨ob, 3, none⟩ = some (.string o.old) := H3.out.2.2.1.cell 3
  obtain ⟨L, HL⟩ : ∃ L, Hid (placeOf rs rs.length = L) := ⟨_, rfl⟩
  have HEN : Hid (∀ wx, Below V3.heap.size V3 wx → Calls Tryz.prog 26 #[.pointer (some ⟨q, 0, none⟩)] wx fun e w' => e = .returned (.int .u64 (L : Nat)) ∧ w' = wx) := fun wx b => by
    have := rd_end (H3.out.1.below b)
    rw [HL.out] at this
    exact this
  have HAP : Hid (∀ wx, Below V3.heap.size V3 wx → Calls Tryz.prog 20 #[.agg #[.int .u32 x.num, .int .u64 x.lsn, .int .i64 x.kind, .string x.head, .slice a x.slots.length c], .agg #[.int .i64 o.kind, .int .i64 o.at', .string o.S, .string o.old], .int .u64 (L : Nat)] wx fun e w' => ∃ a' c', e = .returned (.tuple #[.agg #[.int .u32 y.num, .int .u64 (L : Nat), .int .i64 y.kind, .string y.head, .slice a' y.slots.length c'], .int .i64 0]) ∧ Below wx.heap.size wx w' ∧ StrsFrom wx.heap.size w' a' y.slots ∧ (∀ g k, a' = some ⟨g, k, none⟩ → wx.heap.size ≤ g ∧ g < w'.heap.size)) := fun wx b => (HAI.out.2 L wx a c (HFT.out.ok (H3.out.2.2.2.2.below b))).mono fun e w' hh => by
    obtain ⟨X, he, hb, hy, _⟩ := hh
    obtain ⟨a', c', hX, g1, g2⟩ := hy rfl
    exact ⟨a', c', by rw [he, hX]; rfl, hb, g1, g2⟩
  go_upto_region 4 with fail
  go_cut [11, 12] from 25 to 32 (fun v11 v12 wx => ∃ (yb : Nat) (a' : Option Addr) (c' : Nat), v11 = .pointer (some ⟨yb, 0, none⟩) ∧ v12 = .int .i64 0 ∧ Hid (Below V3.heap.size V3 wx ∧ Blk wx yb #[.int .u32 y.num, .int .u64 (L : Nat), .int .i64 y.kind, .string y.head, .slice a' y.slots.length c'] 52 ∧ V3.heap.size ≤ yb ∧ StrsFrom V3.heap.size wx a' y.slots ∧ ∀ g k, a' = some ⟨g, k, none⟩ → V3.heap.size ≤ g ∧ g < wx.heap.size))
  case first =>
    have HF1 : Hid (∀ (w6 : World) (a' : Option Addr) (c' : Nat), Below (V3.drew.alloc (.cells #[.int .u32 0, .int .u64 0, .int .i64 0, .string ⟨#[]⟩, .slice none 0 0] 52)).heap.size (V3.drew.alloc (.cells #[.int .u32 0, .int .u64 0, .int .i64 0, .string ⟨#[]⟩, .slice none 0 0] 52)) w6 → StrsFrom (V3.drew.alloc (.cells #[.int .u32 0, .int .u64 0, .int .i64 0, .string ⟨#[]⟩, .slice none 0 0] 52)).heap.size w6 a' y.slots → (∀ g k, a' = some ⟨g, k, none⟩ → (V3.drew.alloc (.cells #[.int .u32 0, .int .u64 0, .int .i64 0, .string ⟨#[]⟩, .slice none 0 0] 52)).heap.size ≤ g ∧ g < w6.heap.size) → Blk w6 V3.heap.size #[.int .u32 0, .int .u64 0, .int .i64 0, .string ⟨#[]⟩, .slice none 0 0] 52 ∧ (Below V3.heap.size V3 (fset5 w6 V3.heap.size (.int .u32 y.num) (.int .u64 (L : Nat)) (.int .i64 y.kind) (.string y.head) (.slice a' y.slots.length c')) ∧ Blk (fset5 w6 V3.heap.size (.int .u32 y.num) (.int .u64 (L : Nat)) (.int .i64 y.kind) (.string y.head) (.slice a' y.slots.length c')) V3.heap.size #[.int .u32 y.num, .int .u64 (L : Nat), .int .i64 y.kind, .string y.head, .slice a' y.slots.length c'] 52 ∧ V3.heap.size ≤ V3.heap.size ∧ StrsFrom V3.heap.size (fset5 w6 V3.heap.size (.int .u32 y.num) (.int .u64 (L : Nat)) (.int .i64 y.kind) (.string y.head) (.slice a' y.slots.length c')) a' y.slots ∧ ∀ g k, a' = some ⟨g, k, none⟩ → V3.heap.size ≤ g ∧ g < (fset5 w6 V3.heap.size (.int .u32 y.num) (.int .u64 (L : Nat)) (.int .i64 y.kind) (.string y.head) (.slice a' y.slots.length c')).heap.size)) := by
      intro w6 a' c' b6 s6 g6
      have sz : (V3.drew.alloc (.cells #[.int .u32 0, .int .u64 0, .int .i64 0, .string ⟨#[]⟩, .slice none 0 0] 52)).heap.size = V3.heap.size + 1 := by simp
      have hZ0 : Blk (V3.drew.alloc (.cells #[.int .u32 0, .int .u64 0, .int .i64 0, .string ⟨#[]⟩, .slice none 0 0] 52)) V3.heap.size #[.int .u32 0, .int .u64 0, .int .i64 0, .string ⟨#[]⟩, .slice none 0 0] 52 := Blk.made V3.drew _ _
      have hZ : Blk w6 V3.heap.size #[.int .u32 0, .int .u64 0, .int .i64 0, .string ⟨#[]⟩, .slice none 0 0] 52 := hZ0.same (b6.block _ (by omega))
      have c6 : Below V3.heap.size V3 w6 := below_chain (((Below.refl V3.heap.size V3).drew).alloc (Nat.le_refl _) _) b6
      have k5 := fset5_kept w6 V3.heap.size (.int .u32 y.num) (.int .u64 (L : Nat)) (.int .i64 y.kind) (.string y.head) (.slice a' y.slots.length c')
      refine ⟨hZ, below_fset5 c6 _ _ _ _ _, fset5_blk hZ _ _ _ _ _, Nat.le_refl _, ?_, fun g k e => by have := g6 g k e; have := k5.size; omega⟩
      rcases s6 with hh | ⟨bb, oo, e, g1, g2, g3⟩
      · exact .inl hh
      · exact .inr ⟨bb, oo, e, by omega, Nat.lt_of_lt_of_le g2 k5.size, fun i hi => (World.cell?_of_block (w := w6) (a := ⟨bb, oo + i, none⟩) (k5.block bb g2 (by omega))).trans (g3 i hi)⟩
    have HF2 : Hid (∀ (w6 : World) (a' : Option Addr) (c' : Nat), Below V3.heap.size V3 w6 → StrsFrom V3.heap.size w6 a' y.slots → (∀ g k, a' = some ⟨g, k, none⟩ → V3.heap.size ≤ g ∧ g < w6.heap.size) → Below V3.heap.size V3 (w6.alloc (.cells #[.int .u32 y.num, .int .u64 (L : Nat), .int .i64 y.kind, .string y.head, .slice a' y.slots.length c'] 52)) ∧ Blk (w6.alloc (.cells #[.int .u32 y.num, .int .u64 (L : Nat), .int .i64 y.kind, .string y.head, .slice a' y.slots.length c'] 52)) w6.heap.size #[.int .u32 y.num, .int .u64 (L : Nat), .int .i64 y.kind, .string y.head, .slice a' y.slots.length c'] 52 ∧ V3.heap.size ≤ w6.heap.size ∧ StrsFrom V3.heap.size (w6.alloc (.cells #[.int .u32 y.num, .int .u64 (L : Nat), .int .i64 y.kind, .string y.head, .slice a' y.slots.length c'] 52)) a' y.slots ∧ ∀ g k, a' = some ⟨g, k, none⟩ → V3.heap.size ≤ g ∧ g < (w6.alloc (.cells #[.int .u32 y.num, .int .u64 (L : Nat), .int .i64 y.kind, .string y.head, .slice a' y.slots.length c'] 52)).heap.size) := by
      intro w6 a' c' b6 s6 g6
      have ba : Below w6.heap.size w6 (w6.alloc (.cells #[.int .u32 y.num, .int .u64 (L : Nat), .int .i64 y.kind, .string y.head, .slice a' y.slots.length c'] 52)) := (Below.refl _ _).alloc (Nat.le_refl _) _
      refine ⟨below_chain b6 ba, Blk.made _ _ _, b6.size, ?_, fun g k e => by have := g6 g k e; have := ba.size; omega⟩
      rcases s6 with hh | ⟨bb, oo, e, g1, g2, g3⟩
      · exact .inl hh
      · exact .inr ⟨bb, oo, e, g1, Nat.lt_of_lt_of_le g2 ba.size, fun i hi => (World.cell?_of_block (w := w6) (a := ⟨bb, oo + i, none⟩) (ba.block bb g2)).trans (g3 i hi)⟩
    have hx3 := HWS.out.2.2.1
    have ho3 := HWS.out.2.1
    have hkeep : ∀ wx wy : World, Below wx.heap.size wx wy → V3.heap.size ≤ wx.heap.size → (wx.cell? ⟨xb, 0, none⟩ = some (.int .u32 (x.num : Nat)) ∧ wx.cell? ⟨xb, 1, none⟩ = some (.int .u64 (x.lsn : Nat)) ∧ wx.cell? ⟨xb, 2, none⟩ = some (.int .i64 x.kind) ∧ wx.cell? ⟨xb, 3, none⟩ = some (.string x.head) ∧ wx.cell? ⟨xb, 4, none⟩ = some (.slice a x.slots.length c) ∧ wx.cell? ⟨ob, 0, none⟩ = some (.int .i64 o.kind) ∧ wx.cell? ⟨ob, 1, none⟩ = some (.int .i64 o.at') ∧ wx.cell? ⟨ob, 2, none⟩ = some (.string o.S) ∧ wx.cell? ⟨ob, 3, none⟩ = some (.string o.old)) → (wy.cell? ⟨xb, 0, none⟩ = some (.int .u32 (x.num : Nat)) ∧ wy.cell? ⟨xb, 1, none⟩ = some (.int .u64 (x.lsn : Nat)) ∧ wy.cell? ⟨xb, 2, none⟩ = some (.int .i64 x.kind) ∧ wy.cell? ⟨xb, 3, none⟩ = some (.string x.head) ∧ wy.cell? ⟨xb, 4, none⟩ = some (.slice a x.slots.length c) ∧ wy.cell? ⟨ob, 0, none⟩ = some (.int .i64 o.kind) ∧ wy.cell? ⟨ob, 1, none⟩ = some (.int .i64 o.at') ∧ wy.cell? ⟨ob, 2, none⟩ = some (.string o.S) ∧ wy.cell? ⟨ob, 3, none⟩ = some (.string o.old)) := by
      rintro wx wy b hz ⟨h0, h1, h2, h3, h4, h5, h6, h7, h8⟩
      exact ⟨(b.cell (p := ⟨xb, 0, none⟩) (by show xb < _; omega)).trans h0, (b.cell (p := ⟨xb, 1, none⟩) (by show xb < _; omega)).trans h1, (b.cell (p := ⟨xb, 2, none⟩) (by show xb < _; omega)).trans h2, (b.cell (p := ⟨xb, 3, none⟩) (by show xb < _; omega)).trans h3, (b.cell (p := ⟨xb, 4, none⟩) (by show xb < _; omega)).trans h4, (b.cell (p := ⟨ob, 0, none⟩) (by show ob < _; omega)).trans h5, (b.cell (p := ⟨ob, 1, none⟩) (by show ob < _; omega)).trans h6, (b.cell (p := ⟨ob, 2, none⟩) (by show ob < _; omega)).trans h7, (b.cell (p := ⟨ob, 3, none⟩) (by show ob < _; omega)).trans h8⟩
    have ne1 : xb ≠ V3.heap.size := by omega
    have ne2 : ob ≠ V3.heap.size := by omega
    have HEN1 := hida (HEN.out V3.drew ((Below.refl _ _).drew))
    have HEN2 := hida (HEN.out (V3.drew.alloc (.cells #[.int .u32 0, .int .u64 0, .int .i64 0, .string ⟨#[]⟩, .slice none 0 0] 52)) (((Below.refl _ _).drew).alloc (Nat.le_refl _) _))
    clear H3 HEN0 HM HAI HFT HNM HEN hx3 ho3
    go_region_held3 (fun w' => w'.cell? ⟨xb, 0, none⟩ = some (.int .u32 (x.num : Nat)) ∧ w'.cell? ⟨xb, 1, none⟩ = some (.int .u64 (x.lsn : Nat)) ∧ w'.cell? ⟨xb, 2, none⟩ = some (.int .i64 x.kind) ∧ w'.cell? ⟨xb, 3, none⟩ = some (.string x.head) ∧ w'.cell? ⟨xb, 4, none⟩ = some (.slice a x.slots.length c) ∧ w'.cell? ⟨ob, 0, none⟩ = some (.int .i64 o.kind) ∧ w'.cell? ⟨ob, 1, none⟩ = some (.int .i64 o.at') ∧ w'.cell? ⟨ob, 2, none⟩ = some (.string o.S) ∧ w'.cell? ⟨ob, 3, none⟩ = some (.string o.old))
      (first | go_keep | exact hkeep V3 _ c6 (Nat.le_refl _) ⟨x0, x1, x2, x3, x4, o0, o1, o2, o3⟩ | exact hkeep V3 _ (c6.alloc (by have := b6.size; simpa using this) _) (Nat.le_refl _) ⟨x0, x1, x2, x3, x4, o0, o1, o2, o3⟩ | exact hkeep V3 _ (below_set5 c6 (Nat.le_refl _) _ _ _ _ _) (Nat.le_refl _) ⟨x0, x1, x2, x3, x4, o0, o1, o2, o3⟩)
      (first
        | (go_at_call 26; refine HEN1.out.mono ?_; rintro e w5 ⟨rfl, rfl⟩)
        | (go_at_call 26; refine HEN2.out.mono ?_; rintro e w5 ⟨rfl, rfl⟩)
        | (go_at_call 20; refine (HAP.out (V3.drew.alloc (.cells #[.int .u32 0, .int .u64 0, .int .i64 0, .string ⟨#[]⟩, .slice none 0 0] 52)) (((Below.refl _ _).drew).alloc (Nat.le_refl _) _)).mono ?_; rintro e w6 ⟨a', c', rfl, b6, s6, g6⟩; have HG6 := hida (HF1.out w6 a' c' b6 s6 g6); have c6 : Below V3.heap.size V3 w6 := below_chain (((Below.refl V3.heap.size V3).drew).alloc (Nat.le_refl _) _) b6; have n0 := HG6.out.1.cell 0; have n1 := HG6.out.1.cell 1; have n2 := HG6.out.1.cell 2; have n3 := HG6.out.1.cell 3; have n4 := HG6.out.1.cell 4; have m0 := HG6.out.1.frozen 0; have m1 := HG6.out.1.frozen 1; have m2 := HG6.out.1.frozen 2; have m3 := HG6.out.1.frozen 3; have m4 := HG6.out.1.frozen 4)
        | (go_at_call 20; refine (HAP.out V3.drew ((Below.refl _ _).drew)).mono ?_; rintro e w6 ⟨a', c', rfl, b6, s6, g6⟩; have HG6 := hida (HF2.out w6 a' c' (below_chain ((Below.refl V3.heap.size V3).drew) b6) s6 g6); have c6 : Below V3.heap.size V3 w6 := below_chain ((Below.refl V3.heap.size V3).drew) b6))
    all_goals
      go_wp2_with fail
      go_meet
      case rel =>
        first
          | exact ⟨_, a', c', rfl, rfl, HG6⟩
          | exact ⟨_, a', c', rfl, rfl, hida HG6.out.2⟩
  obtain ⟨yb, a', c', rfl, rfl, H4⟩ := hcut
  have hyb : ¬ A2 yb ∧ ¬ S2 yb := ⟨fun z => by have := H3.out.1.lt z; have := H4.out.2.2.1; omega, fun z => by have := H3.out.2.1.pool.lt z; have := H4.out.2.2.1; omega⟩
  have HW4 := hida (show RdS w wc p q A2 l d rs sure j ∧ PoAt w wc A2 p q pp S2 (ofG P n) ∧ Blk wc ob #[.int .i64 o.kind, .int .i64 o.at', .string o.S, .string o.old] 58 from ⟨H3.out.1.below H4.out.1, H3.out.2.1.below H4.out.1, H3.out.2.2.1.same (H4.out.1.block _ H3.out.2.2.1.lt)⟩)
  have HOF := hida (show ∀ g k, a' = some ⟨g, k, none⟩ → ¬ A2 g ∧ ¬ S2 g ∧ g < wc.heap.size from fun g k e => by
    have hg := H4.out.2.2.2.2 g k e
    exact ⟨fun z => by have := H3.out.1.lt z; omega, fun z => by have := H3.out.2.1.pool.lt z; omega, hg.2⟩)
  have HEC : Hid (Calls Tryz.prog 76 #[.agg #[.int .i64 1, .int .i64 1, .int .u64 0, .int .u64 0, .int .u32 n, .int .i64 o.kind, .int .i64 o.at', .string o.S, .string o.old, .int .i64 0, .int .i64 0, .string ⟨#[]⟩, .int .u32 0, .int .i64 0, .bool false, .slice none 0 0, .slice none 0 0]] wc fun e w' => e = .returned (.tuple #[.string (textR (chgR n o)), .int .i64 0]) ∧ Below wc.heap.size wc w') := HEN0.out none none 0 0 wc (chgR_ok (by omega) ho wc) HM.out (chgR_wide n o)
  have HYB := hida hyb
  have HPO := hida (textR_pos (chgR n o))
  have HMX : Hid ((textR (chgR n o)).size ≤ 8192) := by show _ ≤ _; rw [textR_size]; exact encR_8192 (may_parts HM.out)
  have HYF := hida (HAI.out.1 rfl)
  clear H3 HEN HAP HWS x0 x1 x2 x3 x4 o0 o1 o2 o3 HEN0 HM HAI HFT hyb
  have o0 : wc.cell? ⟨ob, 0, none⟩ = some (.int .i64 o.kind) := HW4.out.2.2.cell 0
  have o1 : wc.cell? ⟨ob, 1, none⟩ = some (.int .i64 o.at') := HW4.out.2.2.cell 1
  have o2 : wc.cell? ⟨ob, 2, none⟩ = some (.string o.S) := HW4.out.2.2.cell 2
  have o3 : wc.cell? ⟨ob, 3, none⟩ = some (.string o.old) := HW4.out.2.2.cell 3
  go_wp2_with fail
  refine HEC.out.mono ?_
  rintro e w5 ⟨rfl, b5⟩
  obtain ⟨s, HS⟩ : ∃ s, Hid (textR (chgR n o) = s) := ⟨_, rfl⟩
  rw [HS.out] at HPO HMX ⊢
  have HAPP := hida (rd_append (HW4.out.1.below b5) (by omega) s HPO.out HMX.out (by have := HMX.out; omega))
  have HP5 := hida (HW4.out.2.1.below b5)
  have HY5 := hida (show Blk w5 yb #[.int .u32 y.num, .int .u64 (L : Nat), .int .i64 y.kind, .string y.head, .slice a' y.slots.length c'] 52 ∧ StrsAt w5 a' y.slots ∧ yb < w5.heap.size from ⟨H4.out.2.1.same (b5.block _ H4.out.2.1.lt), H4.out.2.2.2.1.at.below b5, Nat.lt_of_lt_of_le H4.out.2.1.lt b5.size⟩)
  have HO5 := hida (show ∀ g k, a' = some ⟨g, k, none⟩ → ¬ A2 g ∧ ¬ S2 g ∧ g < w5.heap.size from fun g k e => ⟨(HOF.out g k e).1, (HOF.out g k e).2.1, Nat.lt_of_lt_of_le (HOF.out g k e).2.2 b5.size⟩)
  clear HEC HW4 H4 HOF b5 o0 o1 o2 o3
  rw [HL.out] at HAPP
  go_wp2_with fail
  refine HAPP.out.mono ?_
  rintro e w6 ⟨rfl, A6, l6, r6, mv6⟩
  have hy6 := mv6.off HY5.out.2.2 HYB.out.1
  have hst6 : StrsAt w6 a' y.slots := by
    rcases HY5.out.2.1 with hh | ⟨bb, oo, e, g2, g3⟩
    · exact .inl hh
    · exact .inr ⟨bb, oo, e, Nat.lt_of_lt_of_le g2 mv6.1.size, fun i hi => (World.cell?_of_block (w := w5) (a := ⟨bb, oo + i, none⟩) (mv6.off g2 (HO5.out bb oo e).1).1).trans (g3 i hi)⟩
  have hoff6 : ∀ bb oo, a' = some ⟨bb, oo, none⟩ → ¬ (S2 bb ∨ A6 bb) := fun bb oo e z => by
    obtain ⟨g1, g2, g3⟩ := HO5.out bb oo e
    rcases z with z | z
    · exact g2 z
    · exact (mv6.off g3 g1).2 z
  have HOG := ofG_has P n
  have eN : y.num = n := HYF.out.2.trans HNM.out
  have hplb : L < 18446744073709551616 := by have := HL.out; omega
  have hfy : ({ y with lsn := L } : SheetV).Fits := by
    obtain ⟨f1, f2, f3, f4, f5, f6, f7⟩ := HYF.out.1
    exact ⟨f1, hplb, f3, f4, f5, f6, f7⟩
  have HPU : Hid (Calls Tryz.prog 18 #[.pointer (some ⟨pp, 0, none⟩), .agg #[.int .u32 y.num, .int .u64 (L : Nat), .int .i64 y.kind, .string y.head, .slice a' y.slots.length c']] w6 fun e w' => e = .returned (.int .i64 0) ∧ Stp w w6 w' p q pp A6 S2 l6 d (rs ++ [s]) sure (j + 1) (putP (ofG P n) { y with lsn := L })) :=
    rd_put r6 (HP5.out.log mv6) { y with lsn := L } a' c' hfy hst6 hoff6 (by show 1 ≤ y.num; omega) (by show y.num ≤ 64; omega) (fun hh => absurd (by have h3 : (ofG P n).F y.num = none := hh; rw [eN] at h3; exact h3) HOG.1) (by omega) (by omega)
  have HY6 := hida (HY5.out.1.same hy6.1)
  clear HAPP HP5 HY5 HO5 mv6 r6 hy6 hst6 hoff6 HOG eN hfy HYB HPO HMX HYF HNM hplb
  have y0 : w6.cell? ⟨yb, 0, none⟩ = some (.int .u32 (y.num : Nat)) := HY6.out.cell 0
  have y1 : w6.cell? ⟨yb, 1, none⟩ = some (.int .u64 (L : Nat)) := HY6.out.cell 1
  have y2 : w6.cell? ⟨yb, 2, none⟩ = some (.int .i64 y.kind) := HY6.out.cell 2
  have y3 : w6.cell? ⟨yb, 3, none⟩ = some (.string y.head) := HY6.out.cell 3
  have y4 : w6.cell? ⟨yb, 4, none⟩ = some (.slice a' y.slots.length c') := HY6.out.cell 4
  clear HY6
  go_wp2_with fail
  refine HPU.out.mono ?_
  rintro e w7 ⟨rfl, A7, S7, r7, p7, _⟩
  have HF := hida (show RdS w w7 p q A7 l6 d (rs ++ [s]) sure (j + 1) ∧ PoAt w w7 A7 p q pp S7 (putP (ofG P n) { y with lsn := L }) from ⟨r7, p7⟩)
  clear HPU r7 p7 y0 y1 y2 y3 y4
  go_wp2_with fail
  go_ret
  exact ⟨rfl, A7, S7, l6, by rw [HS.out]; exact HF.out.1, by rw [HL.out]; exact HF.out.2⟩

end Go.Proofs.YtgkfdakieebnmaaGreat
