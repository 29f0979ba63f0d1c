/-
  The walks of node.FormatLeaf, FormatInner, Link, set, PutChild, Take.
-/
import Derived.Test.YtnljephojonilaaNodeLeafC
import Derived.Test.YtnljephojonilaaNodeBytesC
import Derived.Test.YtnljephojonilaaPageOpsC
import Derived.Test.YtnljephojonilaaCloneC
import Derived.Deep.RegionHeld3
namespace Go.Proofs.Ytnljephojonilaa
open Go.RowKit
set_option linter.unusedVariables false
set_option linter.unusedSimpArgs false

def opFmtN (k : Int) (S : ByteArray) : OpV := ⟨1, k, S, ⟨#[]⟩⟩
def num4 (n : Nat) : ByteArray := ⟨(putL n 4).toArray⟩
def num1 (n : Nat) : ByteArray := ⟨(putL n 1).toArray⟩
def op0 : OpV := ⟨0, 0, ⟨#[]⟩, ⟨#[]⟩⟩

/-- A new box of a change that holds nothing. -/
abbrev opCells : Obj := .cells #[.int .i64 0, .int .i64 0, .string ⟨#[]⟩, .string ⟨#[]⟩] 35

/-- The box of a change is there, and may be written. -/
structure OpBox (w : World) (b : Nat) : Prop where
  z0 : w.cell? ⟨b, 0, none⟩ = some (.int .i64 0)
  z1 : w.cell? ⟨b, 1, none⟩ = some (.int .i64 0)
  z2 : w.cell? ⟨b, 2, none⟩ = some (.string ⟨#[]⟩)
  z3 : w.cell? ⟨b, 3, none⟩ = some (.string ⟨#[]⟩)
  g0 : w.frozen? ⟨b, 0, none⟩ = false
  g1 : w.frozen? ⟨b, 1, none⟩ = false
  g2 : w.frozen? ⟨b, 2, none⟩ = false
  g3 : w.frozen? ⟨b, 3, none⟩ = false

theorem OpBox.new (w : World) : OpBox (w.alloc opCells) w.heap.size := ⟨by simp, by simp, by simp, by simp, by simp, by simp, by simp, by simp⟩

theorem OpBox.below {w w' : World} {b B : Nat} (h : OpBox w b) (k : Below B w w') (hb : b < B) : OpBox w' b :=
  ⟨(k.cell (p := ⟨b, 0, none⟩) hb).trans h.z0, (k.cell (p := ⟨b, 1, none⟩) hb).trans h.z1, (k.cell (p := ⟨b, 2, none⟩) hb).trans h.z2, (k.cell (p := ⟨b, 3, none⟩) hb).trans h.z3,
    (k.frozen (p := ⟨b, 0, none⟩) hb).trans h.g0, (k.frozen (p := ⟨b, 1, none⟩) hb).trans h.g1, (k.frozen (p := ⟨b, 2, none⟩) hb).trans h.g2, (k.frozen (p := ⟨b, 3, none⟩) hb).trans h.g3⟩

theorem below_put4 {B : Nat} {w wx : World} {b : Nat} (h : Below B w wx) (hb : B ≤ b) (v0 v1 v2 v3 : Value) : Below B w ((((wx.setCell ⟨b, 0, none⟩ v0).setCell ⟨b, 1, none⟩ v1).setCell ⟨b, 2, none⟩ v2).setCell ⟨b, 3, none⟩ v3) :=
  (((h.setCell (p := ⟨b, 0, none⟩) hb v0).setCell (p := ⟨b, 1, none⟩) hb v1).setCell (p := ⟨b, 2, none⟩) hb v2).setCell (p := ⟨b, 3, none⟩) hb v3

set_option maxHeartbeats 800000 in
set_option maxRecDepth 60000 in
theorem formatLeaf_any (n : Nat) (w : World) (hn : n < 4294967296) :
    Calls Try.prog 10 #[.int .u32 n] w fun e w' => e = .returned (opFmtN 3 (num4 n)).val ∧ Below w.heap.size w w' := by
  have q1 : IntKind.u64.wrap (n : Int) = (n : Int) := by rw [IntKind.wrap_u64]; omega
  simp only [OpV.val, opFmtN]
  obtain ⟨W, HW⟩ : ∃ W, Hid (W = w.alloc opCells) := ⟨_, rfl⟩
  have oW : OpBox W w.heap.size := by rw [HW.out]; exact OpBox.new _
  have bW : Below w.heap.size w W := by rw [HW.out]; exact (Below.refl _ _).alloc (Nat.le_refl _) _
  have zW : w.heap.size < W.heap.size := by rw [HW.out]; simp
  have HP : Hid (Calls Try.prog 37 #[.int .u64 n, .int .i64 4] W fun e w' => e = .returned (.string (num4 n)) ∧ Below W.heap.size W w') := put_any n 4 W (by omega)
  go_enter Try.func10, Try.ntmps10
  go_wp2_with fail
  rw [← HW.out]
  clear HW
  refine HP.out.mono ?_
  rintro x wd ⟨rfl, bd⟩
  obtain ⟨z0, z1, z2, z3, g0, g1, g2, g3⟩ := oW.below bd zW
  have b2 := below_chain bW bd
  clear HP oW bW bd
  go_wp2
  refine bodyPost_ret (v := .agg #[.int .i64 1, .int .i64 3, .string (num4 n), .string ⟨#[]⟩]) (by simp [results, Try.results10, go_sem, z0, z1, z2, z3]) rfl ⟨rfl, ?_⟩
  exact below_put4 b2 (Nat.le_refl _) _ _ _ _

set_option maxHeartbeats 800000 in
set_option maxRecDepth 60000 in
theorem formatInner_any (n : Nat) (w : World) (hn : n < 4294967296) :
    Calls Try.prog 21 #[.int .i64 n] w fun e w' => e = .returned (opFmtN 4 (num1 n)).val ∧ Below w.heap.size w w' := by
  have q1 : IntKind.u64.wrap (n : Int) = (n : Int) := by rw [IntKind.wrap_u64]; omega
  simp only [OpV.val, opFmtN]
  obtain ⟨W, HW⟩ : ∃ W, Hid (W = w.alloc opCells) := ⟨_, rfl⟩
  have oW : OpBox W w.heap.size := by rw [HW.out]; exact OpBox.new _
  have bW : Below w.heap.size w W := by rw [HW.out]; exact (Below.refl _ _).alloc (Nat.le_refl _) _
  have zW : w.heap.size < W.heap.size := by rw [HW.out]; simp
  have HP : Hid (Calls Try.prog 37 #[.int .u64 n, .int .i64 1] W fun e w' => e = .returned (.string (num1 n)) ∧ Below W.heap.size W w') := put_any n 1 W (by omega)
  go_enter Try.func21, Try.ntmps21
  go_wp2_with fail
  rw [← HW.out]
  clear HW
  refine HP.out.mono ?_
  rintro x wd ⟨rfl, bd⟩
  obtain ⟨z0, z1, z2, z3, g0, g1, g2, g3⟩ := oW.below bd zW
  have b2 := below_chain bW bd
  clear HP oW bW bd
  go_wp2
  refine bodyPost_ret (v := .agg #[.int .i64 1, .int .i64 4, .string (num1 n), .string ⟨#[]⟩]) (by simp [results, Try.results21, go_sem, z0, z1, z2, z3]) rfl ⟨rfl, ?_⟩
  exact below_put4 b2 (Nat.le_refl _) _ _ _ _

def opLink (p : SheetV) (n : Nat) : OpV := ⟨5, 0, num4 n, p.head⟩

set_option maxHeartbeats 1600000 in
set_option maxRecDepth 60000 in
theorem link_any (p : SheetV) (a : Option Addr) (c : Nat) (n : Nat) (w : World) (hn : n < 4294967296) (hh : p.head.size ≤ 140737488351232) :
    Calls Try.prog 18 #[p.val a c, .int .u32 n] w fun e w' => e = .returned (opLink p n).val ∧ Below w.heap.size w w' := by
  have q1 : IntKind.u64.wrap (n : Int) = (n : Int) := by rw [IntKind.wrap_u64]; omega
  obtain ⟨num, lsn, kind, hd, L⟩ := p
  simp only [OpV.val, opLink, SheetV.val] at hh ⊢
  obtain ⟨W, HW⟩ : ∃ W, Hid (W = (w.alloc (.cells #[.int .u32 num, .int .u64 lsn, .int .i64 kind, .string hd, .slice a L.length c] 29)).alloc opCells) := ⟨_, rfl⟩
  have oW : OpBox W (w.heap.size + 1) := by rw [HW.out]; have := OpBox.new (w.alloc (.cells #[.int .u32 num, .int .u64 lsn, .int .i64 kind, .string hd, .slice a L.length c] 29)); simpa using this
  have bW : Below w.heap.size w W := by rw [HW.out]; exact ((Below.refl _ _).alloc (Nat.le_refl _) _).alloc (by simp) _
  have zW : W.heap.size = w.heap.size + 2 := by rw [HW.out]; simp
  have x3 : W.cell? ⟨w.heap.size, 3, none⟩ = some (.string hd) := by rw [HW.out]; simp
  have HP : Hid (∀ wx, Calls Try.prog 37 #[.int .u64 n, .int .i64 4] wx fun e w' => e = .returned (.string (num4 n)) ∧ Below wx.heap.size wx w') := fun wx => put_any n 4 wx (by omega)
  have HC : Hid (∀ wx, Calls Try.prog 47 #[.string hd] wx fun e w' => e = .returned (.string hd) ∧ Below wx.heap.size wx w') := fun wx => clone_any hd wx (by omega)
  generalize num4 n = N4 at *
  go_enter Try.func18, Try.ntmps18
  go_wp2_with fail
  rw [← HW.out]
  clear HW
  go_region_held3 (fun wy => wy.cell? ⟨w.heap.size, 3, none⟩ = some (.string hd)) (first | go_keep | exact s1 | exact s2 | (rw [World.cell?_setCell_other _ _ _ _ (by intro q; have := congrArg Addr.block q; simp only at this; omega), World.cell?_setCell_other _ _ _ _ (by intro q; have := congrArg Addr.block q; simp only at this; omega), World.cell?_setCell_other _ _ _ _ (by intro q; have := congrArg Addr.block q; simp only at this; omega), World.cell?_setCell_other _ _ _ _ (by intro q; have := congrArg Addr.block q; simp only at this; omega)]; exact s2))
    (first
      | (go_at_call 37; refine (HP.out _).mono ?_; rintro x w1 ⟨rfl, b1⟩
         have b1' : Below W.heap.size W w1 := ⟨b1.os, b1.tape, b1.output, b1.size, b1.block⟩
         have s1 : w1.cell? ⟨w.heap.size, 3, none⟩ = some (.string hd) := (b1'.cell (p := ⟨w.heap.size, 3, none⟩) (by show w.heap.size < W.heap.size; omega)).trans x3
         have o1 := oW.below b1' (by omega)
         have B1 := hidn (bW.trans (b1'.mono (by omega)))
         have z1' := b1'.size
         clear b1 b1')
      | (go_at_call 47; refine (HC.out _).mono ?_; rintro x w2 ⟨rfl, b2⟩
         have s2 : w2.cell? ⟨w.heap.size, 3, none⟩ = some (.string hd) := (b2.cell (p := ⟨w.heap.size, 3, none⟩) (by show w.heap.size < w1.heap.size; omega)).trans s1
         obtain ⟨z0, z1, z2, z3, g0, g1, g2, g3⟩ := o1.below b2 (by omega)
         have B2 := hidn (B1.out.trans (b2.mono (by omega)))))
  go_wp2
  refine bodyPost_ret (v := .agg #[.int .i64 5, .int .i64 0, .string N4, .string hd]) (by simp [results, Try.results18, go_sem, z0, z1, z2, z3]) rfl ⟨rfl, ?_⟩
  exact below_put4 B2.out (by omega) _ _ _ _

def opSetN (p : SheetV) (i : Nat) (s : ByteArray) : OpV := ⟨4, i, s, p.slots.getD i ByteArray.empty⟩
def opTake (p : SheetV) (i : Nat) : OpV := ⟨3, i, ⟨#[]⟩, p.slots.getD i ByteArray.empty⟩

theorem slot_cell {p : SheetV} {w : World} {a : Option Addr} (hm : StrsAt w a p.slots) {i : Nat} (hi : i < p.slots.length) : ∃ b o, a = some ⟨b, o, none⟩ ∧ b < w.heap.size ∧ w.cell? ⟨b, o + i, none⟩ = some (.string (p.slots.getD i ByteArray.empty)) := by
  rcases hm with hm | ⟨b, o, e, hb, hc⟩
  · rw [hm] at hi; simp at hi
  · refine ⟨b, o, e, hb, ?_⟩
    rw [hc i hi, List.getD_eq_getElem?_getD, List.getElem?_eq_getElem hi]; rfl

theorem slot_size {p : SheetV} {M : Nat} (hs : ∀ s ∈ p.slots, s.size ≤ M) {i : Nat} (hi : i < p.slots.length) : (p.slots.getD i ByteArray.empty).size ≤ M := by
  rw [List.getD_eq_getElem?_getD, List.getElem?_eq_getElem hi]; exact hs _ (List.getElem_mem hi)

set_option maxHeartbeats 1600000 in
set_option maxRecDepth 60000 in
theorem setN_any (p : SheetV) (a : Option Addr) (c : Nat) (i : Nat) (s : ByteArray) (w : World) (hp : p.Ok w a) (hi : i < p.slots.length) :
    Calls Try.prog 45 #[p.val a c, .int .i64 i, .string s] w fun e w' => e = .returned (opSetN p i s).val ∧ Below w.heap.size w w' := by
  obtain ⟨bb, o, rfl, hb, hc⟩ := slot_cell hp.mem hi
  have hsz := slot_size hp.slots hi
  have hlen := hp.len
  clear hp
  obtain ⟨num, lsn, kind, hd, L⟩ := p
  simp only [OpV.val, opSetN, SheetV.val] at *
  generalize L.getD i ByteArray.empty = t at *
  obtain ⟨W, HW⟩ : ∃ W, Hid (W = (w.alloc (.cells #[.int .u32 num, .int .u64 lsn, .int .i64 kind, .string hd, .slice (some ⟨bb, o, none⟩) L.length c] 29)).alloc opCells) := ⟨_, rfl⟩
  have oW : OpBox W (w.heap.size + 1) := by rw [HW.out]; have := OpBox.new (w.alloc (.cells #[.int .u32 num, .int .u64 lsn, .int .i64 kind, .string hd, .slice (some ⟨bb, o, none⟩) L.length c] 29)); simpa using this
  have bW : Below w.heap.size w W := by rw [HW.out]; exact ((Below.refl _ _).alloc (Nat.le_refl _) _).alloc (by simp) _
  have zW : W.heap.size = w.heap.size + 2 := by rw [HW.out]; simp
  have x4 : W.cell? ⟨w.heap.size, 4, none⟩ = some (.slice (some ⟨bb, o, none⟩) L.length c) := by rw [HW.out]; simp
  have xc := (bW.cell (p := ⟨bb, o + i, none⟩) hb).trans hc
  have HC : Hid (∀ wx, Calls Try.prog 47 #[.string t] wx fun e w' => e = .returned (.string t) ∧ Below wx.heap.size wx w') := fun wx => clone_any t wx (by omega)
  have hi0 : (0 : Int) ≤ (i : Int) := by omega
  have hi1 : (i : Int) < (L.length : Int) := by omega
  go_enter Try.func45, Try.ntmps45
  go_wp2_with fail
  rw [← HW.out]
  clear HW
  refine (HC.out _).mono ?_
  rintro x wd ⟨rfl, bd⟩
  obtain ⟨z0, z1, z2, z3, g0, g1, g2, g3⟩ := oW.below bd (by omega)
  have b2 := below_chain bW bd
  clear HC oW bW bd
  go_wp2
  refine bodyPost_ret (v := .agg #[.int .i64 4, .int .i64 i, .string s, .string t]) (by simp [results, Try.results45, go_sem, z0, z1, z2, z3]) rfl ⟨rfl, ?_⟩
  exact below_put4 b2 (by omega) _ _ _ _

set_option maxHeartbeats 1600000 in
set_option maxRecDepth 60000 in
theorem take_yes (p : SheetV) (a : Option Addr) (c : Nat) (i : Nat) (w : World) (hp : p.Ok w a) (hi : i < p.slots.length) :
    Calls Try.prog 17 #[p.val a c, .int .i64 i] w fun e w' => e = .returned (.tuple #[(opTake p i).val, .int .i64 0]) ∧ Below w.heap.size w w' := by
  obtain ⟨bb, o, rfl, hb, hc⟩ := slot_cell hp.mem hi
  have hsz := slot_size hp.slots hi
  have hlen := hp.len
  clear hp
  obtain ⟨num, lsn, kind, hd, L⟩ := p
  simp only [OpV.val, opTake, SheetV.val] at *
  generalize L.getD i ByteArray.empty = t at *
  obtain ⟨W, HW⟩ : ∃ W, Hid (W = (w.alloc (.cells #[.int .u32 num, .int .u64 lsn, .int .i64 kind, .string hd, .slice (some ⟨bb, o, none⟩) L.length c] 29)).alloc opCells) := ⟨_, rfl⟩
  have oW : OpBox W (w.heap.size + 1) := by rw [HW.out]; have := OpBox.new (w.alloc (.cells #[.int .u32 num, .int .u64 lsn, .int .i64 kind, .string hd, .slice (some ⟨bb, o, none⟩) L.length c] 29)); simpa using this
  have bW : Below w.heap.size w W := by rw [HW.out]; exact ((Below.refl _ _).alloc (Nat.le_refl _) _).alloc (by simp) _
  have zW : W.heap.size = w.heap.size + 2 := by rw [HW.out]; simp
  have x4 : W.cell? ⟨w.heap.size, 4, none⟩ = some (.slice (some ⟨bb, o, none⟩) L.length c) := by rw [HW.out]; simp
  have xc := (bW.cell (p := ⟨bb, o + i, none⟩) hb).trans hc
  have HC : Hid (∀ wx, Calls Try.prog 47 #[.string t] wx fun e w' => e = .returned (.string t) ∧ Below wx.heap.size wx w') := fun wx => clone_any t wx (by omega)
  have hi0 : (0 : Int) ≤ (i : Int) := by omega
  have hi1 : (i : Int) < (L.length : Int) := by omega
  go_enter Try.func17, Try.ntmps17
  go_wp2_with fail
  rw [← HW.out]
  clear HW
  refine (HC.out _).mono ?_
  rintro x wd ⟨rfl, bd⟩
  obtain ⟨z0, z1, z2, z3, g0, g1, g2, g3⟩ := oW.below bd (by omega)
  have b2 := below_chain bW bd
  clear HC oW bW bd
  go_wp2
  refine bodyPost_ret (v := .tuple #[.agg #[.int .i64 3, .int .i64 i, .string ⟨#[]⟩, .string t], .int .i64 0]) (by simp [results, Try.results17, go_sem, z0, z1, z2, z3]) rfl ⟨rfl, ?_⟩
  exact below_put4 b2 (by omega) _ _ _ _

set_option maxHeartbeats 1600000 in
set_option maxRecDepth 60000 in
theorem take_no (p : SheetV) (a : Option Addr) (c : Nat) (i : Int) (w : World) (hi : i < 0 ∨ (p.slots.length : Int) ≤ i) :
    Calls Try.prog 17 #[p.val a c, .int .i64 i] w fun e w' => e = .returned (.tuple #[op0.val, .int .i64 2]) ∧ Below w.heap.size w w' := by
  obtain ⟨num, lsn, kind, hd, L⟩ := p
  simp only [OpV.val, op0, SheetV.val] at *
  obtain ⟨W, HW⟩ : ∃ W, Hid (W = (w.alloc (.cells #[.int .u32 num, .int .u64 lsn, .int .i64 kind, .string hd, .slice a L.length c] 29)).alloc opCells) := ⟨_, rfl⟩
  have oW : OpBox W (w.heap.size + 1) := by rw [HW.out]; have := OpBox.new (w.alloc (.cells #[.int .u32 num, .int .u64 lsn, .int .i64 kind, .string hd, .slice a L.length c] 29)); simpa using this
  have bW : Below w.heap.size w W := by rw [HW.out]; exact ((Below.refl _ _).alloc (Nat.le_refl _) _).alloc (by simp) _
  obtain ⟨z0, z1, z2, z3, g0, g1, g2, g3⟩ := oW
  have x4 : W.cell? ⟨w.heap.size, 4, none⟩ = some (.slice a L.length c) := by rw [HW.out]; simp
  by_cases h0 : i < 0
  · go_enter Try.func17, Try.ntmps17
    go_wp2_with (rw [← HW.out])
    refine bodyPost_ret (v := .tuple #[.agg #[.int .i64 0, .int .i64 0, .string ⟨#[]⟩, .string ⟨#[]⟩], .int .i64 2]) (by simp [results, Try.results17, go_sem, z0, z1, z2, z3]) rfl ⟨rfl, ?_⟩
    first
      | exact below_put4 bW (by omega) _ _ _ _
      | exact below_put4 (((Below.refl _ _).alloc (Nat.le_refl _) _).alloc (by simp) _) (by omega) _ _ _ _
      | exact (((Below.refl _ _).alloc (Nat.le_refl _) _).alloc (by simp) _)
  · have h1 : (L.length : Int) ≤ i := by omega
    go_enter Try.func17, Try.ntmps17
    go_wp2_with (rw [← HW.out])
    refine bodyPost_ret (v := .tuple #[.agg #[.int .i64 0, .int .i64 0, .string ⟨#[]⟩, .string ⟨#[]⟩], .int .i64 2]) (by simp [results, Try.results17, go_sem, z0, z1, z2, z3]) rfl ⟨rfl, ?_⟩
    first
      | exact below_put4 bW (by omega) _ _ _ _
      | exact below_put4 (((Below.refl _ _).alloc (Nat.le_refl _) _).alloc (by simp) _) (by omega) _ _ _ _
      | exact (((Below.refl _ _).alloc (Nat.le_refl _) _).alloc (by simp) _)

def opChild (i : Nat) (x : ChildV) : OpV := ⟨2, i, x.bs, ⟨#[]⟩⟩

set_option maxHeartbeats 1600000 in
set_option maxRecDepth 60000 in
theorem putChild_any (i : Nat) (x : ChildV) (w : World) (hq : x.page < 4294967296) (hp : x.e.page < 4294967296) (hk : x.e.key.size ≤ 140737488351232) :
    Calls Try.prog 23 #[.int .i64 i, x.val] w fun e w' => e = .returned (opChild i x).val ∧ Below w.heap.size w w' := by
  have HC : Hid (∀ wx, Calls Try.prog 49 #[x.val] wx fun e w' => e = .returned (.string x.bs) ∧ Below wx.heap.size wx w') := fun wx => childBytes_any x wx hq hp hk
  simp only [OpV.val, opChild]
  generalize x.bs = X at *
  obtain ⟨Q, ⟨K, P, S⟩⟩ := x
  simp only [ChildV.val] at *
  obtain ⟨W, HW⟩ : ∃ W, Hid (W = (w.alloc (.cells #[.int .u32 Q, .string K, .int .u32 P, .int .i64 S] 63)).alloc opCells) := ⟨_, rfl⟩
  have oW : OpBox W (w.heap.size + 1) := by rw [HW.out]; have := OpBox.new (w.alloc (.cells #[.int .u32 Q, .string K, .int .u32 P, .int .i64 S] 63)); simpa using this
  have bW : Below w.heap.size w W := by rw [HW.out]; exact ((Below.refl _ _).alloc (Nat.le_refl _) _).alloc (by simp) _
  have zW : W.heap.size = w.heap.size + 2 := by rw [HW.out]; simp
  go_enter Try.func23, Try.ntmps23
  go_wp2_with fail
  rw [← HW.out]
  clear HW
  refine (HC.out _).mono ?_
  rintro x wd ⟨rfl, bd⟩
  obtain ⟨z0, z1, z2, z3, g0, g1, g2, g3⟩ := oW.below bd (by omega)
  have b2 := below_chain bW bd
  clear HC oW bW bd
  go_wp2
  refine bodyPost_ret (v := .agg #[.int .i64 2, .int .i64 i, .string X, .string ⟨#[]⟩]) (by simp [results, Try.results23, go_sem, z0, z1, z2, z3]) rfl ⟨rfl, ?_⟩
  exact below_put4 b2 (by omega) _ _ _ _

end Go.Proofs.Ytnljephojonilaa
