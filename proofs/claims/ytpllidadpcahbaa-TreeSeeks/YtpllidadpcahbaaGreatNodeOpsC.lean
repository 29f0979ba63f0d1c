/-
  The walks of node.FormatLeaf, FormatInner, Link, set, PutChild, Take.
-/
import Derived.Test.YtpllidadpcahbaaGreatNodeLeafC
import Derived.Test.YtpllidadpcahbaaGreatNodeBytesC
import Derived.Test.YtpllidadpcahbaaGreatPageOpsC
import Derived.Test.YtpllidadpcahbaaGreatCloneC
import Derived.Deep.RegionHeld3
namespace Go.Proofs.YtpllidadpcahbaaGreat
open Go.RowKit
set_option linter.unusedVariables false
set_option linter.unusedSimpArgs false

def opFmtN (k : Int) (S : ByteArray) : OpV := ⟨1, k, S, ⟨#[]⟩⟩
def num4 (n : Nat) : ByteArray := ⟨(putL n 4).toArray⟩
def num1 (n : Nat) : ByteArray := ⟨(putL n 1).toArray⟩
def op0 : OpV := ⟨0, 0, ⟨#[]⟩, ⟨#[]⟩⟩

/-- A new box of a change that holds nothing. -/
abbrev opCells : Obj := .cells #[.int .i64 0, .int .i64 0, .string ⟨#[]⟩, .string ⟨#[]⟩] 68

/-- The box of a change is there, and may be written. -/
structure OpBox (w : World) (b : Nat) : Prop where
  z0 : w.cell? ⟨b, 0, none⟩ = some (.int .i64 0)
  z1 : w.cell? ⟨b, 1, none⟩ = some (.int .i64 0)
  z2 : w.cell? ⟨b, 2, none⟩ = some (.string ⟨#[]⟩)
  z3 : w.cell? ⟨b, 3, none⟩ = some (.string ⟨#[]⟩)
  g0 : w.frozen? ⟨b, 0, none⟩ = false
  g1 : w.frozen? ⟨b, 1, none⟩ = false
  g2 : w.frozen? ⟨b, 2, none⟩ = false
  g3 : w.frozen? ⟨b, 3, none⟩ = false

theorem OpBox.new (w : World) : OpBox (w.alloc opCells) w.heap.size := ⟨by simp, by simp, by simp, by simp, by simp, by simp, by simp, by simp⟩

theorem OpBox.below {w w' : World} {b B : Nat} (h : OpBox w b) (k : Below B w w') (hb : b < B) : OpBox w' b :=
  ⟨(k.cell (p := ⟨b, 0, none⟩) hb).trans h.z0, (k.cell (p := ⟨b, 1, none⟩) hb).trans h.z1, (k.cell (p := ⟨b, 2, none⟩) hb).trans h.z2, (k.cell (p := ⟨b, 3, none⟩) hb).trans h.z3,
    (k.frozen (p := ⟨b, 0, none⟩) hb).trans h.g0, (k.frozen (p := ⟨b, 1, none⟩) hb).trans h.g1, (k.frozen (p := ⟨b, 2, none⟩) hb).trans h.g2, (k.frozen (p := ⟨b, 3, none⟩) hb).trans h.g3⟩

theorem below_put4 {B : Nat} {w wx : World} {b : Nat} (h : Below B w wx) (hb : B ≤ b) (v0 v1 v2 v3 : Value) : Below B w ((((wx.setCell ⟨b, 0, none⟩ v0).setCell ⟨b, 1, none⟩ v1).setCell ⟨b, 2, none⟩ v2).setCell ⟨b, 3, none⟩ v3) :=
  (((h.setCell (p := ⟨b, 0, none⟩) hb v0).setCell (p := ⟨b, 1, none⟩) hb v1).setCell (p := ⟨b, 2, none⟩) hb v2).setCell (p := ⟨b, 3, none⟩) hb v3

set_option maxHeartbeats 800000 in
set_option maxRecDepth 60000 in
theorem formatLeaf_any (n : Nat) (w : World) (hn : n < 4294967296) :
    Calls Tryz.prog 24 #[.int .u32 n] w fun e w' => e = .returned (opFmtN 3 (num4 n)).val ∧ Below w.heap.size w w' := by
  have q1 : IntKind.u64.wrap (n : Int) = (n : Int) := by rw [IntKind.wrap_u64]; omega
  simp only [OpV.val, opFmtN]
  obtain ⟨W, HW⟩ : ∃ W, Hid (W = w.alloc opCells) := ⟨_, rfl⟩
  have oW : OpBox W w.heap.size := by rw [HW.out]; exact OpBox.new _
  have bW : Below w.heap.size w W := by rw [HW.out]; exact (Below.refl _ _).alloc (Nat.le_refl _) _
  have zW : w.heap.size < W.heap.size := by rw [HW.out]; simp
  have HP : Hid (Calls Tryz.prog 44 #[.int .u64 n, .int .i64 4] W fun e w' => e = .returned (.string (num4 n)) ∧ Below W.heap.size W w') := put_any n 4 W (by omega)
  go_enter Tryz.func24, Tryz.ntmps24
  go_wp2_with fail
  rw [← HW.out]
  clear HW
  refine HP.out.mono ?_
  rintro x wd ⟨rfl, bd⟩
  obtain ⟨z0, z1, z2, z3, g0, g1, g2, g3⟩ := oW.below bd zW
  have b2 := below_chain bW bd
  clear HP oW bW bd
  go_wp2
  refine bodyPost_ret (v := .agg #[.int .i64 1, .int .i64 3, .string (num4 n), .string ⟨#[]⟩]) (by simp [results, Tryz.results24, go_sem, z0, z1, z2, z3]) rfl ⟨rfl, ?_⟩
  exact below_put4 b2 (Nat.le_refl _) _ _ _ _

set_option maxHeartbeats 800000 in
set_option maxRecDepth 60000 in
theorem formatInner_any (n : Nat) (w : World) (hn : n < 4294967296) :
    Calls Tryz.prog 22 #[.int .i64 n] w fun e w' => e = .returned (opFmtN 4 (num1 n)).val ∧ Below w.heap.size w w' := by
  have q1 : IntKind.u64.wrap (n : Int) = (n : Int) := by rw [IntKind.wrap_u64]; omega
  simp only [OpV.val, opFmtN]
  obtain ⟨W, HW⟩ : ∃ W, Hid (W = w.alloc opCells) := ⟨_, rfl⟩
  have oW : OpBox W w.heap.size := by rw [HW.out]; exact OpBox.new _
  have bW : Below w.heap.size w W := by rw [HW.out]; exact (Below.refl _ _).alloc (Nat.le_refl _) _
  have zW : w.heap.size < W.heap.size := by rw [HW.out]; simp
  have HP : Hid (Calls Tryz.prog 44 #[.int .u64 n, .int .i64 1] W fun e w' => e = .returned (.string (num1 n)) ∧ Below W.heap.size W w') := put_any n 1 W (by omega)
  go_enter Tryz.func22, Tryz.ntmps22
  go_wp2_with fail
  rw [← HW.out]
  clear HW
  refine HP.out.mono ?_
  rintro x wd ⟨rfl, bd⟩
  obtain ⟨z0, z1, z2, z3, g0, g1, g2, g3⟩ := oW.below bd zW
  have b2 := below_chain bW bd
  clear HP oW bW bd
  go_wp2
  refine bodyPost_ret (v := .agg #[.int .i64 1, .int .i64 4, .string (num1 n), .string ⟨#[]⟩]) (by simp [results, Tryz.results22, go_sem, z0, z1, z2, z3]) rfl ⟨rfl, ?_⟩
  exact below_put4 b2 (Nat.le_refl _) _ _ _ _

def opChild (i : Nat) (x : ChildV) : OpV := ⟨2, i, x.bs, ⟨#[]⟩⟩

set_option maxHeartbeats 1600000 in
set_option maxRecDepth 60000 in
theorem putChild_any (i : Nat) (x : ChildV) (w : World) (hq : x.page < 4294967296) (hp : x.e.page < 4294967296) (hk : x.e.key.size ≤ 140737488351232) :
    Calls Tryz.prog 46 #[.int .i64 i, x.val] w fun e w' => e = .returned (opChild i x).val ∧ Below w.heap.size w w' := by
  have HC : Hid (∀ wx, Calls Tryz.prog 83 #[x.val] wx fun e w' => e = .returned (.string x.bs) ∧ Below wx.heap.size wx w') := fun wx => childBytes_any x wx hq hp hk
  simp only [OpV.val, opChild]
  generalize x.bs = X at *
  obtain ⟨Q, ⟨K, P, S⟩⟩ := x
  simp only [ChildV.val] at *
  obtain ⟨W, HW⟩ : ∃ W, Hid (W = (w.alloc (.cells #[.int .u32 Q, .string K, .int .u32 P, .int .i64 S] 74)).alloc opCells) := ⟨_, rfl⟩
  have oW : OpBox W (w.heap.size + 1) := by rw [HW.out]; have := OpBox.new (w.alloc (.cells #[.int .u32 Q, .string K, .int .u32 P, .int .i64 S] 74)); simpa using this
  have bW : Below w.heap.size w W := by rw [HW.out]; exact ((Below.refl _ _).alloc (Nat.le_refl _) _).alloc (by simp) _
  have zW : W.heap.size = w.heap.size + 2 := by rw [HW.out]; simp
  go_enter Tryz.func46, Tryz.ntmps46
  go_wp2_with fail
  rw [← HW.out]
  clear HW
  refine (HC.out _).mono ?_
  rintro x wd ⟨rfl, bd⟩
  obtain ⟨z0, z1, z2, z3, g0, g1, g2, g3⟩ := oW.below bd (by omega)
  have b2 := below_chain bW bd
  clear HC oW bW bd
  go_wp2
  refine bodyPost_ret (v := .agg #[.int .i64 2, .int .i64 i, .string X, .string ⟨#[]⟩]) (by simp [results, Tryz.results46, go_sem, z0, z1, z2, z3]) rfl ⟨rfl, ?_⟩
  exact below_put4 b2 (by omega) _ _ _ _

end Go.Proofs.YtpllidadpcahbaaGreat
