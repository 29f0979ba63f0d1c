/-
  The walks of girderlaw05's model: room, find, put.
-/
import Derived.Test.YthmhigjdjclckaaWalModelC
namespace Go.Proofs.Ythmhigjdjclckaa
open Go.RowKit
set_option linter.unusedVariables false

set_option maxHeartbeats 400000 in
set_option maxRecDepth 8000 in
theorem mroom_any (w : World) (a : Option Addr) (cap : Nat) (rs : List ByteArray) (sure kept mark : Int) (hT : TextsAt w a rs) (hs : Sized rs) (hn : rs.length ≤ 400000) :
    Calls Try.prog 28 #[.agg #[.slice a rs.length cap, .int .i64 sure, .int .i64 kept, .int .u64 mark]] w fun e w' => e = .returned (.int .i64 ((4194305 : Int) - (placeOf rs rs.length : Nat))) ∧ Below w.heap.size w w' := by
  have hps := placeOf_le rs hs rs.length (Nat.le_refl _)
  have hpp := placeOf_pos rs rs.length
  have hW1 : Below w.heap.size w (w.alloc (.cells #[.slice a rs.length cap, .int .i64 sure, .int .i64 kept, .int .u64 mark] 34)) := (Below.refl _ _).alloc (Nat.le_refl _) _
  have hb1 : Blk (w.alloc (.cells #[.slice a rs.length cap, .int .i64 sure, .int .i64 kept, .int .u64 mark] 34)) w.heap.size #[.slice a rs.length cap, .int .i64 sure, .int .i64 kept, .int .u64 mark] 34 := Blk.made _ _ _
  go_enter Try.func28, Try.ntmps28
  go_wp2_with fail
  have hz1' : (w.alloc (.cells #[.slice a rs.length cap, .int .i64 sure, .int .i64 kept, .int .u64 mark] 34)).heap.size = w.heap.size + 1 := by simp
  generalize w.alloc (.cells #[.slice a rs.length cap, .int .i64 sure, .int .i64 kept, .int .u64 mark] 34) = W1 at *
  have c0 : W1.cell? ⟨w.heap.size, 0, none⟩ = some (.slice a rs.length cap) := hb1.cell 0
  have c1 : W1.cell? ⟨w.heap.size, 1, none⟩ = some (.int .i64 sure) := hb1.cell 1
  have c2 : W1.cell? ⟨w.heap.size, 2, none⟩ = some (.int .i64 kept) := hb1.cell 2
  have c3 : W1.cell? ⟨w.heap.size, 3, none⟩ = some (.int .u64 mark) := hb1.cell 3
  have HM : Hid (Calls Try.prog 30 #[.agg #[.slice a rs.length cap, .int .i64 sure, .int .i64 kept, .int .u64 mark]] W1.drew fun e w' => ∃ g c, e = .returned (.slice (some ⟨g, 0, none⟩) (rs.length + 1) c) ∧ Below W1.drew.heap.size W1.drew w' ∧ (∀ i, i ≤ rs.length → w'.cell? ⟨g, i, none⟩ = some (.int .u64 (placeOf rs i : Nat)))) :=
    at_any W1.drew a cap rs sure kept mark ((hT.below hW1).below ((Below.refl _ _).drew)) hs (by omega)
  have HK : Hid (∀ w5, Below W1.drew.heap.size W1.drew w5 → w5.cell? ⟨w.heap.size, 0, none⟩ = some (.slice a rs.length cap)) := fun w5 b => (World.cell?_of_block (w := W1) (a := ⟨w.heap.size, 0, none⟩) (b.block w.heap.size (by show w.heap.size < W1.heap.size; omega))).trans c0
  have HW := hid hW1
  have i1 : (rs.length : Int) < ((rs.length + 1 : Nat) : Int) := by omega
  have i2 : (rs.length : Int) < (rs.length : Int) + 1 := by omega
  have q1 : IntKind.u64.wrap ((placeOf rs rs.length : Nat) - 1 : Int) = (placeOf rs rs.length : Nat) - 1 := by rw [IntKind.wrap_u64]; omega
  have q2 : IntKind.i64.wrap ((placeOf rs rs.length : Nat) - 1 : Int) = (placeOf rs rs.length : Nat) - 1 := by rw [IntKind.wrap_i64]; omega
  have q3 : IntKind.i64.wrap (4194304 - ((placeOf rs rs.length : Nat) - 1 : Int)) = 4194304 - ((placeOf rs rs.length : Nat) - 1 : Int) := by rw [IntKind.wrap_i64]; omega
  have HE : Hid (4194304 - ((placeOf rs rs.length : Nat) - 1 : Int) = (4194305 : Int) - (placeOf rs rs.length : Nat)) := by show _ = _; omega
  clear hb1 hW1 hT hs
  go_region_law (go_simp; go_at_call 30; refine HM.out.mono ?_; rintro x w5 ⟨g, c, rfl, b5, hc5⟩; have hr5 := hc5 rs.length (Nat.le_refl _); have hk5 := HK.out _ b5; have HB5 := hid b5; clear b5 hc5)
  all_goals
    go_wp2
    go_ret
    exact ⟨ret_int HE.out, below_chain HW.out (((Below.refl _ _).drew).trans HB5.out)⟩

end Go.Proofs.Ythmhigjdjclckaa
