/-
  The walk of girderlaw05's model's find.
-/
import Derived.Test.YthmhigjdjclckaaWalModel2C
namespace Go.Proofs.Ythmhigjdjclckaa
open Go.RowKit
set_option linter.unusedVariables false

/-- Which record begins at a place. -/
def Begins (rs : List ByteArray) (x : Nat) (v : Int) : Prop :=
  (v = -1 ∧ ∀ i, i < rs.length → placeOf rs i ≠ x) ∨ ∃ i : Nat, v = (i : Int) ∧ i < rs.length ∧ placeOf rs i = x

set_option maxHeartbeats 400000 in
set_option maxRecDepth 8000 in
theorem mfind_any (w : World) (a : Option Addr) (cap : Nat) (rs : List ByteArray) (sure kept mark : Int) (x : Nat) (hT : TextsAt w a rs) (hs : Sized rs) (hn : rs.length ≤ 400000) :
    Calls Try.prog 32 #[.agg #[.slice a rs.length cap, .int .i64 sure, .int .i64 kept, .int .u64 mark], .int .u64 x] w fun e w' => (∃ v, e = .returned (.int .i64 v) ∧ Begins rs x v) ∧ Below w.heap.size w w' := by
  have hW1 : Below w.heap.size w (w.alloc (.cells #[.slice a rs.length cap, .int .i64 sure, .int .i64 kept, .int .u64 mark] 34)) := (Below.refl _ _).alloc (Nat.le_refl _) _
  have hb1 : Blk (w.alloc (.cells #[.slice a rs.length cap, .int .i64 sure, .int .i64 kept, .int .u64 mark] 34)) w.heap.size #[.slice a rs.length cap, .int .i64 sure, .int .i64 kept, .int .u64 mark] 34 := Blk.made _ _ _
  have HM := hid (at_any _ a cap rs sure kept mark (hT.below hW1) hs (by omega))
  have hz1' : (w.alloc (.cells #[.slice a rs.length cap, .int .i64 sure, .int .i64 kept, .int .u64 mark] 34)).heap.size = w.heap.size + 1 := by simp
  go_enter Try.func32, Try.ntmps32
  go_wp2_with fail
  refine HM.out.mono ?_
  rintro e w5 ⟨g, c, rfl, b5, hc5⟩
  have hblk := hb1.same (b5.block w.heap.size (by omega))
  have c0 : w5.cell? ⟨w.heap.size, 0, none⟩ = some (.slice a rs.length cap) := hblk.cell 0
  have HB5 := hid (below_chain hW1 b5)
  have HC5 := hid hc5
  clear hblk b5 hc5 hb1 hW1 HM hT hs
  go_wp2_with fail
  go_loopw [6] (fun y wr => ∃ k : Nat, k ≤ rs.length ∧ y = .int .i64 k ∧ wr = w5 ∧ Hid (∀ i, i < k → placeOf rs i ≠ x)) (fun y _ => rs.length - (intOf y).toNat)
  case atStart => exact ⟨0, Nat.zero_le _, rfl, rfl, fun i hi => absurd hi (Nat.not_lt_zero _)⟩
  case round =>
    obtain ⟨k, hk, rfl, rfl, HN⟩ := hrel
    by_cases hlt : k < rs.length
    · have ck := HC5.out k hk
      have d1 : decide ((k : Int) < (rs.length : Int)) = true := by simp; omega
      have i2 : (k : Int) < (rs.length : Int) + 1 := by omega
      by_cases he : placeOf rs k = x
      · have e1 : (((placeOf rs k : Nat) : Int) == (x : Int)) = true := by simp [he]
        have HE := hid he
        clear he
        go_wp2_with fail
        go_ret
        exact ⟨⟨(k : Int), rfl, .inr ⟨k, rfl, hlt, HE.out⟩⟩, HB5.out⟩
      · have e1 : (((placeOf rs k : Nat) : Int) == (x : Int)) = false := by rw [beq_eq_false_iff_ne]; omega
        go_wp2_with fail
        exact ⟨⟨k + 1, by omega, by simp, trivial, fun i hi => by
          by_cases e : i = k
          · rw [e]; exact he
          · exact HN.out i (by omega)⟩, by simp [intOf]; omega⟩
    · obtain rfl : k = rs.length := by omega
      go_wp2_with fail
      go_ret
      exact ⟨⟨-1, rfl, .inl ⟨rfl, HN.out⟩⟩, HB5.out⟩

end Go.Proofs.Ythmhigjdjclckaa
