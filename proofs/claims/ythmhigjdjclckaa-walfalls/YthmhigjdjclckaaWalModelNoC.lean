/-
  The walk of girderlaw05's model's put where the record may not be.
-/
import Derived.Test.YthmhigjdjclckaaWalModel4C
namespace Go.Proofs.Ythmhigjdjclckaa
open Go.RowKit
set_option linter.unusedVariables false

set_option maxHeartbeats 800000 in
set_option maxRecDepth 8000 in
theorem mput_no (w : World) (a : Option Addr) (n cap : Nat) (sure kept mark : Int) (s : ByteArray) (hs : s.size ≤ maxLen) (h1 : s.size < 1 ∨ 8192 < s.size) (b : Nat) :
    Calls Try.prog 24 #[.agg #[.slice a n cap, .int .i64 sure, .int .i64 kept, .int .u64 mark], .string s, .int .i64 b] w fun e w' => e = .returned (.tuple #[.agg #[.slice a n cap, .int .i64 sure, .int .i64 kept, .int .u64 mark], .int .u64 0, .int .i64 51]) ∧ Below w.heap.size w w' := by
  unfold maxLen at hs
  rcases h1 with h1 | h1
  · have t1 : decide ((s.size : Int) < 1) = true := by simp; omega
    go_enter Try.func24, Try.ntmps24
    go_wp2_with fail
    exact bodyPost_ret (v := .tuple #[.agg #[.slice a n cap, .int .i64 sure, .int .i64 kept, .int .u64 mark], .int .u64 0, .int .i64 51]) (by simp [results, Try.results24, go_sem]) rfl ⟨rfl, ((Below.refl _ _).alloc (Nat.le_refl _) _).alloc (by simp) _⟩
  · have t1 : decide ((s.size : Int) < 1) = false := by simp; omega
    have t2 : decide ((8192 : Int) < (s.size : Int)) = true := by simp; omega
    go_enter Try.func24, Try.ntmps24
    go_wp2_with fail
    exact bodyPost_ret (v := .tuple #[.agg #[.slice a n cap, .int .i64 sure, .int .i64 kept, .int .u64 mark], .int .u64 0, .int .i64 51]) (by simp [results, Try.results24, go_sem]) rfl ⟨rfl, ((Below.refl _ _).alloc (Nat.le_refl _) _).alloc (by simp) _⟩

end Go.Proofs.Ythmhigjdjclckaa
