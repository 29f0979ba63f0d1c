/-
  The walk of girderlaw05.WalFrames.
-/
import Derived.Test.YtnhgmegjfnpiiaaWalAwake
namespace Go.Proofs.Ytnhgmegjfnpiiaa
open Go.RowKit
set_option linter.unusedVariables false

set_option maxHeartbeats 800000 in
set_option maxRecDepth 8000 in
theorem walFrames_any (a : Nat) (s : ByteArray) (w : World) (ha : a < 18446744073709551616) (hs : s.size ≤ 140737488351232) :
    Calls Try.prog 3 #[.int .u64 a, .string s] w fun e w' => e = .returned (.bool true) ∧ Below w.heap.size w w' := by
  by_cases h : s.size = 0 ∨ 8192 < s.size
  · go_enter Try.func3, Try.ntmps3
    go_wp2_with fail
    refine (frame_record a s _ h (by unfold maxLen; omega)).mono ?_
    rintro e w1 ⟨rfl, rfl⟩
    rcases h with h | h
    · have k0 : decide ((s.size : Int) < 1) = true := by simp; omega
      go_wp2_with fail
      refine (awake_any _).mono ?_
      rintro e w2 ⟨rfl, b2⟩
      go_wp2
      go_ret
      exact ⟨rfl, b2⟩
    · have k0 : decide ((s.size : Int) < 1) = false := by simp; omega
      have k1 : decide ((8192 : Int) < (s.size : Int)) = true := by simp; omega
      go_wp2_with fail
      refine (awake_any _).mono ?_
      rintro e w2 ⟨rfl, b2⟩
      go_wp2
      go_ret
      exact ⟨rfl, b2⟩
  have h1 : 1 ≤ s.size := by omega
  have h2 : s.size ≤ 8192 := by omega
  have k0 : decide ((s.size : Int) < 1) = false := by simp; omega
  have k1 : decide ((8192 : Int) < (s.size : Int)) = false := by simp; omega
  clear h
  by_cases h0 : a = 0
  · subst h0
    go_enter Try.func3, Try.ntmps3
    go_wp2_with fail
    refine (frame_arg s _ h1 h2).mono ?_
    rintro e w1 ⟨rfl, rfl⟩
    go_wp2_with fail
    refine (awake_any _).mono ?_
    rintro e w2 ⟨rfl, b2⟩
    go_wp2
    go_ret
    exact ⟨rfl, b2⟩
  · have e0 : ((a : Int) == 0) = false := by simp only [beq_eq_false_iff_ne]; omega
    go_enter Try.func3, Try.ntmps3
    go_wp2_with fail
    refine (frame_ok a s _ (by omega) ha h1 h2).mono ?_
    rintro e w1 ⟨rfl, b1⟩
    go_wp2_with fail
    refine (awake_any _).mono ?_
    rintro e w2 ⟨rfl, b2⟩
    go_wp2_with fail
    refine (rframe_any a s _ ha h2).mono ?_
    rintro e w3 ⟨rfl, b3⟩
    generalize frameB a s = f at *
    go_wp2
    go_ret
    exact ⟨rfl, below_chain (below_chain b1 b2) b3⟩

end Go.Proofs.Ytnhgmegjfnpiiaa
