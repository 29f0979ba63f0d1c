/-
  The walks of girderref04.text and rec.Long.
-/
import Derived.Test.YtndfjjcflbpdnaaRecEncodeC
namespace Go.Proofs.Ytndfjjcflbpdnaa
open Go.RowKit Go.Sort
set_option linter.unusedVariables false
set_option linter.unusedSimpArgs false

theorem rput4 (n k : Nat) (w : World) (hn : n < 18446744073709551616) (hk : k ≤ 8) :
    Calls Try.prog 29 #[.int .u64 n, .int .i64 k] w fun e w' => e = .returned (.string ⟨(putL n k).toArray⟩) ∧ Below w.heap.size w w' := by
  have := rput_any n k w hn
  rw [show longOf (k : Int) = k from by unfold longOf; omega] at this
  exact this

set_option maxHeartbeats 800000 in
set_option maxRecDepth 60000 in
theorem r4text_any (s : ByteArray) (w : World) (hs : s.size ≤ 65535) :
    Calls Try.prog 30 #[.string s] w fun e w' => e = .returned (.string (⟨(putL s.size 2).toArray⟩ ++ s)) ∧ Below w.heap.size w w' := by
  obtain ⟨Q, HQ⟩ : ∃ Q : ByteArray, Hid (Q = ⟨(putL s.size 2).toArray⟩) := ⟨_, rfl⟩
  have hQs : Q.size = 2 := by rw [HQ.out, bytes_size, putL_length]
  have HP : Hid (∀ wx, Calls Try.prog 29 #[.int .u64 s.size, .int .i64 2] wx fun e w' => e = .returned (.string Q) ∧ Below wx.heap.size wx w') := fun wx => by rw [HQ.out]; exact rput4 s.size 2 wx (by omega) (by omega)
  rw [← HQ.out]
  clear HQ
  have u4 : IntKind.u64.wrap (s.size : Int) = (s.size : Int) := by rw [IntKind.wrap_u64]; omega
  have n1 : ¬ (9223372036854775807 < 2 + s.size) := by omega
  go_enter Try.func30, Try.ntmps30
  go_wp2_with fail
  refine (HP.out _).mono ?_
  rintro e w3 ⟨rfl, b3⟩
  go_wp2
  go_ret
  exact ⟨rfl, b3⟩



end Go.Proofs.Ytndfjjcflbpdnaa
