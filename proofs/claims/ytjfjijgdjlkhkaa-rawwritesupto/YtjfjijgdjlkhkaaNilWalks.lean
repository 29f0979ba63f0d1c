/-
  The walks of raw.Reader's and raw.Writer's methods on nil.
-/
import Derived.Test.YtjfjijgdjlkhkaaGetWalks
import Derived.BigQuiet
import Derived.Deep.QuietTactic
namespace Go.Proofs.Ytjfjijgdjlkhkaa
open Go.RowKit
set_option linter.unusedVariables false

set_option maxHeartbeats 400000 in
theorem nilW_bytes (s : ByteArray) (w : World) : Calls Try.prog 25 #[.pointer none, .string s] w fun y w' => y = .returned (.tuple #[]) ∧ w' = w := by
  go_enter Try.func25, Try.ntmps25
  go_wp2
  refine bodyPost_ret (results_none rfl _ _ _) rfl ?_
  exact ⟨rfl, rfl⟩

set_option maxHeartbeats 400000 in
theorem nilW_number (w : World) : Calls Try.prog 24 #[.pointer none, .int .u64 1, .int .i64 1] w fun y w' => y = .returned (.tuple #[]) ∧ Below w.heap.size w w' := by
  go_enter Try.func24, Try.ntmps24
  go_wp2_with fail
  refine (put_any 1 1 _ (by decide)).mono ?_
  rintro y w1 ⟨rfl, b1⟩
  go_wp2_with fail
  refine (nilW_bytes _ _).mono ?_
  rintro y w2 ⟨rfl, rfl⟩
  go_wp2
  go_end0
  exact ⟨rfl, b1⟩

set_option maxHeartbeats 400000 in
theorem nilW_bool (w : World) : Calls Try.prog 27 #[.pointer none, .bool true] w fun y w' => y = .returned (.tuple #[]) ∧ Below w.heap.size w w' := by
  go_enter Try.func27, Try.ntmps27
  go_wp2_with fail
  refine (nilW_number _).mono ?_
  rintro y w1 ⟨rfl, b1⟩
  go_wp2
  go_end0
  exact ⟨rfl, b1⟩

set_option maxHeartbeats 400000 in
theorem nilW_text (s : ByteArray) (w : World) : Calls Try.prog 26 #[.pointer none, .string s] w fun y w' => y = .returned (.int .i64 1) ∧ w' = w := by
  go_enter Try.func26, Try.ntmps26
  go_wp2
  go_ret
  exact ⟨rfl, rfl⟩

set_option maxHeartbeats 400000 in
theorem nilW_len (w : World) : Calls Try.prog 28 #[.pointer none] w fun y w' => y = .returned (.int .i64 0) ∧ w' = w := by
  go_enter Try.func28, Try.ntmps28
  go_wp2
  go_ret
  exact ⟨rfl, rfl⟩

set_option maxHeartbeats 400000 in
theorem nilW_all (w : World) : Calls Try.prog 30 #[.pointer none] w fun y w' => y = .returned (.string ⟨#[]⟩) ∧ w' = w := by
  go_enter Try.func30, Try.ntmps30
  go_wp2
  go_ret
  exact ⟨rfl, rfl⟩

set_option maxHeartbeats 400000 in
theorem nilR_err (w : World) : Calls Try.prog 20 #[.pointer none] w fun y w' => y = .returned (.int .i64 1) ∧ w' = w := by
  go_enter Try.func20, Try.ntmps20
  go_wp2
  go_ret
  exact ⟨rfl, rfl⟩

set_option maxHeartbeats 400000 in
theorem nilR_at (w : World) : Calls Try.prog 21 #[.pointer none] w fun y w' => y = .returned (.int .i64 0) ∧ w' = w := by
  go_enter Try.func21, Try.ntmps21
  go_wp2
  go_ret
  exact ⟨rfl, rfl⟩

set_option maxHeartbeats 400000 in
theorem nilR_left (w : World) : Calls Try.prog 22 #[.pointer none] w fun y w' => y = .returned (.int .i64 0) ∧ w' = w := by
  go_enter Try.func22, Try.ntmps22
  go_wp2
  go_ret
  exact ⟨rfl, rfl⟩

set_option maxHeartbeats 400000 in
theorem nilR_fail (w : World) : Calls Try.prog 29 #[.pointer none, .int .i64 1] w fun y w' => y = .returned (.tuple #[]) ∧ w' = w := by
  go_enter Try.func29, Try.ntmps29
  go_wp2
  refine bodyPost_ret (results_none rfl _ _ _) rfl ?_
  exact ⟨rfl, rfl⟩

set_option maxHeartbeats 400000 in
theorem nilR_stopped (w : World) : Calls Try.prog 41 #[.pointer none] w fun y w' => y = .returned (.bool true) ∧ w' = w := by
  go_enter Try.func41, Try.ntmps41
  go_wp2_with fail
  refine (nilR_err _).mono ?_
  rintro y w1 ⟨rfl, rfl⟩
  go_wp2
  go_ret
  exact ⟨rfl, rfl⟩

set_option maxHeartbeats 400000 in
theorem nilR_number (w : World) : Calls Try.prog 31 #[.pointer none, .int .i64 1] w fun y w' => y = .returned (.int .u64 0) ∧ w' = w := by
  go_enter Try.func31, Try.ntmps31
  go_wp2_with fail
  refine (nilR_stopped _).mono ?_
  rintro y w1 ⟨rfl, rfl⟩
  go_wp2
  go_ret
  exact ⟨rfl, rfl⟩

set_option maxHeartbeats 400000 in
theorem nilR_bytes (w : World) : Calls Try.prog 32 #[.pointer none, .int .i64 1] w fun y w' => y = .returned (.string ⟨#[]⟩) ∧ w' = w := by
  go_enter Try.func32, Try.ntmps32
  go_wp2_with fail
  refine (nilR_stopped _).mono ?_
  rintro y w1 ⟨rfl, rfl⟩
  go_wp2
  go_ret
  exact ⟨rfl, rfl⟩

set_option maxHeartbeats 400000 in
theorem nilR_text (w : World) : Calls Try.prog 33 #[.pointer none, .int .i64 1] w fun y w' => y = .returned (.string ⟨#[]⟩) ∧ w' = w := by
  go_enter Try.func33, Try.ntmps33
  go_wp2_with fail
  refine (nilR_stopped _).mono ?_
  rintro y w1 ⟨rfl, rfl⟩
  go_wp2
  go_ret
  exact ⟨rfl, rfl⟩

set_option maxHeartbeats 400000 in
theorem nilR_bool (w : World) : Calls Try.prog 34 #[.pointer none] w fun y w' => y = .returned (.bool false) ∧ w' = w := by
  go_enter Try.func34, Try.ntmps34
  go_wp2_with fail
  refine (nilR_stopped _).mono ?_
  rintro y w1 ⟨rfl, rfl⟩
  go_wp2
  go_ret
  exact ⟨rfl, rfl⟩

set_option maxHeartbeats 400000 in
theorem nilR_end (w : World) : Calls Try.prog 35 #[.pointer none] w fun y w' => y = .returned (.int .i64 1) ∧ w' = w := by
  go_enter Try.func35, Try.ntmps35
  go_wp2_with fail
  refine (nilR_left _).mono ?_
  rintro y w1 ⟨rfl, rfl⟩
  go_wp2_with fail
  refine (nilR_err _).mono ?_
  rintro y w1 ⟨rfl, rfl⟩
  go_wp2
  go_ret
  exact ⟨rfl, rfl⟩

end Go.Proofs.Ytjfjijgdjlkhkaa
