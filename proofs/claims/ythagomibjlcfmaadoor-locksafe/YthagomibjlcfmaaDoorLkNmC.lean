/-
  The walk of girderlaw08.name.
-/
import Derived.Test.YthagomibjlcfmaaDoorLkOnceM2C
namespace Go.Proofs.YthagomibjlcfmaaDoor
open Go.RowKit
set_option linter.unusedVariables false
set_option linter.unusedSimpArgs false

theorem i64_and7 (n : Int) : bits .and .i64 n 7 = n % 8 := by
  have h63 : (BitVec.ofInt 64 7).toNat = 2 ^ 3 - 1 := by decide
  have key : (BitVec.ofInt 64 n &&& BitVec.ofInt 64 7).toNat = (n % ((2 ^ 64 : Nat) : Int)).toNat % 2 ^ 3 := by
    rw [BitVec.toNat_and, BitVec.toNat_ofInt, h63, Nat.and_two_pow_sub_one_eq_mod]
  show IntKind.i64.wrap ((BitVec.ofInt 64 n &&& BitVec.ofInt 64 7).toNat : Nat) = n % 8
  rw [key, IntKind.wrap_i64]
  omega

theorem i64_and3 (n : Int) : bits .and .i64 n 3 = n % 4 := by
  have h63 : (BitVec.ofInt 64 3).toNat = 2 ^ 2 - 1 := by decide
  have key : (BitVec.ofInt 64 n &&& BitVec.ofInt 64 3).toNat = (n % ((2 ^ 64 : Nat) : Int)).toNat % 2 ^ 2 := by
    rw [BitVec.toNat_and, BitVec.toNat_ofInt, h63, Nat.and_two_pow_sub_one_eq_mod]
  show IntKind.i64.wrap ((BitVec.ofInt 64 n &&& BitVec.ofInt 64 3).toNat : Nat) = n % 4
  rw [key, IntKind.wrap_i64]
  omega

/-- The eight names. -/
def nm8 (k : Nat) : NameV := (1 + (k % 2 : Nat), (k / 2 % 2 : Nat), k / 4, (k % 4 : Nat))
def rm8 (k : Nat) : Value := .agg #[.int .i64 (1 + (k % 2 : Nat)), .int .i64 (k / 2 % 2 : Nat), .int .u32 (k / 4 : Nat), .int .i64 (k % 4 : Nat)]

theorem nm8_ok : ∀ k, k < 8 → NmOk (nm8 k)
  | 0, _ => ⟨nkey_of (by kernel_rfl), by decide⟩
  | 1, _ => ⟨nkey_of (by kernel_rfl), by decide⟩
  | 2, _ => ⟨nkey_of (by kernel_rfl), by decide⟩
  | 3, _ => ⟨nkey_of (by kernel_rfl), by decide⟩
  | 4, _ => ⟨nkey_of (by kernel_rfl), by decide⟩
  | 5, _ => ⟨nkey_of (by kernel_rfl), by decide⟩
  | 6, _ => ⟨nkey_of (by kernel_rfl), by decide⟩
  | 7, _ => ⟨nkey_of (by kernel_rfl), by decide⟩
  | n + 8, h => absurd h (by omega)

set_option maxHeartbeats 6400000 in
set_option maxRecDepth 20000 in
theorem name_any (n : Int) (w : World) : Calls Tryd.prog 7 #[.int .i64 n] w fun e w' => ∃ k, k < 8 ∧ e = .returned (.tuple #[nval (nm8 k), rm8 k]) ∧ Below w.heap.size w w' := by
  have h7 := i64_and7 n
  rcases (by omega : n % 8 = 0 ∨ n % 8 = 1 ∨ n % 8 = 2 ∨ n % 8 = 3 ∨ n % 8 = 4 ∨ n % 8 = 5 ∨ n % 8 = 6 ∨ n % 8 = 7) with h | h | h | h | h | h | h | h
  · rw [h] at h7
    clear h
    go_enter Tryd.func7, Tryd.ntmps7
    go_wp2
    refine bodyPost_ret (v := .tuple #[nval (nm8 0), rm8 0]) (by simp [results, Tryd.results7, go_sem, nval, nm8, rm8] <;> decide +kernel) rfl ⟨0, by omega, rfl, ?_⟩
    repeat (first | exact Below.refl _ _ | refine Below.setCell ?_ (by simp) _ | refine Below.alloc ?_ (by simp) _)
  · rw [h] at h7
    clear h
    go_enter Tryd.func7, Tryd.ntmps7
    go_wp2
    refine bodyPost_ret (v := .tuple #[nval (nm8 1), rm8 1]) (by simp [results, Tryd.results7, go_sem, nval, nm8, rm8] <;> decide +kernel) rfl ⟨1, by omega, rfl, ?_⟩
    repeat (first | exact Below.refl _ _ | refine Below.setCell ?_ (by simp) _ | refine Below.alloc ?_ (by simp) _)
  · rw [h] at h7
    clear h
    go_enter Tryd.func7, Tryd.ntmps7
    go_wp2
    refine bodyPost_ret (v := .tuple #[nval (nm8 2), rm8 2]) (by simp [results, Tryd.results7, go_sem, nval, nm8, rm8] <;> decide +kernel) rfl ⟨2, by omega, rfl, ?_⟩
    repeat (first | exact Below.refl _ _ | refine Below.setCell ?_ (by simp) _ | refine Below.alloc ?_ (by simp) _)
  · rw [h] at h7
    clear h
    go_enter Tryd.func7, Tryd.ntmps7
    go_wp2
    refine bodyPost_ret (v := .tuple #[nval (nm8 3), rm8 3]) (by simp [results, Tryd.results7, go_sem, nval, nm8, rm8] <;> decide +kernel) rfl ⟨3, by omega, rfl, ?_⟩
    repeat (first | exact Below.refl _ _ | refine Below.setCell ?_ (by simp) _ | refine Below.alloc ?_ (by simp) _)
  · rw [h] at h7
    clear h
    go_enter Tryd.func7, Tryd.ntmps7
    go_wp2
    refine bodyPost_ret (v := .tuple #[nval (nm8 4), rm8 4]) (by simp [results, Tryd.results7, go_sem, nval, nm8, rm8] <;> decide +kernel) rfl ⟨4, by omega, rfl, ?_⟩
    repeat (first | exact Below.refl _ _ | refine Below.setCell ?_ (by simp) _ | refine Below.alloc ?_ (by simp) _)
  · rw [h] at h7
    clear h
    go_enter Tryd.func7, Tryd.ntmps7
    go_wp2
    refine bodyPost_ret (v := .tuple #[nval (nm8 5), rm8 5]) (by simp [results, Tryd.results7, go_sem, nval, nm8, rm8] <;> decide +kernel) rfl ⟨5, by omega, rfl, ?_⟩
    repeat (first | exact Below.refl _ _ | refine Below.setCell ?_ (by simp) _ | refine Below.alloc ?_ (by simp) _)
  · rw [h] at h7
    clear h
    go_enter Tryd.func7, Tryd.ntmps7
    go_wp2
    refine bodyPost_ret (v := .tuple #[nval (nm8 6), rm8 6]) (by simp [results, Tryd.results7, go_sem, nval, nm8, rm8] <;> decide +kernel) rfl ⟨6, by omega, rfl, ?_⟩
    repeat (first | exact Below.refl _ _ | refine Below.setCell ?_ (by simp) _ | refine Below.alloc ?_ (by simp) _)
  · rw [h] at h7
    clear h
    go_enter Tryd.func7, Tryd.ntmps7
    go_wp2
    refine bodyPost_ret (v := .tuple #[nval (nm8 7), rm8 7]) (by simp [results, Tryd.results7, go_sem, nval, nm8, rm8] <;> decide +kernel) rfl ⟨7, by omega, rfl, ?_⟩
    repeat (first | exact Below.refl _ _ | refine Below.setCell ?_ (by simp) _ | refine Below.alloc ?_ (by simp) _)

theorem name_ok (n : Int) (w : World) : Calls Tryd.prog 7 #[.int .i64 n] w fun e w' => ∃ (nm : NameV) (r0 r1 r2 r3 : Int), NmOk nm ∧ e = .returned (.tuple #[nval nm, .agg #[.int .i64 r0, .int .i64 r1, .int .u32 r2, .int .i64 r3]]) ∧ Below w.heap.size w w' := by
  refine (name_any n w).mono ?_
  rintro e w' ⟨k, hk, rfl, b⟩
  exact ⟨nm8 k, _, _, _, _, nm8_ok k hk, rfl, b⟩

end Go.Proofs.YthagomibjlcfmaaDoor
