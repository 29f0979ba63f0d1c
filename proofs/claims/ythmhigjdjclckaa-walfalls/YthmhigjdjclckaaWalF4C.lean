/-
  disk.Plan of nothing and of one fall.
-/
import Derived.Test.YthmhigjdjclckaaWalF2C
import Derived.Deep.AppendLies
import Derived.Deep.RegionLaw
namespace Go.Proofs.Ythmhigjdjclckaa
open Go.RowKit
set_option linter.unusedVariables false

set_option maxHeartbeats 800000 in
set_option maxRecDepth 60000 in
theorem fins_small (v f : Value) (n : Nat) (hn : n ≤ 1) (w : World) : Calls Try.prog 62 #[v, .int .i64 0, .int .i64 n, f] w fun e w' => e = .returned (.tuple #[]) ∧ w' = w := by
  have hn' : ¬ (1 : Int) < (n : Int) := by omega
  go_enter Try.func62, Try.ntmps62
  go_wp2_with fail
  go_loopw [8] (fun i wr => i = .int .i64 1 ∧ wr = w) (fun _ _ => 0)
  case atStart => exact ⟨rfl, rfl⟩
  case round =>
    obtain ⟨rfl, rfl⟩ := hrel
    go_wp2
    go_end0
    exact ⟨rfl, rfl⟩

set_option maxHeartbeats 800000 in
set_option maxRecDepth 60000 in
theorem fstable_small (v f : Value) (n : Nat) (hn : n ≤ 1) (w : World) : Calls Try.prog 53 #[v, .int .i64 n, f] w fun e w' => e = .returned (.tuple #[]) ∧ w' = w := by
  have hi := fins_small v f n hn w
  have hn' : ¬ (20 : Int) ≤ (n : Int) := by omega
  have hn2 : ¬ (20 : Int) < (n : Int) := by omega
  go_enter Try.func53, Try.ntmps53
  go_wp2_with fail
  go_loopw [7, 8] (fun a b wr => a = .int .i64 0 ∧ b = .int .i64 20 ∧ wr = w) (fun _ _ _ => 0)
  case atStart => exact ⟨rfl, rfl, rfl⟩
  case round =>
    obtain ⟨rfl, rfl, rfl⟩ := hrel
    go_wp2_with fail
    refine hi.mono ?_
    rintro e w1 ⟨rfl, rfl⟩
    go_wp2_with fail
    go_loopw [6] (fun a wr => a = .int .i64 20 ∧ wr = w1) (fun _ _ => 0)
    case atStart => exact ⟨rfl, rfl⟩
    case round =>
      obtain ⟨rfl, rfl⟩ := hrel
      go_wp2
      go_end0
      exact ⟨rfl, rfl⟩

set_option maxHeartbeats 800000 in
set_option maxRecDepth 60000 in
theorem fsort_small (a : Option Addr) (c : Nat) (f : Value) (n : Nat) (hn : n ≤ 1) (w : World) : Calls Try.prog 38 #[.slice a n c, f] w fun e w' => e = .returned (.tuple #[]) ∧ w' = w := by
  have hi := fstable_small (.slice a n c) f n hn w
  go_enter Try.func38, Try.ntmps38
  go_wp2_with fail
  refine hi.mono ?_
  rintro e w1 ⟨rfl, rfl⟩
  go_wp2
  go_end0
  exact ⟨rfl, rfl⟩

section
variable {w : World} {p : Nat} {S : Nat → Prop} {d : DG}

set_option maxHeartbeats 1600000 in
set_option maxRecDepth 8000 in
theorem plan_nil (h : IsDisk w p S d) :
    Calls Try.prog 10 #[.pointer (some ⟨p, 0, none⟩), .slice none 0 0] w fun x w' => x = .returned (.tuple #[]) ∧ ∃ S', IsDisk w' p S' { d with plan := [] } ∧ Moves S S' w w' := by
  obtain ⟨m, hD, hS, _⟩ := h
  have c3 := hD.blk.cells.c3
  have f3 := hD.blk.cells.fr 3
  have hD1 := planned hD (v := .slice none 0 0) (r := []) (.inl ⟨rfl, rfl⟩) (fun k hk => by simp [Value.ownBlock] at hk)
  have HF : Hid (∃ S', IsDisk (w.setCell ⟨p, 3, none⟩ (.slice none 0 0)) p S' { d with plan := [] } ∧ Moves S S' w (w.setCell ⟨p, 3, none⟩ (.slice none 0 0))) := by
    refine moved hD hS hD1 ?_ (Kept.setCell (fun k => k = p) _ _ _ _ rfl) fun k x => .inl x
    rintro k (x | x | x | x | x)
    · exact .inl (.inl x)
    · exact .inl (.inr (.inl x))
    · exact .inl (.inr (.inr (.inl x)))
    · exact .inl (.inr (.inr (.inr (.inl x))))
    · simp [Value.ownBlock] at x
  have c3' : (w.setCell ⟨p, 3, none⟩ (.slice none 0 0)).cell? ⟨p, 3, none⟩ = some (.slice none 0 0) := hD1.blk.cells.c3
  clear hD hD1 hS
  go_enter Try.func10, Try.ntmps10
  go_wp2_with fail
  generalize w.setCell ⟨p, 3, none⟩ (.slice none 0 0) = W1 at *
  clear c3 f3
  go_loopw [13] (fun i wr => i = .int .i64 0 ∧ wr = W1) (fun _ _ => 0)
  case atStart => exact ⟨rfl, rfl⟩
  case round =>
    obtain ⟨rfl, rfl⟩ := hrel
    go_wp2_with fail
    refine (fsort_small none 0 _ 0 (by omega) _).mono ?_
    rintro e w1 ⟨rfl, rfl⟩
    go_wp2
    go_end0
    exact ⟨rfl, HF.out⟩

end

end Go.Proofs.Ythmhigjdjclckaa
