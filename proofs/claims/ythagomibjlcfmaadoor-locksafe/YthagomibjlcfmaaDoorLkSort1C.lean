/-
  slices.SortFunc of at most one name.
-/
import Derived.Test.YthagomibjlcfmaaDoorLkNamesC
import Derived.Test.YthagomibjlcfmaaDoorShLenC
namespace Go.Proofs.YthagomibjlcfmaaDoor
open Go.RowKit Go.Shelf
set_option linter.unusedVariables false
set_option linter.unusedSimpArgs false

set_option maxHeartbeats 800000 in
set_option maxRecDepth 60000 in
theorem ins_small (v f : Value) (n : Nat) (hn : n ≤ 1) (w : World) : Calls Tryd.prog 82 #[v, .int .i64 0, .int .i64 n, f] w fun e w' => e = .returned (.tuple #[]) ∧ w' = w := by
  have hn' : ¬ (1 : Int) < (n : Int) := by omega
  go_enter Tryd.func82, Tryd.ntmps82
  go_wp2_with fail
  go_loopw [8] (fun i wr => i = .int .i64 1 ∧ wr = w) (fun _ _ => 0)
  case atStart => exact ⟨rfl, rfl⟩
  case round =>
    obtain ⟨rfl, rfl⟩ := hrel
    go_wp2
    go_end0
    exact ⟨rfl, rfl⟩

set_option maxHeartbeats 800000 in
set_option maxRecDepth 60000 in
theorem pdq_small (v f : Value) (n : Nat) (hn : n ≤ 1) (l : Int) (w : World) : Calls Tryd.prog 63 #[v, .int .i64 0, .int .i64 n, .int .i64 l, f] w fun e w' => e = .returned (.tuple #[]) ∧ w' = w := by
  have hi := ins_small v f n hn w
  have hn' : (n : Int) ≤ 12 := by omega
  go_enter Tryd.func63, Tryd.ntmps63
  go_wp2_with fail
  go_loopw [1, 2] (fun a b wr => a = .int .i64 0 ∧ b = .int .i64 n ∧ wr = w) (fun _ _ _ => 0)
  case atStart => exact ⟨rfl, rfl, rfl⟩
  case round =>
    obtain ⟨rfl, rfl, rfl⟩ := hrel
    go_wp2_with fail
    refine hi.mono ?_
    rintro e w1 ⟨rfl, rfl⟩
    go_wp2
    refine bodyPost_ret (results_none rfl _ _ _) rfl ?_
    exact ⟨rfl, rfl⟩

set_option maxHeartbeats 800000 in
set_option maxRecDepth 60000 in
theorem nsorts_one : NSorts 1 := by
  intro B NL w v hl h
  obtain ⟨a, c, rfl⟩ := h.val
  have HF : Hid (NamesAt B w (.slice a NL.length c) NL) := h
  clear h
  have HL : Hid (∀ wx, Calls Tryd.prog 52 #[.int .u64 (NL.length : Int)] wx fun e w' => (∃ l : Int, e = .returned (.int .i64 l)) ∧ w' = wx) := fun wx => (Any.bits_Len lenLays (NL.length : Int) wx (by omega) (by omega)).mono (by rintro e w' ⟨rfl, rfl⟩; exact ⟨⟨_, rfl⟩, rfl⟩)
  have HP : Hid (∀ (f : Value) (l : Int), Calls Tryd.prog 63 #[.slice a NL.length c, .int .i64 0, .int .i64 (NL.length : Int), .int .i64 l, f] w fun e w' => e = .returned (.tuple #[]) ∧ w' = w) := fun f l => pdq_small _ f NL.length hl l w
  have hn0 : (0 : Int) ≤ (NL.length : Int) := by omega
  have hn1 : (NL.length : Int) ≤ 1 := by omega
  go_enter Tryd.func46, Tryd.ntmps46
  go_wp2_with fail
  refine (HL.out _).mono ?_
  rintro e w1 ⟨⟨l, rfl⟩, rfl⟩
  go_wp2_with fail
  refine (HP.out _ _).mono ?_
  rintro e w1 ⟨rfl, rfl⟩
  go_wp2
  go_end0
  exact ⟨rfl, NL, List.Perm.refl _, HF.out, ⟨rfl, rfl, rfl, Nat.le_refl _, fun _ _ _ => rfl⟩⟩

end Go.Proofs.YthagomibjlcfmaaDoor
