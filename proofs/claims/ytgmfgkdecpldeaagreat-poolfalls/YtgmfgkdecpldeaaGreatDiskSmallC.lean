/-
  The walks of the disk's small methods: Dead, Up, Calls, Room, Loose, Mark, check, cut, settle, keep, sureBytes, keepPart.
-/
import Derived.Test.YtgmfgkdecpldeaaGreatBase1C
import Derived.BigQuiet
import Derived.Deep.QuietTactic
import Derived.Deep.RegionHeld3
namespace Go.Proofs.YtgmfgkdecpldeaaGreat
open Go.RowKit
set_option linter.unusedVariables false

section
variable {w : World} {p : Nat} {m : Mem} {d : DG}

set_option maxHeartbeats 400000 in
set_option maxRecDepth 60000 in
theorem dead_any (h : Cells w p m d) :
    Calls Tryz.prog 51 #[.pointer (some ⟨p, 0, none⟩)] w fun x w' => x = .returned (.bool d.dead) ∧ w' = w := by
  have c1 := h.c1
  go_enter Tryz.func51, Tryz.ntmps51
  go_wp2
  go_ret
  exact ⟨rfl, rfl⟩



set_option maxHeartbeats 400000 in
set_option maxRecDepth 60000 in
theorem calls_any (h : Cells w p m d) :
    Calls Tryz.prog 12 #[.pointer (some ⟨p, 0, none⟩)] w fun x w' => x = .returned (.int .i64 d.calls) ∧ w' = w := by
  have c2 := h.c2
  go_enter Tryz.func12, Tryz.ntmps12
  go_wp2
  go_ret
  exact ⟨rfl, rfl⟩

set_option maxHeartbeats 400000 in
set_option maxRecDepth 60000 in
theorem up_any (h : DiskAt w p m d) :
    Calls Tryz.prog 18 #[.pointer (some ⟨p, 0, none⟩)] w fun x w' => x = .returned (.bool d.dead) ∧ DiskAt w' p m { d with dead := false } ∧ Kept (· = p) w w' := by
  have hc := h.blk.cells
  have c1 := hc.c1
  have f1 := hc.fr 1
  cases hd : d.dead with
  | false =>
    rw [hd] at c1
    go_enter Tryz.func18, Tryz.ntmps18
    go_wp2
    go_ret
    exact ⟨rfl, by rw [← hd]; exact h, Kept.refl _ _⟩
  | true =>
    rw [hd] at c1
    go_enter Tryz.func18, Tryz.ntmps18
    go_wp2
    go_ret
    exact ⟨rfl, ⟨(h.set 1 _).1, (h.set 1 _).2.to rfl rfl rfl rfl rfl rfl rfl⟩, Kept.setCell _ _ _ _ _ rfl⟩

/-- What is wrong with a page's number. -/
def checkE (room q : Nat) : Int := if q < 1 ∨ 4096 < q then 1 else if room ≤ (q - 1) % 2048 then 20 else 0

set_option maxHeartbeats 400000 in
set_option maxRecDepth 60000 in
theorem check_any (h : Cells w p m d) (q : Nat) (hq : q < 4294967296) :
    Calls Tryz.prog 58 #[.pointer (some ⟨p, 0, none⟩), .int .u32 q] w fun x w' => x = .returned (.int .i64 (checkE d.room q)) ∧ w' = w := by
  have c0 := h.c0
  unfold checkE
  by_cases h1 : q < 1
  · rw [if_pos (.inl h1)]
    go_enter Tryz.func58, Tryz.ntmps58
    go_wp2
    go_ret
    exact ⟨rfl, rfl⟩
  · by_cases h2 : 4096 < q
    · rw [if_pos (.inr h2)]
      go_enter Tryz.func58, Tryz.ntmps58
      go_wp2
      go_ret
      exact ⟨rfl, rfl⟩
    · rw [if_neg (by omega)]
      obtain ⟨k, rfl⟩ : ∃ k, q = k + 1 := ⟨q - 1, by omega⟩
      have e1 : ((k + 1 : Nat) : Int) - 1 = (k : Int) := by omega
      have e2 : IntKind.u32.wrap (k : Int) = (k : Int) := by rw [IntKind.wrap_u32]; omega
      have e3 : IntKind.i64.wrap (k : Int) = (k : Int) := by rw [IntKind.wrap_i64]; omega
      have e4 : ((k : Int)).tmod 2048 = (k : Int) % 2048 := Int.tmod_eq_emod_of_nonneg (by omega)
      by_cases h3 : d.room ≤ k % 2048
      · rw [if_pos (by simpa using h3)]
        have h4 : (d.room : Int) ≤ (k : Int) % 2048 := by omega
        go_enter Tryz.func58, Tryz.ntmps58
        go_wp2
        go_ret
        exact ⟨rfl, rfl⟩
      · rw [if_neg (by simpa using h3)]
        have h4 : ¬ (d.room : Int) ≤ (k : Int) % 2048 := by omega
        go_enter Tryz.func58, Tryz.ntmps58
        go_wp2
        go_ret
        exact ⟨rfl, rfl⟩

end

end Go.Proofs.YtgmfgkdecpldeaaGreat
