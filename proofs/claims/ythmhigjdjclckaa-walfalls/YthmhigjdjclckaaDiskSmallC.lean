/-
  The walks of the disk's small methods: Dead, Up, Calls, Room, Loose, Mark, check, cut, settle, keep, sureBytes, keepPart.
-/
import Derived.Test.YthmhigjdjclckaaBase2C
import Derived.BigQuiet
import Derived.Deep.QuietTactic
import Derived.Deep.RegionHeld3
namespace Go.Proofs.Ythmhigjdjclckaa
open Go.RowKit
set_option linter.unusedVariables false

section
variable {w : World} {p : Nat} {m : Mem} {d : DG}

set_option maxHeartbeats 400000 in
set_option maxRecDepth 60000 in
theorem dead_any (h : Cells w p m d) :
    Calls Try.prog 11 #[.pointer (some ⟨p, 0, none⟩)] w fun x w' => x = .returned (.bool d.dead) ∧ w' = w := by
  have c1 := h.c1
  go_enter Try.func11, Try.ntmps11
  go_wp2
  go_ret
  exact ⟨rfl, rfl⟩





set_option maxHeartbeats 400000 in
set_option maxRecDepth 60000 in
theorem up_any (h : DiskAt w p m d) :
    Calls Try.prog 16 #[.pointer (some ⟨p, 0, none⟩)] w fun x w' => x = .returned (.bool d.dead) ∧ DiskAt w' p m { d with dead := false } ∧ Kept (· = p) w w' := by
  have hc := h.blk.cells
  have c1 := hc.c1
  have f1 := hc.fr 1
  cases hd : d.dead with
  | false =>
    rw [hd] at c1
    go_enter Try.func16, Try.ntmps16
    go_wp2
    go_ret
    exact ⟨rfl, by rw [← hd]; exact h, Kept.refl _ _⟩
  | true =>
    rw [hd] at c1
    go_enter Try.func16, Try.ntmps16
    go_wp2
    go_ret
    exact ⟨rfl, ⟨(h.set 1 _).1, (h.set 1 _).2.to rfl rfl rfl rfl rfl rfl rfl⟩, Kept.setCell _ _ _ _ _ rfl⟩

/-- What is wrong with a page's number. -/
def checkE (room q : Nat) : Int := if q < 1 ∨ 4096 < q then 1 else if room ≤ (q - 1) % 2048 then 20 else 0



end

end Go.Proofs.Ythmhigjdjclckaa
