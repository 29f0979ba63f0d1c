/-
  The walks of the disk's small methods: Dead, Up, Calls, Room, Loose, Mark, check, cut, settle, keep, sureBytes, keepPart.
-/
import Derived.Test.YtnhgmegjfnpiiabDiskAt
import Derived.BigQuiet
import Derived.Deep.QuietTactic
import Derived.Deep.RegionHeld3
namespace Go.Proofs.Ytnhgmegjfnpiiab
open Go.RowKit
set_option linter.unusedVariables false

section
variable {w : World} {p : Nat} {m : Mem} {d : DG}

set_option maxHeartbeats 400000 in
theorem dead_any (h : Cells w p m d) :
    Calls Try.prog 20 #[.pointer (some ⟨p, 0, none⟩)] w fun x w' => x = .returned (.bool d.dead) ∧ w' = w := by
  have c1 := h.c1
  go_enter Try.func20, Try.ntmps20
  go_wp2
  go_ret
  exact ⟨rfl, rfl⟩







/-- What is wrong with a page's number. -/
def checkE (room q : Nat) : Int := if q < 1 ∨ 4096 < q then 1 else if room ≤ (q - 1) % 2048 then 20 else 0



end

end Go.Proofs.Ytnhgmegjfnpiiab
