/-
  The walks of Keep, Give, Spend, and of Append where there is no room.
-/
import Derived.Test.YtgmfgkdecpldeaaGreatBase5C
import Derived.StillTailTactics
namespace Go.Proofs.YtgmfgkdecpldeaaGreat
open Go.RowKit
set_option linter.unusedVariables false

section
variable {w : World} {p : Nat} {S : Nat → Prop} {l : LG}

theorem Moves.cell (h : IsLog w p S l) (i : Nat) (v : Value) : Moves S S w (w.setCell ⟨p, i, none⟩ v) := Moves.of_kept (Kept.setCell _ _ _ _ _ h.has)







set_option maxHeartbeats 400000 in
set_option maxRecDepth 8000 in
theorem append_full (h : IsLog w p S l) (hb : l.bytes.length ≤ 4194304) (hk : l.kept ≤ 4194304) (s : ByteArray) (h1 : 1 ≤ s.size) (h2 : s.size ≤ 8192) (hm : 4194304 < s.size + 12 + l.kept + l.bytes.length) :
    Calls Tryz.prog 14 #[.pointer (some ⟨p, 0, none⟩), .string s] w fun e w' => e = .returned (.tuple #[.int .u64 0, .int .i64 50]) ∧ Below w.heap.size w w' := by
  have hD : IsLog w.drew p S l := h.same (fun _ _ => rfl) (Nat.le_refl _)
  have HR := hid (room_out hD hb)
  have HP := hid (put_full hD hb s h1 h2 ((4194304 : Int) - (l.bytes.length : Int) - (l.kept : Int)) (by omega))
  have HD := hid hD
  have c5 := h.cell5
  have hsub : IntKind.i64.wrap ((4194304 : Int) - (l.bytes.length : Int) - (l.kept : Int)) = (4194304 : Int) - (l.bytes.length : Int) - (l.kept : Int) := by rw [IntKind.wrap_i64]; omega
  go_enter Tryz.func14, Tryz.ntmps14
  go_wp2_with fail
  go_region_held3 (fun w' => w'.cell? ⟨p, 5, none⟩ = some (.int .i64 l.kept)) (first | go_keep | assumption | exact hc5)
    (first | (go_at_call 45; refine HR.out.mono ?_; rintro x w3 ⟨rfl, rfl⟩) | (go_at_call 44; refine HP.out.mono ?_; rintro x w4 ⟨rfl, b4⟩; have hc5 : w4.cell? ⟨p, 5, none⟩ = some (.int .i64 l.kept) := (HD.out.below b4).cell5))
  go_wp2
  go_ret2
  exact ⟨rfl, ((Below.refl _ _).drew).trans b4⟩



end

end Go.Proofs.YtgmfgkdecpldeaaGreat
