/-
  The walk of disk.SetMark without a plan; Keep, Give of any numbers; Append, Spend of what may not be, or has no room.
-/
import Derived.Test.YtgkfdakieebnmaaGreatWalFrameJ
import Derived.StillTailTactics
import Derived.Test.YtgkfdakieebnmaaGreatWalRecsJ
import Derived.Test.YtgkfdakieebnmaaGreatRepeatJ
set_option linter.unusedVariables false
set_option linter.unusedSimpArgs false
namespace Go.Proofs.YtgkfdakieebnmaaGreat
open Go.RowKit

section
variable {w : World} {p : Nat} {S : Nat → Prop} {d : DG}

end

section
variable {w : World} {p : Nat} {S : Nat → Prop} {l : LG}

set_option maxHeartbeats 800000 in
set_option maxRecDepth 8000 in
theorem flush_none (h : IsLog w p S l) (hf : l.flushed ≤ l.bytes.length) (hb : l.bytes.length ≤ 4194304) (up : Nat) (hto : l.flushed = l.bytes.length ∨ up < l.flushed + 1) :
    Calls Tryz.prog 25 #[.pointer (some ⟨p, 0, none⟩), .int .u64 up] w fun e w' => e = .returned (.int .i64 0) ∧ Below w.heap.size w w' := by
  have HFL : Hid (∀ W : World, W.heap = w.heap → Calls Tryz.prog 72 #[.pointer (some ⟨p, 0, none⟩)] W fun e w' => e = .returned (.int .u64 ((l.flushed + 1 : Nat) : Int)) ∧ w' = W) := fun W hW => flushed_out (h.same (fun k hk => by rw [hW]) (by rw [hW]; exact Nat.le_refl _)) (by omega)
  obtain ⟨ba, bc, sv, hC⟩ := h.lcells
  have c1 := hC.c1
  have c3 := hC.c3
  clear hC h
  by_cases he : l.flushed = l.bytes.length
  · have k0 : ((l.flushed : Int) == (l.bytes.length : Int)) = true := by rw [he]; simp
    clear he hto hf
    go_enter Tryz.func25, Tryz.ntmps25
    go_wp2_with fail
    go_quiet (fail)
    go_wp2
    go_ret
    exact ⟨rfl, below_drewN' _ _⟩
  · have k0 : ((l.flushed : Int) == (l.bytes.length : Int)) = false := by rw [beq_eq_false_iff_ne]; omega
    have k1 : decide ((up : Int) < ((l.flushed + 1 : Nat) : Int)) = true := by simp; omega
    have k2 : decide ((up : Int) < (l.flushed : Int) + 1) = true := by simp; omega
    go_enter Tryz.func25, Tryz.ntmps25
    go_wp2_with fail
    go_region_held3 (fun w' => w'.cell? ⟨p, 1, none⟩ = some (.slice ba l.bytes.length bc) ∧ w'.cell? ⟨p, 3, none⟩ = some (.int .i64 l.flushed)) (first | exact ⟨c1, c3⟩ | go_keep)
      (first | (go_at_call 72; refine (HFL.out w.drew rfl).mono ?_; rintro x w3 ⟨rfl, rfl⟩))
    go_wp2
    go_ret
    exact ⟨rfl, (Below.refl _ _).drew⟩

end

end Go.Proofs.YtgkfdakieebnmaaGreat
