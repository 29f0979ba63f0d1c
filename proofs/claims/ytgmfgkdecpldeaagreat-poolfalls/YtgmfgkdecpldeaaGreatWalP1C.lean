/-
  The walk of disk.SetMark without a plan; Keep, Give of any numbers; Append, Spend of what may not be, or has no room.
-/
import Derived.Test.YtgmfgkdecpldeaaGreatWalRoomC
import Derived.Test.YtgmfgkdecpldeaaGreatWalMoreC
import Derived.Test.YtgmfgkdecpldeaaGreatDiskSyncC
import Derived.Test.YtgmfgkdecpldeaaGreatDiskWriteC
namespace Go.Proofs.YtgmfgkdecpldeaaGreat
open Go.RowKit
set_option linter.unusedVariables false

/-- The mark was laid. -/
def markD (d : DG) (v : Nat) : DG := { d with calls := d.calls + 1, loose := d.loose ++ [⟨0, ⟨#[]⟩, v⟩], mark := v }

section
variable {w : World} {p : Nat} {S : Nat → Prop} {d : DG}



end

section
variable {w : World} {p : Nat} {S : Nat → Prop} {l : LG}





/-- What is kept, less so much. -/
def lessF (kept : Nat) (n : Int) : Nat := if n < 0 then kept else kept - n.toNat



set_option maxHeartbeats 400000 in
set_option maxRecDepth 8000 in
theorem append_record (h : IsLog w p S l) (hb : l.bytes.length ≤ 4194304) (hk : l.kept ≤ 4194304) (s : ByteArray) (hs : s.size = 0 ∨ 8192 < s.size) (hm : s.size ≤ maxLen) :
    Calls Tryz.prog 14 #[.pointer (some ⟨p, 0, none⟩), .string s] w fun e w' => e = .returned (.tuple #[.int .u64 0, .int .i64 51]) ∧ Below w.heap.size w w' := by
  have hD : IsLog w.drew p S l := h.same (fun _ _ => rfl) (Nat.le_refl _)
  have HR := hid (room_out hD hb)
  have HP := hid (put_record hD hb s hs hm ((4194304 : Int) - (l.bytes.length : Int) - (l.kept : Int)))
  have HD := hid hD
  have c5 := h.cell5
  have hsub : IntKind.i64.wrap ((4194304 : Int) - (l.bytes.length : Int) - (l.kept : Int)) = (4194304 : Int) - (l.bytes.length : Int) - (l.kept : Int) := by rw [IntKind.wrap_i64]; omega
  go_enter Tryz.func14, Tryz.ntmps14
  go_wp2_with fail
  go_region_held3 (fun w' => w'.cell? ⟨p, 5, none⟩ = some (.int .i64 l.kept)) (first | go_keep | assumption | exact hc5)
    (first | (go_at_call 45; refine HR.out.mono ?_; rintro x w3 ⟨rfl, rfl⟩) | (go_at_call 44; refine HP.out.mono ?_; rintro x w4 ⟨rfl, rfl⟩; have hc5 : w.drew.cell? ⟨p, 5, none⟩ = some (.int .i64 l.kept) := HD.out.cell5))
  go_wp2
  go_ret2
  exact ⟨rfl, (Below.refl _ _).drew⟩





set_option maxHeartbeats 800000 in
set_option maxRecDepth 8000 in
/-- Nothing is to be flushed. -/
theorem flush_none (h : IsLog w p S l) (hf : l.flushed ≤ l.bytes.length) (hb : l.bytes.length ≤ 4194304) (up : Nat) (hto : l.flushed = l.bytes.length ∨ up < l.flushed + 1) :
    Calls Tryz.prog 84 #[.pointer (some ⟨p, 0, none⟩), .int .u64 up] w fun e w' => e = .returned (.int .i64 0) ∧ Below w.heap.size w w' := by
  have HFL : Hid (∀ W : World, W.heap = w.heap → Calls Tryz.prog 24 #[.pointer (some ⟨p, 0, none⟩)] W fun e w' => e = .returned (.int .u64 ((l.flushed + 1 : Nat) : Int)) ∧ w' = W) := fun W hW => flushed_out (h.same (fun k hk => by rw [hW]) (by rw [hW]; exact Nat.le_refl _)) (by omega)
  obtain ⟨ba, bc, sv, hC⟩ := h.lcells
  have c1 := hC.c1
  have c3 := hC.c3
  clear hC h
  by_cases he : l.flushed = l.bytes.length
  · have k0 : ((l.flushed : Int) == (l.bytes.length : Int)) = true := by rw [he]; simp
    clear he hto hf
    go_enter Tryz.func84, Tryz.ntmps84
    go_wp2_with fail
    go_quiet (fail)
    go_wp2
    go_ret
    exact ⟨rfl, below_drewN' _ _⟩
  · have k0 : ((l.flushed : Int) == (l.bytes.length : Int)) = false := by rw [beq_eq_false_iff_ne]; omega
    have k1 : decide ((up : Int) < ((l.flushed + 1 : Nat) : Int)) = true := by simp; omega
    have k2 : decide ((up : Int) < (l.flushed : Int) + 1) = true := by simp; omega
    go_enter Tryz.func84, Tryz.ntmps84
    go_wp2_with fail
    go_region_held3 (fun w' => w'.cell? ⟨p, 1, none⟩ = some (.slice ba l.bytes.length bc) ∧ w'.cell? ⟨p, 3, none⟩ = some (.int .i64 l.flushed)) (first | exact ⟨c1, c3⟩ | go_keep)
      (first | (go_at_call 24; refine (HFL.out w.drew rfl).mono ?_; rintro x w3 ⟨rfl, rfl⟩))
    go_wp2
    go_ret
    exact ⟨rfl, (Below.refl _ _).drew⟩

end

end Go.Proofs.YtgmfgkdecpldeaaGreat
