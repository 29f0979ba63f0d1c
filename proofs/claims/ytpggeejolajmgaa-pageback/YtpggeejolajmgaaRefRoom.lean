/-
  The walk of girderref03.Room.
-/
import Derived.Test.YtpggeejolajmgaaPageEncode
namespace Go.Proofs.Ytpggeejolajmgaa
open Go.RowKit
set_option linter.unusedVariables false

set_option maxHeartbeats 400000 in
theorem refRoom_any (p : SheetV) (a : Option Addr) (c : Nat) (w : World) (hl : p.slots.length ≤ maxLen) (hs : ∀ s ∈ p.slots, s.size ≤ maxLen) (hh : p.head.size ≤ maxLen) (hm : StrsAt w a p.slots) :
    Calls Try.prog 8 #[p.val a c] w fun e w' => e = .returned (.int .i64 (roomF p)) ∧ Below w.heap.size w w' := by
  obtain ⟨num, lsn, kind, head, L⟩ := p
  unfold SheetV.val
  simp only at hl hs hh hm ⊢
  unfold maxLen at hl hs hh
  go_enter Try.func8, Try.ntmps8
  go_wp2
  go_loop [3, 4] (fun t i => ∃ k : Nat, k ≤ L.length ∧ i = .int .i64 k ∧ t = .int .i64 (IntKind.i64.wrap (485 - (head.size : Int) - (slotSum (L.take k) : Int)))) (fun _ i => L.length - (intOf i).toNat)
  case atStart => exact ⟨0, Nat.zero_le _, rfl, by simp [slotSum]; rw [IntKind.wrap_i64]; omega⟩
  case round =>
    obtain ⟨k, hk, rfl, rfl⟩ := hrel
    by_cases hlt : k < L.length
    · have hsz := hs L[k] (List.getElem_mem _)
      have hsn : Hid (slotSum (L.take (k + 1)) = slotSum (L.take k) + (2 + L[k].size)) := slotSum_snoc L k hlt
      rcases hm with hm | ⟨b, o, rfl, hb, hc⟩
      · rw [hm] at hlt; simp at hlt
      have hck := hc k hlt
      clear hc
      generalize L[k] = s at *
      generalize slotSum (L.take k) = S at *
      go_wp2
      go_round
      case rel => exact ⟨k + 1, by omega, by go_num, by rw [hsn.out]; simp only [IntKind.wrap_i64, wrap64]; congr 1; omega⟩
      case measure => simp [intOf]; omega
    · obtain rfl : k = L.length := by omega
      go_wp2
      go_ret
      exact ⟨rfl, (Below.refl _ _).alloc (Nat.le_refl _) _⟩

theorem SheetV.Ok.refRoom {p : SheetV} {w : World} {a : Option Addr} (h : p.Ok w a) (c : Nat) :
    Calls Try.prog 8 #[p.val a c] w fun e w' => e = .returned (.int .i64 (roomF p)) ∧ Below w.heap.size w w' :=
  refRoom_any p a c w (by have := h.len; unfold maxLen; omega) (fun s hs => by have := h.slots s hs; unfold maxLen; omega) (by have := h.head; unfold maxLen; omega) h.mem

end Go.Proofs.Ytpggeejolajmgaa
