/-
  The walk of girderref03.Encode, of pages that it refuses.
-/
import Derived.Test.YtbkdedkifbffhaaRefRoom
namespace Go.Proofs.Ytbkdedkifbffhaa
open Go.RowKit
set_option linter.unusedVariables false

set_option maxHeartbeats 800000 in
theorem refEncode_arg (p : SheetV) (a : Option Addr) (c : Nat) (w : World) (h : p.Ok w a) (hk : p.kind < 0 ∨ 255 < p.kind ∨ 32 < p.head.size ∨ 64 < p.slots.length) :
    Calls Try.prog 10 #[p.val a c] w fun e w' => e = .returned (.tuple #[.string ⟨#[]⟩, .int .i64 1]) ∧ Below w.heap.size w w' := by
  have h1 := h.kind
  have h2 := h.head
  have h3 := h.len
  obtain ⟨num, lsn, kind, head, L⟩ := p
  unfold SheetV.val
  simp only at hk h1 h2 h3 ⊢
  by_cases k1 : kind < 0
  · go_enter Try.func10, Try.ntmps10
    go_wp2
    go_ret2
    exact ⟨rfl, (Below.refl _ _).alloc (Nat.le_refl _) _⟩
  by_cases k2 : 255 < kind
  · go_enter Try.func10, Try.ntmps10
    go_wp2
    go_ret2
    exact ⟨rfl, (Below.refl _ _).alloc (Nat.le_refl _) _⟩
  by_cases k3 : 32 < head.size
  · have k1' : 0 ≤ kind := by omega
    have k2' : kind ≤ 255 := by omega
    go_enter Try.func10, Try.ntmps10
    go_wp2
    go_ret2
    exact ⟨rfl, (Below.refl _ _).alloc (Nat.le_refl _) _⟩
  have k4 : 64 < L.length := by omega
  have k1' : 0 ≤ kind := by omega
  have k2' : kind ≤ 255 := by omega
  have k3' : head.size ≤ 32 := by omega
  go_enter Try.func10, Try.ntmps10
  go_wp2
  go_ret2
  exact ⟨rfl, (Below.refl _ _).alloc (Nat.le_refl _) _⟩

set_option maxHeartbeats 800000 in
theorem refEncode_full (p : SheetV) (a : Option Addr) (c : Nat) (w : World) (h : p.Ok w a) (k1 : 0 ≤ p.kind) (k2 : p.kind ≤ 255) (k3 : p.head.size ≤ 32) (k4 : p.slots.length ≤ 64) (hf : 485 < p.head.size + slotSum p.slots) :
    Calls Try.prog 10 #[p.val a c] w fun e w' => e = .returned (.tuple #[.string ⟨#[]⟩, .int .i64 30]) ∧ Below w.heap.size w w' := by
  have hr := roomF_eq h k4
  have h' := h.below ((Below.refl w.heap.size w).alloc (Nat.le_refl _) (.cells #[.int .u32 p.num, .int .u64 p.lsn, .int .i64 p.kind, .string p.head, .slice a p.slots.length c] 35))
  have HR : Hid (∀ d, Calls Try.prog 16 #[p.val a d] (w.alloc (.cells #[.int .u32 p.num, .int .u64 p.lsn, .int .i64 p.kind, .string p.head, .slice a p.slots.length c] 35)) fun e w' => e = .returned (.int .i64 (485 - (p.head.size : Int) - (slotSum p.slots : Int))) ∧ Below (w.heap.size + 1) (w.alloc (.cells #[.int .u32 p.num, .int .u64 p.lsn, .int .i64 p.kind, .string p.head, .slice a p.slots.length c] 35)) w') := fun d => by
    have := h'.refRoom d
    rw [hr] at this
    simpa using this
  have HS : Hid (slotSum p.slots ≤ 64 * 140737488351234) := slotSum_le p.slots k4 h.slots
  clear h' h hr
  obtain ⟨num, lsn, kind, head, L⟩ := p
  unfold SheetV.val at *
  simp only at *
  generalize slotSum L = S at *
  have hS := HS.out
  go_enter Try.func10, Try.ntmps10
  go_wp2_with fail
  refine (HR.out c).mono ?_
  rintro e w1 ⟨rfl, b1⟩
  go_wp2
  go_ret2
  exact ⟨rfl, ((Below.refl _ _).alloc (Nat.le_refl _) _).trans (b1.mono (by omega))⟩

end Go.Proofs.Ytbkdedkifbffhaa
