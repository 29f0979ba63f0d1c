/-
  The walk of space.Count.
-/
import Derived.Test.YtkknglcckjhngaaSpaceTakeC
import Derived.Test.YtkknglcckjhngaaShOnesC
namespace Go.Proofs.Ytkknglcckjhngaa
open Go.RowKit
set_option linter.unusedVariables false

theorem ones_any (x : Nat) (w : World) (h : x < 256) :
    Calls Try.prog 28 #[.int .u8 (x : Int)] w fun e w' => e = .returned (.int .i64 (Lib.onesCount x : Nat)) ∧ w' = w := by
  have := Any.bits_OnesCount8 shOnes (x : Int) w (by omega) (by omega)
  rw [Int.toNat_natCast] at this
  exact this

/-- How many pages a page says are taken. -/
def cntP (p : SheetV) : Nat := if isB p then cntN (slot0 p) 256 else 0

section
variable {p : SheetV} {a : Option Addr} {c : Nat} {w : World}

set_option maxHeartbeats 800000 in
set_option maxRecDepth 60000 in
theorem count_any (h : p.Lies w a) :
    Calls Try.prog 17 #[p.val a c] w fun e w' => e = .returned (.int .i64 (cntP p)) ∧ Below w.heap.size w w' := by
  have HIS : Hid (∀ wx, Below w.heap.size w wx → Calls Try.prog 14 #[p.val a c] wx fun e w' => e = .returned (.bool (isB p)) ∧ Below wx.heap.size wx w') := fun wx k => is_any (h.below k)
  obtain ⟨W, HW⟩ : ∃ W, Hid (W = boxP p a c w) := ⟨_, rfl⟩
  have hin : PageIn p a c w W := by rw [HW.out]; exact PageIn.start p a c w
  unfold boxP at HW
  by_cases c1 : isB p = true
  · obtain ⟨k1, k2, k3⟩ := isB_true c1
    have K2 : Hid (p.slots.length = 1) := k2
    have k2' : 0 < p.slots.length := by omega
    have K3 : Hid ((slot0 p).size = 256) := k3
    have HC : Hid (cntP p = cntN (slot0 p) 256) := by show _ = _; unfold cntP; rw [c1]; rfl
    clear k1 k2 k3
    rw [c1] at HIS
    rw [HC.out]
    clear HC
    obtain ⟨T, HT⟩ : ∃ T, Hid (cntN (slot0 p) 256 = T) := ⟨_, rfl⟩
    rw [HT.out]
    unfold SheetV.val at HIS ⊢
    go_enter Try.func17, Try.ntmps17
    go_wp2_with fail
    rw [← HW.out]
    clear HW
    refine (HIS.out _ hin.bel).mono ?_
    rintro e w1 ⟨rfl, b1⟩
    have h1 := hin.below b1
    obtain ⟨b, o, rfl, hb', hc, hz⟩ := (h.below h1.bel).first K2.out
    clear b1 hin HIS
    have x4 := h1.c4
    have B1 := h1.bel
    clear h1 h
    have K3' := K3.out
    generalize slot0 p = s at *
    go_wp2_with fail
    go_loop [3, 8] (fun t i => ∃ k : Nat, k ≤ 256 ∧ i = .int .i64 k ∧ t = .int .i64 (cntN s k : Nat)) (fun _ i => 256 - (intOf i).toNat)
    case atStart => exact ⟨0, Nat.zero_le _, rfl, rfl⟩
    case round =>
      obtain ⟨k, hk, rfl, rfl⟩ := hrel
      by_cases hlt : k < 256
      · have hlt' : (k : Int) < 256 := by omega
        have hks : k < s.size := by omega
        have HO : Hid (∀ wx, Calls Try.prog 28 #[.int .u8 ((s[k].toNat : Nat) : Int)] wx fun e w' => e = .returned (.int .i64 (Lib.onesCount (bytN s k) : Nat)) ∧ w' = wx) := fun wx => by
          rw [bytN_at hks]; exact ones_any _ wx (UInt8.toNat_lt _)
        have HC : Hid (cntN s (k + 1) = cntN s k + Lib.onesCount (bytN s k)) := rfl
        have hle := ones_le _ (bytN_lt s k)
        have hcl := cntN_le s k
        generalize Lib.onesCount (bytN s k) = O at *
        generalize cntN s k = C at *
        clear K3'
        go_wp2_with fail
        refine (HO.out _).mono ?_
        rintro e w2 ⟨rfl, rfl⟩
        go_wp2
        go_round
        case rel => exact ⟨k + 1, by omega, by go_num, by rw [HC.out]; go_num⟩
        case measure => simp [intOf]; omega
      · obtain rfl : k = 256 := by omega
        clear K3'
        rw [HT.out]
        go_wp2
        go_ret
        exact ⟨rfl, B1⟩
  · have c1' : isB p = false := by simpa using c1
    rw [show cntP p = 0 from by unfold cntP; rw [c1']; rfl]
    rw [c1'] at HIS
    unfold SheetV.val at HIS ⊢
    go_enter Try.func17, Try.ntmps17
    go_wp2_with fail
    rw [← HW.out]
    clear HW
    refine (HIS.out _ hin.bel).mono ?_
    rintro e w1 ⟨rfl, b1⟩
    have h1 := hin.below b1
    clear b1 hin
    go_wp2
    go_ret
    exact ⟨rfl, h1.bel⟩

end
end Go.Proofs.Ytkknglcckjhngaa
