/-
  The walk of space.turn.
-/
import Derived.Test.YtkknglcckjhngaaSpaceWalksC
namespace Go.Proofs.Ytkknglcckjhngaa
open Go.RowKit
set_option linter.unusedVariables false

/-- A change as a value. -/
def turnV (s : ByteArray) (n : Nat) : Value := .agg #[.int .i64 6, .int .i64 (atN n : Nat), .string (one (bytN s (atN n) ^^^ pwN n)), .string (one (bytN s (atN n)))]

section
variable {p : SheetV} {a : Option Addr} {c : Nat} {w : World}

theorem one_run (wx : World) (b : Nat) (x : Nat) (hx : x < 256) (hc : wx.cell? ⟨b, 0, none⟩ = some (.int .u8 (x : Int))) :
    (convert 61 9 (.slice (some ⟨b, 0, none⟩) 1 1)).run Try.prog wx = .ok (.string (one x)) wx := by
  have e : (UInt8.ofNat x).toNat = x := UInt8.toNat_ofNat_of_lt' (by simpa using hx)
  refine run_convert_bytes_back wx 61 9 5 ⟨b, 0, none⟩ 1 [UInt8.ofNat x] Try.underlying61 Try.underlying5 Try.underlying9 (fun j hj => ?_)
  obtain rfl : j = 0 := by simpa using hj
  rw [show (Addr.add ⟨b, 0, none⟩ 0) = ⟨b, 0, none⟩ from by simp [Addr.add], hc]
  simp [e]

set_option maxHeartbeats 800000 in
set_option maxRecDepth 60000 in
theorem turn_any' (h : p.Lies w a) (hm : isB p = true) (n : Nat) (h1 : 1 ≤ n) (h2 : n ≤ 2048) :
    Calls Try.prog 22 #[p.val a c, .int .u32 n] w fun e w' => e = .returned (turnV (slot0 p) n) ∧ Below w.heap.size w w' := by
  obtain ⟨k1, k2, k3⟩ := isB_true hm
  have K2 : Hid (p.slots.length = 1) := k2
  have k2' : 0 < p.slots.length := by omega
  clear k1 k2
  have HPL : Hid (∀ wx, Calls Try.prog 21 #[.int .u32 n] wx fun e w' => e = .returned (.tuple #[.int .i64 (atN n : Nat), .int .u8 (pwN n : Nat)]) ∧ ∃ k, w' = wx.drewN k) := fun wx => place_any n wx h1 (by omega)
  have ha := atN_lt h2
  have hp := pwN_lt n
  have hx := Nat.xor_lt_two_pow (n := 8) (bytN_lt (slot0 p) (atN n)) hp
  unfold turnV
  obtain ⟨s, HS⟩ : ∃ s, Hid (slot0 p = s) := ⟨_, rfl⟩
  obtain ⟨A, HA⟩ : ∃ A, Hid (atN n = A) := ⟨_, rfl⟩
  obtain ⟨Q, HQ⟩ : ∃ Q, Hid (pwN n = Q) := ⟨_, rfl⟩
  rw [HS.out] at k3 hx ⊢
  rw [HA.out] at HPL ha hx ⊢
  rw [HQ.out] at HPL hp hx ⊢
  have hAs : A < s.size := by omega
  rw [bytN_at hAs] at hx ⊢
  clear k3 ha
  have hxor : bits .xor .u8 ((s[A].toNat : Nat) : Int) (Q : Int) = ((s[A].toNat ^^^ Q : Nat) : Int) := u8_xor_nat _ _ (UInt8.toNat_lt _) hp
  obtain ⟨W, HW⟩ : ∃ W, Hid (W = (boxP p a c w).alloc (.cells #[.int .i64 0, .int .i64 0, .string ⟨#[]⟩, .string ⟨#[]⟩] 41)) := ⟨_, rfl⟩
  have hin : PageIn p a c w W := by rw [HW.out]; exact (PageIn.start p a c w).below ((Below.refl _ _).alloc (Nat.le_refl _) _)
  unfold boxP at HW
  unfold SheetV.val
  go_enter Try.func22, Try.ntmps22
  go_wp2_with fail
  rw [← HW.out]
  refine (HPL.out _).mono ?_
  rintro e w3 ⟨rfl, nk, rfl⟩
  have h3 : PageIn p a c w (W.drewN nk) := hin.below (below_drewN (Below.refl _ _) nk)
  obtain ⟨b, o, rfl, hb', hc, hz⟩ := (h.below h3.bel).first K2.out
  rw [HS.out] at hc hz
  have x4 := h3.c4
  have B3 := h3.bel
  have hsz : w.heap.size + 2 = W.heap.size := by rw [HW.out]; simp
  have y0 : (W.drewN nk).cell? ⟨w.heap.size + 1, 0, none⟩ = some (.int .i64 0) := by show W.cell? _ = _; rw [HW.out]; simp
  have y1 : (W.drewN nk).cell? ⟨w.heap.size + 1, 1, none⟩ = some (.int .i64 0) := by show W.cell? _ = _; rw [HW.out]; simp
  have y2 : (W.drewN nk).cell? ⟨w.heap.size + 1, 2, none⟩ = some (.string ⟨#[]⟩) := by show W.cell? _ = _; rw [HW.out]; simp
  have y3 : (W.drewN nk).cell? ⟨w.heap.size + 1, 3, none⟩ = some (.string ⟨#[]⟩) := by show W.cell? _ = _; rw [HW.out]; simp
  have g0 : (W.drewN nk).frozen? ⟨w.heap.size + 1, 0, none⟩ = false := by show W.frozen? _ = _; rw [HW.out]; simp
  have g1 : (W.drewN nk).frozen? ⟨w.heap.size + 1, 1, none⟩ = false := by show W.frozen? _ = _; rw [HW.out]; simp
  have g2 : (W.drewN nk).frozen? ⟨w.heap.size + 1, 2, none⟩ = false := by show W.frozen? _ = _; rw [HW.out]; simp
  have g3 : (W.drewN nk).frozen? ⟨w.heap.size + 1, 3, none⟩ = false := by show W.frozen? _ = _; rw [HW.out]; simp
  have hsz3 : w.heap.size + 1 < (W.drewN nk).heap.size := by show _ < W.heap.size; omega
  obtain ⟨V, HV⟩ : ∃ V, Hid (V = W.drewN nk) := ⟨_, rfl⟩
  rw [← HV.out] at h3 hb' hc x4 B3 y0 y1 y2 y3 g0 g1 g2 g3 hsz3 ⊢
  clear HV HW hin h hsz
  have hcv1 := one_run (V.alloc (.cells #[.int .u8 ((s[A].toNat ^^^ Q : Nat) : Int)] 5)) V.heap.size (s[A].toNat ^^^ Q) hx (by simp)
  have hcv2 := one_run ((V.alloc (.cells #[.int .u8 ((s[A].toNat ^^^ Q : Nat) : Int)] 5)).alloc (.cells #[.int .u8 ((s[A].toNat : Nat) : Int)] 5)) (V.heap.size + 1) s[A].toNat (UInt8.toNat_lt _) (by simp)
  have bb : Below V.heap.size V ((V.alloc (.cells #[.int .u8 ((s[A].toNat ^^^ Q : Nat) : Int)] 5)).alloc (.cells #[.int .u8 ((s[A].toNat : Nat) : Int)] 5)) := ((Below.refl _ _).alloc (Nat.le_refl _) _).alloc (by simp) _
  have z0 := (bb.cell (p := ⟨w.heap.size + 1, 0, none⟩) hsz3).trans y0
  have z1 := (bb.cell (p := ⟨w.heap.size + 1, 1, none⟩) hsz3).trans y1
  have z2 := (bb.cell (p := ⟨w.heap.size + 1, 2, none⟩) hsz3).trans y2
  have z3 := (bb.cell (p := ⟨w.heap.size + 1, 3, none⟩) hsz3).trans y3
  have e0 := (bb.frozen (p := ⟨w.heap.size + 1, 0, none⟩) hsz3).trans g0
  have e1 := (bb.frozen (p := ⟨w.heap.size + 1, 1, none⟩) hsz3).trans g1
  have e2 := (bb.frozen (p := ⟨w.heap.size + 1, 2, none⟩) hsz3).trans g2
  have e3 := (bb.frozen (p := ⟨w.heap.size + 1, 3, none⟩) hsz3).trans g3
  clear y0 y1 y2 y3 g0 g1 g2 g3
  go_wp2
  refine bodyPost_ret (v := .agg #[.int .i64 6, .int .i64 A, .string (one (s[A].toNat ^^^ Q)), .string (one s[A].toNat)]) (by simp [results, Try.results22, go_sem, z0, z1, z2, z3]) rfl ⟨rfl, ?_⟩
  have q := ((B3.alloc (by omega) (.cells #[.int .u8 ((s[A].toNat ^^^ Q : Nat) : Int)] 5)).alloc (by simp; omega) (.cells #[.int .u8 ((s[A].toNat : Nat) : Int)] 5))
  exact (((q.setCell (by simp) _).setCell (by simp) _).setCell (by simp) _).setCell (by simp) _

end
end Go.Proofs.Ytkknglcckjhngaa
