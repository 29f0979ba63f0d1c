/-
  The walk of space.Fresh: the map with its first pages taken.
-/
import Derived.Test.YtkknglcckjhngaaSpaceAllC
import Derived.Test.YtkknglcckjhngaaBase1C
namespace Go.Proofs.Ytkknglcckjhngaa
open Go.RowKit
set_option linter.unusedVariables false

/-- Byte j of the map whose first k pages are taken. -/
def frF : Nat → Nat → Nat
  | 0, _ => 0
  | k + 1, j => if j = k / 8 then frF k j ||| 2 ^ (k % 8) else frF k j

theorem frF_lt (k j : Nat) : frF k j < 256 := by
  induction k with
  | zero => simp [frF]
  | succ k ih =>
    simp only [frF]
    split
    · exact Nat.or_lt_two_pow (n := 8) ih (Nat.pow_lt_pow_of_lt (a := 2) (m := 8) (by decide) (Nat.mod_lt _ (by decide)))
    · exact ih

theorem frF_bit (k j i : Nat) (hi : i < 8) : (frF k j).testBit i = decide (8 * j + i < k) := by
  induction k with
  | zero => simp [frF]
  | succ k ih =>
    simp only [frF]
    split
    · rename_i e
      rw [Nat.testBit_or, ih]
      by_cases c : k % 8 = i
      · subst c
        rw [Nat.testBit_two_pow_self]
        have : 8 * j + k % 8 < k + 1 := by omega
        simp [this]
      · rw [Nat.testBit_two_pow_of_ne c, Bool.or_false]
        by_cases d : 8 * j + i < k
        · simp [d, Nat.lt_succ_of_lt d]
        · simp [d]; omega
    · rename_i e
      rw [ih]
      by_cases d : 8 * j + i < k
      · simp [d, Nat.lt_succ_of_lt d]
      · simp [d]; omega

/-- The slot of the map whose first k pages are taken. -/
def freshL (k : Nat) : List UInt8 := (List.range 256).map fun j => UInt8.ofNat (frF k j)
def freshS (k : Nat) : ByteArray := ⟨(freshL k).toArray⟩

theorem freshL_length (k : Nat) : (freshL k).length = 256 := by unfold freshL; rw [List.length_map, List.length_range]
theorem freshS_size (k : Nat) : (freshS k).size = 256 := by
  show (freshL k).toArray.size = 256
  rw [List.size_toArray, freshL_length]

theorem freshL_at (k j : Nat) (hj : j < (freshL k).length) : (freshL k)[j].toNat = frF k j := by
  simp only [freshL, List.getElem_map, List.getElem_range]
  exact UInt8.toNat_ofNat_of_lt' (by simpa using frF_lt k j)

theorem fresh_byt (k j : Nat) (hj : j < 256) : bytN (freshS k) j = frF k j := by
  unfold bytN freshS
  have h : j < (freshL k).length := by rw [freshL_length]; exact hj
  rw [List.getD_eq_getElem?_getD, show (ByteArray.mk (freshL k).toArray).data.toList = freshL k from by simp, List.getElem?_eq_getElem h]
  exact freshL_at k j h

theorem fresh_tk (k n : Nat) : tkB (freshS k) n = decide (1 ≤ n ∧ n ≤ 2048 ∧ n ≤ k) := by
  unfold tkB bitS
  by_cases h : 1 ≤ n ∧ n ≤ 2048
  · rw [fresh_byt k (atN n) (atN_lt h.2), frF_bit k _ _ (Nat.mod_lt _ (by decide))]
    have : (8 * atN n + (n - 1) % 8 < k) ↔ n ≤ k := by unfold atN; omega
    simp [h.1, h.2, this]
  · simp only [h, decide_false, Bool.false_and]
    simp; omega

/-- Two changes one behind the other. -/
structure TwoOps (w : World) (g : Nat) (v0 v1 v2 v3 u0 u1 u2 u3 : Value) : Prop where
  lt : g < w.heap.size
  c0 : w.cell? ⟨g, 0, none⟩ = some v0
  c1 : w.cell? ⟨g, 1, none⟩ = some v1
  c2 : w.cell? ⟨g, 2, none⟩ = some v2
  c3 : w.cell? ⟨g, 3, none⟩ = some v3
  c4 : w.cell? ⟨g, 4, none⟩ = some u0
  c5 : w.cell? ⟨g, 5, none⟩ = some u1
  c6 : w.cell? ⟨g, 6, none⟩ = some u2
  c7 : w.cell? ⟨g, 7, none⟩ = some u3

theorem TwoOps.below {w w' : World} {g : Nat} {v0 v1 v2 v3 u0 u1 u2 u3 : Value} (h : TwoOps w g v0 v1 v2 v3 u0 u1 u2 u3) (k : Below w.heap.size w w') : TwoOps w' g v0 v1 v2 v3 u0 u1 u2 u3 :=
  have e := fun i => k.cell (p := ⟨g, i, none⟩) h.lt
  ⟨Nat.lt_of_lt_of_le h.lt k.size, (e 0).trans h.c0, (e 1).trans h.c1, (e 2).trans h.c2, (e 3).trans h.c3, (e 4).trans h.c4, (e 5).trans h.c5, (e 6).trans h.c6, (e 7).trans h.c7⟩

/-- The two changes that make the map. -/
def FreshOps (w : World) (g k : Nat) : Prop := TwoOps w g (.int .i64 1) (.int .i64 1) (.string ⟨#[]⟩) (.string ⟨#[]⟩) (.int .i64 2) (.int .i64 0) (.string (freshS k)) (.string ⟨#[]⟩)

set_option maxHeartbeats 400000 in
set_option maxRecDepth 60000 in
theorem fresh_no (k : Int) (w : World) (h : k < 1 ∨ 2048 < k) :
    Calls Try.prog 8 #[.int .i64 k] w fun e w' => e = .returned (.tuple #[.slice none 0 0, .int .i64 1]) ∧ w' = w := by
  by_cases c : k < 1
  · go_enter Try.func8, Try.ntmps8
    go_wp2
    go_ret2
    exact ⟨rfl, rfl⟩
  · have c' : 2048 < k := by omega
    go_enter Try.func8, Try.ntmps8
    go_wp2
    go_ret2
    exact ⟨rfl, rfl⟩

set_option maxHeartbeats 1600000 in
set_option maxRecDepth 8000 in
theorem fresh_ok (K : Nat) (w : World) (h1 : 1 ≤ K) (h2 : K ≤ 2048) :
    Calls Try.prog 8 #[.int .i64 K] w fun e w' => ∃ g, e = .returned (.tuple #[.slice (some ⟨g, 0, none⟩) 2 2, .int .i64 0]) ∧ Below w.heap.size w w' ∧ w.heap.size < g ∧ FreshOps w' g K := by
  have hmk : ∀ wx : World, (Instr.makeSlice 61 (.int .i64 256) (.int .i64 256)).run Try.prog wx = .ok (.slice (some ⟨wx.heap.size, 0, none⟩) 256 256) (wx.alloc (.cells (madeCells #[.int .u8 0] 256) 5)) := fun wx => run_make_row' (P := Try.prog) 61 5 (.int .u8 0) 1 Try.underlying61 info5 rfl .i64 .i64 256 (by omega) (by omega) wx
  have c1 : ¬ (K : Int) < 1 := by omega
  have c2 : ¬ 2048 < (K : Int) := by omega
  have HR0 : Hid (RowU (w.alloc (.cells (madeCells #[.int .u8 0] 256) 5)) w.heap.size 256 (fun j => (frF 0 j : Int))) := (RowU.made w 256 _).congr (fun j _ => by simp [frF])
  have B0 : Below w.heap.size w (w.alloc (.cells (madeCells #[.int .u8 0] 256) 5)) := (Below.refl _ _).alloc (Nat.le_refl _) _
  have Z0 : w.heap.size < (w.alloc (.cells (madeCells #[.int .u8 0] 256) 5)).heap.size := by simp
  obtain ⟨W, HW⟩ : ∃ W, Hid (W = w.alloc (.cells (madeCells #[.int .u8 0] 256) 5)) := ⟨_, rfl⟩
  rw [← HW.out] at HR0 B0 Z0
  go_enter Try.func8, Try.ntmps8
  go_wp2_with fail
  rw [← HW.out]
  clear HW
  go_loopw [16] (fun i wr => ∃ k : Nat, k ≤ K ∧ i = .int .i64 k ∧ Hid (RowU wr w.heap.size 256 (fun j => (frF k j : Int))) ∧ Hid (Below w.heap.size w wr ∧ w.heap.size < wr.heap.size)) (fun i _ => K - (intOf i).toNat)
  case atStart => exact ⟨0, Nat.zero_le _, rfl, HR0, B0, Z0⟩
  case round =>
    obtain ⟨k, hk, rfl, HR, HB⟩ := hrel
    clear HR0 B0 Z0 hmk
    by_cases hlt : k < K
    · have HPL : Hid (∀ wx, Calls Try.prog 21 #[.int .u32 ((k + 1 : Nat) : Int)] wx fun e w' => e = .returned (.tuple #[.int .i64 (k / 8 : Nat), .int .u8 (2 ^ (k % 8) : Nat)]) ∧ ∃ m, w' = wx.drewN m) := fun wx => place_any (k + 1) wx (by omega) (by omega)
      have hA : k / 8 < 256 := by omega
      have hQ : 2 ^ (k % 8) < 256 := pwN_lt (k + 1)
      have hF := frF_lt k (k / 8)
      have HN : Hid (∀ j, frF (k + 1) j = if j = k / 8 then frF k j ||| 2 ^ (k % 8) else frF k j) := fun j => rfl
      generalize 2 ^ (k % 8) = Q at *
      generalize k / 8 = A at *
      have hor : bits .or .u8 ((frF k A : Nat) : Int) (Q : Int) = ((frF k A ||| Q : Nat) : Int) := u8_or_nat _ _ hF hQ
      have hlt' : (k : Int) < K := by omega
      go_wp2_with fail
      refine (HPL.out _).mono ?_
      rintro e w2 ⟨rfl, m, rfl⟩
      have HR2 : Hid (RowU (wr.drewN m) w.heap.size 256 (fun j => (frF k j : Int))) := HR.out
      have HB2 : Hid (Below w.heap.size w (wr.drewN m) ∧ w.heap.size < (wr.drewN m).heap.size) := ⟨below_drewN HB.out.1 m, HB.out.2⟩
      obtain ⟨V, HV⟩ : ∃ V, Hid (V = wr.drewN m) := ⟨_, rfl⟩
      rw [← HV.out] at HR2 HB2 ⊢
      clear HV HR HB HPL
      have hcA := (HR2.out A hA).1
      have hfA := (HR2.out A hA).2
      simp only at hcA
      have HR3 : Hid (RowU (V.setCell ⟨w.heap.size, A, none⟩ (.int .u8 ((frF k A ||| Q : Nat) : Int))) w.heap.size 256 (fun j => (frF (k + 1) j : Int))) := (HR2.out.set hA _).congr (fun j _ => by
        rw [HN.out j]
        by_cases e : j = A
        · subst e; simp
        · simp [e])
      have HB3 : Hid (Below w.heap.size w (V.setCell ⟨w.heap.size, A, none⟩ (.int .u8 ((frF k A ||| Q : Nat) : Int))) ∧ w.heap.size < (V.setCell ⟨w.heap.size, A, none⟩ (.int .u8 ((frF k A ||| Q : Nat) : Int))).heap.size) := ⟨HB2.out.1.setCell (Nat.le_refl _) _, by simpa using HB2.out.2⟩
      clear HN
      generalize frF k A = X at *
      go_wp2
      go_roundw
      case rel => exact ⟨k + 1, by omega, by go_num, HR3, HB3⟩
      case measure => simp [intOf]; omega
    · obtain rfl : k = K := by omega
      have hcv : (convert 61 9 (.slice (some ⟨w.heap.size, 0, none⟩) 256 256)).run Try.prog wr = .ok (.string (freshS k)) wr :=
        HR.out.toString (freshL k) (freshL_length k) (fun j hj => by rw [freshL_at k j hj]) _ _ _ Try.underlying61 Try.underlying5 Try.underlying9
      obtain ⟨s, HS⟩ : ∃ s, Hid (freshS k = s) := ⟨_, rfl⟩
      rw [HS.out] at hcv
      go_wp2
      go_ret2
      refine ⟨wr.heap.size, rfl, HB.out.1.alloc (by have := HB.out.2; omega) _, HB.out.2, ?_⟩
      unfold FreshOps
      rw [HS.out]
      exact ⟨by simp, by simp, by simp, by simp, by simp, by simp, by simp, by simp, by simp⟩

end Go.Proofs.Ytkknglcckjhngaa
