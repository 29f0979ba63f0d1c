/-
  The walks of girderlaw11.same (of the same values) and girderlaw11.awake.
-/
import Derived.Test.YtgammhmgdafpkaaDoorKeyReadM
namespace Go.Proofs.YtgammhmgdafpkaaDoor
open Go.RowKit Go.Sort
set_option linter.unusedVariables false
set_option linter.unusedSimpArgs false

set_option maxHeartbeats 1600000 in
theorem same_yes (a1 a2 : Option Addr) (c d : Nat) (L : List ValV) (w : World) (hL : ValsAt w a1 L) (hM : ValsAt w a2 L) (hl : L.length ≤ 9223372036854775807) :
    Calls Tryd.prog 16 #[.slice a1 L.length c, .slice a2 L.length d] w fun e w' => e = .returned (.bool true) ∧ Below w.heap.size w w' := by
  have hlb : ((L.length : Int) != (L.length : Int)) = false := by simp
  go_enter Tryd.func16, Tryd.ntmps16
  go_wp2_with fail
  go_loopw [5] (fun i wr => ∃ k : Nat, k ≤ L.length ∧ i = .int .i64 k ∧ Hid (Below w.heap.size w wr)) (fun i _ => L.length - (intOf i).toNat)
  case atStart => exact ⟨0, by omega, rfl, Below.refl _ _⟩
  case round =>
    obtain ⟨k, hk, rfl, HB⟩ := hrel
    by_cases hlt : k < L.length
    · replace hL := hL.below HB.out
      replace hM := hM.below HB.out
      rcases hL with hL | ⟨b1, o1, rfl, hb1, g1⟩
      · rw [hL] at hlt; simp at hlt
      rcases hM with hM | ⟨b2, o2, rfl, hb2, g2⟩
      · rw [hM] at hlt; simp at hlt
      have g1 := g1 k hlt
      have g2 := g2 k hlt
      have hi0 : (0 : Int) ≤ (k : Int) := by omega
      have hi1 : (k : Int) < (L.length : Int) := by omega
      obtain ⟨v, Hv⟩ : ∃ v, Hid (L[k] = v) := ⟨L[k], rfl⟩
      rw [Hv.out] at g1 g2
      clear Hv
      obtain ⟨vk, vn, vS⟩ := v
      obtain ⟨p0, p1, p2⟩ := g1
      obtain ⟨r0, r1, r2⟩ := g2
      simp only at p0 p1 p2 r0 r1 r2
      have e0 : (vk != vk) = false := by simp
      have e1 : (vn != vn) = false := by simp
      have e2 : (vS.toList == vS.toList) = true := by simp
      go_wp2_with fail
      go_quiet (fail)
      go_wp2
      go_roundw
      case rel => exact ⟨k + 1, by omega, by go_num, below_drewN HB.out nq⟩
      case measure => simp [intOf]; omega
    · go_wp2
      go_ret
      exact ⟨rfl, HB.out⟩

/-- awake's row. -/
def awakeL : List ValV := [⟨1, -1, ByteArray.empty⟩, ⟨2, 0, ⟨#[97, 98]⟩⟩]

theorem awake_ok : rowE awakeL = 0 := by decide +kernel
theorem awake_in : ∀ v ∈ awakeL, v.In := by
  intro v hv
  simp only [awakeL, List.mem_cons, List.not_mem_nil, or_false] at hv
  rcases hv with rfl | rfl
  · exact ⟨by decide, by decide, by decide, by decide⟩
  · exact ⟨by decide, by decide, by decide, by decide⟩
theorem awake_size : ∀ v ∈ awakeL, v.S.size ≤ 9223372036854775807 := by
  intro v hv
  simp only [awakeL, List.mem_cons, List.not_mem_nil, or_false] at hv
  rcases hv with rfl | rfl
  · exact Nat.zero_le _
  · show 2 ≤ _; omega
theorem awake_read : valsL ⟨(rowB awakeL).toArray⟩ = awakeL ∧ valsE ⟨(rowB awakeL).toArray⟩ = 0 := by
  have h := read_row awake_ok awake_in
  rw [rowB_ok awake_ok]
  unfold valsL valsE
  rw [if_pos h.1, if_pos h.1]
  exact ⟨h.2, rfl⟩

set_option maxHeartbeats 1600000 in
theorem kawake_any (w : World) : Calls Tryd.prog 9 #[] w fun e w' => e = .returned (.bool true) ∧ Below w.heap.size w w' := by
  obtain ⟨W, HW⟩ : ∃ W, Hid (W = w.alloc (.cells #[.int .i64 1, .int .i64 (-1), .string ⟨#[]⟩, .int .i64 2, .int .i64 0, .string ⟨#[97, 98]⟩] 35)) := ⟨_, rfl⟩
  have hV : ValsAt W (some ⟨w.heap.size, 0, none⟩) awakeL := by
    rw [HW.out]
    refine .inr ⟨w.heap.size, 0, rfl, by simp, fun i hi => ?_⟩
    have : i = 0 ∨ i = 1 := by simp [awakeL] at hi; omega
    rcases this with rfl | rfl
    · exact ⟨by simp; rfl, by simp; rfl, by simp; rfl⟩
    · exact ⟨by simp; rfl, by simp; rfl, by simp; rfl⟩
  have bW : Below w.heap.size w W := by rw [HW.out]; exact (Below.refl _ _).alloc (Nat.le_refl _) _
  have HR : Hid (Calls Tryd.prog 31 #[.slice (some ⟨w.heap.size, 0, none⟩) 2 2] W fun e w' => e = .returned (.tuple #[.string ⟨(rowB awakeL).toArray⟩, .int .i64 0]) ∧ Below W.heap.size W w') := by
    have := row_any (some ⟨w.heap.size, 0, none⟩) 2 awakeL W hV (by decide) awake_size
    rw [awake_ok] at this
    exact this
  have hsz : (⟨(rowB awakeL).toArray⟩ : ByteArray).size ≤ 281474976710656 := by
    rw [bytes_size]
    have : (rowB awakeL).length ≤ 60 := by decide +kernel
    omega
  have HVs : Hid (∀ w1, Calls Tryd.prog 32 #[.string ⟨(rowB awakeL).toArray⟩] w1 fun x w' => ∃ a c, x = .returned (.tuple #[.slice a 2 c, .int .i64 0]) ∧ Hid (ValsAt w' a awakeL) ∧ Below w1.heap.size w1 w') := fun w1 => by
    have := values_any ⟨(rowB awakeL).toArray⟩ w1 hsz
    rw [awake_read.1, awake_read.2] at this
    exact this
  clear hsz
  generalize (⟨(rowB awakeL).toArray⟩ : ByteArray) = S at *
  go_enter Tryd.func9, Tryd.ntmps9
  go_wp2_with fail
  rw [← HW.out]
  refine HR.out.mono ?_
  rintro e w1 ⟨rfl, b1⟩
  go_wp2_with fail
  refine (HVs.out w1).mono ?_
  rintro e w2 ⟨a, c, rfl, HV2, b2⟩
  have hV2 := (hV.below b1).below b2
  have b3 := below_chain (below_chain bW b1) b2
  clear HW HR HVs b1 b2 bW hV
  rcases HV2.out with h | ⟨q, o, rfl, hq, g⟩
  · simp [awakeL] at h
  rcases hV2 with h | ⟨q2, o2, e2, hq2, g2⟩
  · simp [awakeL] at h
  simp only [Option.some.injEq, Addr.mk.injEq, and_true] at e2
  obtain ⟨rfl, rfl⟩ := e2
  obtain ⟨x0, x1, x2⟩ := g 0 (by decide)
  obtain ⟨x3, x4, x5⟩ := g 1 (by decide)
  obtain ⟨y0, y1, y2⟩ := g2 0 (by decide)
  obtain ⟨y3, y4, y5⟩ := g2 1 (by decide)
  simp only [awakeL, List.getElem_cons_zero, List.getElem_cons_succ, Nat.zero_mul, Nat.add_zero, Nat.one_mul, Nat.zero_add] at x0 x1 x2 x3 x4 x5 y0 y1 y2 y3 y4 y5
  clear g g2 HV2
  go_wp2_with fail
  go_quiet (fail)
  go_wp2
  go_ret
  exact ⟨rfl, below_drewN b3 nq⟩

end Go.Proofs.YtgammhmgdafpkaaDoor
