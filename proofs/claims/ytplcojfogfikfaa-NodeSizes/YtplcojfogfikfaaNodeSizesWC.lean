/-
  The walk of NodeSizes.
-/
import Derived.Test.YtplcojfogfikfaaNodeHalfC
import Derived.Test.YtplcojfogfikfaaNodeAwakeC
import Derived.Lib.QuietBelow
namespace Go.Proofs.Ytplcojfogfikfaa
open Go.RowKit Go.Sort
set_option linter.unusedVariables false
set_option linter.unusedSimpArgs false

theorem hIdx_range (L : List ByteArray) : -1 ≤ hIdx L ∧ hIdx L < L.length ∨ L.length = 0 ∧ hIdx L = -1 := by
  by_cases h : 0 ≤ hIdx L
  · left
    unfold hIdx at *
    have := idxF_lt h
    rw [List.length_range] at this
    exact ⟨by omega, this⟩
  · have h2 : hIdx L = -1 := by
      unfold hIdx at *
      unfold idxF at *
      split at h
      · omega
      · rename_i h1; rw [if_neg h1]
    by_cases h0 : L.length = 0
    · exact .inr ⟨h0, h2⟩
    · exact .inl (by omega)

theorem nmixed : Try.prog.follows .mixedOrders = true := by kernel_rfl

set_option maxHeartbeats 6400000 in
set_option maxRecDepth 20000 in
theorem sizes_walk (p : SheetV) (a : Option Addr) (c : Nat) (w : World) (hp : p.Ok w a) :
    Calls Try.prog 5 #[p.val a c] w fun e w' => e = .returned (.bool true) ∧ Below w.heap.size w w' := by
  have HAW : Hid (∀ wx, Calls Try.prog 11 #[] wx fun e w' => e = .returned (.bool true) ∧ Below wx.heap.size wx w') := fun wx => nawake_any wx
  have HFU : Hid (∀ wx, Below w.heap.size w wx → Calls Try.prog 29 #[p.val a c] wx fun e w' => e = .returned (.bool (fullB p)) ∧ Below wx.heap.size wx w') := fun wx hb => full_any p a c wx (hp.below hb)
  have HHA : Hid (∀ wx, Below w.heap.size w wx → Calls Try.prog 31 #[p.val a c] wx fun e w' => e = .returned (.int .i64 (halfF p.slots)) ∧ Below wx.heap.size wx w') := fun wx hb => half_any p a c wx (hp.below hb)
  have HRO : Hid (∀ wx, Below w.heap.size w wx → Calls Try.prog 30 #[p.val a c] wx fun e w' => e = .returned (.int .i64 (roomF p)) ∧ Below wx.heap.size wx w') := fun wx hb => (hp.below hb).room c
  have HFB : Hid (fullB p = (decide (64 ≤ p.slots.length) || decide (roomF p < mostN p.kind))) := rfl
  have hlen := hp.len
  have hsl := hp.slots
  have hm := hp.mem
  clear hp
  generalize roomF p = R at *
  obtain ⟨M, HM⟩ : ∃ M, Hid (mostN p.kind = M) := ⟨_, rfl⟩
  rw [HM.out] at HFB
  obtain ⟨FB, HFBe⟩ : ∃ FB, Hid (fullB p = FB) := ⟨_, rfl⟩
  rw [HFBe.out] at HFB HFU
  clear HFBe
  have HMk : Hid ((p.kind = 4 → M = 76) ∧ (p.kind ≠ 4 → M = 73)) := by
    have := HM.out
    unfold mostN at this
    exact ⟨fun h => by rw [if_pos h] at this; exact this.symm, fun h => by rw [if_neg h] at this; exact this.symm⟩
  clear HM
  obtain ⟨num, lsn, kind, hd, L⟩ := p
  simp only [SheetV.val] at *
  obtain ⟨W, HW⟩ : ∃ W, Hid (W = w.alloc (.cells #[.int .u32 num, .int .u64 lsn, .int .i64 kind, .string hd, .slice a L.length c] 29)) := ⟨_, rfl⟩
  have rW : RowV W w.heap.size 5 (five (.int .u32 num) (.int .u64 lsn) (.int .i64 kind) (.string hd) (.slice a L.length c)) := by rw [HW.out]; exact RowV.five_new _ _ _ _ _ _ _
  have bW : Below w.heap.size w W := by rw [HW.out]; exact (Below.refl _ _).alloc (Nat.le_refl _) _
  have zW : w.heap.size < W.heap.size := by rw [HW.out]; simp
  obtain ⟨x0, x1, x2, x3, x4⟩ := rW.cells5
  clear rW
  go_enter Try.func5, Try.ntmps5
  go_upto_if 11 with fail
  rw [← HW.out]
  clear HW
  go_cut [3] from 11 to 11 (fun v3 wx => v3 = .int .i64 M ∧ wx = W)
  case first =>
    by_cases hk4 : kind = 4
    · obtain rfl := HMk.out.1 hk4
      subst hk4
      go_wp2
      go_meet
      case rel => exact ⟨rfl, rfl⟩
    · have e4 : (kind == 4) = false := by rw [beq_eq_false_iff_ne]; exact hk4
      obtain rfl := HMk.out.2 hk4
      go_wp2
      go_meet
      case rel => exact ⟨rfl, rfl⟩
  obtain ⟨rfl, hwc⟩ := hcut
  rw [hwc]
  clear hwc HMk
  go_upto_block 0 with fail
  go_cut [4] from 12 to 26 (fun v4 wx => v4 = .int .i64 (accF L L.length) ∧ wx = W)
  case first =>
    go_wp2_with fail
    go_loop [4, 5] (fun t i => ∃ k : Nat, k ≤ L.length ∧ i = .int .i64 k ∧ t = .int .i64 (accF L k)) (fun _ i => L.length - (intOf i).toNat)
    case atStart => exact ⟨0, by omega, rfl, by rw [accF_zero]⟩
    case round =>
      obtain ⟨k, hk, rfl, rfl⟩ := hrel
      by_cases hlt : k < L.length
      · obtain ⟨bb, o, rfl, hb, hck⟩ : ∃ b o, a = some ⟨b, o, none⟩ ∧ b < w.heap.size ∧ W.cell? ⟨b, o + k, none⟩ = some (.string L[k]) := by
          rcases hm with hm | ⟨b, o, e, hb, hc⟩
          · rw [hm] at hlt; simp at hlt
          · exact ⟨b, o, e, hb, (bW.cell (p := ⟨b, o + k, none⟩) hb).trans (hc k hlt)⟩
        have hsk := hsl L[k] (List.getElem_mem hlt)
        have HS := hidn (accF_succ L k hlt)
        have hi0 : (0 : Int) ≤ (k : Int) := by omega
        have hi1 : (k : Int) < (L.length : Int) := by omega
        generalize L[k] = x at *
        generalize accF L k = u at *
        go_wp2
        go_round
        case rel => exact ⟨k + 1, by omega, by go_num, by rw [HS.out]⟩
        case measure => simp [intOf]; omega
      · obtain rfl : k = L.length := by omega
        go_wp2
        go_meet
        case rel => exact ⟨rfl, rfl⟩
  obtain ⟨rfl, hwc⟩ := hcut
  rw [hwc]
  clear hwc
  go_upto_block 2 with fail
  go_cut [6] from 27 to 46 (fun v6 wx => v6 = .int .i64 (max (hIdx L) 0) ∧ wx = W)
  case first =>
    go_wp2_with fail
    go_loop [6, 7, 8] (fun h n i => ∃ k : Nat, k ≤ L.length ∧ i = .int .i64 k ∧ n = .int .i64 (accF L k) ∧ h = .int .i64 0 ∧ Hid (∀ j, j < k → hitF L j = false)) (fun _ _ i => L.length - (intOf i).toNat)
    case atStart => exact ⟨0, by omega, rfl, by rw [accF_zero], rfl, fun j h => by omega⟩
    case round =>
      obtain ⟨k, hk, rfl, rfl, rfl, HN⟩ := hrel
      by_cases hlt : k < L.length
      · obtain ⟨bb, o, rfl, hb, hck⟩ : ∃ b o, a = some ⟨b, o, none⟩ ∧ b < w.heap.size ∧ W.cell? ⟨b, o + k, none⟩ = some (.string L[k]) := by
          rcases hm with hm | ⟨b, o, e, hb, hc⟩
          · rw [hm] at hlt; simp at hlt
          · exact ⟨b, o, e, hb, (bW.cell (p := ⟨b, o + k, none⟩) hb).trans (hc k hlt)⟩
        have hsk := hsl L[k] (List.getElem_mem hlt)
        have HS := hidn (accF_succ L k hlt)
        have hi0 : (0 : Int) ≤ (k : Int) := by omega
        have hi1 : (k : Int) < (L.length : Int) := by omega
        cases hq : hitF L k with
        | true =>
          have hI := hidn (hIdx_hit hlt hq HN.out)
          have hq' := of_decide_eq_true hq
          rw [HS.out] at hq'
          generalize L[k] = x at *
          generalize accF L L.length = T at *
          generalize accF L k = u at *
          go_wp2
          go_meet
          case rel => exact ⟨congrArg (Value.int .i64) (by rw [hI.out]; omega), rfl⟩
        | false =>
          have HFF : Hid (∀ j, j < k + 1 → hitF L j = false) := fun j hj => by
            by_cases e1 : j = k
            · subst e1; exact hq
            · exact HN.out j (by omega)
          have hq' := of_decide_eq_false hq
          rw [HS.out] at hq'
          generalize L[k] = x at *
          generalize accF L L.length = T at *
          generalize accF L k = u at *
          go_wp2
          go_round
          case rel => exact ⟨k + 1, by omega, by go_num, by rw [HS.out], rfl, HFF⟩
          case measure => simp [intOf]; omega
      · obtain rfl : k = L.length := by omega
        have hI := hidn (hIdx_miss HN.out)
        generalize accF L L.length = T at *
        go_wp2
        go_meet
        case rel => exact ⟨congrArg (Value.int .i64) (by rw [hI.out]; rfl), rfl⟩
  obtain ⟨rfl, hwc⟩ := hcut
  rw [hwc]
  clear hwc
  have hrg := hIdx_range L
  have HHL : Hid (halfF L = max (min (max (hIdx L) 1) ((L.length : Int) - 1)) 0) := rfl
  obtain ⟨h, Hh⟩ : ∃ h, Hid (max (hIdx L) 0 = h) := ⟨_, rfl⟩
  have Hh2 := Hh.out
  have HHL2 := HHL.out
  rw [Hh.out]
  obtain ⟨HL, HHLe⟩ : ∃ HL, Hid (halfF L = HL) := ⟨_, rfl⟩
  rw [HHLe.out] at HHL2 HHA
  generalize hIdx L = I at *
  generalize accF L L.length = T at *
  clear HHL HHLe Hh
  go_upto_if 48 with fail
  go_cut [6] from 48 to 48 (fun v6 wx => v6 = .int .i64 (max h 1) ∧ wx = W)
  case first =>
    clear HAW HFU HHA HRO HFB
    by_cases h1 : h < 1
    · go_wp2
      go_meet
      case rel => exact ⟨congrArg (Value.int .i64) (by omega), rfl⟩
    · go_wp2
      go_meet
      case rel => exact ⟨congrArg (Value.int .i64) (by omega), rfl⟩
  obtain ⟨rfl, hwc⟩ := hcut
  rw [hwc]
  clear hwc
  obtain ⟨g, Hg⟩ : ∃ g, max h 1 = g := ⟨_, rfl⟩
  rw [Hg]
  go_upto_if 54 with fail
  go_cut [6] from 54 to 58 (fun v6 wx => v6 = .int .i64 (min g ((L.length : Int) - 1)) ∧ wx = W)
  case first =>
    clear HAW HFU HHA HRO HFB
    by_cases h1 : (L.length : Int) - 1 < g
    · go_wp2
      go_meet
      case rel => exact ⟨congrArg (Value.int .i64) (by omega), rfl⟩
    · go_wp2
      go_meet
      case rel => exact ⟨congrArg (Value.int .i64) (by omega), rfl⟩
  obtain ⟨rfl, hwc⟩ := hcut
  rw [hwc]
  clear hwc
  obtain ⟨f, Hf⟩ : ∃ f, min g ((L.length : Int) - 1) = f := ⟨_, rfl⟩
  rw [Hf]
  go_upto_if 62 with fail
  go_cut [6] from 62 to 62 (fun v6 wx => v6 = .int .i64 HL ∧ wx = W)
  case first =>
    clear HAW HFU HHA HRO HFB
    by_cases l0 : L.length = 0
    · have h4 : ((L.length : Int) == 0) = true := by rw [beq_iff_eq]; omega
      have hHL := hidn (show (0 : Int) = HL by omega)
      clear l0 hrg HHL2 Hh2 Hg Hf
      go_wp2
      go_meet
      case rel => exact ⟨congrArg (Value.int .i64) hHL.out, rfl⟩
    · have h4 : ((L.length : Int) == 0) = false := by rw [beq_eq_false_iff_ne]; omega
      have hHL := hidn (show f = HL by omega)
      clear l0 hrg HHL2 Hh2 Hg Hf
      go_wp2
      go_meet
      case rel => exact ⟨congrArg (Value.int .i64) hHL.out, rfl⟩
  obtain ⟨rfl, hwc⟩ := hcut
  rw [hwc]
  clear hwc
  clear HHL2 Hh2 hrg Hg Hf
  have gx0 := cell_regrown x0
  have gx1 := cell_regrown x1
  have gx2 := cell_regrown x2
  have gx3 := cell_regrown x3
  have gx4 := cell_regrown x4
  have HBR : Hid (∀ dd os, Below w.heap.size w (grow (redrawn W dd) os)) := fun dd os => below_chain bW (below_regrown W dd os)
  have cA : ∀ dd os, Calls Try.prog 11 #[] (grow (redrawn W dd) os) fun e w'' => e = .returned (.bool true) ∧ ∃ p : Regrown, w'' = grow (redrawn W p.d) p.os := fun dd os => Calls.regrown_of (HAW.out _)
  have cF : ∀ dd os, Calls Try.prog 29 #[.agg #[.int .u32 num, .int .u64 lsn, .int .i64 kind, .string hd, .slice a L.length c]] (grow (redrawn W dd) os) fun e w'' => e = .returned (.bool FB) ∧ ∃ p : Regrown, w'' = grow (redrawn W p.d) p.os := fun dd os => Calls.regrown_of (HFU.out _ (HBR.out dd os))
  have cR : ∀ dd os, Calls Try.prog 30 #[.agg #[.int .u32 num, .int .u64 lsn, .int .i64 kind, .string hd, .slice a L.length c]] (grow (redrawn W dd) os) fun e w'' => e = .returned (.int .i64 R) ∧ ∃ p : Regrown, w'' = grow (redrawn W p.d) p.os := fun dd os => Calls.regrown_of (HRO.out _ (HBR.out dd os))
  have cH : ∀ dd os, Calls Try.prog 31 #[.agg #[.int .u32 num, .int .u64 lsn, .int .i64 kind, .string hd, .slice a L.length c]] (grow (redrawn W dd) os) fun e w'' => e = .returned (.int .i64 HL) ∧ ∃ p : Regrown, w'' = grow (redrawn W p.d) p.os := fun dd os => Calls.regrown_of (HHA.out _ (HBR.out dd os))
  clear HAW HFU HHA HRO
  have hHH : (HL == HL) = true := by rw [beq_iff_eq]
  go_upto_region 22 with fail
  by_cases h64 : 64 ≤ L.length
  · have hd64 : decide ((64 : Int) ≤ (L.length : Int)) = true := by rw [decide_eq_true_eq]; omega
    have hF : FB = true := by rw [HFB.out]; simp [h64]
    subst hF
    clear HFB
    refine wp_region_quiet_below nmixed (by kernel_rfl) ?_
    iterate 23 (quiet_step (first | (go_at_call 11; exact cA _ _) | (go_at_call 29; exact cF _ _) | (go_at_call 30; exact cR _ _) | (go_at_call 31; exact cH _ _)))
    refine wpQuiet_nil ?_
    intro _ hw'
    obtain ⟨⟨dq, osq⟩, hw''⟩ := hw'
    subst hw''
    go_wp2
    go_ret
    exact ⟨rfl, below_chain bW (below_regrown W dq osq)⟩
  · have hd64 : decide ((64 : Int) ≤ (L.length : Int)) = false := by rw [decide_eq_false_iff_not]; omega
    have hF : FB = decide (R < M) := by rw [HFB.out]; simp [h64]
    subst hF
    clear HFB
    have hEE : (decide (R < M) == decide (R < M)) = true := by simp
    refine wp_region_quiet_below nmixed (by kernel_rfl) ?_
    iterate 23 (quiet_step (first | (go_at_call 11; exact cA _ _) | (go_at_call 29; exact cF _ _) | (go_at_call 30; exact cR _ _) | (go_at_call 31; exact cH _ _)))
    refine wpQuiet_nil ?_
    intro _ hw'
    obtain ⟨⟨dq, osq⟩, hw''⟩ := hw'
    subst hw''
    go_wp2
    go_ret
    exact ⟨rfl, below_chain bW (below_regrown W dq osq)⟩

end Go.Proofs.Ytplcojfogfikfaa
