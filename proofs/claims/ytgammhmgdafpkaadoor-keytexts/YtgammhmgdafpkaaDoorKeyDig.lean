/-
  The walks of girderref11.digits and girderref11.Text.
-/
import Derived.Test.YtgammhmgdafpkaaDoorKeyNum
import Derived.Test.YtgammhmgdafpkaaDoorKeyRKey
namespace Go.Proofs.YtgammhmgdafpkaaDoor
open Go.RowKit Go.Sort
set_option linter.unusedVariables false
set_option linter.unusedSimpArgs false

/-- The digits of a; nothing for 0. -/
def ddL (a : Nat) : List UInt8 := if a = 0 then [] else Lib.decDigits a

theorem ddL_step (a : Nat) (h : a ≠ 0) : ddL a = ddL (a / 10) ++ [UInt8.ofNat (48 + a % 10)] := by
  unfold ddL
  rw [if_neg h, Lib.decDigits]
  split
  · rename_i h1
    rw [if_pos (by omega), List.nil_append, Nat.mod_eq_of_lt h1]
  · rename_i h1
    rw [if_neg (by omega)]

theorem ddL_length (a : Nat) (h : a ≤ 9223372036854775808) : (ddL a).length ≤ 20 := by
  unfold ddL
  split
  · simp
  · rw [Lib.decDigits_length]; have := nDigits_le19 a h; omega

theorem tmod_pos (a : Nat) : (a : Int).tmod 10 = ((a % 10 : Nat) : Int) := by
  rw [Int.tmod_eq_emod_of_nonneg (by omega)]; omega
theorem tmod_neg (a : Nat) : (-(a : Int)).tmod 10 = -((a % 10 : Nat) : Int) := by
  rw [Int.neg_tmod, tmod_pos]
theorem tdiv_pos (a : Nat) : (a : Int).tdiv 10 = ((a / 10 : Nat) : Int) := by
  rw [Int.tdiv_eq_ediv_of_nonneg (by omega)]; omega
theorem tdiv_neg (a : Nat) : (-(a : Int)).tdiv 10 = -((a / 10 : Nat) : Int) := by
  rw [Int.neg_tdiv, tdiv_pos]

theorem one_digit {P : Program} (w : World) (q : Nat) (hq : q < 10) (src dst el : TypeId) (hs : P.underlying src = some (.slice el)) (he : P.underlying el = some (.int .u8)) (hd : P.underlying dst = some .string) :
    (convert src dst (.slice (some ⟨w.heap.size, 0, none⟩) 1 1)).run P (w.alloc (.cells #[.int .u8 (48 + (q : Int))] el)) = .ok (.string ⟨[UInt8.ofNat (48 + q)].toArray⟩) (w.alloc (.cells #[.int .u8 (48 + (q : Int))] el)) := by
  have := one_byte (P := P) w (48 + q) src dst el hs he hd
  have e : ((48 + q : Nat) : Int) % 256 = 48 + (q : Int) := by omega
  rw [e] at this
  exact this

set_option maxRecDepth 20000 in
set_option maxHeartbeats 1600000 in
theorem digits_pos (n : Nat) (hn : n ≤ 9223372036854775807) (w : World) :
    Calls Tryd.prog 41 #[.int .i64 ((n : Int))] w fun e w' => e = .returned (.string ⟨(Lib.itoa ((n : Int))).toArray⟩) ∧ Below w.heap.size w w' := by
  rw [Lib.itoa_nonneg]
  go_enter Tryd.func41, Tryd.ntmps41
  go_wp2_with fail
  go_loopw [3, 4] (fun s3 k wr => ∃ (a : Nat) (Y : List UInt8), a ≤ n ∧ s3 = .string ⟨Y.toArray⟩ ∧ k = .int .i64 ((a : Int)) ∧ Hid (ddL a ++ Y = ddL n) ∧ Hid (Below w.heap.size w wr)) (fun _ k _ => (intOf k).natAbs)
  case atStart => exact ⟨n, [], Nat.le_refl _, rfl, rfl, List.append_nil _, Below.refl _ _⟩
  case round =>
    obtain ⟨a, Y, ha, rfl, rfl, HY, HB⟩ := hrel
    have HYl : Hid (Y.length ≤ 20) := by
      have := ddL_length n (by omega)
      rw [← HY.out, List.length_append] at this
      show Y.length ≤ 20
      omega
    have s1 : (⟨Y.toArray⟩ : ByteArray).size ≤ 20 := by rw [bytes_size]; exact HYl.out
    by_cases h0 : a = 0
    · subst h0
      have HYn : Hid (Y = ddL n) := HY.out
      by_cases hn0 : n = 0
      · subst hn0
        go_wp2
        go_ret
        exact ⟨kret_str (by rw [Lib.decDigits_one (by omega)]; rfl), HB.out⟩
      · have e0 : ((n : Int) == 0) = false := by rw [beq_eq_false_iff_ne]; omega
        have e1 : ¬ (n : Int) < 0 := by omega
        go_wp2
        go_ret
        refine ⟨kret_str ?_, HB.out⟩
        rw [HYn.out, ddL, if_neg hn0]
    · have e0 : ((a : Int) == 0) = false := by rw [beq_eq_false_iff_ne]; omega
      have tm := tmod_pos a
      have td := tdiv_pos a
      have Hst := hidk (ddL_step a h0)
      obtain ⟨q, Hq⟩ : ∃ q, Hid (a % 10 = q) := ⟨_, rfl⟩
      have hq : q < 10 := by rw [← Hq.out]; omega
      obtain ⟨r, Hr⟩ : ∃ r, Hid (a / 10 = r) := ⟨_, rfl⟩
      have hr : r < a := by rw [← Hr.out]; omega
      rw [Hq.out] at tm Hst
      rw [Hr.out] at td Hst
      have hcv := one_digit (P := Tryd.prog) wr q hq 73 9 5 Tryd.underlying73 Tryd.underlying5 Tryd.underlying9
      obtain ⟨c, Hc⟩ : ∃ c, Hid (UInt8.ofNat (48 + q) = c) := ⟨_, rfl⟩
      rw [Hc.out] at hcv Hst
      have s2 : (⟨#[c]⟩ : ByteArray).size ≤ 1 := Nat.le_refl 1
      have q0 : ¬ (q : Int) < 0 := by omega
      go_wp2_with fail
      go_roundw
      case rel =>
        refine ⟨r, c :: Y, by omega, ?_, by go_num, ?_, ?_⟩
        · rw [show (⟨#[c]⟩ : ByteArray) = ⟨([c] : List UInt8).toArray⟩ from rfl, kba_append]; rfl
        · show _ = _
          rw [← HY.out, Hst.out, List.append_assoc]; rfl
        · exact HB.out.alloc HB.out.size _
      case measure => simp [intOf]; omega

set_option maxRecDepth 20000 in
set_option maxHeartbeats 1600000 in
theorem digits_neg (n : Nat) (h1 : 1 ≤ n) (hn : n ≤ 9223372036854775808) (w : World) :
    Calls Tryd.prog 41 #[.int .i64 (-(n : Int))] w fun e w' => e = .returned (.string ⟨(Lib.itoa (-(n : Int))).toArray⟩) ∧ Below w.heap.size w w' := by
  rw [Lib.itoa_neg n h1]
  go_enter Tryd.func41, Tryd.ntmps41
  go_wp2_with fail
  go_loopw [3, 4] (fun s3 k wr => ∃ (a : Nat) (Y : List UInt8), a ≤ n ∧ s3 = .string ⟨Y.toArray⟩ ∧ k = .int .i64 (-(a : Int)) ∧ Hid (ddL a ++ Y = ddL n) ∧ Hid (Below w.heap.size w wr)) (fun _ k _ => (intOf k).natAbs)
  case atStart => exact ⟨n, [], Nat.le_refl _, rfl, rfl, List.append_nil _, Below.refl _ _⟩
  case round =>
    obtain ⟨a, Y, ha, rfl, rfl, HY, HB⟩ := hrel
    have HYl : Hid (Y.length ≤ 20) := by
      have := ddL_length n (by omega)
      rw [← HY.out, List.length_append] at this
      show Y.length ≤ 20
      omega
    have s1 : (⟨Y.toArray⟩ : ByteArray).size ≤ 20 := by rw [bytes_size]; exact HYl.out
    by_cases h0 : a = 0
    · subst h0
      have HYn : Hid (Y = ddL n) := HY.out
      have e0 : (-(n : Int) == 0) = false := by rw [beq_eq_false_iff_ne]; omega
      have e1 : -(n : Int) < 0 := by omega
      have z0 : (-((0 : Nat) : Int) == 0) = true := by rfl
      have s2 : (⟨#[45]⟩ : ByteArray).size ≤ 1 := by decide
      go_wp2
      go_ret
      refine ⟨kret_str ?_, HB.out⟩
      rw [show (⟨#[45]⟩ : ByteArray) = ⟨([45] : List UInt8).toArray⟩ from rfl, kba_append, HYn.out, ddL, if_neg (by omega)]
      rfl
    · have e0 : (-(a : Int) == 0) = false := by rw [beq_eq_false_iff_ne]; omega
      have tm := tmod_neg a
      have td := tdiv_neg a
      have Hst := hidk (ddL_step a h0)
      obtain ⟨q, Hq⟩ : ∃ q, Hid (a % 10 = q) := ⟨_, rfl⟩
      have hq : q < 10 := by rw [← Hq.out]; omega
      obtain ⟨r, Hr⟩ : ∃ r, Hid (a / 10 = r) := ⟨_, rfl⟩
      have hr : r < a := by rw [← Hr.out]; omega
      rw [Hq.out] at tm Hst
      rw [Hr.out] at td Hst
      have hcv := one_digit (P := Tryd.prog) wr q hq 73 9 5 Tryd.underlying73 Tryd.underlying5 Tryd.underlying9
      obtain ⟨c, Hc⟩ : ∃ c, Hid (UInt8.ofNat (48 + q) = c) := ⟨_, rfl⟩
      rw [Hc.out] at hcv Hst
      have s2 : (⟨#[c]⟩ : ByteArray).size ≤ 1 := Nat.le_refl 1
      by_cases hq0 : q = 0
      · subst hq0
        have q0 : ¬ -((0 : Nat) : Int) < 0 := by omega
        rw [show (48 : Int) + ((0 : Nat) : Int) = 48 from rfl] at hcv
        go_wp2_with fail
        go_roundw
        case rel =>
          refine ⟨r, c :: Y, by omega, ?_, by go_num, ?_, ?_⟩
          · rw [show (⟨#[c]⟩ : ByteArray) = ⟨([c] : List UInt8).toArray⟩ from rfl, kba_append]; rfl
          · show _ = _
            rw [← HY.out, Hst.out, List.append_assoc]; rfl
          · exact HB.out.alloc HB.out.size _
        case measure => simp [intOf]; omega
      · have q0 : -(q : Int) < 0 := by omega
        go_wp2_with fail
        go_roundw
        case rel =>
          refine ⟨r, c :: Y, by omega, ?_, by go_num, ?_, ?_⟩
          · rw [show (⟨#[c]⟩ : ByteArray) = ⟨([c] : List UInt8).toArray⟩ from rfl, kba_append]; rfl
          · show _ = _
            rw [← HY.out, Hst.out, List.append_assoc]; rfl
          · exact HB.out.alloc HB.out.size _
        case measure => simp [intOf]; omega

theorem digits_any (n : Int) (h : In64 n) (w : World) :
    Calls Tryd.prog 41 #[.int .i64 n] w fun e w' => e = .returned (.string ⟨(Lib.itoa n).toArray⟩) ∧ Below w.heap.size w w' := by
  obtain ⟨h0, h1⟩ := h
  by_cases hneg : n < 0
  · obtain ⟨u, rfl⟩ : ∃ u : Nat, n = -(u : Int) := ⟨n.natAbs, by omega⟩
    exact digits_neg u (by omega) (by omega) w
  · obtain ⟨u, rfl⟩ : ∃ u : Nat, n = u := ⟨n.toNat, by omega⟩
    exact digits_pos u (by omega) w

set_option maxHeartbeats 1600000 in
theorem rtext_any (v : ValV) (w : World) (hn : In64 v.n) (hS : v.S.size ≤ 281474976710655) :
    Calls Tryd.prog 17 #[.agg #[.int .i64 v.kind, .int .i64 v.n, .string v.S]] w fun e w' => e = .returned (.string (textV v)) ∧ Below w.heap.size w w' := by
  have HD : Hid (∀ w1, Calls Tryd.prog 41 #[.int .i64 v.n] w1 fun e w' => e = .returned (.string ⟨(Lib.itoa v.n).toArray⟩) ∧ Below w1.heap.size w1 w') := fun w1 => digits_any v.n hn w1
  obtain ⟨k, n, S⟩ := v
  simp only at HD hS ⊢
  have bel : Below w.heap.size w (w.alloc (.cells #[.int .i64 k, .int .i64 n, .string S] 38)) := (Below.refl _ _).alloc (Nat.le_refl _) _
  by_cases h1 : k = 1
  · subst h1
    rw [textV, if_pos (by rfl)]
    go_enter Tryd.func17, Tryd.ntmps17
    go_wp2_with fail
    refine (HD.out _).mono ?_
    rintro e w2 ⟨rfl, b2⟩
    go_wp2
    go_ret
    exact ⟨rfl, below_chain bel b2⟩
  · have e1 : (k == 1) = false := by rw [beq_eq_false_iff_ne]; exact h1
    by_cases h2 : k = 2
    · subst h2
      rw [textV, if_neg (by simp), if_pos (by rfl)]
      have s2 : (⟨#[39]⟩ : ByteArray).size ≤ 1 := by decide
      go_enter Tryd.func17, Tryd.ntmps17
      go_wp2
      go_ret
      exact ⟨rfl, bel⟩
    · have e2 : (k == 2) = false := by rw [beq_eq_false_iff_ne]; exact h2
      rw [textV, if_neg h1, if_neg h2]
      go_enter Tryd.func17, Tryd.ntmps17
      go_wp2
      go_ret
      exact ⟨rfl, bel⟩

end Go.Proofs.YtgammhmgdafpkaaDoor
