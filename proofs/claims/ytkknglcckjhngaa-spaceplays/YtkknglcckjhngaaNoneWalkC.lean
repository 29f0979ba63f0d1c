/-
  The walk of girderlaw07.SpaceNone.
-/
import Derived.Test.YtkknglcckjhngaaSpaceAwakeC
namespace Go.Proofs.Ytkknglcckjhngaa
open Go.RowKit Go.Sort
set_option linter.unusedVariables false

theorem told_agg (e : Int) (p : SheetV) (n : Nat) : ∃ (k i : Int) (S T : ByteArray), toldO e p n = .agg #[.int .i64 k, .int .i64 i, .string S, .string T] := by
  unfold toldO
  split
  · exact ⟨_, _, _, _, rfl⟩
  · exact ⟨_, _, _, _, rfl⟩

/-- What Take tells of any page. -/
theorem take_any {p : SheetV} {a : Option Addr} {c : Nat} {w : World} (h : p.Lies w a) : ∃ N : Nat, N < 4294967296 ∧ (isB p = false → N = 0) ∧
    Calls Try.prog 11 #[p.val a c, .int .i64 64] w fun e w' => e = .returned (.tuple #[.int .u32 N, toldO (takeE p 64) p N, .int .i64 (takeE p 64)]) ∧ Below w.heap.size w w' := by
  by_cases hm : isB p = true
  · refine ⟨takeN p 64, ?_, (fun h => by rw [hm] at h; cases h), take_map h 64 hm (by omega) (by omega)⟩
    have : ∀ f k, freeF (slot0 p) f k ≤ f + k := by
      intro f
      induction f with
      | zero => intro k; simp [freeF]
      | succ f ih =>
        intro k
        simp only [freeF]
        split
        · have := ih (k + 1); omega
        · omega
    have := this (roomN 64) 0
    have hr := roomN_le 64
    unfold takeN
    omega
  · have hm' : isB p = false := by simpa using hm
    refine ⟨0, by omega, fun _ => rfl, ?_⟩
    have := take_no (c := c) h 64 hm'
    have hE : takeE p 64 = 70 := by unfold takeE; rw [hm']; rfl
    rw [hE]
    exact this

theorem takeE_or (p : SheetV) (h : isB p = true) : takeE p 64 = 0 ∨ takeE p 64 = 20 := by
  unfold takeE
  rw [h]
  simp only [if_true]
  split
  · exact .inr rfl
  · exact .inl rfl

set_option maxHeartbeats 3200000 in
set_option maxRecDepth 60000 in
theorem none_walk (p : SheetV) (a : Option Addr) (c : Nat) (n : Nat) (hn : n < 4294967296) (w : World) (hp : p.Lies w a) :
    Calls Try.prog 4 #[p.val a c, .int .u32 n] w fun e w' => e = .returned (.bool true) ∧ Below w.heap.size w w' := by
  have HAW : Hid (∀ wx, Calls Try.prog 7 #[] wx fun e w' => e = .returned (.bool true) ∧ Below wx.heap.size wx w') := fun wx => awake_any wx
  have HIS : Hid (∀ wx, Below w.heap.size w wx → Calls Try.prog 14 #[p.val a c] wx fun e w' => e = .returned (.bool (isB p)) ∧ Below wx.heap.size wx w') := fun wx k => is_any (hp.below k)
  have HTK : Hid (∀ wx, Below w.heap.size w wx → Calls Try.prog 15 #[p.val a c, .int .u32 n] wx fun e w' => e = .returned (.bool (tkP p n)) ∧ Below wx.heap.size wx w') := fun wx k => taken_any (hp.below k) n hn
  have HAL : Hid (∀ wx, Below w.heap.size w wx → Calls Try.prog 16 #[p.val a c] wx fun e w' => ∃ g N, e = .returned (.slice (some ⟨g, 0, none⟩) (cntP p) N) ∧ Below wx.heap.size wx w') := fun wx k => by
    refine (all_any (hp.below k)).mono ?_
    rintro e w' ⟨g, N, rfl, b, _⟩
    exact ⟨g, N, by rw [tkPL_cnt], b⟩
  have HCN : Hid (∀ wx, Below w.heap.size w wx → Calls Try.prog 17 #[p.val a c] wx fun e w' => e = .returned (.int .i64 (cntP p)) ∧ Below wx.heap.size wx w') := fun wx k => count_any (hp.below k)
  have HGI : Hid (∀ wx, Below w.heap.size w wx → Calls Try.prog 9 #[p.val a c, .int .u32 n] wx fun e w' => e = .returned (.tuple #[toldO (giveE p n) p n, .int .i64 (giveE p n)]) ∧ Below wx.heap.size wx w') := fun wx k => give_any (hp.below k) n hn
  have HCL : Hid (∀ wx, Below w.heap.size w wx → Calls Try.prog 10 #[p.val a c, .int .u32 n] wx fun e w' => e = .returned (.tuple #[toldO (claimE p n) p n, .int .i64 (claimE p n)]) ∧ Below wx.heap.size wx w') := fun wx k => claim_any (hp.below k) n hn
  have HTA : Hid (∀ wx, Below w.heap.size w wx → ∃ N : Nat, N < 4294967296 ∧ (isB p = false → N = 0) ∧ Calls Try.prog 11 #[p.val a c, .int .i64 64] wx fun e w' => e = .returned (.tuple #[.int .u32 N, toldO (takeE p 64) p N, .int .i64 (takeE p 64)]) ∧ Below wx.heap.size wx w') := fun wx k => take_any (hp.below k)
  have HTE := takeE_or p
  have hl := hp.len
  have HF : Hid (p.slots.length = 1 → ∃ b o, a = some ⟨b, o, none⟩ ∧ b < w.heap.size ∧ w.cell? ⟨b, o, none⟩ = some (.string (slot0 p)) ∧ (slot0 p).size ≤ 140737488351232) := fun h1 => hp.first h1
  clear hp
  obtain ⟨W, HW⟩ : ∃ W, Hid (W = boxP p a c w) := ⟨_, rfl⟩
  have hin : PageIn p a c w W := by rw [HW.out]; exact PageIn.start p a c w
  have HIB : Hid (isB p = decide (p.kind = 1 ∧ p.slots.length = 1 ∧ (slot0 p).size = 256)) := rfl
  have HNI' : ∀ x, isB p = x → Hid (isB p = x) := fun x h => h
  generalize hI : isB p = I at HIS HTA HTE HIB
  have HNI : Hid (isB p = I) := hI
  clear hI HNI'
  unfold boxP at HW
  unfold SheetV.val at HIS HTK HAL HCN HGI HCL HTA ⊢
  go_enter Try.func4, Try.ntmps4
  go_upto_region 1 with fail
  rw [← HW.out]
  clear HW
  go_cut [5] from 13 to 29 (fun v wx => v = .bool I ∧ wx = W)
  case first =>
    obtain ⟨x2, x4⟩ : _ ∧ _ := ⟨hin.c2, hin.c4⟩
    clear HAW HIS HTK HAL HCN HGI HCL HTA HTE
    by_cases c1 : p.kind = 1
    · by_cases c2 : p.slots.length = 1
      · obtain ⟨b, o, rfl, hb, hc, hz⟩ := HF.out c2
        have hc' := (hin.bel.cell (p := ⟨b, o, none⟩) hb).trans hc
        have c2' : 0 < p.slots.length := by omega
        by_cases c3 : (slot0 p).size = 256
        · have hI : I = true := by rw [HIB.out]; simp [c1, c2, c3]
          subst hI
          clear HIB
          have e1 : (p.kind == 1) = true := by rw [beq_iff_eq]; exact c1
          have e2 : ((p.slots.length : Int) == 1) = true := by rw [beq_iff_eq]; omega
          have e3 : (((slot0 p).size : Int) == 256) = true := by rw [beq_iff_eq]; omega
          clear c1 c2 c3
          generalize slot0 p = s at *
          go_wp2
          go_meet
          case rel => exact ⟨rfl, rfl⟩
        · have hI : I = false := by rw [HIB.out]; simp [c3]
          subst hI
          clear HIB
          have e1 : (p.kind == 1) = true := by rw [beq_iff_eq]; exact c1
          have e2 : ((p.slots.length : Int) == 1) = true := by rw [beq_iff_eq]; omega
          have e3 : (((slot0 p).size : Int) == 256) = false := by rw [beq_eq_false_iff_ne]; omega
          clear c1 c2 c3
          generalize slot0 p = s at *
          go_wp2
          go_meet
          case rel => exact ⟨rfl, rfl⟩
      · have hI : I = false := by rw [HIB.out]; simp [c2]
        subst hI
        clear HIB
        have e1 : (p.kind == 1) = true := by rw [beq_iff_eq]; exact c1
        have e2 : ((p.slots.length : Int) == 1) = false := by rw [beq_eq_false_iff_ne]; omega
        clear c1 c2
        go_wp2
        go_meet
        case rel => exact ⟨rfl, rfl⟩
    · have hI : I = false := by rw [HIB.out]; simp [c1]
      subst hI
      clear HIB
      have e1 : (p.kind == 1) = false := by rw [beq_eq_false_iff_ne]; omega
      clear c1
      go_wp2
      go_meet
      case rel => exact ⟨rfl, rfl⟩
  case rest =>
    obtain ⟨rfl, rfl⟩ := hcut
    cases I with
    | true =>
      have HTE' : Hid (takeE p 64 = 0 ∨ takeE p 64 = 20) := HTE rfl
      clear HTE HIB HF
      obtain ⟨k2, i2, S2, T2, HV2⟩ := told_agg (giveE p n) p n
      obtain ⟨k3, i3, S3, T3, HV3⟩ := told_agg (claimE p n) p n
      rw [HV2] at HGI
      rw [HV3] at HCL
      clear HV2 HV3
      obtain ⟨x0, x1, x2, x3, x4⟩ : _ ∧ _ ∧ _ ∧ _ ∧ _ := ⟨hin.c0, hin.c1, hin.c2, hin.c3, hin.c4⟩
      go_wp2_with fail
      refine (HAW.out _).mono ?_
      rintro e w1 ⟨rfl, b⟩
      have h1 := hin.below b
      clear b hin x0 x1 x2 x3 x4
      obtain ⟨x0, x1, x2, x3, x4⟩ : _ ∧ _ ∧ _ ∧ _ ∧ _ := ⟨h1.c0, h1.c1, h1.c2, h1.c3, h1.c4⟩
      go_wp2_with fail
      refine (HIS.out _ h1.bel).mono ?_
      rintro e w2 ⟨rfl, b⟩
      have h2 := h1.below b
      clear b h1 x0 x1 x2 x3 x4
      obtain ⟨x0, x1, x2, x3, x4⟩ : _ ∧ _ ∧ _ ∧ _ ∧ _ := ⟨h2.c0, h2.c1, h2.c2, h2.c3, h2.c4⟩
      obtain ⟨N, hN, hN0, HTA'⟩ := HTA.out w2 h2.bel
      obtain ⟨k1, i1, S1, T1, HV1⟩ := told_agg (takeE p 64) p N
      rw [HV1] at HTA'
      have HTB := HTA'
      clear HTA HV1 HTA'
      have HTB' := id HTB
      clear HTB
      go_wp2_with fail
      refine HTB'.mono ?_
      rintro e w3 ⟨rfl, b⟩
      have h3 := h2.below b
      clear b h2 x0 x1 x2 x3 x4 HTB'
      obtain ⟨x0, x1, x2, x3, x4⟩ : _ ∧ _ ∧ _ ∧ _ ∧ _ := ⟨h3.c0, h3.c1, h3.c2, h3.c3, h3.c4⟩
      obtain ⟨W3, HW3⟩ : ∃ W3, Hid (W3 = w3.alloc (.cells #[.int .i64 k1, .int .i64 i1, .string S1, .string T1] 41)) := ⟨_, rfl⟩
      have q3 : PageIn p a c w W3 := h3.below (by rw [HW3.out]; exact (Below.refl _ _).alloc (Nat.le_refl _) _)
      obtain ⟨u0, u1, u2, u3, u4⟩ : _ ∧ _ ∧ _ ∧ _ ∧ _ := ⟨q3.c0, q3.c1, q3.c2, q3.c3, q3.c4⟩
      rw [HW3.out] at u0 u1 u2 u3 u4
      clear h3 x0 x1 x2 x3 x4
      go_wp2_with fail
      rw [← HW3.out]
      clear u0 u1 u2 u3 u4 HW3
      obtain ⟨x0, x1, x2, x3, x4⟩ : _ ∧ _ ∧ _ ∧ _ ∧ _ := ⟨q3.c0, q3.c1, q3.c2, q3.c3, q3.c4⟩
      refine (HGI.out _ q3.bel).mono ?_
      rintro e w4 ⟨rfl, b⟩
      have h4 := q3.below b
      clear b q3 x0 x1 x2 x3 x4
      obtain ⟨x0, x1, x2, x3, x4⟩ : _ ∧ _ ∧ _ ∧ _ ∧ _ := ⟨h4.c0, h4.c1, h4.c2, h4.c3, h4.c4⟩
      obtain ⟨W4, HW4⟩ : ∃ W4, Hid (W4 = w4.alloc (.cells #[.int .i64 k2, .int .i64 i2, .string S2, .string T2] 41)) := ⟨_, rfl⟩
      have q4 : PageIn p a c w W4 := h4.below (by rw [HW4.out]; exact (Below.refl _ _).alloc (Nat.le_refl _) _)
      obtain ⟨u0, u1, u2, u3, u4⟩ : _ ∧ _ ∧ _ ∧ _ ∧ _ := ⟨q4.c0, q4.c1, q4.c2, q4.c3, q4.c4⟩
      rw [HW4.out] at u0 u1 u2 u3 u4
      clear h4 x0 x1 x2 x3 x4
      go_wp2_with fail
      rw [← HW4.out]
      clear u0 u1 u2 u3 u4 HW4
      obtain ⟨x0, x1, x2, x3, x4⟩ : _ ∧ _ ∧ _ ∧ _ ∧ _ := ⟨q4.c0, q4.c1, q4.c2, q4.c3, q4.c4⟩
      refine (HCL.out _ q4.bel).mono ?_
      rintro e w5 ⟨rfl, b⟩
      have h5 := q4.below b
      clear b q4 x0 x1 x2 x3 x4
      have B5 : Below w.heap.size w (w5.alloc (.cells #[.int .i64 k3, .int .i64 i3, .string S3, .string T3] 41)) := h5.bel.alloc (by have := h5.lt; omega) _
      generalize takeE p 64 = E at *
      rcases HTE'.out with rfl | rfl
      · go_wp2
        go_ret
        exact ⟨rfl, B5⟩
      · go_wp2
        go_ret
        exact ⟨rfl, B5⟩
    | false =>
      have E1 : Hid (giveE p n = 70) := by show _ = _; unfold giveE; rw [HNI.out]; rfl
      have E2 : Hid (claimE p n = 70) := by show _ = _; unfold claimE; rw [HNI.out]; rfl
      have E3 : Hid (takeE p 64 = 70) := by show _ = _; unfold takeE; rw [HNI.out]; rfl
      have E4 : Hid (tkP p n = false) := by show _ = _; unfold tkP; rw [HNI.out]; rfl
      have E5 : Hid (cntP p = 0) := by show _ = _; unfold cntP; rw [HNI.out]; rfl
      clear HTE HIB HF
      rw [E4.out] at HTK
      rw [E5.out] at HAL HCN
      rw [E1.out] at HGI
      rw [E2.out] at HCL
      obtain ⟨k2, i2, S2, T2, HV2⟩ := told_agg 70 p n
      obtain ⟨k3, i3, S3, T3, HV3⟩ := told_agg 70 p n
      rw [HV2] at HGI
      rw [HV3] at HCL
      clear HV2 HV3
      obtain ⟨x0, x1, x2, x3, x4⟩ : _ ∧ _ ∧ _ ∧ _ ∧ _ := ⟨hin.c0, hin.c1, hin.c2, hin.c3, hin.c4⟩
      go_wp2_with fail
      refine (HAW.out _).mono ?_
      rintro e w1 ⟨rfl, b⟩
      have h1 := hin.below b
      clear b hin x0 x1 x2 x3 x4
      obtain ⟨x0, x1, x2, x3, x4⟩ : _ ∧ _ ∧ _ ∧ _ ∧ _ := ⟨h1.c0, h1.c1, h1.c2, h1.c3, h1.c4⟩
      go_wp2_with fail
      refine (HIS.out _ h1.bel).mono ?_
      rintro e w2 ⟨rfl, b⟩
      have h2 := h1.below b
      clear b h1 x0 x1 x2 x3 x4
      obtain ⟨x0, x1, x2, x3, x4⟩ : _ ∧ _ ∧ _ ∧ _ ∧ _ := ⟨h2.c0, h2.c1, h2.c2, h2.c3, h2.c4⟩
      obtain ⟨N, hN, hN0, HTA'⟩ := HTA.out w2 h2.bel
      have HN0 : Hid (N = 0) := hN0 trivial
      clear hN0
      obtain ⟨k1, i1, S1, T1, HV1⟩ := told_agg (takeE p 64) p N
      rw [HV1] at HTA'
      have HTB := HTA'
      clear HTA HV1 HTA'
      obtain rfl := HN0.out
      rw [E3.out] at HTB
      go_wp2_with fail
      refine HTB.mono ?_
      rintro e w3 ⟨rfl, b⟩
      have h3 := h2.below b
      clear b h2 x0 x1 x2 x3 x4 HTB
      obtain ⟨x0, x1, x2, x3, x4⟩ : _ ∧ _ ∧ _ ∧ _ ∧ _ := ⟨h3.c0, h3.c1, h3.c2, h3.c3, h3.c4⟩
      obtain ⟨W3, HW3⟩ : ∃ W3, Hid (W3 = w3.alloc (.cells #[.int .i64 k1, .int .i64 i1, .string S1, .string T1] 41)) := ⟨_, rfl⟩
      have q3 : PageIn p a c w W3 := h3.below (by rw [HW3.out]; exact (Below.refl _ _).alloc (Nat.le_refl _) _)
      obtain ⟨u0, u1, u2, u3, u4⟩ : _ ∧ _ ∧ _ ∧ _ ∧ _ := ⟨q3.c0, q3.c1, q3.c2, q3.c3, q3.c4⟩
      rw [HW3.out] at u0 u1 u2 u3 u4
      clear h3 x0 x1 x2 x3 x4
      go_wp2_with fail
      rw [← HW3.out]
      clear u0 u1 u2 u3 u4 HW3
      obtain ⟨x0, x1, x2, x3, x4⟩ : _ ∧ _ ∧ _ ∧ _ ∧ _ := ⟨q3.c0, q3.c1, q3.c2, q3.c3, q3.c4⟩
      refine (HGI.out _ q3.bel).mono ?_
      rintro e w4 ⟨rfl, b⟩
      have h4 := q3.below b
      clear b q3 x0 x1 x2 x3 x4
      obtain ⟨x0, x1, x2, x3, x4⟩ : _ ∧ _ ∧ _ ∧ _ ∧ _ := ⟨h4.c0, h4.c1, h4.c2, h4.c3, h4.c4⟩
      obtain ⟨W4, HW4⟩ : ∃ W4, Hid (W4 = w4.alloc (.cells #[.int .i64 k2, .int .i64 i2, .string S2, .string T2] 41)) := ⟨_, rfl⟩
      have q4 : PageIn p a c w W4 := h4.below (by rw [HW4.out]; exact (Below.refl _ _).alloc (Nat.le_refl _) _)
      obtain ⟨u0, u1, u2, u3, u4⟩ : _ ∧ _ ∧ _ ∧ _ ∧ _ := ⟨q4.c0, q4.c1, q4.c2, q4.c3, q4.c4⟩
      rw [HW4.out] at u0 u1 u2 u3 u4
      clear h4 x0 x1 x2 x3 x4
      go_wp2_with fail
      rw [← HW4.out]
      clear u0 u1 u2 u3 u4 HW4
      obtain ⟨x0, x1, x2, x3, x4⟩ : _ ∧ _ ∧ _ ∧ _ ∧ _ := ⟨q4.c0, q4.c1, q4.c2, q4.c3, q4.c4⟩
      refine (HCL.out _ q4.bel).mono ?_
      rintro e w5 ⟨rfl, b⟩
      have h5 := q4.below b
      clear b q4 x0 x1 x2 x3 x4
      obtain ⟨x0, x1, x2, x3, x4⟩ : _ ∧ _ ∧ _ ∧ _ ∧ _ := ⟨h5.c0, h5.c1, h5.c2, h5.c3, h5.c4⟩
      obtain ⟨W5, HW5⟩ : ∃ W5, Hid (W5 = w5.alloc (.cells #[.int .i64 k3, .int .i64 i3, .string S3, .string T3] 41)) := ⟨_, rfl⟩
      have q5 : PageIn p a c w W5 := h5.below (by rw [HW5.out]; exact (Below.refl _ _).alloc (Nat.le_refl _) _)
      obtain ⟨u0, u1, u2, u3, u4⟩ : _ ∧ _ ∧ _ ∧ _ ∧ _ := ⟨q5.c0, q5.c1, q5.c2, q5.c3, q5.c4⟩
      rw [HW5.out] at u0 u1 u2 u3 u4
      clear h5 x0 x1 x2 x3 x4
      go_wp2_with fail
      rw [← HW5.out]
      clear u0 u1 u2 u3 u4 HW5
      obtain ⟨x0, x1, x2, x3, x4⟩ : _ ∧ _ ∧ _ ∧ _ ∧ _ := ⟨q5.c0, q5.c1, q5.c2, q5.c3, q5.c4⟩
      refine (HTK.out _ q5.bel).mono ?_
      rintro e w6 ⟨rfl, b⟩
      have h6 := q5.below b
      clear b q5 x0 x1 x2 x3 x4
      obtain ⟨x0, x1, x2, x3, x4⟩ : _ ∧ _ ∧ _ ∧ _ ∧ _ := ⟨h6.c0, h6.c1, h6.c2, h6.c3, h6.c4⟩
      go_wp2_with fail
      refine (HAL.out _ h6.bel).mono ?_
      rintro e w7 ⟨g7, N7, rfl, b⟩
      have h7 := h6.below b
      clear b h6 x0 x1 x2 x3 x4
      obtain ⟨x0, x1, x2, x3, x4⟩ : _ ∧ _ ∧ _ ∧ _ ∧ _ := ⟨h7.c0, h7.c1, h7.c2, h7.c3, h7.c4⟩
      go_wp2_with fail
      refine (HCN.out _ h7.bel).mono ?_
      rintro e w8 ⟨rfl, b⟩
      go_wp2
      go_ret
      exact ⟨rfl, h7.bel.trans (b.mono (Nat.le_of_lt h7.lt))⟩

end Go.Proofs.Ytkknglcckjhngaa
