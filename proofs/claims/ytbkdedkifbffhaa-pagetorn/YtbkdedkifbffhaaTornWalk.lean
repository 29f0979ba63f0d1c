/-
  The walk of PageTorn.
-/
import Derived.Test.YtbkdedkifbffhaaTornMath
namespace Go.Proofs.Ytbkdedkifbffhaa
open Go.RowKit Go.Sort
set_option linter.unusedVariables false

/-- 'n%513 + 513) % 513'. -/
def cutAt (n : Int) : Nat := ((n.tmod 513 + 513).tmod 513).toNat

theorem cutAt_le (n : Int) : cutAt n ≤ 512 := by
  unfold cutAt
  have := Int.tmod_lt_of_pos (n.tmod 513 + 513) (show (0 : Int) < 513 by omega)
  omega

theorem torn_bounds (n : Int) : -513 < n.tmod 513 ∧ n.tmod 513 < 513 := by
  have h1 := Int.tmod_lt_of_pos n (show (0 : Int) < 513 by omega)
  have h2 := Int.lt_tmod_of_pos n (show (0 : Int) < 513 by omega)
  exact ⟨h2, h1⟩

theorem cutAt_cast (n : Int) : (n.tmod 513 + 513).tmod 513 = ((cutAt n : Nat) : Int) := by
  unfold cutAt
  have := torn_bounds n
  have h3 := Int.tmod_nonneg 513 (show (0 : Int) ≤ n.tmod 513 + 513 by omega)
  omega

set_option maxHeartbeats 3200000 in
set_option maxRecDepth 20000 in
theorem torn_walk (p q : SheetV) (a1 a2 : Option Addr) (c d : Nat) (n : Int) (hn1 : -9223372036854775808 ≤ n) (hn2 : n ≤ 9223372036854775807) (w : World) (hp : p.Ok w a1) (hq : q.Ok w a2) :
    Calls Try.prog 7 #[p.val a1 c, q.val a2 d, .int .i64 n] w fun e w' => e = .returned (.bool true) ∧ Below w.heap.size w w' := by
  have hl1 := hp.lsn
  have hl2 := hq.lsn
  have HE1 : Hid (∀ wx, Below w.heap.size w wx → Calls Try.prog 9 #[p.val a1 c] wx fun e w' => e = .returned (.tuple #[.string (encS p), .int .i64 (encE p)]) ∧ Below wx.heap.size wx w') := fun wx hb => encode_any p a1 c wx (hp.below hb)
  have HE2 : Hid (∀ wx, Below w.heap.size w wx → Calls Try.prog 9 #[q.val a2 d] wx fun e w' => e = .returned (.tuple #[.string (encS q), .int .i64 (encE q)]) ∧ Below wx.heap.size wx w') := fun wx hb => encode_any q a2 d wx (hq.below hb)
  have HF1 : Hid (encE p = 0 → p.Fits) := (encE_fits hp).1
  have HF2 : Hid (encE q = 0 → q.Fits) := (encE_fits hq).1
  have HS1 : Hid (encE p = 0 → encS p = ⟨(encL p).toArray⟩) := fun e => by unfold encS; rw [if_pos e]
  have HS2 : Hid (encE q = 0 → encS q = ⟨(encL q).toArray⟩) := fun e => by unfold encS; rw [if_pos e]
  clear hp hq
  have HB0 : ∃ W0, Hid (W0 = (w.alloc (.cells #[.int .u32 p.num, .int .u64 p.lsn, .int .i64 p.kind, .string p.head, .slice a1 p.slots.length c] 28)).alloc (.cells #[.int .u32 q.num, .int .u64 q.lsn, .int .i64 q.kind, .string q.head, .slice a2 q.slots.length d] 28)) := ⟨_, rfl⟩
  obtain ⟨W0, HW0⟩ := HB0
  have bel0 : Below w.heap.size w W0 := by rw [HW0.out]; exact ((Below.refl _ _).alloc (Nat.le_refl _) _).alloc (by simp) _
  have z0 : w.heap.size + 2 ≤ W0.heap.size := by rw [HW0.out]; simp
  have p0 : RowV W0 w.heap.size 5 (five (.int .u32 p.num) (.int .u64 p.lsn) (.int .i64 p.kind) (.string p.head) (.slice a1 p.slots.length c)) := by
    rw [HW0.out]; exact (RowV.five_new w _ _ _ _ _ _).below ((Below.refl _ _).alloc (Nat.le_refl _) _) (by simp)
  have q0 : RowV W0 (w.heap.size + 1) 5 (five (.int .u32 q.num) (.int .u64 q.lsn) (.int .i64 q.kind) (.string q.head) (.slice a2 q.slots.length d)) := by
    rw [HW0.out]
    have := RowV.five_new (w.alloc (.cells #[.int .u32 p.num, .int .u64 p.lsn, .int .i64 p.kind, .string p.head, .slice a1 p.slots.length c] 28)) (.int .u32 q.num) (.int .u64 q.lsn) (.int .i64 q.kind) (.string q.head) (.slice a2 q.slots.length d) 28
    simpa using this
  obtain ⟨S, HS⟩ : ∃ S, Hid (encS p = S) := ⟨_, rfl⟩
  obtain ⟨T, HT⟩ : ∃ T, Hid (encS q = T) := ⟨_, rfl⟩
  rw [HS.out] at HE1 HS1
  rw [HT.out] at HE2 HS2
  simp only [SheetV.val] at HE1 HE2 ⊢
  by_cases e1 : encE p = 0
  · rw [e1] at HE1
    by_cases e2 : encE q = 0
    · rw [e2] at HE2
      by_cases e3 : p.lsn = q.lsn
      · have e3' : ((p.lsn : Int) == (q.lsn : Int)) = true := by rw [beq_iff_eq]; omega
        clear e1 e2 e3
        go_enter Try.func7, Try.ntmps7
        go_wp2_with fail
        rw [← HW0.out]
        refine (HE1.out _ bel0).mono ?_
        rintro e w1 ⟨rfl, b1⟩
        have p1 := p0.below b1 (by omega)
        have q1 := q0.below b1 (by omega)
        have bel1 := below_chain bel0 b1
        have z1 := Nat.le_trans z0 b1.size
        obtain ⟨y0, y1, y2, y3, y4⟩ := q1.cells5
        go_wp2_with fail
        refine (HE2.out _ bel1).mono ?_
        rintro e w2 ⟨rfl, b2⟩
        clear y0 y1 y2 y3 y4
        have p2 := p1.below b2 (by omega)
        have q2 := q1.below b2 (by omega)
        have bel2 := below_chain bel1 b2
        have z2 := Nat.le_trans z1 b2.size
        go_wp2_with fail
        refine (awake_any _).mono ?_
        rintro e w3 ⟨rfl, b3⟩
        have p3 := p2.below b3 (by omega)
        have q3 := q2.below b3 (by omega)
        have bel3 := below_chain bel2 b3
        have z3 := Nat.le_trans z2 b3.size
        clear p0 q0 p1 q1 p2 q2 b1 b2 b3 bel0 bel1 bel2
        obtain ⟨x0, x1, x2, x3, x4⟩ := p3.cells5
        obtain ⟨y0, y1, y2, y3, y4⟩ := q3.cells5
        go_wp2_with fail
        refine (awake_any _).mono ?_
        rintro e w4 ⟨rfl, b4⟩
        go_wp2
        go_ret
        exact ⟨rfl, below_chain bel3 b4⟩
      · have e3' : ((p.lsn : Int) == (q.lsn : Int)) = false := by rw [beq_eq_false_iff_ne]; omega
        by_cases e4 : p.lsn = 0
        · have e4' : ((p.lsn : Int) == 0) = true := by rw [beq_iff_eq]; omega
          clear e1 e2 e3 e4
          go_enter Try.func7, Try.ntmps7
          go_wp2_with fail
          rw [← HW0.out]
          refine (HE1.out _ bel0).mono ?_
          rintro e w1 ⟨rfl, b1⟩
          have p1 := p0.below b1 (by omega)
          have q1 := q0.below b1 (by omega)
          have bel1 := below_chain bel0 b1
          have z1 := Nat.le_trans z0 b1.size
          obtain ⟨y0, y1, y2, y3, y4⟩ := q1.cells5
          go_wp2_with fail
          refine (HE2.out _ bel1).mono ?_
          rintro e w2 ⟨rfl, b2⟩
          clear y0 y1 y2 y3 y4
          have p2 := p1.below b2 (by omega)
          have q2 := q1.below b2 (by omega)
          have bel2 := below_chain bel1 b2
          have z2 := Nat.le_trans z1 b2.size
          go_wp2_with fail
          refine (awake_any _).mono ?_
          rintro e w3 ⟨rfl, b3⟩
          have p3 := p2.below b3 (by omega)
          have q3 := q2.below b3 (by omega)
          have bel3 := below_chain bel2 b3
          have z3 := Nat.le_trans z2 b3.size
          clear p0 q0 p1 q1 p2 q2 b1 b2 b3 bel0 bel1 bel2
          obtain ⟨x0, x1, x2, x3, x4⟩ := p3.cells5
          obtain ⟨y0, y1, y2, y3, y4⟩ := q3.cells5
          go_wp2_with fail
          refine (awake_any _).mono ?_
          rintro e w4 ⟨rfl, b4⟩
          go_wp2
          go_ret
          exact ⟨rfl, below_chain bel3 b4⟩
        · have e4' : ((p.lsn : Int) == 0) = false := by rw [beq_eq_false_iff_ne]; omega
          by_cases e5 : q.lsn = 0
          · have e5' : ((q.lsn : Int) == 0) = true := by rw [beq_iff_eq]; omega
            clear e1 e2 e3 e4 e5
            go_enter Try.func7, Try.ntmps7
            go_wp2_with fail
            rw [← HW0.out]
            refine (HE1.out _ bel0).mono ?_
            rintro e w1 ⟨rfl, b1⟩
            have p1 := p0.below b1 (by omega)
            have q1 := q0.below b1 (by omega)
            have bel1 := below_chain bel0 b1
            have z1 := Nat.le_trans z0 b1.size
            obtain ⟨y0, y1, y2, y3, y4⟩ := q1.cells5
            go_wp2_with fail
            refine (HE2.out _ bel1).mono ?_
            rintro e w2 ⟨rfl, b2⟩
            clear y0 y1 y2 y3 y4
            have p2 := p1.below b2 (by omega)
            have q2 := q1.below b2 (by omega)
            have bel2 := below_chain bel1 b2
            have z2 := Nat.le_trans z1 b2.size
            go_wp2_with fail
            refine (awake_any _).mono ?_
            rintro e w3 ⟨rfl, b3⟩
            have p3 := p2.below b3 (by omega)
            have q3 := q2.below b3 (by omega)
            have bel3 := below_chain bel2 b3
            have z3 := Nat.le_trans z2 b3.size
            clear p0 q0 p1 q1 p2 q2 b1 b2 b3 bel0 bel1 bel2
            obtain ⟨x0, x1, x2, x3, x4⟩ := p3.cells5
            obtain ⟨y0, y1, y2, y3, y4⟩ := q3.cells5
            go_wp2_with fail
            refine (awake_any _).mono ?_
            rintro e w4 ⟨rfl, b4⟩
            go_wp2
            go_ret
            exact ⟨rfl, below_chain bel3 b4⟩
          · have e5' : ((q.lsn : Int) == 0) = false := by rw [beq_eq_false_iff_ne]; omega
            have hcut := cutAt_cast n
            have hcl := cutAt_le n
            have htb := torn_bounds n
            have F1 := HF1.out e1
            have F2 := HF2.out e2
            have hS := HS1.out e1
            have hT := HS2.out e2
            have hSs : S.size = 512 := by rw [hS]; exact enc_size p F1
            have hTs : T.size = 512 := by rw [hT]; exact enc_size q F2
            have HSd : Hid (S.data.toList = encL p) := by rw [hS]; exact enc_data p
            have HTd : Hid (T.data.toList = encL q) := by rw [hT]; exact enc_data q
            have HDS : Hid (decE S = 0) := by rw [hS]; exact (dec_enc p F1).1
            have HDT : Hid (decE T = 0) := by rw [hT]; exact (dec_enc q F2).1
            clear hS hT HS1 HS2 HF1 HF2
            obtain ⟨k, Hk⟩ : ∃ k, Hid (cutAt n = k) := ⟨_, rfl⟩
            rw [Hk.out] at hcut hcl
            obtain ⟨M, HM⟩ : ∃ M, Hid (M = T.extract 0 k ++ S.extract k 512) := ⟨_, rfl⟩
            have hMs : M.size = 512 := by rw [HM.out]; simp [ByteArray.size_append, ByteArray.size_extract]; omega
            have HMd : Hid (M.data.toList = (encL q).take k ++ (encL p).drop k) := by
              show _ = _
              rw [HM.out, ByteArray.data_append, Array.toList_append, Lib.extract_data, Lib.extract_data, HSd.out, HTd.out]
              rw [List.take_of_length_le (l := (encL p).drop k) (by rw [List.length_drop, encL_length p F1.fits]; omega)]
              simp
            have HMD : Hid (M ≠ S → M ≠ T → decE M ≠ 0) := fun h1 h2 => torn_math p q F1 F2 e3 e4 e5 k hcl M HMd.out (fun e => h1 (Go.WideShapes.bytes_inj (by rw [e, HSd.out]))) (fun e => h2 (Go.WideShapes.bytes_inj (by rw [e, HTd.out])))
            have HDC : Hid (∀ wx, Calls Try.prog 12 #[.string M] wx fun x w' => ∃ a c, x = .returned (.tuple #[(decP M).val a c, .int .i64 (decE M)]) ∧ StrsFrom wx.heap.size w' a (decP M).slots ∧ Below wx.heap.size wx w') := fun wx => decode_any M wx (by rw [hMs]; unfold maxLen; omega)
            have HP0 : Hid (decE M ≠ 0 → (decP M).slots = []) := fun h => by unfold decP; rw [if_neg (fun q => h q.1)]; rfl
            have HME : Hid ((M = S → decE M = 0) ∧ (M = T → decE M = 0)) := ⟨fun h => by rw [h]; exact HDS.out, fun h => by rw [h]; exact HDT.out⟩
            clear HMd HSd HTd F1 F2 HDS HDT
            unfold SheetV.val at HDC
            generalize decP M = D at *
            generalize decE M = E at *
            clear e1 e2 e3 e4 e5
            go_enter Try.func7, Try.ntmps7
            go_wp2_with fail
            rw [← HW0.out]
            refine (HE1.out _ bel0).mono ?_
            rintro e w1 ⟨rfl, b1⟩
            have p1 := p0.below b1 (by omega)
            have q1 := q0.below b1 (by omega)
            have bel1 := below_chain bel0 b1
            have z1 := Nat.le_trans z0 b1.size
            obtain ⟨y0, y1, y2, y3, y4⟩ := q1.cells5
            go_wp2_with fail
            refine (HE2.out _ bel1).mono ?_
            rintro e w2 ⟨rfl, b2⟩
            clear y0 y1 y2 y3 y4
            have p2 := p1.below b2 (by omega)
            have q2 := q1.below b2 (by omega)
            have bel2 := below_chain bel1 b2
            have z2 := Nat.le_trans z1 b2.size
            go_wp2_with fail
            refine (awake_any _).mono ?_
            rintro e w3 ⟨rfl, b3⟩
            have p3 := p2.below b3 (by omega)
            have q3 := q2.below b3 (by omega)
            have bel3 := below_chain bel2 b3
            have z3 := Nat.le_trans z2 b3.size
            clear p0 q0 p1 q1 p2 q2 b1 b2 b3 bel0 bel1 bel2
            obtain ⟨x0, x1, x2, x3, x4⟩ := p3.cells5
            obtain ⟨y0, y1, y2, y3, y4⟩ := q3.cells5
            go_wp2_with fail
            have hadd : ¬ (9223372036854775807 < (T.extract 0 k).size + (S.extract k 512).size) := by simp [ByteArray.size_extract]; omega
            have hk0 : (0 : Int) ≤ (k : Int) := by omega
            have hk1 : (k : Int) ≤ 512 := by omega
            go_quiet (fail)
            rw [← HM.out]
            clear HM hadd hk0 hk1 hcut x0 x1 x2 x3 x4 y0 y1 y2 y3 y4 p3 q3
            have bel4 := below_drewN bel3 nq
            by_cases m1 : M = S
            · have hE := HME.out.1 m1
              have m1' := str_eq m1
              clear m1 HME HMD HP0
              subst hE
              go_wp2_with fail
              refine (HDC.out _).mono ?_
              rintro e w5 ⟨a5, c5, rfl, _, b5⟩
              go_wp2
              go_ret
              exact ⟨rfl, (below_chain bel4 b5).alloc (by have := b5.size; have : (w3.drewN nq).heap.size = w3.heap.size := rfl; omega) _⟩
            · have m1' := str_ne m1
              by_cases m2 : M = T
              · have hE := HME.out.2 m2
                have m2' := str_eq m2
                clear m1 m2 HME HMD HP0
                subst hE
                go_wp2_with fail
                refine (HDC.out _).mono ?_
                rintro e w5 ⟨a5, c5, rfl, _, b5⟩
                go_wp2
                go_ret
                exact ⟨rfl, (below_chain bel4 b5).alloc (by have := b5.size; have : (w3.drewN nq).heap.size = w3.heap.size := rfl; omega) _⟩
              · have m2' := str_ne m2
                have hE := HMD.out m1 m2
                have hE' : (E != 0) = true := by rw [bne_iff_ne]; exact hE
                have hD := HP0.out hE
                have hD' : D.slots.length = 0 := by rw [hD]; rfl
                rw [hD'] at HDC
                clear m1 m2 HME HMD HP0 hD hD' hE
                go_wp2_with fail
                refine (HDC.out _).mono ?_
                rintro e w5 ⟨a5, c5, rfl, _, b5⟩
                go_wp2
                go_ret
                exact ⟨rfl, (below_chain bel4 b5).alloc (by have := b5.size; have : (w3.drewN nq).heap.size = w3.heap.size := rfl; omega) _⟩
    · have e2' : (encE q != 0) = true := by rw [bne_iff_ne]; exact e2
      clear e1
      go_enter Try.func7, Try.ntmps7
      go_wp2_with fail
      rw [← HW0.out]
      refine (HE1.out _ bel0).mono ?_
      rintro e w1 ⟨rfl, b1⟩
      have p1 := p0.below b1 (by omega)
      have q1 := q0.below b1 (by omega)
      have bel1 := below_chain bel0 b1
      have z1 := Nat.le_trans z0 b1.size
      obtain ⟨y0, y1, y2, y3, y4⟩ := q1.cells5
      go_wp2_with fail
      refine (HE2.out _ bel1).mono ?_
      rintro e w2 ⟨rfl, b2⟩
      clear y0 y1 y2 y3 y4
      have p2 := p1.below b2 (by omega)
      have q2 := q1.below b2 (by omega)
      have bel2 := below_chain bel1 b2
      have z2 := Nat.le_trans z1 b2.size
      go_wp2_with fail
      refine (awake_any _).mono ?_
      rintro e w3 ⟨rfl, b3⟩
      have p3 := p2.below b3 (by omega)
      have q3 := q2.below b3 (by omega)
      have bel3 := below_chain bel2 b3
      have z3 := Nat.le_trans z2 b3.size
      clear p0 q0 p1 q1 p2 q2 b1 b2 b3 bel0 bel1 bel2
      obtain ⟨x0, x1, x2, x3, x4⟩ := p3.cells5
      obtain ⟨y0, y1, y2, y3, y4⟩ := q3.cells5
      go_wp2_with fail
      refine (awake_any _).mono ?_
      rintro e w4 ⟨rfl, b4⟩
      go_wp2
      go_ret
      exact ⟨rfl, below_chain bel3 b4⟩
  · have e1' : (encE p != 0) = true := by rw [bne_iff_ne]; exact e1
    go_enter Try.func7, Try.ntmps7
    go_wp2_with fail
    rw [← HW0.out]
    refine (HE1.out _ bel0).mono ?_
    rintro e w1 ⟨rfl, b1⟩
    have p1 := p0.below b1 (by omega)
    have q1 := q0.below b1 (by omega)
    have bel1 := below_chain bel0 b1
    have z1 := Nat.le_trans z0 b1.size
    obtain ⟨y0, y1, y2, y3, y4⟩ := q1.cells5
    go_wp2_with fail
    refine (HE2.out _ bel1).mono ?_
    rintro e w2 ⟨rfl, b2⟩
    clear y0 y1 y2 y3 y4
    have p2 := p1.below b2 (by omega)
    have q2 := q1.below b2 (by omega)
    have bel2 := below_chain bel1 b2
    have z2 := Nat.le_trans z1 b2.size
    go_wp2_with fail
    refine (awake_any _).mono ?_
    rintro e w3 ⟨rfl, b3⟩
    have p3 := p2.below b3 (by omega)
    have q3 := q2.below b3 (by omega)
    have bel3 := below_chain bel2 b3
    have z3 := Nat.le_trans z2 b3.size
    clear p0 q0 p1 q1 p2 q2 b1 b2 b3 bel0 bel1 bel2
    obtain ⟨x0, x1, x2, x3, x4⟩ := p3.cells5
    obtain ⟨y0, y1, y2, y3, y4⟩ := q3.cells5
    go_wp2_with fail
    refine (awake_any _).mono ?_
    rintro e w4 ⟨rfl, b4⟩
    go_wp2
    go_ret
    exact ⟨rfl, below_chain bel3 b4⟩

end Go.Proofs.Ytbkdedkifbffhaa
