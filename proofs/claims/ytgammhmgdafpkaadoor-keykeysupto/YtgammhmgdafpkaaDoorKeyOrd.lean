/-
  The walks of key.Compare (slices.CompareFunc), girderref11.value, girderref11.Compare.
-/
import Derived.Test.YtgammhmgdafpkaaDoorKeyCmp
import Derived.Lib.QuietBelow
namespace Go.Proofs.YtgammhmgdafpkaaDoor
open Go.RowKit Go.Sort
set_option linter.unusedVariables false
set_option linter.unusedSimpArgs false

theorem bless_toList (x y : ByteArray) : Go.Op.bytesLess x.toList y.toList = Go.Op.bytesLess x.data.toList y.data.toList := by rw [ByteArray.toList_eq, ByteArray.toList_eq]

/-- The three comparisons are the order of values. -/
theorem or3_cmpV (x y : ValV) : or3 (kcmpF x.kind y.kind) (kcmpF x.n y.n) (scmpF x.S y.S) = cmpV x y := by
  unfold or3 kcmpF scmpF
  rw [bless_toList]
  rcases cmpV_cases x y with ⟨h, e⟩ | ⟨h, h2, e⟩ | ⟨h, h2, h3, e⟩
  · rw [e]
    rw [ltV_iff] at h
    rcases h with h | ⟨h, h | ⟨h', h''⟩⟩
    · rw [if_pos h]; simp
    · rw [if_neg (show ¬ x.kind < y.kind by omega), if_neg (show ¬ y.kind < x.kind by omega), if_pos h]; simp
    · rw [if_neg (show ¬ x.kind < y.kind by omega), if_neg (show ¬ y.kind < x.kind by omega), if_neg (show ¬ x.n < y.n by omega), if_neg (show ¬ y.n < x.n by omega), if_pos h'']; simp
  · subst h
    rw [e, if_neg (show ¬ x.kind < x.kind by omega), if_neg (show ¬ x.n < x.n by omega), bless_irrefl]
    simp
  · rw [e]
    rw [ltV_iff] at h
    rcases h with h | ⟨h, h | ⟨h', h''⟩⟩
    · rw [if_neg (show ¬ x.kind < y.kind by omega), if_pos h]; simp
    · rw [if_neg (show ¬ x.kind < y.kind by omega), if_neg (show ¬ y.kind < x.kind by omega), if_neg (show ¬ x.n < y.n by omega), if_pos h]; simp
    · have ha := bless_asymm h''
      have hS : ¬ x.S = y.S := fun q => by rw [q] at ha; exact ha.2 rfl
      rw [if_neg (show ¬ x.kind < y.kind by omega), if_neg (show ¬ y.kind < x.kind by omega), if_neg (show ¬ x.n < y.n by omega), if_neg (show ¬ y.n < x.n by omega), ha.1, if_neg hS]; simp

/-- How two lists stand, behind k that are the same. -/
theorem cmpL_from {A B : List ValV} {k : Nat} (h : cmpL A B = cmpL (A.drop k) (B.drop k)) (hA : k < A.length) (hB : k < B.length) :
    (cmpV A[k] B[k] = 0 → cmpL A B = cmpL (A.drop (k + 1)) (B.drop (k + 1))) ∧ (cmpV A[k] B[k] ≠ 0 → cmpL A B = cmpV A[k] B[k]) := by
  rw [List.drop_eq_getElem_cons hA, List.drop_eq_getElem_cons hB] at h
  refine ⟨fun e => ?_, fun e => ?_⟩
  · rw [h]; show (if cmpV A[k] B[k] = 0 then _ else _) = _; rw [if_pos e]
  · rw [h]; show (if cmpV A[k] B[k] = 0 then _ else _) = _; rw [if_neg e]

set_option maxHeartbeats 3200000 in
theorem compare_any (a1 a2 : Option Addr) (c1 c2 : Nat) (A B : List ValV) (w : World) (hA : ValsAt w a1 A) (hB : ValsAt w a2 B) (hl1 : A.length ≤ 9223372036854775807) (hl2 : B.length ≤ 9223372036854775807) :
    Calls Tryd.prog 10 #[.slice a1 A.length c1, .slice a2 B.length c2] w fun e w' => e = .returned (.int .i64 (cmpL A B)) ∧ Below w.heap.size w w' := by
  have HC : Hid (∀ (x y : ValV) (wx : World), Calls Tryd.prog 34 #[.agg #[.int .i64 x.kind, .int .i64 x.n, .string x.S], .agg #[.int .i64 y.kind, .int .i64 y.n, .string y.S]] wx fun e w' => e = .returned (.int .i64 (cmpV x y)) ∧ Below wx.heap.size wx w') := fun x y wx => by
    have := cmpOne_any x y wx
    rw [or3_cmpV] at this
    exact this
  have HF : Hid (∀ wx : World, Below w.heap.size w wx → Calls Tryd.prog 33 #[.slice a1 A.length c1, .slice a2 B.length c2, .func (.func 34) #[] #[]] wx fun e w' => e = .returned (.int .i64 (cmpL A B)) ∧ Below w.heap.size w w') := fun w0 b0 => by
    obtain ⟨R, HR⟩ : ∃ R, Hid (cmpL A B = R) := ⟨_, rfl⟩
    rw [HR.out]
    have HB0 := hidk b0
    go_enter Tryd.func33, Tryd.ntmps33
    go_wp2_with fail
    go_loopw [13] (fun i wr => ∃ k : Nat, k ≤ A.length ∧ k ≤ B.length ∧ i = .int .i64 k ∧ Hid (Below w.heap.size w wr) ∧ Hid (cmpL A B = cmpL (A.drop k) (B.drop k))) (fun i _ => A.length - (intOf i).toNat)
    case atStart => exact ⟨0, by omega, by omega, rfl, b0, by show _ = _; rw [List.drop_zero, List.drop_zero]⟩
    case round =>
      obtain ⟨k, hkA, hkB, rfl, HB1, HK⟩ := hrel
      by_cases hltA : k < A.length
      · replace hA := hA.below HB1.out
        rcases hA with hA | ⟨q1, o1, rfl, hq1, g1⟩
        · rw [hA] at hltA; simp at hltA
        have g1 := g1 k hltA
        have hi0 : (0 : Int) ≤ (k : Int) := by omega
        have hi1 : (k : Int) < (A.length : Int) := by omega
        have hz : w.heap.size ≤ wr.heap.size := HB1.out.size
        by_cases hltB : k < B.length
        · replace hB := hB.below HB1.out
          rcases hB with hB | ⟨q2, o2, rfl, hq2, g2⟩
          · rw [hB] at hltB; simp at hltB
          have g2 := g2 k hltB
          have hi2 : (k : Int) < (B.length : Int) := by omega
          have HS := hidk (cmpL_from HK.out hltA hltB)
          rw [HR.out] at HS
          obtain ⟨x, Hx⟩ : ∃ x, Hid (A[k] = x) := ⟨A[k], rfl⟩
          obtain ⟨y, Hy⟩ : ∃ y, Hid (B[k] = y) := ⟨B[k], rfl⟩
          rw [Hx.out] at g1 HS
          rw [Hy.out] at g2 HS
          clear Hx Hy HK
          obtain ⟨x0, x1, x2⟩ := g1
          obtain ⟨y0, y1, y2⟩ := g2
          have HBA : Hid (Below w.heap.size w ((wr.alloc (.cells #[.int .i64 x.kind, .int .i64 x.n, .string x.S] 35)).alloc (.cells #[.int .i64 y.kind, .int .i64 y.n, .string y.S] 35))) := (HB1.out.alloc hz _).alloc (by simp; omega) _
          have HCx := hidk (HC.out x y ((wr.alloc (.cells #[.int .i64 x.kind, .int .i64 x.n, .string x.S] 35)).alloc (.cells #[.int .i64 y.kind, .int .i64 y.n, .string y.S] 35)))
          obtain ⟨v, Hv⟩ : ∃ v, Hid (cmpV x y = v) := ⟨_, rfl⟩
          rw [Hv.out] at HCx HS
          by_cases hv : v = 0
          · subst hv
            go_wp2_with fail
            refine HCx.out.mono ?_
            rintro e w2 ⟨rfl, b2⟩
            go_wp2
            go_roundw
            case rel => exact ⟨k + 1, by omega, by omega, by go_num, below_chain HBA.out b2, by show _ = _; rw [HR.out]; exact HS.out.1 (by trivial)⟩
            case measure => simp [intOf]; omega
          · have hv' : (v != 0) = true := by rw [bne_iff_ne]; exact hv
            obtain rfl := HS.out.2 hv
            go_wp2_with fail
            refine HCx.out.mono ?_
            rintro e w2 ⟨rfl, b2⟩
            go_wp2
            go_ret
            exact ⟨rfl, below_chain HBA.out b2⟩
        · have hi2 : ¬ (k : Int) < (B.length : Int) := by omega
          have hi3 : (B.length : Int) ≤ (k : Int) := by omega
          have hR : R = 1 := by
            rw [← HR.out, HK.out, List.drop_eq_getElem_cons hltA, List.drop_eq_nil_of_le (show B.length ≤ k by omega)]; rfl
          subst hR
          obtain ⟨x, Hx⟩ : ∃ x, Hid (A[k] = x) := ⟨A[k], rfl⟩
          rw [Hx.out] at g1
          obtain ⟨x0, x1, x2⟩ := g1
          go_wp2
          go_ret
          exact ⟨rfl, HB1.out.alloc hz _⟩
      · have hi1 : ¬ (k : Int) < (A.length : Int) := by omega
        by_cases hltB : A.length < B.length
        · have hi2 : (A.length : Int) < (B.length : Int) := by omega
          have hR : R = -1 := by
            rw [← HR.out, HK.out, List.drop_eq_nil_of_le (show A.length ≤ k by omega), List.drop_eq_getElem_cons (show k < B.length by omega)]; rfl
          subst hR
          go_wp2
          go_ret
          exact ⟨rfl, HB1.out⟩
        · have hi2 : ¬ (A.length : Int) < (B.length : Int) := by omega
          have hR : R = 0 := by
            rw [← HR.out, HK.out, List.drop_eq_nil_of_le (show A.length ≤ k by omega), List.drop_eq_nil_of_le (show B.length ≤ k by omega)]; rfl
          subst hR
          go_wp2
          go_ret
          exact ⟨rfl, HB1.out⟩
  go_enter Tryd.func10, Tryd.ntmps10
  go_wp2_with fail
  refine (HF.out w (Below.refl _ _)).mono ?_
  rintro e w2 ⟨rfl, b2⟩
  go_wp2
  go_ret
  exact ⟨rfl, b2⟩

set_option maxHeartbeats 3200000 in
theorem rvalue_any (x y : ValV) (w : World) : Calls Tryd.prog 39 #[.agg #[.int .i64 x.kind, .int .i64 x.n, .string x.S], .agg #[.int .i64 y.kind, .int .i64 y.n, .string y.S]] w fun e w' => e = .returned (.int .i64 (cmpV x y)) ∧ Below w.heap.size w w' := by
  have bel : Below w.heap.size w ((w.alloc (.cells #[.int .i64 x.kind, .int .i64 x.n, .string x.S] 38)).alloc (.cells #[.int .i64 y.kind, .int .i64 y.n, .string y.S] 38)) := ((Below.refl _ _).alloc (Nat.le_refl _) _).alloc (by simp) _
  obtain ⟨R, HR⟩ : ∃ R, Hid (cmpV x y = R) := ⟨_, rfl⟩
  have hlt : ltV x y = true → R = -1 := fun h => by rw [← HR.out]; unfold cmpV; rw [if_pos h]
  have hgt : ltV y x = true → R = 1 := fun h => by
    rw [← HR.out]
    rcases cmpV_cases x y with ⟨q, e⟩ | ⟨q, q2, e⟩ | ⟨q, q2, q3, e⟩
    · exfalso
      rw [ltV_iff] at h q
      rcases h with h | ⟨h, h | ⟨h', h''⟩⟩
      · rcases q with q | ⟨q, _⟩ <;> omega
      · rcases q with q | ⟨q, q | ⟨q', _⟩⟩ <;> omega
      · rcases q with q | ⟨q, q | ⟨q', q''⟩⟩
        · omega
        · omega
        · rw [(bless_asymm h'').1] at q''; cases q''
    · exfalso
      subst q
      rw [h] at q2; cases q2
    · exact e
  have heq : x = y → R = 0 := fun h => by
    rw [← HR.out]
    rcases cmpV_cases x y with ⟨q, e⟩ | ⟨q, q2, e⟩ | ⟨q, q2, q3, e⟩
    · exfalso
      subst h
      rw [ltV_iff, bless_irrefl] at q
      rcases q with q | ⟨_, q | ⟨_, q⟩⟩
      · omega
      · omega
      · cases q
    · exact e
    · exact absurd h q3
  rw [HR.out]
  clear HR
  obtain ⟨xk, xn, xS⟩ := x
  obtain ⟨yk, yn, yS⟩ := y
  simp only [ltV_iff] at hlt hgt
  simp only [ValV.mk.injEq] at heq
  simp only at bel ⊢
  rcases Int.lt_trichotomy xk yk with hk | hk | hk
  · obtain rfl := hlt (Or.inl hk)
    clear hlt hgt heq
    go_enter Tryd.func39, Tryd.ntmps39
    go_wp2
    go_ret
    exact ⟨rfl, bel⟩
  · subst hk
    rcases Int.lt_trichotomy xn yn with hn | hn | hn
    · obtain rfl := hlt (Or.inr ⟨rfl, Or.inl hn⟩)
      clear hlt hgt heq
      go_enter Tryd.func39, Tryd.ntmps39
      go_wp2
      go_ret
      exact ⟨rfl, bel⟩
    · subst hn
      rcases bless_total xS.data.toList yS.data.toList with hs | hs | hs
      · obtain rfl := hlt (Or.inr ⟨rfl, Or.inr ⟨rfl, hs⟩⟩)
        clear hlt hgt heq
        rw [← bless_toList] at hs
        go_enter Tryd.func39, Tryd.ntmps39
        go_wp2
        go_ret
        exact ⟨rfl, bel⟩
      · have hS : xS = yS := Go.WideShapes.bytes_inj hs
        subst hS
        obtain rfl := heq ⟨rfl, rfl, rfl⟩
        clear hlt hgt heq hs
        have hs := bless_irrefl xS.data.toList
        rw [← bless_toList] at hs
        have he : (xS.toList == xS.toList) = true := by simp
        go_enter Tryd.func39, Tryd.ntmps39
        go_wp2
        go_ret
        exact ⟨rfl, bel⟩
      · obtain rfl := hgt (Or.inr ⟨rfl, Or.inr ⟨rfl, hs⟩⟩)
        clear hlt hgt heq
        have ha := bless_asymm hs
        have hq := ha.1
        rw [← bless_toList] at hq
        have he := kstr_ne (fun q : xS = yS => ha.2 (by rw [q]))
        clear hs ha
        go_enter Tryd.func39, Tryd.ntmps39
        go_wp2
        go_ret
        exact ⟨rfl, bel⟩
    · obtain rfl := hgt (Or.inr ⟨rfl, Or.inl hn⟩)
      clear hlt hgt heq
      have h1 : ¬ xn < yn := by omega
      have h2 : (xn == yn) = false := by rw [beq_eq_false_iff_ne]; omega
      go_enter Tryd.func39, Tryd.ntmps39
      go_wp2
      go_ret
      exact ⟨rfl, bel⟩
  · obtain rfl := hgt (Or.inl hk)
    clear hlt hgt heq
    have h1 : ¬ xk < yk := by omega
    have h2 : (xk == yk) = false := by rw [beq_eq_false_iff_ne]; omega
    go_enter Tryd.func39, Tryd.ntmps39
    go_wp2
    go_ret
    exact ⟨rfl, bel⟩

set_option maxHeartbeats 3200000 in
theorem rcompare_any (a1 a2 : Option Addr) (c1 c2 : Nat) (A B : List ValV) (w : World) (hA : ValsAt w a1 A) (hB : ValsAt w a2 B) (hl1 : A.length ≤ 9223372036854775807) (hl2 : B.length ≤ 9223372036854775807) :
    Calls Tryd.prog 11 #[.slice a1 A.length c1, .slice a2 B.length c2] w fun e w' => e = .returned (.int .i64 (cmpL A B)) ∧ Below w.heap.size w w' := by
  obtain ⟨R, HR⟩ : ∃ R, Hid (cmpL A B = R) := ⟨_, rfl⟩
  rw [HR.out]
  go_enter Tryd.func11, Tryd.ntmps11
  go_wp2_with fail
  go_loopw [5] (fun i wr => ∃ k : Nat, k ≤ A.length ∧ k ≤ B.length ∧ i = .int .i64 k ∧ Hid (Below w.heap.size w wr) ∧ Hid (cmpL A B = cmpL (A.drop k) (B.drop k))) (fun i _ => A.length - (intOf i).toNat)
  case atStart => exact ⟨0, by omega, by omega, rfl, Below.refl _ _, by show _ = _; rw [List.drop_zero, List.drop_zero]⟩
  case round =>
    obtain ⟨k, hkA, hkB, rfl, HB1, HK⟩ := hrel
    by_cases hltA : k < A.length
    · have hi0 : (0 : Int) ≤ (k : Int) := by omega
      have hi1 : (k : Int) < (A.length : Int) := by omega
      have hz : w.heap.size ≤ wr.heap.size := HB1.out.size
      by_cases hltB : k < B.length
      · replace hA := hA.below HB1.out
        rcases hA with hA | ⟨q1, o1, rfl, hq1, g1⟩
        · rw [hA] at hltA; simp at hltA
        have g1 := g1 k hltA
        replace hB := hB.below HB1.out
        rcases hB with hB | ⟨q2, o2, rfl, hq2, g2⟩
        · rw [hB] at hltB; simp at hltB
        have g2 := g2 k hltB
        have hi2 : (k : Int) < (B.length : Int) := by omega
        have HS := hidk (cmpL_from HK.out hltA hltB)
        rw [HR.out] at HS
        obtain ⟨x, Hx⟩ : ∃ x, Hid (A[k] = x) := ⟨A[k], rfl⟩
        obtain ⟨y, Hy⟩ : ∃ y, Hid (B[k] = y) := ⟨B[k], rfl⟩
        rw [Hx.out] at g1 HS
        rw [Hy.out] at g2 HS
        clear Hx Hy HK
        obtain ⟨x0, x1, x2⟩ := g1
        obtain ⟨y0, y1, y2⟩ := g2
        obtain ⟨v, Hv⟩ : ∃ v, Hid (cmpV x y = v) := ⟨_, rfl⟩
        rw [Hv.out] at HS
        have cV : ∀ dd os, Calls Tryd.prog 39 #[.agg #[.int .i64 x.kind, .int .i64 x.n, .string x.S], .agg #[.int .i64 y.kind, .int .i64 y.n, .string y.S]] (grow (redrawn wr dd) os) fun e w'' => e = .returned (.int .i64 v) ∧ ∃ p : Regrown, w'' = grow (redrawn wr p.d) p.os := fun dd os => Calls.regrown_of (by have := rvalue_any x y (grow (redrawn wr dd) os); rw [Hv.out] at this; exact this)
        have gx0 := cell_regrown x0
        have gx1 := cell_regrown x1
        have gx2 := cell_regrown x2
        have gy0 := cell_regrown y0
        have gy1 := cell_regrown y1
        have gy2 := cell_regrown y2
        go_wp2_with fail
        refine wp_region_quiet_below kmixed (by kernel_rfl) ?_
        iterate 10 (first | go_big_quiet_step ((go_at_call 39; exact cV _ _)) | quiet_step ((go_at_call 39; exact cV _ _)))
        refine wpQuiet_nil ?_
        intro _ hw'
        obtain ⟨⟨dq, osq⟩, hw''⟩ := hw'
        subst hw''
        have HB2 := hidk (below_chain HB1.out (below_regrown wr dq osq))
        clear cV gx0 gx1 gx2 gy0 gy1 gy2
        by_cases hv : v = 0
        · subst hv
          go_wp2
          go_roundw
          case rel => exact ⟨k + 1, by omega, by omega, by go_num, HB2, by show _ = _; rw [HR.out]; exact HS.out.1 (by trivial)⟩
          case measure => simp [intOf]; omega
        · have hv' : (v != 0) = true := by rw [bne_iff_ne]; exact hv
          obtain rfl := HS.out.2 hv
          go_wp2
          go_ret
          exact ⟨rfl, HB2.out⟩
      · have hi2 : ¬ (k : Int) < (B.length : Int) := by omega
        have hi3 : ¬ (A.length : Int) < (B.length : Int) := by omega
        have hi4 : (B.length : Int) < (A.length : Int) := by omega
        have hR : R = 1 := by
          rw [← HR.out, HK.out, List.drop_eq_getElem_cons hltA, List.drop_eq_nil_of_le (show B.length ≤ k by omega)]; rfl
        subst hR
        go_wp2
        go_ret
        exact ⟨rfl, HB1.out⟩
    · have hi1 : ¬ (k : Int) < (A.length : Int) := by omega
      by_cases hltB : A.length < B.length
      · have hi2 : (A.length : Int) < (B.length : Int) := by omega
        have hR : R = -1 := by
          rw [← HR.out, HK.out, List.drop_eq_nil_of_le (show A.length ≤ k by omega), List.drop_eq_getElem_cons (show k < B.length by omega)]; rfl
        subst hR
        go_wp2
        go_ret
        exact ⟨rfl, HB1.out⟩
      · have hi2 : ¬ (A.length : Int) < (B.length : Int) := by omega
        have hi3 : ¬ (B.length : Int) < (A.length : Int) := by omega
        have hR : R = 0 := by
          rw [← HR.out, HK.out, List.drop_eq_nil_of_le (show A.length ≤ k by omega), List.drop_eq_nil_of_le (show B.length ≤ k by omega)]; rfl
        subst hR
        go_wp2
        go_ret
        exact ⟨rfl, HB1.out⟩

end Go.Proofs.YtgammhmgdafpkaaDoor
