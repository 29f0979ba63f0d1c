/-
  girderlaw13.laid: a tree of two levels, laid by hand.
-/
import Derived.Test.YtpllidadpcahbaaGreatBase13C
namespace Go.Proofs.YtpllidadpcahbaaGreat
open Go.RowKit Go.Sort
set_option linter.unusedVariables false
set_option linter.unusedSimpArgs false

theorem own_loc {v : Value} {g n cap H : Nat} (h : v.ownBlock = some g ∨ g = H) : v.ownBlock = (Value.slice (some ⟨g, 0, none⟩) n cap).ownBlock ∨ ∀ b, (Value.slice (some ⟨g, 0, none⟩) n cap).ownBlock = some b → H ≤ b := by
  rcases h with q | q
  · exact .inl q
  · exact .inr fun b hb => by
      have : g = b := by simpa [Value.ownBlock] using hb
      omega

theorem bool_of (p : Prop) : ∃ b : Bool, Hid (b = true ↔ p) := by
  by_cases h : p
  · exact ⟨true, (⟨fun _ => h, fun _ => rfl⟩ : true = true ↔ p)⟩
  · exact ⟨false, (⟨fun r => (by cases r), fun r => absurd r h⟩ : false = true ↔ p)⟩

theorem hA0' {w W W6 : World} {gb go : Nat} {L : List EntV} (h : EntsAt w (some ⟨gb, go, none⟩) L) (b : Below w.heap.size w W) (b' : Below W.heap.size W W6) : EntsAt W6 (some ⟨gb, go, none⟩) L := (h.below b).below b'

set_option maxHeartbeats 25600000 in
set_option maxRecDepth 20000 in
theorem laid_any (L : List EntV) (hL : SortedE L) (k odd : Nat) (hk1 : 1 ≤ k) (hk8 : k ≤ 8) (ho : odd ≤ 7) (gb go c : Nat) (w : World) (hA : EntsAt w (some ⟨gb, go, none⟩) L) (hgb : gb < w.heap.size) (hc : L.length ≤ c) :
    Calls Tryz.prog 6 #[.slice (some ⟨gb, go, none⟩) L.length c, .int .i64 k, .int .i64 odd] w (LaidOut w L k odd) := by
  have hlen := hL.len
  go_enter Tryz.func6, Tryz.ntmps6
  go_wp2_with fail
  refine (wnew_out w 200 (by omega) (by omega)).mono ?_
  rintro e w1 ⟨dp, rfl, ⟨D, hD, hDn⟩, b1⟩
  go_wp2_with fail
  refine (open_out hD rfl (by show 0 ≤ _; omega) (by show (scan ⟨#[]⟩ (0 + 1) 0).2 = 0; rw [scan_none])).mono ?_
  rintro e w2 ⟨lp, rfl, ⟨Lg, hLg, hLn⟩, b2⟩
  rw [openL_new] at hLg
  go_wp2_with fail
  refine (pnew_ok w2 dp lp 100 (by omega) (by omega)).mono ?_
  rintro e W ⟨p, S, rfl, hP, hSn, b3⟩
  obtain ⟨A, P, l, d, HL0⟩ : ∃ A P l d, Hid (LdP w W p A P l d) := by
    have z1 := b1.size
    have z2 := b2.size
    have hD3 := (hD.below b2).below b3
    have hL3 := hLg.below b3
    refine ⟨fun k => S k ∨ Lg k ∨ D k, pool0 dp lp 100, log0 dp, newD 200, hidn ⟨⟨⟨S, Lg, D, hP, hL3, hD3, ?_, ?_, ?_, fun _ x => x⟩, rfl, ?_⟩, ?_, rfl, rfl, rfl, below_chain (below_chain b1 b2) b3⟩⟩
    · intro k x y
      have := hSn k x
      have := hLg.lt y
      omega
    · intro k x y
      have := hSn k x
      have := (hD.below b2).lt y
      omega
    · intro k x y
      have := hLn k x
      have := hD.lt y
      omega
    · rintro k (x | x | x)
      · exact hP.lt x
      · exact hL3.lt x
      · exact hD3.lt x
    · rintro k (x | x | x)
      · have := hSn k x; omega
      · have := hLn k x; omega
      · exact hDn k x
  clear hD hDn hLg hLn hP hSn b1 b2 b3
  have hA0 := hA.below HL0.out.bel
  have hgW : gb < W.heap.size := Nat.lt_of_lt_of_le hgb HL0.out.bel.size
  obtain ⟨W0, HW0⟩ : ∃ W0, Hid (W0 = W.alloc (.cells #[] 22)) := ⟨_, rfl⟩
  have D0 : LdL W W0 L k 0 W.heap.size 0 [] := by
    rw [HW0.out]
    exact ⟨⟨OwnR.new W (Nat.le_refl _), by simp⟩, rfl, (Below.refl _ _).alloc (Nat.le_refl _) _⟩
  go_upto_block 0 with fail
  rw [← HW0.out]
  clear HW0
  go_cut [16] from 56 to 80 (fun v16 wx => ∃ (j lg lcap : Nat) (S : List SlV), v16 = .slice (some ⟨lg, 0, none⟩) j lcap ∧ Hid (L.length ≤ j * k ∧ (j = 0 ∨ (j - 1) * k < L.length)) ∧ Hid (LdL W wx L k j lg lcap S))
  case first =>
    as_aux_lemma =>
    go_wp2_with fail
    go_loopw [16, 17] (fun v16 v17 wr => ∃ (j i lg lcap : Nat) (S : List SlV), v17 = .int .i64 i ∧ Hid (i = j * k ∧ (j = 0 ∨ (j - 1) * k < L.length)) ∧ v16 = .slice (some ⟨lg, 0, none⟩) j lcap ∧ Hid (LdL W wr L k j lg lcap S)) (fun _ v17 _ => L.length - (intOf v17).toNat)
    case atStart => exact ⟨0, 0, W.heap.size, 0, [], rfl, ⟨by simp, .inl rfl⟩, rfl, D0⟩
    case round =>
      obtain ⟨j, i, lg, lcap, S, rfl, Hij, rfl, HD⟩ := hrel
      by_cases hil : i < L.length
      · have q0 : (i : Int) < (L.length : Int) := by omega
        obtain ⟨t, Ht⟩ : ∃ t : Nat, Hid (t = min (i + k) L.length) := ⟨_, rfl⟩
        have hw1 : IntKind.i64.wrap ((i : Int) + (k : Int)) = ((i + k : Nat) : Int) := by rw [IntKind.wrap_i64]; omega
        go_upto_if 69 with fail
        go_cut [18] from 66 to 71 (fun v18 wx => v18 = .int .i64 t ∧ wx = wr)
        case first =>
          by_cases hto : L.length < i + k
          · have q1 : (L.length : Int) < (i : Int) + (k : Int) := by omega
            have q1' : (L.length : Int) < ((i + k : Nat) : Int) := by omega
            go_wp2
            go_meet
            case rel => exact ⟨by rw [show (t : Int) = (L.length : Int) by have := Ht.out; omega], rfl⟩
          · have q1 : ¬ (L.length : Int) < (i : Int) + (k : Int) := by omega
            have q1' : ¬ (L.length : Int) < ((i + k : Nat) : Int) := by omega
            go_wp2
            go_meet
            case rel => exact ⟨by first | rw [show (t : Int) = (i : Int) + (k : Int) by have := Ht.out; omega] | rw [show (t : Int) = ((i + k : Nat) : Int) by have := Ht.out; omega], rfl⟩
        obtain ⟨rfl, hwc⟩ := hcut
        rw [hwc]
        clear hwc
        have hti : i ≤ t := by have := Ht.out; omega
        have htl : t ≤ L.length := by have := Ht.out; omega
        have Hch := hidn (show (L.drop i).take (t - i) = chunk L k j by
          unfold chunk
          rw [← Hij.out.1]
          apply List.ext_getElem?
          intro m
          rw [List.getElem?_take, List.getElem?_take, List.getElem?_drop]
          have := Ht.out
          by_cases h1 : m < t - i
          · rw [if_pos h1, if_pos (by omega)]
          · rw [if_neg h1]
            by_cases h2 : m < k
            · rw [if_pos h2, List.getElem?_eq_none (by omega)]
            · rw [if_neg h2])
        obtain ⟨X, HX⟩ : ∃ X, Hid ((L.drop i).take (t - i) = X) := ⟨_, rfl⟩
        rw [HX.out] at Hch
        have hXl : X.length = t - i := by rw [← HX.out]; simp; omega
        have HXl := hidn hXl.symm
        have hX24 : X.length ≤ 24 := by omega
        have hSl := HD.out.len
        have hj24 : j ≤ 24 := by
          have h1 := Hij.out.1
          have : j * 1 ≤ j * k := Nat.mul_le_mul_left j hk1
          omega
        have e1 : (0 : Int) ≤ (i : Int) := by omega
        have e2 : (i : Int) ≤ (t : Int) := by omega
        have e3 : (t : Int) ≤ (c : Int) := by omega
        have e4 : ¬ (c = i) := by omega
        have e5 : t - i ≤ c - i := by omega
        have bE : RowKit.Below wr.heap.size wr (wr.alloc (.cells #[] 28)) := (Below.refl _ _).alloc (Nat.le_refl _) _
        have DE := HD.out.below bE
        have hzW := HD.out.bel.size
        have hrowX : EntsAt (wr.alloc (.cells #[] 28)) (some ⟨gb, go + i * 3, none⟩) X := by
          rw [← HX.out]
          exact ents_take (ents_drop (hA0.below DE.bel) i) (t - i)
        have HRX := hidn hrowX
        have nE : OwnR 3 EntV.enc 28 (wr.alloc (.cells #[] 28)) wr.heap.size wr.heap.size 0 ([] : List EntV) := OwnR.new wr (Nat.le_refl _)
        clear hrowX hXl HX
        go_wp2_with (first
          | (at_builtin; refine wpList_appR rowEnt (by rfl) _ _ (by rfl) wr.heap.size wr.heap.size 0 [] 0 (by rfl) (by rfl) nE gb (go + i * 3) (t - i) (c - i) X HXl.out (by first | rfl | (simp; done)) HRX.out (by simp; omega) (by simp; omega) (by simp) ?_
             intro g1 cap1 w1 own1 grow1 loc1
             have B1 : RowKit.Below wr.heap.size wr w1 := tgrown bE grow1 (Nat.le_refl _)
             have D1 := HD.out.below B1
             have bV : RowKit.Below w1.heap.size w1 (w1.alloc (.cells #[.slice (some ⟨g1, 0, none⟩) (t - i) cap1] 22)) := (Below.refl _ _).alloc (Nat.le_refl _) _
             have DV := D1.below bV
             have oV := own1.below bV
             have rV := row_sl (w := w1.alloc (.cells #[.slice (some ⟨g1, 0, none⟩) (t - i) cap1] 22)) (B := w1.heap.size) ⟨g1, cap1, [] ++ X⟩ HXl.out (heap_alloc_new _ _))
          | (at_builtin; refine wpList_appR rowSl (by rfl) _ _ (by rfl) W.heap.size lg lcap S j hSl.symm (by rfl) DV.lv.row w1.heap.size 0 1 1 [⟨g1, cap1, [] ++ X⟩] (by rfl) (by rfl) rV (by simp; omega) (by simp; omega) (by have := DV.bel.size; omega) ?_
             intro g2 cap2 w2 own2 grow2 loc2
             have LV2 := DV.lv.pushed (s := ⟨g1, cap1, [] ++ X⟩) (oV.rebase hzW) own2 grow2
             have B2 : RowKit.Below W.heap.size W w2 := grown_from DV.bel grow2 DV.lv.row.from))
        have HN : Hid (LdL W w2 L k (j + 1) g2 cap2 (S ++ [⟨g1, cap1, [] ++ X⟩])) := by
          refine hidn ⟨LV2, ?_, B2⟩
          rw [List.map_append, HD.out.eq, List.range_succ, List.map_append]
          simp only [List.map_cons, List.map_nil, List.nil_append]
          rw [Hch.out]
        have HI2 : Hid (i + k = (j + 1) * k ∧ (j + 1 = 0 ∨ (j + 1 - 1) * k < L.length)) := by
          refine hidn ⟨by rw [Nat.add_mul, Nat.one_mul]; have := Hij.out.1; omega, .inr ?_⟩
          rw [Nat.add_sub_cancel, ← Hij.out.1]; exact hil
        clear own1 grow1 loc1 B1 D1 bV DV oV rV own2 grow2 loc2 LV2 B2
        go_wp2
        go_roundw
        case rel => exact ⟨j + 1, i + k, g2, cap2, _, by first | rw [hw1] | (simp; done), HI2, rfl, HN⟩
        case measure =>
          first
            | (rw [hw1]; simp [intOf]; omega)
            | (have : (intOf (.int .i64 ((i : Int) + (k : Int)))).toNat = i + k := by simp [intOf]; omega
               rw [this]; simp [intOf]; omega)
      · have q0 : ¬ (i : Int) < (L.length : Int) := by omega
        have HIJ := hidn (show L.length ≤ j * k ∧ (j = 0 ∨ (j - 1) * k < L.length) from ⟨by have := Hij.out.1; omega, Hij.out.2⟩)
        go_wp2
        go_meet
        case rel => exact ⟨j, lg, lcap, S, rfl, HIJ, HD⟩
  obtain ⟨j, lg, lcap, S, rfl, HIJ, HD⟩ := hcut
  obtain ⟨W1, HW1⟩ : ∃ W, W = wc := ⟨_, rfl⟩
  rw [← HW1] at HD ⊢
  clear HW1 D0 W0
  go_upto_if 83 with fail
  go_cut [16] from 84 to 87 (fun v16 wx => ∃ (N lg lcap : Nat) (S : List SlV), v16 = .slice (some ⟨lg, 0, none⟩) N lcap ∧ Hid (IsCnt L.length k N) ∧ Hid (LdL W wx L k N lg lcap S))
  case first =>
    as_aux_lemma =>
    have hSl := HD.out.len
    by_cases hj : j = 0
    · subst hj
      have HLz := hidn (show L.length = 0 by have := HIJ.out.1; omega)
      obtain ⟨V1, HV1⟩ : ∃ V1, Hid (V1 = W1.alloc (.cells #[] 28)) := ⟨_, rfl⟩
      have bV1 : RowKit.Below W1.heap.size W1 V1 := by rw [HV1.out]; exact (Below.refl _ _).alloc (Nat.le_refl _) _
      have oV1 : OwnR 3 EntV.enc 28 V1 W1.heap.size W1.heap.size 0 ([] : List EntV) := by rw [HV1.out]; exact OwnR.new W1 (Nat.le_refl _)
      have DV1 := HD.out.below bV1
      have bV2 : RowKit.Below V1.heap.size V1 (V1.alloc (.cells #[.slice (some ⟨W1.heap.size, 0, none⟩) 0 0] 22)) := (Below.refl _ _).alloc (Nat.le_refl _) _
      have DV := DV1.below bV2
      have oV := oV1.below bV2
      have hzW := HD.out.bel.size
      have rV := row_sl (w := V1.alloc (.cells #[.slice (some ⟨W1.heap.size, 0, none⟩) 0 0] 22)) (B := V1.heap.size) ⟨W1.heap.size, 0, []⟩ rfl (heap_alloc_new _ _)
      have HVz : Hid (V1.heap.size = W1.heap.size + 1) := by rw [HV1.out]; exact hidn (by simp)
      rw [HV1.out] at DV oV rV
      go_wp2_with (at_builtin; refine wpList_appR rowSl (by rfl) _ _ (by rfl) W.heap.size lg lcap S 0 hSl.symm (by rfl) DV.lv.row _ 0 1 1 [⟨W1.heap.size, 0, []⟩] (by rfl) (by rfl) (by first | exact rV | (simpa using rV)) (by simp; omega) (by simp; omega) (by have := DV.bel.size; simp at this ⊢; omega) ?_
                   intro g2 cap2 w2 own2 grow2 loc2
                   have LV2 := DV.lv.pushed (s := ⟨W1.heap.size, 0, []⟩) (oV.rebase hzW) own2 grow2
                   have B2 : RowKit.Below W.heap.size W w2 := grown_from DV.bel grow2 DV.lv.row.from)
      have HN : Hid (LdL W w2 L k 1 g2 cap2 (S ++ [⟨W1.heap.size, 0, []⟩])) := by
        refine hidn ⟨LV2, ?_, B2⟩
        rw [List.map_append, HD.out.eq]
        have : chunk L k 0 = [] := List.eq_nil_of_length_eq_zero (by rw [chunk_length]; have := HLz.out; omega)
        simp [List.range_succ, this]
      clear own2 grow2 loc2 LV2 B2 DV oV rV DV1 bV1 bV2 oV1
      go_wp2
      go_meet
      case rel => exact ⟨1, g2, cap2, _, rfl, hidn (.inl ⟨HLz.out, rfl⟩), HN⟩
    · have q0 : ¬ ((j : Int) = 0) := by omega
      have HC := hidn (show IsCnt L.length k j from .inr ⟨by rcases HIJ.out.2 with q | q <;> omega, by omega, by rcases HIJ.out.2 with q | q <;> omega, HIJ.out.1⟩)
      go_wp2
      go_meet
      case rel => exact ⟨j, lg, lcap, S, rfl, HC, HD⟩
  clear HD HIJ
  obtain ⟨N, lg, lcap, S, rfl, HC, HD⟩ := hcut
  obtain ⟨W2, HW2⟩ : ∃ W, W = wc := ⟨_, rfl⟩
  rw [← HW2] at HD ⊢
  clear HW2
  have hN24 := HC.out.le hk1 hlen
  have hN0 := HC.out.pos
  obtain ⟨s1, Hs1⟩ : ∃ s1, Hid (s1 = decide (1 < N ∧ odd ≠ 0)) := ⟨_, rfl⟩
  go_upto_region 16 with fail
  go_cut [19] from 88 to 94 (fun v19 wx => v19 = .bool s1 ∧ wx = W2)
  case first =>
    by_cases h1 : 1 < N
    · have q1 : (1 : Int) < (N : Int) := by omega
      by_cases h2 : odd = 0
      · have q2 : (odd : Int) = 0 := by omega
        go_wp2
        go_meet
        case rel => exact ⟨by rw [Hs1.out]; simp [h1, h2], rfl⟩
      · have q2 : ¬ (odd : Int) = 0 := by omega
        go_wp2
        go_meet
        case rel => exact ⟨by rw [Hs1.out]; simp [h1, h2], rfl⟩
    · have q1 : ¬ (1 : Int) < (N : Int) := by omega
      go_wp2
      go_meet
      case rel => exact ⟨by rw [Hs1.out]; simp [h1], rfl⟩
  obtain ⟨rfl, hwc⟩ := hcut
  rw [hwc]
  clear hwc
  have hSl := HD.out.len
  obtain ⟨s2, Hs2⟩ : ∃ s2, Hid (s2 = decide (1 < N ∧ odd = 2)) := ⟨_, rfl⟩
  go_upto_region 17 with fail
  go_cut [99] from 95 to 98 (fun v99 wx => v99 = .bool s2 ∧ wx = W2)
  case first =>
    by_cases h1 : 1 < N ∧ odd = 2
    · have hs1 : (s1 = true) ↔ True := ⟨fun _ => trivial, fun _ => by rw [Hs1.out]; simp [h1]⟩
      have q2 : ((odd : Int) = 2) ↔ True := ⟨fun _ => trivial, fun _ => by omega⟩
      have H2 := hidn (show s2 = true by rw [Hs2.out]; simp [h1])
      clear Hs1 Hs2 h1
      go_wp2
      go_meet
      case rel => exact ⟨by rw [H2.out]; first | rfl | simp [hs1.2 trivial, q2], rfl⟩
    · have H2 := hidn (show s2 = false by rw [Hs2.out]; simpa using h1)
      by_cases hs : s1 = true
      · have q2 : ¬ ((odd : Int) = 2) := fun q => h1 ⟨by have := Hs1.out; rw [hs] at this; exact (of_decide_eq_true this.symm).1, by omega⟩
        have hs1 : (s1 = true) ↔ True := ⟨fun _ => trivial, fun _ => hs⟩
        clear Hs1 Hs2 h1 hs
        go_wp2
        go_meet
        case rel => exact ⟨by rw [H2.out]; first | rfl | simp [q2], rfl⟩
      · have hs1 : (s1 = true) ↔ False := ⟨fun q => hs q, fun q => q.elim⟩
        clear Hs1 Hs2 h1 hs
        go_wp2
        go_meet
        case rel => exact ⟨by rw [H2.out], rfl⟩
  obtain ⟨rfl, hwc⟩ := hcut
  rw [hwc]
  clear hwc
  go_upto_if 99 with fail
  go_cut [] from 99 to 109 (fun wx => ∃ S : List SlV, Hid (LvAt wx W.heap.size lg lcap S) ∧ Hid (Below W.heap.size W wx) ∧ Hid (if 1 < N ∧ odd = 2 then S.map SlV.M = (List.range N).map (lvs L k N 2) else S.map SlV.M = (List.range N).map (chunk L k)))
  case first =>
    as_aux_lemma =>
    cases hs2 : s2 with
    | true =>
      obtain ⟨hN1, ho2⟩ : 1 < N ∧ odd = 2 := by have := Hs2.out; rw [hs2] at this; exact of_decide_eq_true this.symm
      obtain ⟨a0, e0⟩ : ∃ x, S[0]? = some x := ⟨_, List.getElem?_eq_getElem (by omega)⟩
      obtain ⟨a1, e1⟩ : ∃ x, S[1]? = some x := ⟨_, List.getElem?_eq_getElem (by omega)⟩
      obtain ⟨g0, e0'⟩ := List.getElem?_eq_some_iff.1 e0
      obtain ⟨g1, e1'⟩ := List.getElem?_eq_some_iff.1 e1
      have HSW := hidn (HD.out.lv.swap (by omega) e0 e1)
      have HEQ := hidn (show if 1 < N ∧ odd = 2 then ((S.set 0 a1).set 1 a0).map SlV.M = (List.range N).map (lvs L k N 2) else ((S.set 0 a1).set 1 a0).map SlV.M = (List.range N).map (chunk L k) by rw [if_pos ⟨hN1, ho2⟩]; exact lvs_swap HD.out.eq hN1 e0 e1)
      obtain ⟨c0, f0⟩ := HD.out.lv.cell g0
      obtain ⟨c1, f1⟩ := HD.out.lv.cell g1
      rw [e0'] at c0
      rw [e1'] at c1
      have HBL := hidn HD.out.bel
      have hlgW := HD.out.lv.row.from
      have q0 : (0 : Int) < (N : Int) := by omega
      have q1 : (1 : Int) < (N : Int) := by omega
      clear e0 e1 e0' e1' HD ho2 Hs1 Hs2 hs2
      go_upto_region 18 with fail
      go_region
      all_goals
        go_wp2
        go_meet
        case rel => exact ⟨_, lv_drew HSW.out, (below_two HBL.out hlgW _ _).drew, HEQ⟩
    | false =>
      have HEQ := hidn (show if 1 < N ∧ odd = 2 then S.map SlV.M = (List.range N).map (lvs L k N 2) else S.map SlV.M = (List.range N).map (chunk L k) by rw [if_neg (fun q => by have := Hs2.out; rw [hs2, decide_eq_true q] at this; cases this)]; exact HD.out.eq)
      clear Hs1 Hs2 hs2
      go_wp2
      go_meet
      case rel => exact ⟨S, HD.out.lv, HD.out.bel, HEQ⟩
  clear HD
  obtain ⟨S1, HLV, HBW, HEQ⟩ := hcut
  obtain ⟨W3, HW3⟩ : ∃ W, W = wc := ⟨_, rfl⟩
  rw [← HW3] at HLV HBW ⊢
  clear HW3
  have hS1 : S1.length = N := by
    have := HEQ.out
    split at this
    · have := congrArg List.length this; simpa using this
    · have := congrArg List.length this; simpa using this
  obtain ⟨s7, Hs7⟩ : ∃ s7, Hid (s7 = decide (1 < N ∧ odd = 7)) := ⟨_, rfl⟩
  go_upto_region 19 with fail
  go_cut [114] from 110 to 113 (fun v99 wx => v99 = .bool s7 ∧ wx = W3)
  case first =>
    by_cases h1 : 1 < N ∧ odd = 7
    · have hs1 : (s1 = true) ↔ True := ⟨fun _ => trivial, fun _ => by rw [Hs1.out]; simp [h1]⟩
      have q2 : ((odd : Int) = 7) ↔ True := ⟨fun _ => trivial, fun _ => by omega⟩
      have H2 := hidn (show s7 = true by rw [Hs7.out]; simp [h1])
      clear Hs1 Hs7 h1
      go_wp2
      go_meet
      case rel => exact ⟨by rw [H2.out]; first | rfl | simp [hs1.2 trivial, q2], rfl⟩
    · have H2 := hidn (show s7 = false by rw [Hs7.out]; simpa using h1)
      by_cases hs : s1 = true
      · have q2 : ¬ ((odd : Int) = 7) := fun q => h1 ⟨by have := Hs1.out; rw [hs] at this; exact (of_decide_eq_true this.symm).1, by omega⟩
        have hs1 : (s1 = true) ↔ True := ⟨fun _ => trivial, fun _ => hs⟩
        clear Hs1 Hs7 h1 hs
        go_wp2
        go_meet
        case rel => exact ⟨by rw [H2.out]; first | rfl | simp [q2], rfl⟩
      · have hs1 : (s1 = true) ↔ False := ⟨fun q => hs q, fun q => q.elim⟩
        clear Hs1 Hs7 h1 hs
        go_wp2
        go_meet
        case rel => exact ⟨by rw [H2.out], rfl⟩
  obtain ⟨rfl, hwc⟩ := hcut
  rw [hwc]
  clear hwc
  go_upto_if 114 with fail
  go_cut [19] from 114 to 144 (fun v19 wx => ∃ (S : List SlV) (sp : Bool), v19 = .bool sp ∧ Hid (sp = spB L k N odd) ∧ Hid (LvAt wx W.heap.size lg lcap S) ∧ Hid (Below W.heap.size W wx) ∧ Hid (S.map SlV.M = (List.range N).map (lvs L k N odd)))
  case first =>
    as_aux_lemma =>
    cases hs7 : s7 with
    | false =>
      have h7 : ¬ (1 < N ∧ odd = 7) := fun q => by have := Hs7.out; rw [hs7, decide_eq_true q] at this; cases this
      have HSP := hidn (show s1 = spB L k N odd by
        rw [Hs1.out]
        unfold spB
        by_cases q : 1 < N ∧ odd ≠ 0
        · rw [decide_eq_true q, decide_eq_true ⟨q.1, q.2, fun r => absurd ⟨q.1, r⟩ h7⟩]
        · rw [decide_eq_false q, decide_eq_false fun r => q ⟨r.1, r.2.1⟩])
      have HE2 := hidn (show S1.map SlV.M = (List.range N).map (lvs L k N odd) by
        have := HEQ.out
        by_cases q : 1 < N ∧ odd = 2
        · rw [if_pos q] at this; rw [this, q.2]
        · rw [if_neg q] at this; exact lvs_plain this (by omega))
      clear Hs1 Hs7 hs7 h7 HEQ
      go_wp2
      go_meet
      case rel => exact ⟨S1, s1, rfl, HSP, HLV, HBW, HE2⟩
    | true =>
      obtain ⟨hN1, ho7⟩ : 1 < N ∧ odd = 7 := by have := Hs7.out; rw [hs7] at this; exact of_decide_eq_true this.symm
      have HE1 := hidn (show S1.map SlV.M = (List.range N).map (chunk L k) by have := HEQ.out; rw [if_neg (by omega)] at this; exact this)
      obtain ⟨N', rfl⟩ : ∃ N', N = N' + 1 := ⟨N - 1, by omega⟩
      obtain ⟨x, ex⟩ : ∃ x, S1[N']? = some x := ⟨_, List.getElem?_eq_getElem (by omega)⟩
      obtain ⟨gx, ex'⟩ := List.getElem?_eq_some_iff.1 ex
      obtain ⟨cx, fx⟩ := HLV.out.cell gx
      rw [ex'] at cx
      have ox := HLV.out.each x (List.mem_of_getElem? ex)
      have hxM : x.M = chunk L k N' := by
        have := congrArg (fun l : List (List EntV) => l[N']?) HE1.out
        simp only [List.getElem?_map, List.getElem?_range (Nat.lt_succ_self N'), ex] at this
        simpa using this
      have HxM := hidn hxM
      have hx24 : x.M.length ≤ 8 := by rw [hxM, chunk_length]; omega
      have Ho7 := hidn ho7
      clear hxM Hs1 Hs7 hs7 HEQ ex ex' ho7
      obtain ⟨xg, xcap, X⟩ := x
      simp only at cx ox HxM hx24
      obtain ⟨W4, HW4⟩ : ∃ W, Hid (W = W3.alloc (.cells #[] 28)) := ⟨_, rfl⟩
      have b4 : RowKit.Below W3.heap.size W3 W4 := by rw [HW4.out]; exact (Below.refl _ _).alloc (Nat.le_refl _) _
      have o4 : OwnR 3 EntV.enc 28 W4 W3.heap.size W3.heap.size 0 ([] : List EntV) := by rw [HW4.out]; exact OwnR.new W3 (Nat.le_refl _)
      have i0 : (0 : Int) ≤ (N' : Int) := by omega
      have i1 : (N' : Int) < (N' : Int) + 1 := by omega
      go_upto_block 2 with fail
      rw [← HW4.out]
      clear HW4
      go_cut [21] from 125 to 135 (fun v21 wx => ∃ g cap : Nat, v21 = .slice (some ⟨g, 0, none⟩) X.length cap ∧ Hid (OwnR 3 EntV.enc 28 wx W3.heap.size g cap X.reverse) ∧ Hid (RowKit.Below W3.heap.size W3 wx))
      case first =>
        as_aux_lemma =>
        go_wp2_with fail
        go_loopw [21, 22] (fun v21 v22 wr => ∃ m g cap : Nat, m ≤ X.length ∧ v22 = .int .i64 ((m : Int) - 1) ∧ v21 = .slice (some ⟨g, 0, none⟩) (X.length - m) cap ∧ Hid (OwnR 3 EntV.enc 28 wr W3.heap.size g cap (X.drop m).reverse) ∧ Hid (RowKit.Below W3.heap.size W3 wr)) (fun _ v22 _ => (intOf v22 + 1).toNat)
        case atStart => exact ⟨X.length, W3.heap.size, 0, Nat.le_refl _, by go_num, by simp, by rw [List.drop_length]; exact o4, b4⟩
        case round =>
          obtain ⟨m, g, cap, hm, rfl, rfl, HO, HB⟩ := hrel
          cases m with
          | zero =>
            rw [List.drop_zero] at HO
            go_wp2
            go_meet
            case rel => exact ⟨g, cap, rfl, HO, HB⟩
          | succ m =>
            have hml : m < X.length := by omega
            have he : (((m + 1 : Nat) : Int) - 1) = (m : Int) := by omega
            rw [he]
            have hox := ox.below HB.out
            obtain ⟨bm, om, e1, hbm, d0, d1, d2⟩ := (OwnR.rows (k := 3) (enc := EntV.enc) (fun x => rfl) (by omega) hox).ent hml
            simp only [Option.some.injEq, Addr.mk.injEq, and_true] at e1
            obtain ⟨rfl, rfl⟩ := e1
            rw [Nat.zero_add] at d0 d1 d2
            have HDR := hidn (show (X.drop (m + 1)).reverse ++ [X[m]] = (X.drop m).reverse by rw [← List.reverse_cons, ← List.drop_eq_getElem_cons])
            generalize X[m] = y at *
            have r0 : (0 : Int) ≤ (m : Int) := by omega
            have r1 : (m : Int) < (X.length : Int) := by omega
            have bV : RowKit.Below wr.heap.size wr (wr.alloc (.cells #[.string y.key, .int .u32 y.page, .int .i64 y.slot] 28)) := (Below.refl _ _).alloc (Nat.le_refl _) _
            have oV := HO.out.below bV
            have rV := row_ent (w := wr.alloc (.cells #[.string y.key, .int .u32 y.page, .int .i64 y.slot] 28)) (B := wr.heap.size) y (heap_alloc_new _ _)
            have BV := below_chain HB.out bV
            have hln : X.length - (m + 1) = (X.drop (m + 1)).reverse.length := by simp
            have Hln := hidn hln
            clear hln he
            go_wp2_with (at_builtin; refine wpList_appR rowEnt (by rfl) _ _ (by rfl) W3.heap.size g cap (X.drop (m + 1)).reverse (X.length - (m + 1)) Hln.out (by rfl) oV wr.heap.size 0 1 1 [y] (by rfl) (by rfl) rV (by simp; omega) (by simp; omega) BV.size ?_
                         intro g2 cap2 w2 own2 grow2 loc2
                         have B2 : RowKit.Below W3.heap.size W3 w2 := grown_from BV grow2 oV.from)
            rw [HDR.out] at own2
            have HO2 := hidn own2
            have HB2 := hidn B2
            clear own2 grow2 loc2 B2 oV rV BV bV hox d0 d1 d2
            go_wp2
            go_roundw
            case rel => exact ⟨m, g2, cap2, by omega, by go_num, by rw [show X.length - (m + 1) + 1 = X.length - m by omega], HO2, HB2⟩
            case measure => simp [intOf] <;> omega
      obtain ⟨g, cap, rfl, HO, HB⟩ := hcut
      obtain ⟨W5, HW5⟩ : ∃ W, W = wc := ⟨_, rfl⟩
      rw [← HW5] at HO HB ⊢
      clear HW5 o4 b4
      have hlg := HLV.out.row.lt
      have hlgW := HLV.out.row.from
      have c5 := (HB.out.cell (p := ⟨lg, N', none⟩) hlg).trans cx
      have f5 := (World.frozen?_of_block (w := W3) (a := ⟨lg, N', none⟩) (HB.out.block lg hlg)).trans fx
      have HLV5 := hidn ((HLV.out.below HB.out).set (i := N') gx (s := ⟨g, cap, X.reverse⟩) (HO.out.rebase HBW.out.size))
      have HB5 := hidn ((below_chain HBW.out HB.out).setCell (p := ⟨lg, N', none⟩) hlgW (.slice (some ⟨g, 0, none⟩) X.reverse.length cap))
      have HE5 := hidn (show (S1.set N' ⟨g, cap, X.reverse⟩).map SlV.M = (List.range (N' + 1)).map (lvs L k (N' + 1) odd) by
        rw [Ho7.out]
        have := lvs_rev (s := ⟨g, cap, X.reverse⟩) HE1.out hN1 (by show X.reverse = _; rw [HxM.out]; rfl)
        exact this)
      have HSP := hidn (show decide (1 < X.length) = spB L k (N' + 1) odd by
        unfold spB
        rw [Nat.add_sub_cancel, ← HxM.out]
        by_cases q : 1 < X.length
        · rw [decide_eq_true q, decide_eq_true ⟨hN1, by have := Ho7.out; omega, fun _ => q⟩]
        · rw [decide_eq_false q, decide_eq_false fun r => q (r.2.2 Ho7.out)])
      rw [show (Value.slice (some ⟨g, 0, none⟩) X.reverse.length cap) = .slice (some ⟨g, 0, none⟩) X.length cap by rw [List.length_reverse]] at HB5 HLV5
      clear HO HB cx fx ox
      go_wp2
      go_meet
      case rel => exact ⟨_, decide (1 < X.length), by first | rfl | (simp; done) | (simp; omega), HSP, HLV5, HB5, HE5⟩
  clear HLV HBW HEQ Hs1 Hs7 hS1
  obtain ⟨S, sp, rfl, HSP, HLV, HBW, HEQ⟩ := hcut
  obtain ⟨W6, HW6⟩ : ∃ W, W = wc := ⟨_, rfl⟩
  rw [← HW6] at HLV HBW ⊢
  clear HW6
  obtain ⟨lv, Hlv⟩ : ∃ lv : Nat, Hid (lv = if sp = true ∧ odd = 4 then 2 else 1) := ⟨_, rfl⟩
  have hlv2 : lv ≤ 2 := by rw [Hlv.out]; split <;> omega
  have HBL : Hid (∀ wx, Calls Tryz.prog 21 #[.int .u32 3] wx fun x w' => x = .returned (.agg #[.int .u32 3, .int .u64 0, .int .i64 0, .string ⟨#[]⟩, .slice none 0 0]) ∧ Below wx.heap.size wx w') := fun wx => blank_any 3 wx
  have HLE : Hid (∀ (wx : World) (b : Bool), (b = true ↔ sp = true ∧ odd = 4) → Calls Tryz.prog 23 #[.bool b] wx fun r w' => r = .returned (.int .i64 lv) ∧ w' = wx) := fun wx b hb => (level_law b wx).mono fun r w' h => by
    obtain ⟨rfl, rfl⟩ := h
    refine ⟨?_, rfl⟩
    rw [Hlv.out]
    by_cases q : b = true
    · rw [if_pos q, if_pos (hb.1 q)]; rfl
    · rw [if_neg q, if_neg (fun r => q (hb.2 r))]; rfl
  have HFM : Hid (∀ wx, Calls Tryz.prog 22 #[.int .i64 lv] wx fun e w' => e = .returned (opFmtN 4 (num1 lv)).val ∧ Below wx.heap.size wx w') := fun wx => formatInner_any lv wx (by omega)
  have HAP : Hid (∀ wx, Calls Tryz.prog 20 #[.agg #[.int .u32 3, .int .u64 0, .int .i64 0, .string ⟨#[]⟩, .slice none 0 0], (opFmtN 4 (num1 lv)).val, .int .u64 1] wx fun e w' => e = .returned (.tuple #[.agg #[.int .u32 3, .int .u64 1, .int .i64 4, .string (num1 lv), .slice none 0 0], .int .i64 0]) ∧ Below wx.heap.size wx w') := fun wx => applyZ_inner 3 lv (by omega)
  go_upto_region 28 with fail
  go_cut [23, 24] from 145 to 156 (fun v23 v24 wx => ∃ rb : Nat, v23 = .pointer (some ⟨rb, 0, none⟩) ∧ W6.heap.size ≤ rb ∧ rb < wx.heap.size ∧ Hid (RowV wx rb 5 (five (.int .u32 3) (.int .u64 1) (.int .i64 4) (.string (num1 lv)) (.slice none 0 0))) ∧ Hid (Below W6.heap.size W6 wx))
  case first =>
    as_aux_lemma =>
    simp only [opFmtN, OpV.val] at HFM HAP
    go_wp2_with fail
    refine (HBL.out _).mono ?_
    rintro r v1 ⟨rfl, b1⟩
    by_cases hsp : sp = true
    · have hs1 : (sp = true) ↔ True := ⟨fun _ => trivial, fun _ => hsp⟩
      have HL1 := hidn (fun wx => HLE.out wx (sp && ((odd : Int) == 4)) (by rw [hsp]; simp; omega))
      clear hsp
      go_wp2_with fail
      refine (HL1.out _).mono ?_
      rintro r v2 ⟨rfl, rfl⟩
      go_wp2_with fail
      refine (HFM.out _).mono ?_
      rintro r v3 ⟨rfl, b3⟩
      go_wp2_with fail
      refine (HAP.out _).mono ?_
      rintro r v4 ⟨rfl, b4⟩
      have B4 := below_chain (below_chain b1 b3) b4
      have HB5 := hidn (B4.alloc B4.size (.cells #[.int .u32 3, .int .u64 1, .int .i64 4, .string (num1 lv), .slice none 0 0] 63))
      have HR5 := hidn (RowV.five_new v4 (.int .u32 3) (.int .u64 1) (.int .i64 4) (.string (num1 lv)) (.slice none 0 0) 63)
      have z4 := B4.size
      clear b1 b3 b4
      go_wp2
      go_meet
      case rel => exact ⟨v4.heap.size, rfl, z4, by simp, HR5, HB5⟩
    · have hs1 : (sp = true) ↔ False := ⟨fun q => hsp q, fun q => q.elim⟩
      have HL1 := hidn (fun wx => HLE.out wx false ⟨fun q => (by cases q), fun q => absurd q.1 hsp⟩)
      clear hsp
      go_wp2_with fail
      refine (HL1.out _).mono ?_
      rintro r v2 ⟨rfl, rfl⟩
      go_wp2_with fail
      refine (HFM.out _).mono ?_
      rintro r v3 ⟨rfl, b3⟩
      go_wp2_with fail
      refine (HAP.out _).mono ?_
      rintro r v4 ⟨rfl, b4⟩
      have B4 := below_chain (below_chain b1 b3) b4
      have HB5 := hidn (B4.alloc B4.size (.cells #[.int .u32 3, .int .u64 1, .int .i64 4, .string (num1 lv), .slice none 0 0] 63))
      have HR5 := hidn (RowV.five_new v4 (.int .u32 3) (.int .u64 1) (.int .i64 4) (.string (num1 lv)) (.slice none 0 0) 63)
      have z4 := B4.size
      clear b1 b3 b4
      go_wp2
      go_meet
      case rel => exact ⟨v4.heap.size, rfl, z4, by simp, HR5, HB5⟩
  clear HBL HLE HFM HAP
  obtain ⟨rb, rfl, hrb1, hrb2, HRB, HB7⟩ := hcut
  obtain ⟨W7, HW7⟩ : ∃ W, W = wc := ⟨_, rfl⟩
  rw [← HW7] at hrb2 HRB HB7 ⊢
  clear HW7
  have hS6 := HL0.out.sys.below HBW.out
  have hA0 : ∀ b, A b → b < W.heap.size := fun b hb => HL0.out.sys.lt b hb
  have hgbA : ¬ A gb := fun q => by have := HL0.out.new gb q; omega
  have HLp0 := hidn (show LpAt W6 W7 p A A P l d L k N odd sp lv rb (.slice none 0 0) 0 0 from ⟨hS6.below HB7.out, Moves.of_kept (Kept.of_below HB7.out), HRB.out, hrb1, hrb2, fun q => by have := hS6.lt rb q; omega, World.ownsRow_nil _ _ _ _, fun b hb => (by cases hb), fun n => by rw [HL0.out.F, if_neg (by omega)], HL0.out.z, HL0.out.most⟩)
  have HEN := hidn (hA0' hA HL0.out.bel HBW.out)
  have hSl : S.length = N := by have := congrArg List.length HEQ.out; simpa using this
  go_wp2_with fail
  go_loopw [25, 26] (fun v25 v26 wr => ∃ (i : Nat) (A' : Nat → Prop) (P' : PG) (rv : Value), v25 = .int .i64 i ∧ v26 = .int .i64 i ∧ i ≤ N ∧ (∃ a c, rv = .slice a i c) ∧ Hid (LpAt W6 wr p A A' P' l d L k N odd sp lv rb rv i i)) (fun _ v26 _ => N - (intOf v26).toNat)
  case atStart => exact ⟨0, A, P, .slice none 0 0, rfl, rfl, by omega, ⟨none, 0, rfl⟩, HLp0⟩
  case round =>
   obtain ⟨i, A', P', rv, rfl, rfl, hiN, ⟨ra, rc, rfl⟩, HP⟩ := hrel
   by_cases hil : i < N
   · have q0 : (i : Int) < (N : Int) := by omega
     have hi24 : i < 24 := by omega
     obtain ⟨n1, Hn1⟩ : ∃ n1 : Nat, Hid (n1 = if i + 1 < N then 5 + i else 0) := ⟨_, rfl⟩
     go_upto_if 167 with fail
     go_cut [27] from 163 to 169 (fun v27 wx => v27 = .int .i64 n1 ∧ wx = wr)
     case first =>
      by_cases h1 : i + 1 < N
      · have q1 : (i : Int) + 1 < (N : Int) := by omega
        go_wp2
        go_meet
        case rel => exact ⟨by rw [show (n1 : Int) = 5 + (i : Int) by rw [Hn1.out, if_pos h1]; omega], rfl⟩
      · have q1 : ¬ ((i : Int) + 1 < (N : Int)) := by omega
        go_wp2
        go_meet
        case rel => exact ⟨by rw [Hn1.out, if_neg h1]; rfl, rfl⟩
     obtain ⟨rfl, hwc⟩ := hcut
     rw [hwc]
     clear hwc
     obtain ⟨b1, Hb1⟩ : ∃ b : Bool, Hid (b = true ↔ sp = true ∧ odd = 1) := bool_of _
     go_upto_region 36 with fail
     go_cut [174] from 170 to 173 (fun vv wx => vv = .bool b1 ∧ wx = wr)
     case first =>
       by_cases hsp : sp = true
       · have hs1 : (sp = true) ↔ True := ⟨fun _ => trivial, fun _ => hsp⟩
         clear hsp
         go_wp2
         go_meet
         case rel => exact ⟨congrArg Value.bool (Bool.eq_iff_iff.2 (by rw [Hb1.out, hs1]; simp [hs1.2 trivial] <;> omega)), rfl⟩
       · have hs1 : (sp = true) ↔ False := ⟨fun q => hsp q, fun q => q.elim⟩
         have HP := hidn hsp
         clear hsp
         go_wp2
         go_meet
         case rel => exact ⟨congrArg Value.bool (Bool.eq_iff_iff.2 (by rw [Hb1.out]; simp [HP.out])), rfl⟩
     obtain ⟨rfl, hwc⟩ := hcut
     rw [hwc]
     clear hwc
     obtain ⟨nx, Hnx⟩ : ∃ nx : Nat, Hid (nx = nextN N odd sp i) := ⟨_, rfl⟩
     go_upto_if 174 with fail
     go_cut [27] from 174 to 174 (fun v27 wx => v27 = .int .i64 nx ∧ wx = wr)
     case first =>
      cases hb1 : b1 with
      | true =>
        have H4 := hidn (show (nx : Int) = 4 by rw [Hnx.out]; unfold nextN; rw [if_pos (Hb1.out.1 hb1)]; rfl)
        clear hb1 Hb1
        go_wp2
        go_meet
        case rel => exact ⟨by rw [H4.out], rfl⟩
      | false =>
        have H4 := hidn (show nx = n1 by rw [Hnx.out, Hn1.out]; unfold nextN; rw [if_neg (fun q => by rw [Hb1.out.2 q] at hb1; cases hb1)])
        clear hb1 Hb1
        go_wp2
        go_meet
        case rel => exact ⟨by rw [H4.out], rfl⟩
     obtain ⟨rfl, hwc⟩ := hcut
     rw [hwc]
     clear hwc
     have hnx32 : nx ≤ 30 := by rw [Hnx.out]; unfold nextN; split <;> (try split) <;> omega
     have hcv : IntKind.u32.wrap (nx : Int) = (nx : Int) := by rw [IntKind.wrap_u32]; omega
     have hcv4 : IntKind.u32.wrap (4 + (i : Int)) = 4 + (i : Int) := by rw [IntKind.wrap_u32]; omega
     have HB4 : Hid (∀ wx, Calls Tryz.prog 21 #[.int .u32 (4 + (i : Int))] wx fun x w' => x = .returned (.agg #[.int .u32 (4 + (i : Int)), .int .u64 0, .int .i64 0, .string ⟨#[]⟩, .slice none 0 0]) ∧ Below wx.heap.size wx w') := fun wx => by
      have h : Calls Tryz.prog 21 #[.int .u32 ((4 + i : Nat) : Int)] wx fun x w' => x = .returned (.agg #[.int .u32 ((4 + i : Nat) : Int), .int .u64 0, .int .i64 0, .string ⟨#[]⟩, .slice none 0 0]) ∧ Below wx.heap.size wx w' := blank_any (4 + i) wx
      rw [show ((4 + i : Nat) : Int) = 4 + (i : Int) by omega] at h
      exact h
     have HF4 : Hid (∀ wx, Calls Tryz.prog 24 #[.int .u32 nx] wx fun e w' => e = .returned (opFmtN 3 (num4 nx)).val ∧ Below wx.heap.size wx w') := fun wx => formatLeaf_any nx wx (by omega)
     have HA4 : Hid (∀ wx, Calls Tryz.prog 20 #[.agg #[.int .u32 (4 + (i : Int)), .int .u64 0, .int .i64 0, .string ⟨#[]⟩, .slice none 0 0], (opFmtN 3 (num4 nx)).val, .int .u64 1] wx fun e w' => e = .returned (.tuple #[.agg #[.int .u32 (4 + (i : Int)), .int .u64 1, .int .i64 3, .string (num4 nx), .slice none 0 0], .int .i64 0]) ∧ Below wx.heap.size wx w') := fun wx => by
      have h : Calls Tryz.prog 20 #[.agg #[.int .u32 ((4 + i : Nat) : Int), .int .u64 0, .int .i64 0, .string ⟨#[]⟩, .slice none 0 0], (opFmtN 3 (num4 nx)).val, .int .u64 1] wx fun e w' => e = .returned (.tuple #[.agg #[.int .u32 ((4 + i : Nat) : Int), .int .u64 1, .int .i64 3, .string (num4 nx), .slice none 0 0], .int .i64 0]) ∧ Below wx.heap.size wx w' := applyZ_leaf (4 + i) nx (by omega)
      rw [show ((4 + i : Nat) : Int) = 4 + (i : Int) by omega] at h
      exact h
     obtain ⟨s, es⟩ : ∃ s, S[i]? = some s := ⟨_, List.getElem?_eq_getElem (by omega)⟩
     obtain ⟨gs, es'⟩ := List.getElem?_eq_some_iff.1 es
     have hsM : s.M = lvs L k N odd i := by
      have := congrArg (fun l : List (List EntV) => l[i]?) HEQ.out
      simp only [List.getElem?_map, List.getElem?_range hil, es] at this
      simpa using this
     have HsM := hidn hsM
     have hs8 : s.M.length ≤ 8 := by rw [hsM]; have := lvs_length (L := L) (k := k) (N := N) (odd := odd) i; omega
     have hsS : ∀ y ∈ s.M, y.Short := fun y hy => hL.short y (mem_lvs (by rw [← hsM]; exact hy))
     have HLVs := hidn (show ∀ V, LpAt W6 V p A A' P' l d L k N odd sp lv rb (.slice ra i rc) i i → (V.cell? ⟨lg, i, none⟩ = some (.slice (some ⟨s.g, 0, none⟩) s.M.length s.cap)) ∧ lg < V.heap.size ∧ s.g < V.heap.size ∧ EntsAt V (some ⟨s.g, 0, none⟩) s.M from fun V hV => by
      have h1 := hV.lvs hA0 HLV.out
      have h2 := (h1.cell gs).1
      rw [es'] at h2
      have h3 := h1.each s (List.mem_of_getElem? es)
      exact ⟨h2, h1.row.lt, h3.lt, OwnR.rows (k := 3) (enc := EntV.enc) (fun x => rfl) (by omega) h3⟩)
     clear hsM es es' gs
     go_upto_region 38 with fail
     go_cut [28, 29] from 175 to 185 (fun v28 v29 wx => v29 = .int .i64 0 ∧ ∃ (xb : Nat) (K1 : World), v28 = .pointer (some ⟨xb, 0, none⟩) ∧ Hid (xb = K1.heap.size) ∧ Hid (Below wr.heap.size wr K1) ∧ Hid (XbAt K1 wx xb i nx s.M 0 (.slice none 0 0)))
     case first =>
      as_aux_lemma =>
      simp only [opFmtN, OpV.val] at HF4 HA4
      go_wp2_with fail
      refine (HB4.out _).mono ?_
      rintro r v1 ⟨rfl, b1⟩
      go_wp2_with fail
      refine (HF4.out _).mono ?_
      rintro r v3 ⟨rfl, b3⟩
      go_wp2_with fail
      refine (HA4.out _).mono ?_
      rintro r v4 ⟨rfl, b4⟩
      have B4 := hidn (below_chain (below_chain b1 b3) b4)
      have HX := hidn (XbAt.new (i := i) (nx := nx) (Y := s.M) v4 rfl)
      rw [show ((4 + i : Nat) : Int) = 4 + (i : Int) by omega] at HX
      clear b1 b3 b4
      go_wp2
      go_meet
      case rel => exact ⟨rfl, v4.heap.size, v4, rfl, rfl, B4, HX⟩
     clear HB4 HF4 HA4
     obtain ⟨rfl, xb, K1, rfl, Hxb, HBK, HX⟩ := hcut
     obtain ⟨u0, Hu0⟩ : ∃ W, W = wc := ⟨_, rfl⟩
     rw [← Hu0] at HX ⊢
     clear Hu0
     have HLS : Hid (∀ y ∈ s.M, ∀ wx, Calls Tryz.prog 25 #[.agg #[.string y.key, .int .u32 y.page, .int .i64 y.slot]] wx fun r w' => r = .returned (.string (ItemV.mk y true).bs) ∧ Below wx.heap.size wx w') := fun y hy wx => leafSlot_any y wx (hsS y hy).may.page (by have := (hsS y hy).key; omega)
     obtain ⟨sg, scap, Y⟩ := s
     simp only at HsM hs8 HLVs HX HLS hsS
     obtain ⟨j0, hj, hjz0, hjz1, hjz2⟩ := info_parts infoStr
     have HLK := hidn (HLVs.out K1 (HP.out.below HBK.out))
     go_upto_block 6 with fail
     go_cut [30] from 188 to 209 (fun v30 wx => ∃ xa xc, Hid (XbAt K1 wx xb i nx Y Y.length (.slice xa Y.length xc)))
     case first =>
      as_aux_lemma =>
      go_wp2_with fail
      go_loopw [30] (fun v30 wr2 => ∃ (m : Nat) (xa : Option Addr) (xc : Nat), v30 = .int .i64 m ∧ m ≤ Y.length ∧ Hid (XbAt K1 wr2 xb i nx Y m (.slice xa m xc))) (fun v30 _ => Y.length - (intOf v30).toNat)
      case atStart => exact ⟨0, none, 0, rfl, by omega, HX⟩
      case round =>
       obtain ⟨m, xa, xc, rfl, hm, HM⟩ := hrel
       obtain ⟨cl0, hlg0, hsg0, rows0⟩ := HLK.out
       have kx : ∀ b, b < K1.heap.size → wr.heap[b]? = K1.heap[b]? := fun b hb => HM.out.bel.block b (by have := Hxb.out; omega)
       have hwz : K1.heap.size ≤ wr.heap.size := HM.out.bel.size
       have cl : wr.cell? ⟨lg, i, none⟩ = some (.slice (some ⟨sg, 0, none⟩) Y.length scap) := (World.cell?_of_block (w := K1) (a := ⟨lg, i, none⟩) (kx lg hlg0)).trans cl0
       have qi0 : (0 : Int) ≤ (i : Int) := by omega
       by_cases hml : m < Y.length
       · have qm0 : (0 : Int) ≤ (m : Int) := by omega
         have qm1 : (m : Int) < (Y.length : Int) := by omega
         obtain ⟨bm, om, e1, hbm, d0', d1', d2'⟩ := rows0.ent hml
         simp only [Option.some.injEq, Addr.mk.injEq, and_true] at e1
         obtain ⟨rfl, rfl⟩ := e1
         rw [Nat.zero_add] at d0' d1' d2'
         have HLSm := hidn (HLS.out Y[m] (List.getElem_mem hml))
         have HYm := hidn (show Y[m]'hml = Y[m]'hml from rfl)
         obtain ⟨y, hy⟩ : ∃ y, Y[m]'hml = y := ⟨_, rfl⟩
         have Hy := hidn hy
         rw [hy] at d0' d1' d2' HLSm
         clear hy HYm
         obtain ⟨x0, x1, x2, x3, x4⟩ := HM.out.box.cells5
         obtain ⟨z0, z1, z2, z3, z4⟩ := HM.out.box.open5
         have hxl := HM.out.lt
         have hlg : lg < wr.heap.size := by omega
         have hsg : sg < wr.heap.size := by omega
         have d0 := (World.cell?_of_block (w := K1) (a := ⟨sg, m * 3, none⟩) (kx sg hsg0)).trans d0'
         have d1 := (World.cell?_of_block (w := K1) (a := ⟨sg, m * 3 + 1, none⟩) (kx sg hsg0)).trans d1'
         have d2 := (World.cell?_of_block (w := K1) (a := ⟨sg, m * 3 + 2, none⟩) (kx sg hsg0)).trans d2'
         have hne : ∀ b, b ≤ xb → ¬ (Value.slice xa m xc).ownBlock = some b := fun b hb q => by have := (HM.out.row.lt b q).1; omega
         have HS : Hid (∀ V : World, V.heap[xb]? = wr.heap[xb]? → V.heap[lg]? = wr.heap[lg]? → V.heap[sg]? = wr.heap[sg]? → (fun wy => wy.cell? ⟨xb, 4, none⟩ = some (.slice xa m xc) ∧ wy.cell? ⟨lg, i, none⟩ = some (.slice (some ⟨sg, 0, none⟩) Y.length scap) ∧ wy.cell? ⟨sg, m * 3, none⟩ = some (.string y.key) ∧ wy.cell? ⟨sg, m * 3 + 1, none⟩ = some (.int .u32 y.page) ∧ wy.cell? ⟨sg, m * 3 + 2, none⟩ = some (.int .i64 y.slot)) V) := fun V h1 h2 h3 =>
           ⟨(World.cell?_of_block (w := wr) (a := ⟨xb, 4, none⟩) h1).trans x4, (World.cell?_of_block (w := wr) (a := ⟨lg, i, none⟩) h2).trans cl, (World.cell?_of_block (w := wr) (a := ⟨sg, m * 3, none⟩) h3).trans d0, (World.cell?_of_block (w := wr) (a := ⟨sg, m * 3 + 1, none⟩) h3).trans d1, (World.cell?_of_block (w := wr) (a := ⟨sg, m * 3 + 2, none⟩) h3).trans d2⟩
         have bD : Below wr.heap.size wr wr.drew := (Below.refl _ _).drew
         have hlgx : lg ≤ xb := by have := Hxb.out; omega
         have hsgx : sg ≤ xb := by have := Hxb.out; omega
         clear d0' d1' d2' cl0 x0 x1 x2 x3 z0 z1 z2 z3 kx
         go_upto_region 44 with fail
         go_region_law (first
             | (refine step_append_lies _ (by rfl) _ _ 61 (by rfl) (xb + 1) 9 j0 _ 1 16 Tryz.underlying61 hj hjz0 hjz1 hjz2 (by rfl) (by decide) (.slice xa m xc) m (((live Y).take m).map fun x => Value.string x.bs) (by rfl) (HM.out.own (by first | exact q1.alloc q1.size _ | exact q1.drew.alloc q1.drew.size _ | exact (q1.alloc q1.size _).drew)) ⟨_, 0, none⟩ 1 1 [.string (ItemV.mk y true).bs] (by rfl) (by rfl) (World.news_of_block (heap_alloc_new _ _)) (by intro u' hu'; simp at hu'; subst hu'; rfl) (by decide) (by unfold maxLen; omega) (by omega) (by first | (have := q1.size; simp; omega) | (have := q1.size; show _ ≤ _; simp; omega)) _ (by rfl) ?_
                intro g2 cap2 w2 own2 grow2 loc2 lt2
                have K2 : Kept (fun k => (Value.slice xa m xc).ownBlock = some k) wr w2 := by first | exact kept_grown (q1.alloc q1.size _) grow2 | exact kept_grown (q1.drew.alloc q1.drew.size _) grow2 | exact kept_grown (q1.alloc q1.size _).drew grow2
                have F2 : w2.frozen? ⟨xb, 4, none⟩ = false := (World.frozen?_of_block (w := wr) (a := ⟨xb, 4, none⟩) (K2.block xb hxl (hne xb (Nat.le_refl _)))).trans z4
                have S2 := (World.cell?_of_block (w := wr) (a := ⟨xb, 4, none⟩) (K2.block xb hxl (hne xb (Nat.le_refl _)))).trans x4)
             | (go_simp; go_at_call 25; refine (HLSm.out _).mono ?_; rintro r1 w1 ⟨rfl, b1⟩
                have q1 : RowKit.Below wr.heap.size wr w1 := by first | exact b1 | exact below_chain bD b1
                obtain ⟨S1a, S1b, S1c, S1d, S1e⟩ := HS.out w1 (q1.block xb hxl) (q1.block lg hlg) (q1.block sg hsg)
                have S1f := (World.cell?_of_block (w := w1) (a := ⟨xb, 4, none⟩) (heap_old w1 (.cells #[.string (ItemV.mk y true).bs] 9) (by have := q1.size; show xb < _; omega))).trans S1a))
         all_goals
           have HM2 := hidn (HM.out.pushed K2 hml Hy.out own2)
           clear own2 grow2 loc2 lt2 K2 S2
           go_wp2
           go_roundw
           case rel => exact ⟨m + 1, some ⟨g2, 0, none⟩, cap2, by go_num, by omega, by first | exact HM2 | exact HM2.out.drew⟩
           case measure => simp [intOf]; omega
       · have qm1 : ¬ (m : Int) < (Y.length : Int) := by omega
         obtain rfl : m = Y.length := by omega
         go_wp2
         go_meet
         case rel => exact ⟨xa, xc, HM⟩
     obtain ⟨xa, xc, HX2⟩ := hcut
     obtain ⟨u1, Hu1⟩ : ∃ W, W = wc := ⟨_, rfl⟩
     rw [← Hu1] at HX2 ⊢
     clear Hu1 HX HLK HLS
     have HPu := hidn ((HP.out.below HBK.out).below (by have := HX2.out.bel; rw [Hxb.out] at this; exact this))
     obtain ⟨qk, Hqk⟩ : ∃ q : Nat, Hid (q = i * k) := ⟨_, rfl⟩
     have hqkl : 0 < i → qk < L.length := fun h => by rw [Hqk.out]; exact HC.out.in hil (.inr h)
     have hmul : IntKind.i64.wrap ((i : Int) * (k : Int)) = (qk : Int) := by rw [Hqk.out, IntKind.wrap_i64]; have : i * k ≤ 24 * 8 := Nat.mul_le_mul (by omega) hk8; have e : ((i : Int) * (k : Int)) = ((i * k : Nat) : Int) := by simp
                                                                             rw [e]; omega
     obtain ⟨e1, He1⟩ : ∃ e, Hid (e = if 0 < i then L.getD qk zeroE else zeroE) := ⟨_, rfl⟩
     have hgW6 : gb < W6.heap.size := Nat.lt_of_lt_of_le hgW HBW.out.size
     have HEu := hidn (HPu.out.ents hgbA hgW6 HEN.out)
     obtain ⟨u2, Hu2⟩ : ∃ W, Hid (W = u1.alloc (.cells #[.string ⟨#[]⟩, .int .u32 0, .int .i64 0] 28)) := ⟨_, rfl⟩
     have b2 : Below u1.heap.size u1 u2 := by rw [Hu2.out]; exact (Below.refl _ _).alloc (Nat.le_refl _) _
     have k2 : Blk u2 u1.heap.size #[.string ⟨#[]⟩, .int .u32 0, .int .i64 0] 28 := by rw [Hu2.out]; exact Blk.made _ _ _
     go_upto_if 212 with fail
     rw [← Hu2.out]
     clear Hu2
     go_cut [] from 212 to 218 (fun wx => Hid (Blk wx u1.heap.size #[.string e1.key, .int .u32 e1.page, .int .i64 e1.slot] 28) ∧ Hid (Below u1.heap.size u1 wx))
     case first =>
      as_aux_lemma =>
      by_cases h0 : 0 < i
      · have r0 : (0 : Int) < (i : Int) := by omega
        have r1 := hqkl h0
        have r2 : (0 : Int) ≤ (qk : Int) := by omega
        have r3 : (qk : Int) < (L.length : Int) := by omega
        obtain ⟨b', o', e', hb', d0, d1, d2⟩ := (HEu.out.below b2).ent r1
        simp only [Option.some.injEq, Addr.mk.injEq, and_true] at e'
        obtain ⟨rfl, rfl⟩ := e'
        have He : Hid (L[qk] = e1) := by rw [He1.out, if_pos h0, List.getD_eq_getElem?_getD, List.getElem?_eq_getElem r1]; exact rfl
        rw [He.out] at d0 d1 d2
        have c0 : u2.cell? ⟨u1.heap.size, 0, none⟩ = some (.string ⟨#[]⟩) := k2.cell 0
        have c1 : u2.cell? ⟨u1.heap.size, 1, none⟩ = some (.int .u32 0) := k2.cell 1
        have c2 : u2.cell? ⟨u1.heap.size, 2, none⟩ = some (.int .i64 0) := k2.cell 2
        have f0 := k2.frozen 0
        have f1 := k2.frozen 1
        have f2 := k2.frozen 2
        have HK := hidn (((k2.set 0 (.string e1.key)).set 1 (.int .u32 e1.page)).set 2 (.int .i64 e1.slot))
        have HB := hidn (((b2.setCell (p := ⟨u1.heap.size, 0, none⟩) (Nat.le_refl _) (.string e1.key)).setCell (p := ⟨u1.heap.size, 1, none⟩) (Nat.le_refl _) (.int .u32 e1.page)).setCell (p := ⟨u1.heap.size, 2, none⟩) (Nat.le_refl _) (.int .i64 e1.slot))
        have hgn : gb ≠ u1.heap.size := by have := HPu.out.mv.1.size; omega
        clear h0 b2 k2
        go_wp2
        go_meet
        case rel => exact ⟨HK, HB⟩
      · have r0 : ¬ (0 : Int) < (i : Int) := by omega
        have HK := hidn (show Blk u2 u1.heap.size #[.string e1.key, .int .u32 e1.page, .int .i64 e1.slot] 28 by rw [He1.out, if_neg h0]; exact k2)
        go_wp2
        go_meet
        case rel => exact ⟨HK, b2⟩
     obtain ⟨HK3, HBu3⟩ := hcut
     obtain ⟨u3, Hu3⟩ : ∃ W, W = wc := ⟨_, rfl⟩
     rw [← Hu3] at HK3 HBu3 ⊢
     clear Hu3 b2 k2
     obtain ⟨u4, Hu4⟩ : ∃ W, Hid (W = u3.alloc (.cells #[.int .u32 (4 + (i : Int)), .string e1.key, .int .u32 e1.page, .int .i64 e1.slot] 74)) := ⟨_, rfl⟩
     have HBc := hidn (show Below u1.heap.size u1 u4 by rw [Hu4.out]; exact HBu3.out.alloc HBu3.out.size _)
     have HCb := hidn (show Blk u4 u3.heap.size #[.int .u32 (4 + (i : Int)), .string e1.key, .int .u32 e1.page, .int .i64 e1.slot] 74 by rw [Hu4.out]; exact Blk.made _ _ _)
     have g0 : u3.cell? ⟨u1.heap.size, 0, none⟩ = some (.string e1.key) := HK3.out.cell 0
     have g1 : u3.cell? ⟨u1.heap.size, 1, none⟩ = some (.int .u32 e1.page) := HK3.out.cell 1
     have g2 : u3.cell? ⟨u1.heap.size, 2, none⟩ = some (.int .i64 e1.slot) := HK3.out.cell 2
     go_upto_region 49 with fail
     rw [← Hu4.out]
     clear Hu4 g0 g1 g2 HK3
     obtain ⟨b3, Hb3⟩ : ∃ b : Bool, Hid (b = true ↔ sp = true ∧ odd = 3 ∧ i = 1) := bool_of _
     go_upto_region 49 with fail
     go_cut [232] from 224 to 231 (fun vv wx => vv = .bool b3 ∧ wx = u4)
     case first =>
      as_aux_lemma =>
      by_cases hsp : sp = true
      · have hs1 : (sp = true) ↔ True := ⟨fun _ => trivial, fun _ => hsp⟩
        by_cases ho : odd = 3
        · have ho1 : ((odd : Int) = 3) ↔ True := ⟨fun _ => trivial, fun _ => by omega⟩
          have HO := hidn ho
          clear hsp ho
          go_wp2
          go_meet
          case rel => exact ⟨congrArg Value.bool (Bool.eq_iff_iff.2 (by rw [Hb3.out]; simp [HO.out, hs1.2 trivial, ho1.2 trivial] <;> omega)), rfl⟩
        · have ho1 : ¬ ((odd : Int) = 3) := by omega
          have HO := hidn ho
          clear hsp ho
          go_wp2
          go_meet
          case rel => exact ⟨congrArg Value.bool (Bool.eq_iff_iff.2 (by rw [Hb3.out]; simp [HO.out] <;> omega)), rfl⟩
      · have hs1 : (sp = true) ↔ False := ⟨fun q => hsp q, fun q => q.elim⟩
        have HPP := hidn hsp
        clear hsp
        go_wp2
        go_meet
        case rel => exact ⟨congrArg Value.bool (Bool.eq_iff_iff.2 (by rw [Hb3.out]; simp [HPP.out])), rfl⟩
     obtain ⟨rfl, hwc⟩ := hcut
     rw [hwc]
     clear hwc
     obtain ⟨e2, He2⟩ : ∃ e, Hid (e = if b3 = true then L.getD (k - 1) zeroE else e1) := ⟨_, rfl⟩
     go_upto_if 232 with fail
     go_cut [] from 232 to 240 (fun wx => Hid (Blk wx u3.heap.size #[.int .u32 (4 + (i : Int)), .string e2.key, .int .u32 e2.page, .int .i64 e2.slot] 74) ∧ Hid (Below u1.heap.size u1 wx))
     case first =>
      as_aux_lemma =>
      cases hbb : b3 with
      | true =>
       have c0 : u4.cell? ⟨u3.heap.size, 0, none⟩ = some (.int .u32 (4 + (i : Int))) := HCb.out.cell 0
       have c1 : u4.cell? ⟨u3.heap.size, 1, none⟩ = some (.string e1.key) := HCb.out.cell 1
       have c2 : u4.cell? ⟨u3.heap.size, 2, none⟩ = some (.int .u32 e1.page) := HCb.out.cell 2
       have c3 : u4.cell? ⟨u3.heap.size, 3, none⟩ = some (.int .i64 e1.slot) := HCb.out.cell 3
       have f0 := HCb.out.frozen 0
       have f1 := HCb.out.frozen 1
       have f2 := HCb.out.frozen 2
       have f3 := HCb.out.frozen 3
       have hu3 : u1.heap.size ≤ u3.heap.size := HBu3.out.size
       obtain ⟨hsp, hod, hi1⟩ := Hb3.out.1 hbb
       have hk1' : k - 1 < L.length := by have := hqkl (by omega); have := Hqk.out; rw [hi1, Nat.one_mul] at this; omega
       have hsub : IntKind.i64.wrap ((qk : Int) - 1) = ((k - 1 : Nat) : Int) := by have := Hqk.out; rw [hi1, Nat.one_mul] at this; rw [this, IntKind.wrap_i64]; omega
       have r2 : (0 : Int) ≤ ((k - 1 : Nat) : Int) := by omega
       have r3 : ((k - 1 : Nat) : Int) < (L.length : Int) := by omega
       obtain ⟨km, Hkm⟩ : ∃ km : Nat, Hid (km = k - 1) := ⟨_, rfl⟩
       rw [← Hkm.out] at hk1' hsub r2 r3
       obtain ⟨b', o', e', hb', d0, d1, d2⟩ := (HEu.out.below HBc.out).ent hk1'
       simp only [Option.some.injEq, Addr.mk.injEq, and_true] at e'
       obtain ⟨rfl, rfl⟩ := e'
       have He : Hid (L[km] = e2) := by rw [He2.out, if_pos hbb, List.getD_eq_getElem?_getD, ← Hkm.out, List.getElem?_eq_getElem hk1']; exact rfl
       rw [He.out] at d0 d1 d2
       have hgn : gb ≠ u3.heap.size := by have := HPu.out.mv.1.size; omega
       have HK := hidn (((HCb.out.set 1 (.string e2.key)).set 2 (.int .u32 e2.page)).set 3 (.int .i64 e2.slot))
       have HB := hidn (((HBc.out.setCell (p := ⟨u3.heap.size, 1, none⟩) hu3 (.string e2.key)).setCell (p := ⟨u3.heap.size, 2, none⟩) hu3 (.int .u32 e2.page)).setCell (p := ⟨u3.heap.size, 3, none⟩) hu3 (.int .i64 e2.slot))
       clear hbb hsp hod hi1 He2 Hb3
       go_wp2
       go_meet
       case rel => exact ⟨HK, HB⟩
      | false =>
       have HQ := hidn (show Blk u4 u3.heap.size #[.int .u32 (4 + (i : Int)), .string e2.key, .int .u32 e2.page, .int .i64 e2.slot] 74 by rw [He2.out, if_neg (by rw [hbb]; simp)]; exact HCb.out)
       clear hbb
       go_wp2
       go_meet
       case rel => exact ⟨HQ, HBc⟩
     clear HCb HBc
     obtain ⟨HCb, HBc⟩ := hcut
     obtain ⟨u5, Hu5⟩ : ∃ W, W = wc := ⟨_, rfl⟩
     rw [← Hu5] at HCb HBc ⊢
     clear Hu5
     obtain ⟨b5, Hb5⟩ : ∃ b : Bool, Hid (b = true ↔ sp = true ∧ odd = 5 ∧ i = 1) := bool_of _
     go_upto_region 51 with fail
     go_cut [249] from 241 to 248 (fun vv wx => vv = .bool b5 ∧ wx = u5)
     case first =>
      as_aux_lemma =>
      by_cases hsp : sp = true
      · have hs1 : (sp = true) ↔ True := ⟨fun _ => trivial, fun _ => hsp⟩
        by_cases ho : odd = 5
        · have ho1 : ((odd : Int) = 5) ↔ True := ⟨fun _ => trivial, fun _ => by omega⟩
          have HO := hidn ho
          clear hsp ho
          go_wp2
          go_meet
          case rel => exact ⟨congrArg Value.bool (Bool.eq_iff_iff.2 (by rw [Hb5.out]; simp [HO.out, hs1.2 trivial, ho1.2 trivial] <;> omega)), rfl⟩
        · have ho1 : ¬ ((odd : Int) = 5) := by omega
          have HO := hidn ho
          clear hsp ho
          go_wp2
          go_meet
          case rel => exact ⟨congrArg Value.bool (Bool.eq_iff_iff.2 (by rw [Hb5.out]; simp [HO.out] <;> omega)), rfl⟩
      · have hs1 : (sp = true) ↔ False := ⟨fun q => hsp q, fun q => q.elim⟩
        have HPP := hidn hsp
        clear hsp
        go_wp2
        go_meet
        case rel => exact ⟨congrArg Value.bool (Bool.eq_iff_iff.2 (by rw [Hb5.out]; simp [HPP.out])), rfl⟩
     obtain ⟨rfl, hwc⟩ := hcut
     rw [hwc]
     clear hwc
     obtain ⟨p1, Hp1⟩ : ∃ p1 : Int, Hid (p1 = if b5 = true then 4 else 4 + (i : Int)) := ⟨_, rfl⟩
     go_upto_if 249 with fail
     go_cut [] from 249 to 250 (fun wx => Hid (Blk wx u3.heap.size #[.int .u32 p1, .string e2.key, .int .u32 e2.page, .int .i64 e2.slot] 74) ∧ Hid (Below u1.heap.size u1 wx))
     case first =>
      as_aux_lemma =>
      cases hbb : b5 with
      | true =>
       have c0 : u5.cell? ⟨u3.heap.size, 0, none⟩ = some (.int .u32 (4 + (i : Int))) := HCb.out.cell 0
       have c1 : u5.cell? ⟨u3.heap.size, 1, none⟩ = some (.string e2.key) := HCb.out.cell 1
       have c2 : u5.cell? ⟨u3.heap.size, 2, none⟩ = some (.int .u32 e2.page) := HCb.out.cell 2
       have c3 : u5.cell? ⟨u3.heap.size, 3, none⟩ = some (.int .i64 e2.slot) := HCb.out.cell 3
       have f0 := HCb.out.frozen 0
       have f1 := HCb.out.frozen 1
       have f2 := HCb.out.frozen 2
       have f3 := HCb.out.frozen 3
       have hu3 : u1.heap.size ≤ u3.heap.size := HBu3.out.size
       have HK := hidn (show Blk (u5.setCell ⟨u3.heap.size, 0, none⟩ (.int .u32 4)) u3.heap.size #[.int .u32 p1, .string e2.key, .int .u32 e2.page, .int .i64 e2.slot] 74 by rw [Hp1.out, if_pos hbb]; exact HCb.out.set 0 (.int .u32 4))
       have HB := hidn (HBc.out.setCell (p := ⟨u3.heap.size, 0, none⟩) hu3 (.int .u32 4))
       clear hbb Hp1 Hb5
       go_wp2
       go_meet
       case rel => exact ⟨HK, HB⟩
      | false =>
       have HQ := hidn (show Blk u5 u3.heap.size #[.int .u32 p1, .string e2.key, .int .u32 e2.page, .int .i64 e2.slot] 74 by rw [Hp1.out, if_neg (by rw [hbb]; simp)]; exact HCb.out)
       clear hbb
       go_wp2
       go_meet
       case rel => exact ⟨HQ, HBc⟩
     clear HCb HBc
     obtain ⟨HCb, HBc⟩ := hcut
     obtain ⟨u6, Hu6⟩ : ∃ W, W = wc := ⟨_, rfl⟩
     rw [← Hu6] at HCb HBc ⊢
     clear Hu6
     obtain ⟨b6, Hb6⟩ : ∃ b : Bool, Hid (b = true ↔ sp = true ∧ odd = 6 ∧ i = 0) := bool_of _
     go_upto_region 53 with fail
     go_cut [259] from 251 to 258 (fun vv wx => vv = .bool b6 ∧ wx = u6)
     case first =>
      as_aux_lemma =>
      by_cases hsp : sp = true
      · have hs1 : (sp = true) ↔ True := ⟨fun _ => trivial, fun _ => hsp⟩
        by_cases ho : odd = 6
        · have ho1 : ((odd : Int) = 6) ↔ True := ⟨fun _ => trivial, fun _ => by omega⟩
          have HO := hidn ho
          clear hsp ho
          go_wp2
          go_meet
          case rel => exact ⟨congrArg Value.bool (Bool.eq_iff_iff.2 (by rw [Hb6.out]; simp [HO.out, hs1.2 trivial, ho1.2 trivial] <;> omega)), rfl⟩
        · have ho1 : ¬ ((odd : Int) = 6) := by omega
          have HO := hidn ho
          clear hsp ho
          go_wp2
          go_meet
          case rel => exact ⟨congrArg Value.bool (Bool.eq_iff_iff.2 (by rw [Hb6.out]; simp [HO.out] <;> omega)), rfl⟩
      · have hs1 : (sp = true) ↔ False := ⟨fun q => hsp q, fun q => q.elim⟩
        have HPP := hidn hsp
        clear hsp
        go_wp2
        go_meet
        case rel => exact ⟨congrArg Value.bool (Bool.eq_iff_iff.2 (by rw [Hb6.out]; simp [HPP.out])), rfl⟩
     obtain ⟨rfl, hwc⟩ := hcut
     rw [hwc]
     clear hwc
     obtain ⟨e3, He3⟩ : ∃ e : EntV, Hid (e = if b6 = true then ⟨⟨#[0]⟩, 0, 0⟩ else e2) := ⟨_, rfl⟩
     go_upto_if 259 with fail
     go_cut [] from 259 to 261 (fun wx => Hid (Blk wx u3.heap.size #[.int .u32 p1, .string e3.key, .int .u32 e3.page, .int .i64 e3.slot] 74) ∧ Hid (Below u1.heap.size u1 wx))
     case first =>
      as_aux_lemma =>
      cases hbb : b6 with
      | true =>
       have c0 : u6.cell? ⟨u3.heap.size, 0, none⟩ = some (.int .u32 p1) := HCb.out.cell 0
       have c1 : u6.cell? ⟨u3.heap.size, 1, none⟩ = some (.string e2.key) := HCb.out.cell 1
       have c2 : u6.cell? ⟨u3.heap.size, 2, none⟩ = some (.int .u32 e2.page) := HCb.out.cell 2
       have c3 : u6.cell? ⟨u3.heap.size, 3, none⟩ = some (.int .i64 e2.slot) := HCb.out.cell 3
       have f0 := HCb.out.frozen 0
       have f1 := HCb.out.frozen 1
       have f2 := HCb.out.frozen 2
       have f3 := HCb.out.frozen 3
       have hu3 : u1.heap.size ≤ u3.heap.size := HBu3.out.size
       have HK := hidn (show Blk (((u6.setCell ⟨u3.heap.size, 1, none⟩ (.string ⟨#[0]⟩)).setCell ⟨u3.heap.size, 2, none⟩ (.int .u32 0)).setCell ⟨u3.heap.size, 3, none⟩ (.int .i64 0)) u3.heap.size #[.int .u32 p1, .string e3.key, .int .u32 e3.page, .int .i64 e3.slot] 74 by rw [He3.out, if_pos hbb]; exact (((HCb.out.set 1 (.string ⟨#[0]⟩)).set 2 (.int .u32 0)).set 3 (.int .i64 0)))
       have HB := hidn (((HBc.out.setCell (p := ⟨u3.heap.size, 1, none⟩) hu3 (.string ⟨#[0]⟩)).setCell (p := ⟨u3.heap.size, 2, none⟩) hu3 (.int .u32 0)).setCell (p := ⟨u3.heap.size, 3, none⟩) hu3 (.int .i64 0))
       clear hbb He3 Hb6
       go_wp2
       go_meet
       case rel => exact ⟨HK, HB⟩
      | false =>
       have HQ := hidn (show Blk u6 u3.heap.size #[.int .u32 p1, .string e3.key, .int .u32 e3.page, .int .i64 e3.slot] 74 by rw [He3.out, if_neg (by rw [hbb]; simp)]; exact HCb.out)
       clear hbb
       go_wp2
       go_meet
       case rel => exact ⟨HQ, HBc⟩
     clear HCb HBc
     obtain ⟨HCb, HBc⟩ := hcut
     obtain ⟨u7, Hu7⟩ : ∃ W, W = wc := ⟨_, rfl⟩
     rw [← Hu7] at HCb HBc ⊢
     clear Hu7
     have hE3 : e3 = kidE L k odd sp i := by
      rw [He3.out, He2.out, He1.out, Hqk.out]
      unfold kidE
      by_cases c6 : sp = true ∧ odd = 6 ∧ i = 0
      · rw [if_pos (Hb6.out.2 c6), if_pos c6]
      · rw [if_neg (fun q => c6 (Hb6.out.1 q)), if_neg c6]
        by_cases c3 : sp = true ∧ odd = 3 ∧ i = 1
        · rw [if_pos (Hb3.out.2 c3), if_pos c3]
        · rw [if_neg (fun q => c3 (Hb3.out.1 q)), if_neg c3]
     have hP1 : p1 = ((kidP odd sp i : Nat) : Int) := by
      rw [Hp1.out]
      unfold kidP
      by_cases c5 : sp = true ∧ odd = 5 ∧ i = 1
      · rw [if_pos (Hb5.out.2 c5), if_pos c5]; rfl
      · rw [if_neg (fun q => c5 (Hb5.out.1 q)), if_neg c5]; omega
     obtain ⟨kp, Hkp⟩ : ∃ kp : Nat, Hid (kp = kidP odd sp i) := ⟨_, rfl⟩
     rw [hP1, ← Hkp.out] at HCb
     have hkp30 : kp < 4294967296 := by have := (kidP_le (odd := odd) (sp := sp) i).2; have := Hkp.out; omega
     have hsh3 : e3.Short := by rw [hE3]; exact kidE_may hL i
     have HE3 := hidn hE3
     clear hE3 hP1 Hp1 He1 He2 He3 Hb3 Hb5 Hb6 hmul hqkl Hqk
     have HIS : Hid (∀ wx, Calls Tryz.prog 26 #[.agg #[.int .u32 kp, .string e3.key, .int .u32 e3.page, .int .i64 e3.slot]] wx fun r w' => r = .returned (.string (ChildV.mk kp e3).bs) ∧ Below wx.heap.size wx w') := fun wx => innerSlot_any ⟨kp, e3⟩ wx hkp30 hsh3.may.page (by have := hsh3.key; show e3.key.size ≤ _; omega)
     have HP7 := hidn (HPu.out.below HBc.out)
     have HX7 := hidn (HX2.out.below HBc.out)
     have hxb1 := hidn (show wr.heap.size ≤ xb by have := HBK.out.size; have := Hxb.out; omega)
     have hrbx : rb < xb := by have := HP.out.rhi; have := hxb1.out; omega
     have hAx := hidn (show ∀ b, A' b → b ≤ xb from fun b hb => by have := HP.out.sys.lt b hb; have := hxb1.out; omega)
     have HKd := hidn (show (ChildV.mk kp e3) = ⟨kidP odd sp i, kidE L k odd sp i⟩ by rw [← Hkp.out, ← HE3.out])
     clear HX2 HPu HEu HBc HBu3 hsh3 HE3
     go_upto_region 55 with fail
     go_cut [] from 262 to 268 (fun wx => ∃ ra' rc', Hid (LpAt W6 wx p A A' P' l d L k N odd sp lv rb (.slice ra' (i + 1) rc') i (i + 1)) ∧ Hid (RowV wx xb 5 (five (.int .u32 ((4 + i : Nat) : Int)) (.int .u64 1) (.int .i64 3) (.string (num4 nx)) (.slice xa Y.length xc))) ∧ Hid (wx.ownsRow (xb + 1) 9 1 (.slice xa Y.length xc) Y.length ((live Y).map fun x => Value.string x.bs)))
     case first =>
      as_aux_lemma =>
      obtain ⟨x0, x1, x2, x3, x4⟩ := HP7.out.box.cells5
      obtain ⟨z0, z1, z2, z3, z4⟩ := HP7.out.box.open5
      have c0 : u7.cell? ⟨u3.heap.size, 0, none⟩ = some (.int .u32 kp) := HCb.out.cell 0
      have c1 : u7.cell? ⟨u3.heap.size, 1, none⟩ = some (.string e3.key) := HCb.out.cell 1
      have c2 : u7.cell? ⟨u3.heap.size, 2, none⟩ = some (.int .u32 e3.page) := HCb.out.cell 2
      have c3 : u7.cell? ⟨u3.heap.size, 3, none⟩ = some (.int .i64 e3.slot) := HCb.out.cell 3
      have hrl := HP7.out.rhi
      have hne : ¬ (Value.slice ra i rc).ownBlock = some rb := fun q => by have := (HP7.out.vlt q).1; omega
      have hnx7 : ∀ b, xb ≤ b → ¬ (Value.slice ra i rc).ownBlock = some b := fun b hb q => by have := (HP.out.vlt q).2; have := hxb1.out; omega
      have bD : Below u7.heap.size u7 u7.drew := (Below.refl _ _).drew
      have HOW : Hid (∀ V, RowKit.Below u7.heap.size u7 V → V.ownsRow (rb + 1) 9 1 (.slice ra i rc) i (((kids L k N odd sp).take i).map fun x => Value.string x.bs)) := fun V hb => (HP7.out.below hb).row
      clear x0 x1 x2 x3 z0 z1 z2 z3
      go_region_law (first
             | (refine step_append_lies _ (by rfl) _ _ 61 (by rfl) (rb + 1) 9 j0 _ 1 16 Tryz.underlying61 hj hjz0 hjz1 hjz2 (by rfl) (by decide) (.slice ra i rc) i (((kids L k N odd sp).take i).map fun x => Value.string x.bs) (by rfl) (HOW.out _ (by first | exact q1.alloc q1.size _ | exact q1.drew.alloc q1.drew.size _ | exact (q1.alloc q1.size _).drew)) ⟨_, 0, none⟩ 1 1 [.string (ChildV.mk kp e3).bs] (by rfl) (by rfl) (World.news_of_block (heap_alloc_new _ _)) (by intro u' hu'; simp at hu'; subst hu'; rfl) (by decide) (by unfold maxLen; omega) (by omega) (by first | (have := q1.size; simp; omega) | (have := q1.size; show _ ≤ _; simp; omega)) _ (by rfl) ?_
                intro g2 cap2 w2 own2 grow2 loc2 lt2
                have K2 : Kept (fun k => (Value.slice ra i rc).ownBlock = some k) u7 w2 := by first | exact kept_grown (q1.alloc q1.size _) grow2 | exact kept_grown (q1.drew.alloc q1.drew.size _) grow2 | exact kept_grown (q1.alloc q1.size _).drew grow2
                have L2 : LpAt W6 (w2.setCell ⟨rb, 4, none⟩ (.slice (some ⟨g2, 0, none⟩) (i + 1) cap2)) p A A' P' l d L k N odd sp lv rb (.slice (some ⟨g2, 0, none⟩) (i + 1) cap2) i (i + 1) := by
                  rw [HKd.out] at own2
                  first
                    | exact (HP7.out.below (q1.alloc q1.size _)).pushed hil own2 grow2 (own_loc loc2)
                    | exact (HP7.out.below (q1.drew.alloc q1.drew.size _)).pushed hil own2 grow2 (own_loc loc2)
                    | exact (HP7.out.below (q1.alloc q1.size _).drew).pushed hil own2 grow2 (own_loc loc2)
                have F2 : w2.frozen? ⟨rb, 4, none⟩ = false := (World.frozen?_of_block (w := u7) (a := ⟨rb, 4, none⟩) (K2.block rb hrl hne)).trans z4
                have S2 := (World.cell?_of_block (w := u7) (a := ⟨rb, 4, none⟩) (K2.block rb hrl hne)).trans x4)
             | (go_simp; go_at_call 26; refine (HIS.out _).mono ?_; rintro r1 w1 ⟨rfl, b1⟩
                have q1 : RowKit.Below u7.heap.size u7 w1 := by first | exact b1 | exact below_chain bD b1
                have S1a := (q1.cell (p := ⟨rb, 4, none⟩) hrl).trans x4
                have S1f := (World.cell?_of_block (w := w1) (a := ⟨rb, 4, none⟩) (heap_old w1 (.cells #[.string (ChildV.mk kp e3).bs] 9) (by have := q1.size; show rb < _; omega))).trans S1a))
      all_goals
        have hk2 : ∀ b, xb ≤ b → b < u7.heap.size → (w2.setCell ⟨rb, 4, none⟩ (.slice (some ⟨g2, 0, none⟩) (i + 1) cap2)).heap[b]? = u7.heap[b]? := fun b h1 h2 => by
          rw [heap_setCell_other _ _ _ _ (by show b ≠ rb; omega)]
          exact K2.block b h2 (hnx7 b h1)
        have R2 := rowV_same HX7.out.box (hk2 xb (Nat.le_refl _) HX7.out.lt)
        have O2 := ownsRow_same HX7.out.row (fun g hg => hk2 g (by have := (HX7.out.row.lt g hg).1; omega) (HX7.out.row.lt g hg).2)
        rw [List.take_of_length_le (by unfold live; simp)] at O2
        have HL2 := hidn L2
        have HR2 := hidn R2
        have HO2 := hidn O2
        clear own2 grow2 loc2 lt2 K2 S2 L2 R2 O2 hk2
        go_wp2
        go_meet
        case rel => first | exact ⟨some ⟨g2, 0, none⟩, cap2, HL2, HR2, HO2⟩ | exact ⟨some ⟨g2, 0, none⟩, cap2, HL2.out.below ((Below.refl _ _).drew), rowV_same HR2.out rfl, ownsRow_drew2 HO2.out⟩
     obtain ⟨ra', rc', HL8, HR8, HO8⟩ := hcut
     obtain ⟨u8, Hu8⟩ : ∃ W, W = wc := ⟨_, rfl⟩
     rw [← Hu8] at HL8 HR8 HO8 ⊢
     clear Hu8 HCb HIS
     obtain ⟨x0, x1, x2, x3, x4⟩ := HR8.out.cells5
     rw [show ((4 + i : Nat) : Int) = 4 + (i : Int) by omega] at x0
     have HPT := hidn (lp_putLeaf HL8.out hL hk8 hi24 nx Hnx.out Y HsM.out HO8.out hAx.out)
     go_wp2_with fail
     refine HPT.out.mono ?_
     rintro r u9 ⟨rfl, A2, P2, hp9⟩
     have HP9 := hidn hp9
     clear hp9 HPT x0 x1 x2 x3 x4 HL8 HR8 HO8
     go_wp2
     go_roundw
     case rel => exact ⟨i + 1, A2, P2, .slice ra' (i + 1) rc', by go_num, by go_num, by omega, ⟨ra', rc', rfl⟩, HP9⟩
     case measure => simp [intOf]; omega
   · have q0 : ¬ (i : Int) < (N : Int) := by omega
     obtain rfl : i = N := by omega
     obtain ⟨x0, x1, x2, x3, x4⟩ := HP.out.box.cells5
     have HPT := hidn (lp_putRoot HP.out hL hN24 Hlv.out)
     go_wp2_with fail
     refine HPT.out.mono ?_
     rintro r u9 ⟨rfl, A2, P2, hs9, hm9, h3, h4⟩
     have HO : Hid (LaidOut w L k odd (.returned (.tuple #[.pointer (some ⟨p, 0, none⟩), .int .i64 i, .bool sp])) u9) := by
      have b0 := HL0.out.bel
      have b1 := HBW.out
      refine hidn ⟨⟨p, A2, P2, l, d, i, sp, HC.out, HSP.out, rfl, hs9, fun b hb => ?_, h3, h4⟩, ?_⟩
      · rcases hm9.2 b hb with q | q
        · exact HL0.out.new b q
        · have := b0.size; have := b1.size; omega
      · have b6 := below_chain b0 b1
        exact ⟨hm9.1.os.trans b6.os, hm9.1.tape.trans b6.tape, hm9.1.output.trans b6.output, Nat.le_trans b6.size hm9.1.size, fun b hb => (hm9.1.block b (Nat.lt_of_lt_of_le hb b6.size) fun q => by have := HL0.out.new b q; omega).trans (b6.block b hb)⟩
     clear hs9 hm9 h3 h4 HPT x0 x1 x2 x3 x4
     go_wp2
     refine bodyPost_ret (v := .tuple #[.pointer (some ⟨p, 0, none⟩), .int .i64 i, .bool sp]) (by simp [results, Tryz.results6, go_sem]) rfl HO.out

end Go.Proofs.YtpllidadpcahbaaGreat
