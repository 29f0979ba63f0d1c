/-
  The walk of LockSafe.
-/
import Derived.Test.YthagomibjlcfmaaDoorLkSafeSC
import Derived.Test.YthagomibjlcfmaaDoorLkOnceC
import Derived.Test.YthagomibjlcfmaaDoorLkHasC
import Derived.Deep.CutRange
import Derived.Deep.CutBlock
namespace Go.Proofs.YthagomibjlcfmaaDoor
open Go.RowKit Go.Sort
set_option linter.unusedVariables false
set_option linter.unusedSimpArgs false

/-- Where LockSafe stands. -/
structure SaAt (w wr : World) (b : Nat) (S : Nat → Prop) (T : Tab) (i : Nat) : Prop where
  bel : Below w.heap.size w wr
  tab : IsTab S wr b T
  inv : STab T i
  soff : ∀ k, S k → w.heap.size ≤ k

theorem SaAt.below {w wr wx : World} {b : Nat} {S : Nat → Prop} {T : Tab} {i : Nat} (h : SaAt w wr b S T i) (k : Below wr.heap.size wr wx) : SaAt w wx b S T i :=
  ⟨h.bel.trans (k.mono h.bel.size), h.tab.below k, h.inv, h.soff⟩
theorem SaAt.moves {w wr wx : World} {b : Nat} {S S' : Nat → Prop} {T T' : Tab} {i j : Nat} (h : SaAt w wr b S T i) (m : MovesL S S' wr wx) (t : IsTab S' wx b T') (k : STab T' j) : SaAt w wx b S' T' j :=
  have q := m.below h.soff h.bel h.bel.size
  ⟨q.1, t, k, q.2⟩

/-- What was counted of those below x. -/
structure CntAt (T : Tab) (x wt fr : Nat) (cy : Bool) : Prop where
  sum : wt + fr + 1 = x
  all : fr = 0 → ∀ t : Int, 1 ≤ t → t < x → (T.W t).isSome = true
  no : cy = false → ∀ t : Int, 1 ≤ t → t < x → (T.W t).isSome = true → ∃ B : Int → Prop, (∀ z ∈ suT T t, B z) ∧ Closed (suT T) B ∧ ¬ B t

theorem CntAt.start (T : Tab) : CntAt T 1 0 0 false := ⟨rfl, fun _ t h1 h2 => absurd h2 (by omega), fun _ t h1 h2 => absurd h2 (by omega)⟩

theorem CntAt.free {T : Tab} {x wt fr : Nat} {cy : Bool} (h : CntAt T x wt fr cy) (hw : (T.W (x : Int)).isSome = false) : CntAt T (x + 1) wt (fr + 1) cy :=
  ⟨by have := h.sum; omega, fun e => by omega, fun e t h1 h2 h3 => by
    by_cases ht : t = (x : Int)
    · rw [ht, hw] at h3; cases h3
    · exact h.no e t h1 (by omega) h3⟩

theorem CntAt.wait {T : Tab} {x wt fr : Nat} {cy cz : Bool} (h : CntAt T x wt fr cy) (hw : (T.W (x : Int)).isSome = true) (hz : cz = false → cy = false ∧ ∃ B : Int → Prop, (∀ z ∈ suT T (x : Int), B z) ∧ Closed (suT T) B ∧ ¬ B (x : Int)) : CntAt T (x + 1) (wt + 1) fr cz :=
  ⟨by have := h.sum; omega, fun e t h1 h2 => by
    by_cases ht : t = (x : Int)
    · rw [ht]; exact hw
    · exact h.all e t h1 (by omega), fun e t h1 h2 h3 => by
    by_cases ht : t = (x : Int)
    · rw [ht]; exact (hz e).2
    · exact h.no (hz e).1 t h1 (by omega) h3⟩

theorem CntAt.end' {T : Tab} {i : Nat} (hT : STab T i) {wt : Nat} (h : CntAt T 5 wt 0 false) : False :=
  hT.cycle (fun t ht => h.all rfl t ht.1 (by omega)) fun t ht => h.no rfl t ht.1 (by omega) (h.all rfl t ht.1 (by omega))

set_option maxHeartbeats 6400000 in
set_option maxRecDepth 20000 in
theorem safe_walk (hNS : ∀ m, m ≤ 100 → NSorts m) (a : Option Addr) (n c : Nat) (A : Nat → Int × Int × Int × Int) (w : World) (hl : LkLaid w) (hA : ArgActs w a n A) (hn : n ≤ 9223372036854775807) :
    Calls Tryd.prog 3 #[.slice a n c] w fun e w' => e = .returned (.bool true) ∧ Below w.heap.size w w' := by
  have HN := new_any w
  have HLD : Hid (LkLaid w ∧ 2 ≤ w.heap.size) := ⟨hl, hl.lt⟩
  have HAI : Hid (ArgActs w a n A) := hA
  have HAW : Hid (∀ wx, Below w.heap.size w wx → Calls Tryd.prog 6 #[] wx fun e w' => e = .returned (.bool true) ∧ Below wx.heap.size wx w') := fun wx k => awake_any wx (hl.below hl.lt k)
  have HNM : Hid (∀ (x : Int) (wx : World), Calls Tryd.prog 7 #[.int .i64 x] wx fun e w' => ∃ (nm : NameV) (r0 r1 r2 r3 : Int), NmOk nm ∧ e = .returned (.tuple #[nval nm, .agg #[.int .i64 r0, .int .i64 r1, .int .u32 r2, .int .i64 r3]]) ∧ Below wx.heap.size wx w') := name_ok
  have HNSH : Hid (∀ m, m ≤ 100 → NSorts m) := hNS
  clear hl hA hNS
  go_enter Tryd.func3, Tryd.ntmps3
  go_wp2_with fail
  refine HN.mono ?_
  rintro e w1 ⟨b, S1, rfl, ht1, b1, hS1⟩
  have HAW1 := HAW.out w1 b1
  clear HN HAW
  go_wp2_with fail
  refine HAW1.mono ?_
  rintro e w2 ⟨rfl, b2⟩
  have H10 : Hid (∃ S T, SaAt w w2 b S T 0) := ⟨S1, emptyT, b1.trans (b2.mono b1.size), ht1.below b2, STab.empty, hS1⟩
  clear HAW1 ht1 hS1 b1 b2
  go_wp2_with fail
  go_loopw [4] (fun i wr => ∃ j : Nat, j ≤ n ∧ j ≤ 60 ∧ i = .int .i64 (j : Int) ∧ Hid (∃ S T, SaAt w wr b S T j)) (fun i _ => 60 - (intOf i).toNat)
  case atStart => exact ⟨0, by omega, by omega, rfl, H10⟩
  case round =>
    obtain ⟨j, hj, hj60, rfl, H1⟩ := hrel
    clear H10
    by_cases hlt : j < n ∧ j < 60
    · obtain ⟨S, T, hO⟩ := H1.out
      clear H1
      have hi1 : (j : Int) < n := by omega
      have hi0 : (0 : Int) ≤ j := by omega
      have hi2 : (j : Int) < 60 := by omega
      obtain ⟨ab, ao, rfl, hab, hact⟩ : ∃ ab ao, a = some ⟨ab, ao, none⟩ ∧ ab < w.heap.size ∧ ∀ i, i < n → ActIn w ab (ao + i * 4) (A i) := by
        rcases HAI.out with h | h
        · omega
        · exact h
      obtain ⟨q0, q1, q2, q3⟩ := hact j hlt.1
      generalize A j = XX at q0 q1 q2 q3
      obtain ⟨X0, X1, X2, X3⟩ := XX
      simp only at q0 q1 q2 q3
      have e := hO.bel.block ab hab
      have y0 := (World.cell?_of_block (w := w) (a := ⟨ab, ao + j * 4, none⟩) e).trans q0
      have y1 := (World.cell?_of_block (w := w) (a := ⟨ab, ao + j * 4 + 1, none⟩) e).trans q1
      have y2 := (World.cell?_of_block (w := w) (a := ⟨ab, ao + j * 4 + 2, none⟩) e).trans q2
      have y3 := (World.cell?_of_block (w := w) (a := ⟨ab, ao + j * 4 + 3, none⟩) e).trans q3
      clear q0 q1 q2 q3 hact e
      have HOO : Hid (SaAt w wr b S T j) := hO
      clear hO
      have hand := i64_and3 X1
      have ht4 : 0 ≤ X1 % 4 ∧ X1 % 4 ≤ 3 := by omega
      obtain ⟨t, htt⟩ : ∃ t, X1 % 4 = t := ⟨_, rfl⟩
      rw [htt] at hand ht4
      clear htt
      have hwr : wrap64 (t + 1) = t + 1 := by unfold wrap64; omega
      go_wp2_with fail
      refine (HNM.out _ _).mono ?_
      rintro e w3 ⟨nm, r0, r1, r2, r3, hok, rfl, b3⟩
      have HOK : Hid (NmOk nm) := hok
      clear hok
      obtain ⟨n0, n1, n2, n3⟩ := nm
      unfold nval
      simp only
      have B0 : Below wr.heap.size wr (wr.alloc (.cells #[.int .i64 X0, .int .i64 (t + 1), .int .i64 X2, .int .i64 X3] 27)) := (Below.refl _ _).alloc (Nat.le_refl _) _
      have hbA : w3.heap[wr.heap.size]? = some (.cells #[.int .i64 X0, .int .i64 (t + 1), .int .i64 X2, .int .i64 X3] 27) := (b3.block wr.heap.size (by simp)).trans (heap_alloc_new wr _)
      have hO3 := (HOO.out.below B0).below b3
      have hA3 : wr.heap.size < w3.heap.size := by have := b3.size; simp at this; omega
      clear HOO B0 y0 y1 y2 y3 b3
      have B2 : Below w3.heap.size w3 ((w3.alloc (.cells #[.int .i64 n0, .int .i64 n1, .int .u32 n2, .int .i64 n3] 33)).alloc (.cells #[.int .i64 r0, .int .i64 r1, .int .u32 r2, .int .i64 r3] 35)) := ((Below.refl _ _).alloc (Nat.le_refl _) _).alloc (by simp) _
      have hO4 := hO3.below B2
      have hbA4 := (B2.block wr.heap.size hA3).trans hbA
      have hbN4 : ((w3.alloc (.cells #[.int .i64 n0, .int .i64 n1, .int .u32 n2, .int .i64 n3] 33)).alloc (.cells #[.int .i64 r0, .int .i64 r1, .int .u32 r2, .int .i64 r3] 35)).heap[w3.heap.size]? = some (.cells #[.int .i64 n0, .int .i64 n1, .int .u32 n2, .int .i64 n3] 33) := by
        rw [Below.heap_alloc _ _ _ (by simp)]
        exact heap_alloc_new w3 _
      have HO4 : Hid (SaAt w ((w3.alloc (.cells #[.int .i64 n0, .int .i64 n1, .int .u32 n2, .int .i64 n3] 33)).alloc (.cells #[.int .i64 r0, .int .i64 r1, .int .u32 r2, .int .i64 r3] 35)) b S T j) := hO4
      have hS0 : Hid (¬ S 0 ∧ ¬ S 1) := ⟨fun x => by have := hO3.soff 0 x; have := HLD.out.2; omega, fun x => by have := hO3.soff 1 x; have := HLD.out.2; omega⟩
      clear hO3 hO4 B2 hbA
      go_upto_region 10 with fail
      generalize ((w3.alloc (.cells #[.int .i64 n0, .int .i64 n1, .int .u32 n2, .int .i64 n3] 33)).alloc (.cells #[.int .i64 r0, .int .i64 r1, .int .u32 r2, .int .i64 r3] 35)) = W at *
      have a0 : W.cell? ⟨wr.heap.size, 0, none⟩ = some (.int .i64 X0) := by simp [World.cell?, hbA4]
      have a1 : W.cell? ⟨wr.heap.size, 1, none⟩ = some (.int .i64 (t + 1)) := by simp [World.cell?, hbA4]
      have a2 : W.cell? ⟨wr.heap.size, 2, none⟩ = some (.int .i64 X2) := by simp [World.cell?, hbA4]
      have a3 : W.cell? ⟨wr.heap.size, 3, none⟩ = some (.int .i64 X3) := by simp [World.cell?, hbA4]
      have m0 : W.cell? ⟨w3.heap.size, 0, none⟩ = some (.int .i64 n0) := by simp [World.cell?, hbN4]
      have m1 : W.cell? ⟨w3.heap.size, 1, none⟩ = some (.int .i64 n1) := by simp [World.cell?, hbN4]
      have m2 : W.cell? ⟨w3.heap.size, 2, none⟩ = some (.int .u32 n2) := by simp [World.cell?, hbN4]
      have m3 : W.cell? ⟨w3.heap.size, 3, none⟩ = some (.int .i64 n3) := by simp [World.cell?, hbN4]
      clear hbA4 hbN4
      have hld : LkLaid W := HLD.out.1.below HLD.out.2 HO4.out.bel
      have hR := release_safe hld HO4.out.tab HO4.out.inv (by omega) hS0.out HNSH.out (tx := t + 1) ⟨by omega, by omega⟩
      have hC := cancel_safe hld HO4.out.tab HO4.out.inv (by omega) hS0.out (tx := t + 1) ⟨by omega, by omega⟩
      have HK : Hid (∀ (ins wt : Bool), Calls Tryd.prog 10 #[.pointer (some ⟨b, 0, none⟩), .int .i64 (t + 1), .agg #[.int .i64 n0, .int .i64 n1, .int .u32 n2, .int .i64 n3], .int .i64 X3, .bool ins, .bool wt] W fun e w' => ∃ r c S' T', e = .returned (.tuple #[.bool r, .int .i64 c]) ∧ IsTab S' w' b T' ∧ STab T' (j + 1) ∧ MovesL S S' W w') := fun ins wt => ask_safe hld HO4.out.tab HO4.out.inv (by omega) (tx := t + 1) ⟨by omega, by omega⟩ HOK.out X3 ins wt
      unfold ptr at hR hC
      clear hld hS0
      go_upto_block 2 with fail
      go_cut [] from 50 to 74 (fun wx => Hid (∃ S T, SaAt w wx b S T (j + 1)))
      case first =>
        by_cases h5 : X0 = 5
        · subst h5
          clear hC HK
          go_wp2_with fail
          refine hR.mono ?_
          rintro e w5 ⟨vv, S', T', rfl, k1, k2, k3⟩
          have HF : Hid (∃ S T, SaAt w w5 b S T (j + 1)) := ⟨S', T', HO4.out.moves k3 k1 k2⟩
          clear hR k1 k2 k3 HO4
          go_wp2
          go_meet
          case rel => exact HF
        · have h5' : (X0 == 5) = false := by rw [beq_eq_false_iff_ne]; exact h5
          by_cases h6 : X0 = 6
          · subst h6
            clear hR HK
            go_wp2_with fail
            refine hC.mono ?_
            rintro e w5 ⟨vv, S', T', rfl, k1, k2, k3⟩
            have HF : Hid (∃ S T, SaAt w w5 b S T (j + 1)) := ⟨S', T', HO4.out.moves k3 k1 k2⟩
            clear hC k1 k2 k3 HO4
            go_wp2
            go_meet
            case rel => exact HF
          · have h6' : (X0 == 6) = false := by rw [beq_eq_false_iff_ne]; exact h6
            clear hR hC
            go_wp2_with fail
            refine (HK.out _ _).mono ?_
            rintro e w5 ⟨rr, cc, S', T', rfl, k1, k2, k3⟩
            have HF : Hid (∃ S T, SaAt w w5 b S T (j + 1)) := ⟨S', T', HO4.out.moves k3 k1 k2⟩
            clear HK k1 k2 k3 HO4
            go_wp2
            go_meet
            case rel => exact HF
      case rest =>
        have HCU := hcut
        clear hcut hR hC HK HO4 HOK a0 a1 a2 a3 m0 m1 m2 m3
        obtain ⟨S, T, hO⟩ := HCU.out
        have H20 : Hid (SaAt w wc b S T (j + 1)) := hO
        have HCN : Hid (CntAt T 1 0 0 false) := CntAt.start T
        clear HCU hO
        go_wp2_with fail
        go_loopw [8, 9, 10, 11] (fun vw vf vc vx wr => ∃ (x wt fr : Nat) (cy : Bool), 1 ≤ x ∧ x ≤ 5 ∧ wt ≤ 4 ∧ fr ≤ 4 ∧ vw = .int .i64 (wt : Int) ∧ vf = .int .i64 (fr : Int) ∧ vc = .bool cy ∧ vx = .int .i64 (x : Int) ∧ Hid (SaAt w wr b S T (j + 1)) ∧ Hid (CntAt T x wt fr cy)) (fun _ _ _ vx _ => 5 - (intOf vx).toNat)
        case atStart => exact ⟨1, 0, 0, false, by omega, by omega, by omega, by omega, rfl, rfl, rfl, rfl, H20, HCN⟩
        case round =>
          obtain ⟨x, wt, fr, cy, hx1, hx5, hw4, hf4, rfl, rfl, rfl, rfl, H2, HC2⟩ := hrel
          clear H20 HCN
          by_cases h4 : x ≤ 4
          · have h4' : (x : Int) ≤ 4 := by omega
            have hW := waits_any H2.out.tab (x : Int) ⟨by omega, by omega⟩
            obtain ⟨bw, HBW⟩ : ∃ bw, Hid ((T.W (x : Int)).isSome = bw) := ⟨_, rfl⟩
            rw [HBW.out] at hW
            go_wp2_with fail
            refine hW.mono ?_
            rintro e w5 ⟨rfl, b5⟩
            have H5 : Hid (SaAt w w5 b S T (j + 1)) := H2.out.below b5
            clear hW b5 H2
            have hcsum := HC2.out.sum
            go_upto_if 81 with fail
            go_cut [8, 9, 10] from 81 to 98 (fun v8 v9 v10 wx => ∃ (wt' fr' : Nat) (cy' : Bool), v8 = .int .i64 (wt' : Int) ∧ v9 = .int .i64 (fr' : Int) ∧ v10 = .bool cy' ∧ wt' ≤ 4 ∧ fr' ≤ 4 ∧ Hid (SaAt w wx b S T (j + 1)) ∧ Hid (CntAt T (x + 1) wt' fr' cy'))
            case first =>
              cases bw with
              | false =>
                go_wp2
                go_meet
                case rel => exact ⟨wt, fr + 1, cy, rfl, by go_num, rfl, by omega, by omega, H5, HC2.out.free HBW.out⟩
              | true =>
                have hB5 : Hid (∀ wx, Below w5.heap.size w5 wx → Calls Tryd.prog 13 #[.pointer (some ⟨b, 0, none⟩), .int .i64 (x : Int)] wx fun e w' => ∃ (k c : Nat) (va : Option Addr), e = .returned (.slice va k c) ∧ 0 < k ∧ k ≤ 1000000 ∧ Below wx.heap.size wx w') := fun wx k => by
                  have hq := H5.out.below k
                  refine (su_calls (HLD.out.1.below HLD.out.2 hq.bel) hq.tab hq.inv (t := (x : Int)) ⟨by omega, by omega⟩).mono ?_
                  rintro e w' ⟨v, rfl, hi, kk⟩
                  obtain ⟨va, c, rfl⟩ := hi.val
                  obtain ⟨n, hn⟩ := Option.isSome_iff_exists.1 HBW.out
                  exact ⟨_, c, va, rfl, List.length_pos_iff.2 (hq.inv.su_ne hn), hq.inv.su_len _, kk⟩
                cases cy with
                | true =>
                  go_wp2_with fail
                  refine (hB5.out _ (Below.refl _ _)).mono ?_
                  rintro e w6 ⟨k, c, va, rfl, hk, hkm, b6⟩
                  have H6 : Hid (SaAt w w6 b S T (j + 1)) := H5.out.below b6
                  have hk0 : ((k : Int) == 0) = false := by rw [beq_eq_false_iff_ne]; omega
                  clear hB5 b6
                  go_wp2
                  go_meet
                  case rel => exact ⟨wt + 1, fr, true, by go_num, rfl, rfl, by omega, by omega, H6, HC2.out.wait HBW.out fun e => by cases e⟩
                | false =>
                  have hCy := cyc_safe (HLD.out.1.below HLD.out.2 H5.out.bel) H5.out.tab H5.out.inv (t := (x : Int)) ⟨by omega, by omega⟩
                  go_wp2_with fail
                  refine hCy.mono ?_
                  rintro e w6 ⟨va, k, c, rfl, b6, hkB⟩
                  have HKB : Hid (k = 0 → ∃ B : Int → Prop, (∀ z ∈ suT T (x : Int), B z) ∧ Closed (suT T) B ∧ ¬ B (x : Int)) := hkB
                  have H6 : Hid (SaAt w w6 b S T (j + 1)) := H5.out.below b6
                  have hB6 := hB5.out w6 b6
                  clear hCy hkB b6 hB5
                  by_cases hk0 : k = 0
                  · subst hk0
                    go_wp2_with fail
                    refine hB6.mono ?_
                    rintro e w7 ⟨k, c, va, rfl, hk, hkm, b7⟩
                    have H7 : Hid (SaAt w w7 b S T (j + 1)) := H6.out.below b7
                    have hk0 : ((k : Int) == 0) = false := by rw [beq_eq_false_iff_ne]; omega
                    clear hB6 b7
                    go_wp2
                    go_meet
                    case rel => exact ⟨wt + 1, fr, false, by go_num, rfl, rfl, by omega, by omega, H7, HC2.out.wait HBW.out fun _ => ⟨rfl, HKB.out trivial⟩⟩
                  · have hkp : (0 : Int) < (k : Int) := by omega
                    go_wp2_with fail
                    refine hB6.mono ?_
                    rintro e w7 ⟨k', c, va, rfl, hk, hkm, b7⟩
                    have H7 : Hid (SaAt w w7 b S T (j + 1)) := H6.out.below b7
                    have hk0' : ((k' : Int) == 0) = false := by rw [beq_eq_false_iff_ne]; omega
                    clear hB6 b7
                    go_wp2
                    go_meet
                    case rel => exact ⟨wt + 1, fr, true, by go_num, rfl, by rw [decide_eq_true (by omega)], by omega, by omega, H7, HC2.out.wait HBW.out fun e => by cases e⟩
            case rest =>
              obtain ⟨wt', fr', cy', rfl, rfl, rfl, hw4', hf4', H6, HC6⟩ := hcut
              clear HC2 H5 HBW hcsum
              go_wp2_with fail
              go_loopw [12] (fun vy wr => ∃ y : Nat, 1 ≤ y ∧ y ≤ x ∧ vy = .int .i64 (y : Int) ∧ Hid (SaAt w wr b S T (j + 1))) (fun vy _ => x - (intOf vy).toNat)
              case atStart => exact ⟨1, by omega, by omega, rfl, H6⟩
              case round =>
                obtain ⟨y, hy1, hyx, rfl, H7⟩ := hrel
                clear H6
                by_cases hyl : y < x
                · have hyl' : (y : Int) < x := by omega
                  go_wp2_with fail
                  go_loopw [13] (fun vk wr => ∃ k : Nat, k ≤ 8 ∧ vk = .int .i64 (k : Int) ∧ Hid (SaAt w wr b S T (j + 1))) (fun vk _ => 8 - (intOf vk).toNat)
                  case atStart => exact ⟨0, by omega, rfl, H7⟩
                  case round =>
                    obtain ⟨k, hk8, rfl, H8⟩ := hrel
                    clear H7
                    by_cases hkl : k < 8
                    · have hkl' : (k : Int) < 8 := by omega
                      go_wp2_with fail
                      refine (HNM.out _ _).mono ?_
                      rintro e w9 ⟨nm, q0, q1, q2, q3, hok, rfl, b9⟩
                      have hO9 := H8.out.below b9
                      obtain ⟨n0, n1, n2, n3⟩ := nm
                      obtain ⟨l, hkey⟩ := hok.1
                      have HKY : Hid (NKey (n0, n1, n2, n3) l) := hkey
                      clear hok b9 H8 hkey
                      unfold nval
                      simp only
                      have BB : Below w9.heap.size w9 ((w9.alloc (.cells #[.int .i64 n0, .int .i64 n1, .int .u32 n2, .int .i64 n3] 33)).alloc (.cells #[.int .i64 q0, .int .i64 q1, .int .u32 q2, .int .i64 q3] 35)) := ((Below.refl _ _).alloc (Nat.le_refl _) _).alloc (by simp) _
                      have hbN : ((w9.alloc (.cells #[.int .i64 n0, .int .i64 n1, .int .u32 n2, .int .i64 n3] 33)).alloc (.cells #[.int .i64 q0, .int .i64 q1, .int .u32 q2, .int .i64 q3] 35)).heap[w9.heap.size]? = some (.cells #[.int .i64 n0, .int .i64 n1, .int .u32 n2, .int .i64 n3] 33) := by
                        rw [Below.heap_alloc _ _ _ (by simp)]
                        exact heap_alloc_new w9 _
                      have H9 : Hid (SaAt w ((w9.alloc (.cells #[.int .i64 n0, .int .i64 n1, .int .u32 n2, .int .i64 n3] 33)).alloc (.cells #[.int .i64 q0, .int .i64 q1, .int .u32 q2, .int .i64 q3] 35)) b S T (j + 1)) := hO9.below BB
                      clear hO9 BB
                      go_upto_region 33 with fail
                      generalize ((w9.alloc (.cells #[.int .i64 n0, .int .i64 n1, .int .u32 n2, .int .i64 n3] 33)).alloc (.cells #[.int .i64 q0, .int .i64 q1, .int .u32 q2, .int .i64 q3] 35)) = W9 at *
                      have m0 : W9.cell? ⟨w9.heap.size, 0, none⟩ = some (.int .i64 n0) := by simp [World.cell?, hbN]
                      have m1 : W9.cell? ⟨w9.heap.size, 1, none⟩ = some (.int .i64 n1) := by simp [World.cell?, hbN]
                      have m2 : W9.cell? ⟨w9.heap.size, 2, none⟩ = some (.int .u32 n2) := by simp [World.cell?, hbN]
                      have m3 : W9.cell? ⟨w9.heap.size, 3, none⟩ = some (.int .i64 n3) := by simp [World.cell?, hbN]
                      obtain ⟨MX, HMX⟩ : ∃ M, Hid ((oneF (T.Q (n0, n1, n2, n3)) (x : Int)).2.1 = M) := ⟨_, rfl⟩
                      obtain ⟨MY, HMY⟩ : ∃ M, Hid ((oneF (T.Q (n0, n1, n2, n3)) (y : Int)).2.1 = M) := ⟨_, rfl⟩
                      have cX : ∀ dd os, Calls Tryd.prog 14 #[.pointer (some ⟨b, 0, none⟩), .int .i64 (x : Int), .agg #[.int .i64 n0, .int .i64 n1, .int .u32 n2, .int .i64 n3]] (grow (redrawn W9 dd) os) fun e w'' => e = .returned (.int .i64 MX) ∧ ∃ p : Regrown, w'' = grow (redrawn W9 p.d) p.os := fun dd os => by
                        refine Calls.regrown_of ?_
                        have := has_any (H9.out.below (below_regrown W9 dd os)).tab (x : Int) (n0, n1, n2, n3) l HKY.out
                        rw [HMX.out] at this
                        exact this
                      have cY : ∀ dd os, Calls Tryd.prog 14 #[.pointer (some ⟨b, 0, none⟩), .int .i64 (y : Int), .agg #[.int .i64 n0, .int .i64 n1, .int .u32 n2, .int .i64 n3]] (grow (redrawn W9 dd) os) fun e w'' => e = .returned (.int .i64 MY) ∧ ∃ p : Regrown, w'' = grow (redrawn W9 p.d) p.os := fun dd os => by
                        refine Calls.regrown_of ?_
                        have := has_any (H9.out.below (below_regrown W9 dd os)).tab (y : Int) (n0, n1, n2, n3) l HKY.out
                        rw [HMY.out] at this
                        exact this
                      have cC : ∀ dd os, MX ≠ 0 → MY ≠ 0 → Calls Tryd.prog 15 #[.int .i64 MX, .int .i64 MY] (grow (redrawn W9 dd) os) fun e w'' => e = .returned (.bool true) ∧ ∃ p : Regrown, w'' = grow (redrawn W9 p.d) p.os := fun dd os h1 h2 => by
                        refine Calls.regrown_of ?_
                        have hb := H9.out.below (below_regrown W9 dd os)
                        refine (compat_any MX MY _ (HLD.out.1.below HLD.out.2 hb.bel)).mono ?_
                        rintro e w'' ⟨rfl, rfl⟩
                        have hg := hb.inv.gets (n0, n1, n2, n3) (x := (x : Int)) (y := (y : Int)) (by omega) (by rw [HMX.out]; exact h1) (by rw [HMY.out]; exact h2)
                        rw [HMX.out, HMY.out] at hg
                        rw [hg]
                        exact ⟨rfl, Below.refl _ _⟩
                      have g0 := cell_regrown m0
                      have g1 := cell_regrown m1
                      have g2 := cell_regrown m2
                      have g3 := cell_regrown m3
                      clear m0 m1 m2 m3 hbN
                      by_cases hMX : MX = 0
                      · have e1 : (MX != 0) = false := by simp [hMX]
                        refine wp_region_quiet_below lkMixedO (by kernel_rfl) ?_
                        repeat (first | go_big_quiet_step (first | (go_at_call 14; exact cX _ _)) | quiet_step (first | (go_at_call 14; exact cX _ _)))
                        refine wpQuiet_nil ?_
                        intro _ hw'
                        obtain ⟨⟨dq, osq⟩, hw''⟩ := hw'
                        have b7 := below_regrown W9 dq osq
                        rw [← hw''] at b7
                        rename_i w10
                        have HF : Hid (SaAt w w10 b S T (j + 1)) := H9.out.below b7
                        clear hw'' g0 g1 g2 g3 cX cY cC b7 H9
                        go_wp2
                        go_roundw
                        case rel => exact ⟨k + 1, by omega, by go_num, HF⟩
                        case measure => simp [intOf]; omega
                      · have e1 : (MX != 0) = true := by rw [bne_iff_ne]; exact hMX
                        by_cases hMY : MY = 0
                        · have e2 : (MY != 0) = false := by simp [hMY]
                          refine wp_region_quiet_below lkMixedO (by kernel_rfl) ?_
                          iterate 6 (first | go_big_quiet_step (first | (go_at_call 14; exact cX _ _)) | quiet_step (first | (go_at_call 14; exact cX _ _)))
                          repeat (first | go_big_quiet_step (first | (go_at_call 14; exact cY _ _)) | quiet_step (first | (go_at_call 14; exact cY _ _)))
                          refine wpQuiet_nil ?_
                          intro _ hw'
                          obtain ⟨⟨dq, osq⟩, hw''⟩ := hw'
                          have b7 := below_regrown W9 dq osq
                          rw [← hw''] at b7
                          rename_i w10
                          have HF : Hid (SaAt w w10 b S T (j + 1)) := H9.out.below b7
                          clear hw'' g0 g1 g2 g3 cX cY cC b7 H9
                          go_wp2
                          go_roundw
                          case rel => exact ⟨k + 1, by omega, by go_num, HF⟩
                          case measure => simp [intOf]; omega
                        · have e2 : (MY != 0) = true := by rw [bne_iff_ne]; exact hMY
                          have cC' := fun dd os => cC dd os hMX hMY
                          refine wp_region_quiet_below lkMixedO (by kernel_rfl) ?_
                          iterate 6 (first | go_big_quiet_step (first | (go_at_call 14; exact cX _ _)) | quiet_step (first | (go_at_call 14; exact cX _ _)))
                          iterate 7 (first | go_big_quiet_step (first | (go_at_call 14; exact cY _ _)) | quiet_step (first | (go_at_call 14; exact cY _ _)))
                          iterate 4 (first | go_big_quiet_step (first | (go_at_call 14; exact cX _ _)) | quiet_step (first | (go_at_call 14; exact cX _ _)))
                          iterate 4 (first | go_big_quiet_step (first | (go_at_call 14; exact cY _ _)) | quiet_step (first | (go_at_call 14; exact cY _ _)))
                          repeat (first | go_big_quiet_step (first | (go_at_call 15; exact cC' _ _)) | quiet_step (first | (go_at_call 15; exact cC' _ _)))
                          refine wpQuiet_nil ?_
                          intro _ hw'
                          obtain ⟨⟨dq, osq⟩, hw''⟩ := hw'
                          have b7 := below_regrown W9 dq osq
                          rw [← hw''] at b7
                          rename_i w10
                          have HF : Hid (SaAt w w10 b S T (j + 1)) := H9.out.below b7
                          clear hw'' g0 g1 g2 g3 cX cY cC cC' b7 H9
                          go_wp2
                          go_roundw
                          case rel => exact ⟨k + 1, by omega, by go_num, HF⟩
                          case measure => simp [intOf]; omega
                    · have hkl' : ¬ (k : Int) < 8 := by omega
                      go_wp2
                      go_roundw
                      case rel => exact ⟨y + 1, by omega, by omega, by go_num, H8⟩
                      case measure => simp [intOf]; omega
                · have hyl' : ¬ (y : Int) < x := by omega
                  go_wp2
                  go_roundw
                  case rel => exact ⟨x + 1, wt', fr', cy', by omega, by omega, by omega, by omega, rfl, rfl, rfl, by go_num, H7, HC6⟩
                  case measure => simp [intOf]; omega
          · obtain rfl : x = 5 := by omega
            have HF : Hid (∃ S T, SaAt w wr b S T (j + 1)) := ⟨S, T, H2.out⟩
            have hcsum := HC2.out.sum
            by_cases hwt : 0 < (wt : Int)
            · by_cases hfr : fr = 0
              · subst hfr
                cases cy with
                | false => exact absurd (HC2.out.end' H2.out.inv) (fun x => x)
                | true =>
                  clear HC2 H2
                  go_wp2
                  go_roundw
                  case rel => exact ⟨j + 1, by omega, by omega, by go_num, HF⟩
                  case measure => simp [intOf]; omega
              · have hfr' : ((fr : Int) == 0) = false := by rw [beq_eq_false_iff_ne]; omega
                clear HC2 H2
                go_wp2
                go_roundw
                case rel => exact ⟨j + 1, by omega, by omega, by go_num, HF⟩
                case measure => simp [intOf]; omega
            · clear HC2 H2
              go_wp2
              go_roundw
              case rel => exact ⟨j + 1, by omega, by omega, by go_num, HF⟩
              case measure => simp [intOf]; omega
    · have hbel : Hid (Below w.heap.size w wr) := by obtain ⟨S, T, hO⟩ := H1.out; exact hO.bel
      clear H1
      by_cases hjn : (j : Int) < n
      · have hj3 : ¬ (j : Int) < 60 := by omega
        clear hlt
        go_wp2
        go_ret
        exact ⟨rfl, hbel.out⟩
      · clear hlt
        go_wp2
        go_ret
        exact ⟨rfl, hbel.out⟩

end Go.Proofs.YthagomibjlcfmaaDoor
