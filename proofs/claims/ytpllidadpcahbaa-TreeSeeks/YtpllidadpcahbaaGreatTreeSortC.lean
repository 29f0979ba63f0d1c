/-
  girderlaw13.sorted: entries, each once, in order.
-/
import Derived.Test.YtpllidadpcahbaaGreatBase12C
namespace Go.Proofs.YtpllidadpcahbaaGreat
open Go.RowKit Go.Sort
set_option linter.unusedVariables false
set_option linter.unusedSimpArgs false

theorem ents_take {w : World} {b o : Nat} {M : List EntV} (h : EntsAt w (some ⟨b, o, none⟩) M) (n : Nat) : EntsAt w (some ⟨b, o, none⟩) (M.take n) := by
  rcases h with q | ⟨b', o', e1, hb, hc⟩
  · subst q; exact .inl (by simp)
  · simp only [Option.some.injEq, Addr.mk.injEq, and_true] at e1
    obtain ⟨rfl, rfl⟩ := e1
    refine .inr ⟨b, o, rfl, hb, fun i hi j v hv => ?_⟩
    have hi' : i < M.length := by rw [List.length_take] at hi; omega
    rw [List.getElem_take] at hv
    exact hc i hi' j v hv

theorem ents_drop {w : World} {b o : Nat} {M : List EntV} (h : EntsAt w (some ⟨b, o, none⟩) M) (n : Nat) : EntsAt w (some ⟨b, o + n * 3, none⟩) (M.drop n) := by
  rcases h with q | ⟨b', o', e1, hb, hc⟩
  · subst q; exact .inl (by simp)
  · simp only [Option.some.injEq, Addr.mk.injEq, and_true] at e1
    obtain ⟨rfl, rfl⟩ := e1
    refine .inr ⟨b, o + n * 3, rfl, hb, fun i hi j v hv => ?_⟩
    have hi' : n + i < M.length := by rw [List.length_drop] at hi; omega
    rw [List.getElem_drop] at hv
    have := hc (n + i) hi' j v hv
    rwa [show o + (n + i) * 3 + j = o + n * 3 + i * 3 + j by omega] at this

/-- Where an entry has its place. -/
structure EPlace (L : List EntV) (e : EntV) (k : Nat) : Prop where
  le : k ≤ L.length
  less : ∀ j (h : j < L.length), j < k → ltE L[j] e = true
  stop : ∀ h : k < L.length, ltE L[k] e = false

theorem SortedE.ins {L : List EntV} {e : EntV} {k : Nat} (h : SortedE L) (p : EPlace L e k) (hl : L.length < 24) (he : e.Short) (hne : ∀ h : k < L.length, L[k] ≠ e) : SortedE ((([] ++ L.take k) ++ [e]) ++ L.drop k) := by
  have hgt : ∀ y ∈ L.drop k, ltE e y = true := fun y hy => by
    obtain ⟨j, hj, rfl⟩ := List.getElem_of_mem hy
    rw [List.length_drop] at hj
    rw [List.getElem_drop]
    have hk : k < L.length := by omega
    have h0 : ltE e L[k] = true := by
      rcases ltE_total e L[k] with q | q | q
      · exact q
      · exact absurd q.symm (hne hk)
      · rw [p.stop hk] at q; cases q
    by_cases q : j = 0
    · subst q; exact h0
    · exact ltE_trans h0 (List.pairwise_iff_getElem.1 h.rise k (k + j) hk (by omega) (by omega))
  have hlt : ∀ x ∈ L.take k, ltE x e = true := fun x hx => by
    obtain ⟨j, hj, rfl⟩ := List.getElem_of_mem hx
    rw [List.length_take] at hj
    rw [List.getElem_take]
    exact p.less j (by omega) (by omega)
  refine ⟨?_, ?_, ?_⟩
  · rw [List.nil_append, List.append_assoc, List.pairwise_append, List.singleton_append, List.pairwise_cons]
    refine ⟨h.rise.sublist (List.take_sublist _ _), ⟨hgt, h.rise.sublist (List.drop_sublist _ _)⟩, fun x hx y hy => ?_⟩
    rcases List.mem_cons.1 hy with q | q
    · rw [q]; exact hlt x hx
    · exact ltE_trans (hlt x hx) (hgt y q)
  · simp; omega
  · intro x hx
    simp only [List.nil_append, List.mem_append, List.mem_singleton] at hx
    rcases hx with (q | q) | q
    · exact h.short x (List.mem_of_mem_take q)
    · rw [q]; exact he
    · exact h.short x (List.mem_of_mem_drop q)

theorem EntV.cut_short {e : EntV} (h : e.page < 4294967296) : (e.cut 8).Short := ⟨EntV.cut_may 8 h, cutKey_size 8 e.key⟩

theorem OwnR.rebase {α : Type} {k : Nat} {enc : α → List Value} {te : TypeId} {w : World} {base base' g cap : Nat} {M : List α} (h : OwnR k enc te w base g cap M) (hb : base' ≤ base) : OwnR k enc te w base' g cap M := by
  obtain ⟨cur, h1, h2, h3, h4, h5, h6⟩ := h.parts
  exact ⟨h.1, .inr ⟨g, cap, cur, rfl, Nat.le_trans hb h1, h2, h3, h4, h5, h6⟩⟩

/-- Where sorted stands. -/
structure SoAt (w wr : World) (g cap : Nat) (L : List EntV) : Prop where
  own : OwnR 3 EntV.enc 28 wr w.heap.size g cap L
  sort : SortedE L
  bel : Below w.heap.size w wr

theorem SoAt.below {w wr wx : World} {g cap : Nat} {L : List EntV} (h : SoAt w wr g cap L) (k : Below wr.heap.size wr wx) : SoAt w wx g cap L := ⟨h.own.below k, h.sort, below_chain h.bel k⟩

set_option maxHeartbeats 6400000 in
set_option maxRecDepth 20000 in
theorem sorted_any (a : Option Addr) (c : Nat) (X : List EntV) (w : World) (hX : EntsAt w a X) (hl : X.length ≤ 9223372036854775806) (hp : ∀ x ∈ X, x.page < 4294967296 ∧ x.key.size ≤ 140737488351232) :
    Calls Tryz.prog 5 #[.slice a X.length c] w fun r w' => ∃ g cap L, r = .returned (.slice (some ⟨g, 0, none⟩) L.length cap) ∧ SoAt w w' g cap L := by
  obtain ⟨W, HW⟩ : ∃ W, Hid (W = w.alloc (.cells #[] 28)) := ⟨_, rfl⟩
  have S0 : SoAt w W w.heap.size 0 [] := by
    rw [HW.out]
    exact ⟨OwnR.new w (Nat.le_refl _), ⟨List.Pairwise.nil, by simp, by simp⟩, (Below.refl _ _).alloc (Nat.le_refl _) _⟩
  have HCU : Hid (∀ e ∈ X, ∀ wx, Calls Tryz.prog 16 #[.agg #[.string e.key, .int .u32 e.page, .int .i64 e.slot]] wx fun r w' => r = .returned (.agg #[.string (e.cut 8).key, .int .u32 (e.cut 8).page, .int .i64 (e.cut 8).slot]) ∧ Below wx.heap.size wx w') := fun e he wx => cut13_any e wx (hp e he).2
  have HSH : Hid (∀ e ∈ X, (e.cut 8).Short) := fun e he => EntV.cut_short (hp e he).1
  clear hp
  go_enter Tryz.func5, Tryz.ntmps5
  go_wp2_with fail
  rw [← HW.out]
  clear HW
  go_loopw [3, 4] (fun v3 v4 wr => ∃ (i g cap : Nat) (L : List EntV), v4 = .int .i64 i ∧ i ≤ X.length ∧ v3 = .slice (some ⟨g, 0, none⟩) L.length cap ∧ Hid (SoAt w wr g cap L)) (fun _ v4 _ => X.length - (intOf v4).toNat)
  case atStart => exact ⟨0, w.heap.size, 0, [], rfl, by omega, rfl, S0⟩
  case round =>
    obtain ⟨i, g, cap, L, rfl, hi, rfl, HS⟩ := hrel
    have hL24 := HS.out.sort.len
    by_cases hil : i < X.length
    · by_cases hLl : L.length < 24
      · have q0 : (0 : Int) ≤ (i : Int) := by omega
        have q1 : (i : Int) < (X.length : Int) := by omega
        have q2 : (L.length : Int) < 24 := by omega
        obtain ⟨b, o, rfl, hb, c0, c1, c2⟩ := (hX.below HS.out.bel).ent hil
        have HC1 := hidn (HCU.out X[i] (List.getElem_mem hil))
        have hsh := HSH.out X[i] (List.getElem_mem hil)
        generalize X[i] = x at *
        obtain ⟨e, He⟩ : ∃ e, Hid (x.cut 8 = e) := ⟨_, rfl⟩
        rw [He.out] at hsh HC1
        go_wp2_with fail
        refine (HC1.out wr).mono ?_
        rintro r w2 ⟨rfl, b2⟩
        obtain ⟨W3, HW3⟩ : ∃ W3, Hid (W3 = w2.alloc (.cells #[.string e.key, .int .u32 e.page, .int .i64 e.slot] 28)) := ⟨_, rfl⟩
        have k3 : Below w2.heap.size w2 W3 := by rw [HW3.out]; exact (Below.refl _ _).alloc (Nat.le_refl _) _
        have E3 : EBox W3 w2.heap.size e := by rw [HW3.out]; exact EBox.new _ _
        have H3 := hidn (HS.out.below (below_chain b2 k3))
        clear HC1 He c0 c1 c2 HS
        go_upto_block 2 with fail
        rw [← HW3.out]
        clear HW3
        generalize w2.heap.size = Eb at *
        go_cut [6] from 24 to 37 (fun v6 wx => ∃ k : Nat, v6 = .int .i64 k ∧ Hid (EPlace L e k) ∧ Hid (Below W3.heap.size W3 wx))
        case first =>
          as_aux_lemma =>
          go_wp2_with fail
          go_loopw [6] (fun v6 wr => ∃ k : Nat, k ≤ L.length ∧ v6 = .int .i64 k ∧ Hid (∀ j (h : j < L.length), j < k → ltE L[j] e = true) ∧ Hid (Below W3.heap.size W3 wr)) (fun i _ => L.length - (intOf i).toNat)
          case atStart => exact ⟨0, by omega, rfl, fun j h q => by omega, Below.refl _ _⟩
          case round =>
            obtain ⟨k, hk, rfl, HP, HB⟩ := hrel
            by_cases hkl : k < L.length
            · have r0 : (0 : Int) ≤ (k : Int) := by omega
              have r1 : (k : Int) < (L.length : Int) := by omega
              obtain ⟨bm, om, e1, hbm, d0, d1, d2⟩ := ((OwnR.rows (k := 3) (enc := EntV.enc) (fun x => rfl) (by omega) H3.out.own).below HB.out).ent hkl
              simp only [Option.some.injEq, Addr.mk.injEq, and_true] at e1
              obtain ⟨rfl, rfl⟩ := e1
              rw [Nat.zero_add] at d0 d1 d2
              obtain ⟨u0, u1, u2, ul⟩ := E3.below HB.out E3.lt
              have HBE := hidn (fun wx => before13_any L[k] e wx)
              have gu0 := cell_regrown u0
              have gu1 := cell_regrown u1
              have gu2 := cell_regrown u2
              have gd0 := cell_regrown d0
              have gd1 := cell_regrown d1
              have gd2 := cell_regrown d2
              clear u0 u1 u2 d0 d1 d2
              go_upto_region 7 with fail
              cases hL : ltE L[k] e with
              | true =>
                have HN : Hid (∀ j (h : j < L.length), j < k + 1 → ltE L[j] e = true) := fun j h q => by
                  by_cases hj : j = k
                  · subst hj; exact hL
                  · exact HP.out j h (by omega)
                rw [hL] at HBE
                generalize L[k] = y at *
                simp only [EntV.val] at HBE
                have cB : ∀ dd os, Calls Tryz.prog 11 #[.agg #[.string y.key, .int .u32 y.page, .int .i64 y.slot], .agg #[.string e.key, .int .u32 e.page, .int .i64 e.slot]] (grow (redrawn wr dd) os) fun r w'' => r = .returned (.bool true) ∧ ∃ p : Regrown, w'' = grow (redrawn wr p.d) p.os := fun dd os => Calls.regrown_of (HBE.out _)
                refine wp_region_quiet_below nmixed (by kernel_rfl) ?_
                iterate 12 (quiet_step (first | (go_at_call 11; exact cB _ _)))
                refine wpQuiet_nil ?_
                intro _ hw'
                obtain ⟨⟨dq, osq⟩, hw''⟩ := hw'
                have bb := hidn (below_chain HB.out (below_regrown wr dq osq))
                rw [hw'']
                generalize grow (redrawn wr dq) osq = V9 at *
                go_wp2
                go_roundw
                case rel => exact ⟨k + 1, by omega, by go_num, HN, bb⟩
                case measure => simp [intOf]; omega
              | false =>
                have HN : Hid (EPlace L e k) := ⟨hk, HP.out, fun h => hL⟩
                rw [hL] at HBE
                generalize L[k] = y at *
                simp only [EntV.val] at HBE
                have cB : ∀ dd os, Calls Tryz.prog 11 #[.agg #[.string y.key, .int .u32 y.page, .int .i64 y.slot], .agg #[.string e.key, .int .u32 e.page, .int .i64 e.slot]] (grow (redrawn wr dd) os) fun r w'' => r = .returned (.bool false) ∧ ∃ p : Regrown, w'' = grow (redrawn wr p.d) p.os := fun dd os => Calls.regrown_of (HBE.out _)
                refine wp_region_quiet_below nmixed (by kernel_rfl) ?_
                iterate 12 (quiet_step (first | (go_at_call 11; exact cB _ _)))
                refine wpQuiet_nil ?_
                intro _ hw'
                obtain ⟨⟨dq, osq⟩, hw''⟩ := hw'
                have bb := hidn (below_chain HB.out (below_regrown wr dq osq))
                rw [hw'']
                generalize grow (redrawn wr dq) osq = V9 at *
                go_wp2
                go_meet
                case rel => exact ⟨k, rfl, HN, bb⟩
            · obtain rfl : k = L.length := by omega
              have HN : Hid (EPlace L e L.length) := ⟨hk, HP.out, fun h => by omega⟩
              go_upto_region 7 with fail
              go_quiet (fail)
              go_wp2
              go_meet
              case rel => exact ⟨L.length, rfl, HN, by show RowKit.Below _ _ _; exact below_drewN HB.out _⟩
        obtain ⟨k, rfl, HP, HB7⟩ := hcut
        have H7 := hidn (H3.out.below HB7.out)
        have E7 := E3.below HB7.out E3.lt
        obtain ⟨K0, HK0⟩ : ∃ W, W = wc := ⟨_, rfl⟩
        rw [← HK0] at H7 E7 ⊢
        clear HK0 HB7 H3 E3
        have hkle := HP.out.le
        have hcap := H7.out.own.room
        go_upto_region 9 with fail
        obtain ⟨th, Hth⟩ : ∃ th : Bool, Hid (th = true ↔ ∃ h : k < L.length, L[k] = e) := by
          by_cases h : ∃ h : k < L.length, L[k] = e
          · exact ⟨true, (⟨fun _ => h, fun _ => rfl⟩ : true = true ↔ _)⟩
          · exact ⟨false, (⟨fun q => (by cases q), fun q => absurd q h⟩ : false = true ↔ _)⟩
        go_cut [49] from 38 to 49 (fun v49 wx => v49 = .bool th ∧ Hid (Below K0.heap.size K0 wx))
        case first =>
          as_aux_lemma =>
          by_cases hkl : k < L.length
          · have hth : th = eqE L[k] e := by
              cases he : eqE L[k] e with
              | true => exact Hth.out.2 ⟨hkl, (eqE_iff _ _).1 he⟩
              | false =>
                cases th with
                | false => rfl
                | true =>
                  obtain ⟨_, q⟩ := Hth.out.1 rfl
                  rw [(eqE_iff _ _).2 q] at he; cases he
            have r0 : (0 : Int) ≤ (k : Int) := by omega
            have r1 : (k : Int) < (L.length : Int) := by omega
            obtain ⟨bm, om, e1, hbm, d0, d1, d2⟩ := (OwnR.rows (k := 3) (enc := EntV.enc) (fun x => rfl) (by omega) H7.out.own).ent hkl
            simp only [Option.some.injEq, Addr.mk.injEq, and_true] at e1
            obtain ⟨rfl, rfl⟩ := e1
            rw [Nat.zero_add] at d0 d1 d2
            obtain ⟨u0, u1, u2, ul⟩ := E7
            clear Hth
            generalize L[k] = y at *
            by_cases h1 : y.key.toList = e.key.toList
            · by_cases h2 : (y.page : Int) = e.page
              · by_cases h3 : y.slot = e.slot
                · have he : eqE y e = true := by unfold eqE; simp [h1, h2, h3]
                  go_quiet (fail)
                  go_wp2
                  go_meet
                  case rel => exact ⟨by rw [hth, he], by show RowKit.Below _ _ _; exact below_drewN (Below.refl _ _) _⟩
                · have he : eqE y e = false := by unfold eqE; simp [h1, h2, h3]
                  go_quiet (fail)
                  go_wp2
                  go_meet
                  case rel => exact ⟨by rw [hth, he], by show RowKit.Below _ _ _; exact below_drewN (Below.refl _ _) _⟩
              · have he : eqE y e = false := by unfold eqE; simp [h1, h2]
                go_quiet (fail)
                go_wp2
                go_meet
                case rel => exact ⟨by rw [hth, he], by show RowKit.Below _ _ _; exact below_drewN (Below.refl _ _) _⟩
            · have he : eqE y e = false := by unfold eqE; simp [h1]
              go_quiet (fail)
              go_wp2
              go_meet
              case rel => exact ⟨by rw [hth, he], by show RowKit.Below _ _ _; exact below_drewN (Below.refl _ _) _⟩
          · have hth : th = false := by
              cases th with
              | false => rfl
              | true => obtain ⟨q, _⟩ := Hth.out.1 rfl; exact absurd q hkl
            have r1 : ¬ (k : Int) < (L.length : Int) := by omega
            go_quiet (fail)
            go_wp2
            go_meet
            case rel => exact ⟨by rw [hth], by show RowKit.Below _ _ _; exact below_drewN (Below.refl _ _) _⟩
        obtain ⟨rfl, HB8⟩ := hcut
        have H8 := hidn (H7.out.below HB8.out)
        have E8 := E7.below HB8.out E7.lt
        obtain ⟨W, HW⟩ : ∃ W, W = wc := ⟨_, rfl⟩
        rw [← HW] at H8 E8 ⊢
        clear HW HB8 H7 E7
        cases th with
        | true =>
          go_wp2
          go_roundw
          case rel => exact ⟨i + 1, g, cap, L, by go_num, by omega, rfl, H8⟩
          case measure => simp [intOf]; omega
        | false =>
          have hne : ∀ h : k < L.length, L[k] ≠ e := fun h q => by have := Hth.out.2 ⟨h, q⟩; cases this
          have HIN := hidn (H8.out.sort.ins HP.out hLl hsh hne)
          have HBL := hidn H8.out.bel
          clear Hth hne
          obtain ⟨s0, s1, s2, sl⟩ := E8
          have hrow := OwnR.rows (k := 3) (enc := EntV.enc) (fun x => rfl) (by omega) H8.out.own
          have hTl := hidn (show k = (L.take k).length by rw [List.length_take]; omega)
          have hDl := hidn (show L.length - k = (L.drop k).length by rw [List.length_drop])
          have HRT : Hid (∀ V, RowKit.Below W.heap.size W V → EntsAt V (some ⟨g, 0, none⟩) (L.take k)) := fun V hb => ents_take (hrow.below hb) k
          have HRD : Hid (∀ V, RowKit.Below W.heap.size W V → EntsAt V (some ⟨g, k * 3, none⟩) (L.drop k)) := fun V hb => by have := ents_drop (hrow.below hb) k; rwa [Nat.zero_add] at this
          have HR0 : Hid (∀ V, EntsAt V (some ⟨g, 0, none⟩) ([] : List EntV)) := fun V => .inl rfl
          have e1 : (0 : Int) ≤ (k : Int) := by omega
          have e2 : (k : Int) ≤ (cap : Int) := by omega
          have e3 : (k : Int) ≤ (L.length : Int) := by omega
          have e4 : (L.length : Int) ≤ (cap : Int) := by omega
          have e5 : k ≤ cap := by omega
          have e6 : L.length ≤ cap := by omega
          have bE : RowKit.Below W.heap.size W (W.alloc (.cells #[] 28)) := (Below.refl _ _).alloc (Nat.le_refl _) _
          have bEX : RowKit.Below W.heap.size W ((W.alloc (.cells #[] 28)).alloc (.cells #[.string e.key, .int .u32 e.page, .int .i64 e.slot] 28)) := bE.alloc bE.size _
          have bX : RowKit.Below W.heap.size W (W.alloc (.cells #[.string e.key, .int .u32 e.page, .int .i64 e.slot] 28)) := (Below.refl _ _).alloc (Nat.le_refl _) _
          have bXE : RowKit.Below W.heap.size W ((W.alloc (.cells #[.string e.key, .int .u32 e.page, .int .i64 e.slot] 28)).alloc (.cells #[] 28)) := bX.alloc bX.size _
          have ne1 : OwnR 3 EntV.enc 28 (W.alloc (.cells #[] 28)) W.heap.size W.heap.size 0 ([] : List EntV) := OwnR.new W (Nat.le_refl _)
          have ne2 : OwnR 3 EntV.enc 28 ((W.alloc (.cells #[] 28)).alloc (.cells #[.string e.key, .int .u32 e.page, .int .i64 e.slot] 28)) W.heap.size W.heap.size 0 ([] : List EntV) := ne1.below ((Below.refl _ _).alloc (Nat.le_refl _) _)
          have ne3 : OwnR 3 EntV.enc 28 ((W.alloc (.cells #[.string e.key, .int .u32 e.page, .int .i64 e.slot] 28)).alloc (.cells #[] 28)) W.heap.size (W.heap.size + 1) 0 ([] : List EntV) := by
            have := OwnR.new (k := 3) (enc := EntV.enc) (te := 28) (base := W.heap.size) (W.alloc (.cells #[.string e.key, .int .u32 e.page, .int .i64 e.slot] 28)) (by simp)
            simpa using this
          have nX2 : ((W.alloc (.cells #[] 28)).alloc (.cells #[.string e.key, .int .u32 e.page, .int .i64 e.slot] 28)).heap[W.heap.size + 1]? = some (.cells #[.string e.key, .int .u32 e.page, .int .i64 e.slot] 28 (0, 0)) := by
            have := heap_alloc_new (W.alloc (.cells #[] 28)) (.cells #[.string e.key, .int .u32 e.page, .int .i64 e.slot] 28)
            simpa using this
          have nX3 : ((W.alloc (.cells #[.string e.key, .int .u32 e.page, .int .i64 e.slot] 28)).alloc (.cells #[] 28)).heap[W.heap.size]? = some (.cells #[.string e.key, .int .u32 e.page, .int .i64 e.slot] 28 (0, 0)) := (((Below.refl _ _).alloc (Nat.le_refl _) _).block W.heap.size (by simp)).trans (heap_alloc_new _ _)
          have hrow1 : Hid (∀ (V : World) (B : Nat), V.heap[B]? = some (.cells #[.string e.key, .int .u32 e.page, .int .i64 e.slot] 28 (0, 0)) → EntsAt V (some ⟨B, 0, none⟩) [e]) := fun V B h => row_ent e h
          have hz0 := HBL.out.size
          go_upto_region 10 with fail
          by_cases hci : k = cap
          · as_aux_lemma =>
            subst hci
            have hD0 : L.drop k = [] := List.drop_eq_nil_of_le (by omega)
            have hMi : L.length - k = 0 := by omega
            rw [hD0] at HIN
            go_region_held3 (fun wy => wy.cell? ⟨Eb, 0, none⟩ = some (.string e.key) ∧ wy.cell? ⟨Eb, 1, none⟩ = some (.int .u32 e.page) ∧ wy.cell? ⟨Eb, 2, none⟩ = some (.int .i64 e.slot))
              (first | (go_keep; done) | exact S3 | exact S2 | exact S1)
              (first
                | (refine step_appR rowEnt (by rfl) _ _ (by rfl) W.heap.size _ 0 [] 0 (by rfl) (by rfl) (by first | exact ne1 | exact ne2 | exact ne3) g 0 k k (L.take k) hTl.out (by first | rfl | (simp; done)) (HRT.out _ (by first | exact bE | exact bE.drew | exact bEX | exact bEX.drew | exact bXE | exact bXE.drew)) (by simp; omega) (by simp; omega) (by first | exact bE.size | exact bEX.size | exact bXE.size) k (by omega) ?_
                   intro g1 cap1 w1 own1 grow1 loc1
                   have B1 : RowKit.Below W.heap.size W w1 := by first | exact tgrown bE grow1 (by omega) | exact tgrown bE.drew grow1 (by omega) | exact tgrown bEX grow1 (by omega) | exact tgrown bEX.drew grow1 (by omega) | exact tgrown bXE grow1 (by omega) | exact tgrown bXE.drew grow1 (by omega)
                   have G1 := own1.from
                   have L1 := own1.lt
                   have S1 := And.intro ((B1.cell (p := ⟨Eb, 0, none⟩) sl).trans s0) (And.intro ((B1.cell (p := ⟨Eb, 1, none⟩) sl).trans s1) ((B1.cell (p := ⟨Eb, 2, none⟩) sl).trans s2))
                   first
                     | (have X1 := (grow1.block (W.heap.size + 1) (by simp) (by simp)).trans nX2
                        have P1 : g1 ≠ W.heap.size + 1 := by rcases loc1 with q | q <;> first | omega | (simp at q; omega))
                     | (have X1 := (grow1.block W.heap.size (by simp; omega) (by simp)).trans nX3
                        have P1 : g1 ≠ W.heap.size := by rcases loc1 with q | q <;> first | omega | (simp at q; omega))
                     | skip)
                | (refine step_appR rowEnt (by rfl) _ _ (by rfl) W.heap.size g1 cap1 ([] ++ L.take k) k (by simp; omega) (by rfl) (by first | exact own1 | exact own1.below ((Below.refl _ _).alloc (Nat.le_refl _) _)) _ 0 1 1 [e] (by rfl) (by first | rfl | (simp; done)) (hrow1.out _ _ (by first | exact X1 | exact heap_alloc_new _ _)) (by simp; omega) (by simp; omega) (by first | exact B1.size | exact (B1.alloc B1.size _).size) (k + 1) (by omega) ?_
                   intro g2 cap2 w2 own2 grow2 loc2
                   have B2 : RowKit.Below W.heap.size W w2 := by first | exact tgrown B1 grow2 G1 | exact tgrown B1.drew grow2 G1 | exact tgrown (B1.alloc B1.size _) grow2 G1 | exact tgrown (B1.alloc B1.size _).drew grow2 G1
                   have G2 := own2.from
                   have S2 := And.intro ((B2.cell (p := ⟨Eb, 0, none⟩) sl).trans s0) (And.intro ((B2.cell (p := ⟨Eb, 1, none⟩) sl).trans s1) ((B2.cell (p := ⟨Eb, 2, none⟩) sl).trans s2)))
                | (refine step_appR rowEnt (by rfl) _ _ (by rfl) W.heap.size g2 cap2 (([] ++ L.take k) ++ [e]) (k + 1) (by simp; omega) (by rfl) own2 g 0 0 0 [] (by rfl) (by first | rfl | (simp [hMi]; done) | (simp; done)) (HR0.out _) (by simp; omega) (by simp; omega) B2.size (k + 1) (by omega) ?_
                   intro g3 cap3 w3 own3 grow3 loc3
                   have B3 : RowKit.Below W.heap.size W w3 := by first | exact tgrown B2 grow3 G2 | exact tgrown B2.drew grow3 G2
                   have S3 := And.intro ((B3.cell (p := ⟨Eb, 0, none⟩) sl).trans s0) (And.intro ((B3.cell (p := ⟨Eb, 1, none⟩) sl).trans s1) ((B3.cell (p := ⟨Eb, 2, none⟩) sl).trans s2))))
            all_goals
              have hlen3 : ((([] ++ L.take k) ++ [e]) ++ ([] : List EntV)).length = k + 1 := by simp; omega
              have HE2 := hidn (SoAt.mk (w := w) (own3.rebase hz0) HIN.out (below_chain HBL.out B3))
              clear own3 B3
              go_wp2
              go_roundw
              case rel => exact ⟨i + 1, g3, cap3, _, by go_num, by omega, by rw [hlen3], HE2⟩
              case measure => simp [intOf]; omega
          · as_aux_lemma =>
            have hci' : ¬ (cap = k) := fun q => hci q.symm
            go_region_held3 (fun wy => wy.cell? ⟨Eb, 0, none⟩ = some (.string e.key) ∧ wy.cell? ⟨Eb, 1, none⟩ = some (.int .u32 e.page) ∧ wy.cell? ⟨Eb, 2, none⟩ = some (.int .i64 e.slot))
              (first | (go_keep; done) | exact S3 | exact S2 | exact S1)
              (first
                | (refine step_appR rowEnt (by rfl) _ _ (by rfl) W.heap.size _ 0 [] 0 (by rfl) (by rfl) (by first | exact ne1 | exact ne2 | exact ne3) g 0 k cap (L.take k) hTl.out (by first | rfl | (simp; done)) (HRT.out _ (by first | exact bE | exact bE.drew | exact bEX | exact bEX.drew | exact bXE | exact bXE.drew)) (by simp; omega) (by simp; omega) (by first | exact bE.size | exact bEX.size | exact bXE.size) k (by omega) ?_
                   intro g1 cap1 w1 own1 grow1 loc1
                   have B1 : RowKit.Below W.heap.size W w1 := by first | exact tgrown bE grow1 (by omega) | exact tgrown bE.drew grow1 (by omega) | exact tgrown bEX grow1 (by omega) | exact tgrown bEX.drew grow1 (by omega) | exact tgrown bXE grow1 (by omega) | exact tgrown bXE.drew grow1 (by omega)
                   have G1 := own1.from
                   have L1 := own1.lt
                   have S1 := And.intro ((B1.cell (p := ⟨Eb, 0, none⟩) sl).trans s0) (And.intro ((B1.cell (p := ⟨Eb, 1, none⟩) sl).trans s1) ((B1.cell (p := ⟨Eb, 2, none⟩) sl).trans s2))
                   first
                     | (have X1 := (grow1.block (W.heap.size + 1) (by simp) (by simp)).trans nX2
                        have P1 : g1 ≠ W.heap.size + 1 := by rcases loc1 with q | q <;> first | omega | (simp at q; omega))
                     | (have X1 := (grow1.block W.heap.size (by simp; omega) (by simp)).trans nX3
                        have P1 : g1 ≠ W.heap.size := by rcases loc1 with q | q <;> first | omega | (simp at q; omega))
                     | skip)
                | (refine step_appR rowEnt (by rfl) _ _ (by rfl) W.heap.size g1 cap1 ([] ++ L.take k) k (by simp; omega) (by rfl) (by first | exact own1 | exact own1.below ((Below.refl _ _).alloc (Nat.le_refl _) _)) _ 0 1 1 [e] (by rfl) (by first | rfl | (simp; done)) (hrow1.out _ _ (by first | exact X1 | exact heap_alloc_new _ _)) (by simp; omega) (by simp; omega) (by first | exact B1.size | exact (B1.alloc B1.size _).size) (k + 1) (by omega) ?_
                   intro g2 cap2 w2 own2 grow2 loc2
                   have B2 : RowKit.Below W.heap.size W w2 := by first | exact tgrown B1 grow2 G1 | exact tgrown B1.drew grow2 G1 | exact tgrown (B1.alloc B1.size _) grow2 G1 | exact tgrown (B1.alloc B1.size _).drew grow2 G1
                   have G2 := own2.from
                   have S2 := And.intro ((B2.cell (p := ⟨Eb, 0, none⟩) sl).trans s0) (And.intro ((B2.cell (p := ⟨Eb, 1, none⟩) sl).trans s1) ((B2.cell (p := ⟨Eb, 2, none⟩) sl).trans s2)))
                | (refine step_appR rowEnt (by rfl) _ _ (by rfl) W.heap.size g2 cap2 (([] ++ L.take k) ++ [e]) (k + 1) (by simp; omega) (by rfl) own2 g (k * 3) (L.length - k) (cap - k) (L.drop k) hDl.out (by first | rfl | (simp; done)) (HRD.out _ (by first | exact B2 | exact B2.drew)) (by simp; omega) (by simp; omega) B2.size (L.length + 1) (by omega) ?_
                   intro g3 cap3 w3 own3 grow3 loc3
                   have B3 : RowKit.Below W.heap.size W w3 := by first | exact tgrown B2 grow3 G2 | exact tgrown B2.drew grow3 G2
                   have S3 := And.intro ((B3.cell (p := ⟨Eb, 0, none⟩) sl).trans s0) (And.intro ((B3.cell (p := ⟨Eb, 1, none⟩) sl).trans s1) ((B3.cell (p := ⟨Eb, 2, none⟩) sl).trans s2))))
            all_goals
              have hlen3 : ((([] ++ L.take k) ++ [e]) ++ L.drop k).length = L.length + 1 := by simp; omega
              have HE2 := hidn (SoAt.mk (w := w) (own3.rebase hz0) HIN.out (below_chain HBL.out B3))
              clear own3 B3
              go_wp2
              go_roundw
              case rel => exact ⟨i + 1, g3, cap3, _, by go_num, by omega, by rw [hlen3], HE2⟩
              case measure => simp [intOf]; omega
      · have hil' : ¬ (L.length : Int) < 24 := by omega
        go_wp2
        go_ret
        exact ⟨g, cap, L, rfl, HS.out⟩
    · have hil' : ¬ (i : Int) < (X.length : Int) := by omega
      go_wp2
      go_ret
      exact ⟨g, cap, L, rfl, HS.out⟩

end Go.Proofs.YtpllidadpcahbaaGreat
