/-
  The walk of LockTurns.
-/
import Derived.Test.YtfniepccldkahaaDoorLkTurnWC
import Derived.Laws.OwnMore
import Derived.Lib.QuietBelow
import Derived.BigQuiet
namespace Go.Proofs.YtfniepccldkahaaDoor
open Go.RowKit Go.Sort
set_option linter.unusedVariables false
set_option linter.unusedSimpArgs false

theorem lkMixed : Tryd.prog.follows .mixedOrders = true := by kernel_rfl

/-- Numbers that came in. -/
def ArgInts (w : World) (a : Option Addr) (n : Nat) (A : Nat → Int) : Prop :=
  n = 0 ∨ ∃ b o, a = some ⟨b, o, none⟩ ∧ b < w.heap.size ∧ ∀ i, i < n → w.cell? ⟨b, o + i, none⟩ = some (.int .i64 (A i))

theorem IntsAt.addr {B : Nat} {w : World} {a : Option Addr} {n c : Nat} {zs : List Int} (h : IntsAt B w (.slice a n c) zs) (hz : 0 < zs.length) : ∃ g, a = some ⟨g, 0, none⟩ := by
  rcases h.2 with ⟨_, hn⟩ | ⟨g, cap, cur, e, _⟩
  · omega
  · exact ⟨g, (Value.slice.inj e).1⟩

theorem IntsAt.cellAt {B : Nat} {w : World} {g n c : Nat} {zs : List Int} (h : IntsAt B w (.slice (some ⟨g, 0, none⟩) n c) zs) (j : Nat) (x : Int) (hj : zs[j]? = some x) : w.cell? ⟨g, j, none⟩ = some (.int .i64 x) := by
  obtain ⟨a, c', e⟩ := h.val
  have e1 := Value.slice.inj e
  obtain ⟨rfl, rfl, rfl⟩ := e1
  have := World.ownsRow.cells (g := g) h rfl j (.int .i64 x) (by rw [List.getElem?_map, hj]; rfl)
  rw [Addr.add_lit, Nat.zero_add] at this
  exact this

/-- Where the first loop stands. -/
def Tu1 (w wr : World) (b nb : Nat) (o7 : Value) (M : List Int) : Prop := ∃ S T, TuAt w wr b S T nb o7 M ∧ TA T M ∧ ∀ x ∈ M, modB x = true

/-- Where the second loop stands: p were told, nx had it. -/
def Tu2 (w wr : World) (b nb : Nat) (o7 : Value) (M : List Int) (v : Value) (p : Nat) : Prop :=
  ∃ S T Hs nx, TuAt w wr b S T nb o7 M ∧ TS T M Hs nx ∧ p ≤ nx ∧ (∀ i, p ≤ i → i < nx → i ∈ Hs) ∧ IntsAt w.heap.size wr v ((List.range' p (nx - p)).map fun (i : Nat) => (i : Int) + 2) ∧ ∀ g, v.ownBlock = some g → ¬ S g

/-- Where the loop that lets go stands: those below c let go. -/
def Tu4 (w wr : World) (b nb : Nat) (o7 : Value) (M : List Int) (v : Value) (p c : Nat) : Prop :=
  ∃ S T Hs nx, TuAt w wr b S T nb o7 M ∧ TS T M Hs nx ∧ p ≤ nx ∧ (∀ i, p ≤ i → i < nx → i ∈ Hs) ∧ IntsAt w.heap.size wr v ((List.range' p (nx - p)).map fun (i : Nat) => (i : Int) + 2) ∧ (∀ g, v.ownBlock = some g → ¬ S g) ∧ (nx = p → ∀ h ∈ Hs, c ≤ h)

theorem TuAt.push {w wr wx : World} {b nb : Nat} {S : Nat → Prop} {T : Tab} {o7 o7' : Value} {M : List Int} {m : Int} {o : Obj} (h : TuAt w wr b S T nb o7 M) (hown : wx.ownsRow w.heap.size 3 1 o7' (M.length + 1) (M.map (Value.int .i64) ++ [.int .i64 m])) (hg : (wr.alloc o).grownBy wx o7.ownBlock) (hat : o7'.ownBlock = o7.ownBlock ∨ o7'.ownBlock = some (wr.alloc o).heap.size) : TuAt w wx b S T nb o7' (M ++ [m]) := by
  have b1 : Below wr.heap.size wr (wr.alloc o) := (Below.refl _ _).alloc (Nat.le_refl _) _
  have h1 := h.below b1
  have hlt : ∀ k, S k → k < (wr.alloc o).heap.size := by obtain ⟨_, _, _, _, ht⟩ := h1.tab; exact ht.lt
  have ofo := h.ord.lt
  refine ⟨h1.bel.grown hg h1.bel.size fun k hk => (ofo k hk).1, h.laid, h1.tab.keep hg.size fun g hgS => hg.block g (hlt g hgS) fun e => h.ooff g e.symm hgS, h.soff, ?_, h.nbl, h.nbs, ?_, fun g hg' hS => ?_⟩
  · rw [hg.block nb h1.lt (fun e => by
      have hn := h.ord
      rcases hn.2 with ⟨e1, _⟩ | ⟨g, cap, cur, e1, _, hb, _⟩
      · rw [e1] at e; cases e
      · rw [e1] at e
        have : g = nb := (Option.some.inj e).symm
        subst this
        rw [h.nbx] at hb
        cases hb)]
    exact h1.nbx
  · unfold IntsAt
    rw [List.length_append, List.map_append]
    exact hown
  · rcases hat with e | e
    · exact h.ooff g (e ▸ hg') hS
    · have : (wr.alloc o).heap.size = g := Option.some.inj (e.symm.trans hg')
      have := hlt g hS
      omega

theorem wrap_small (r : Int) (h1 : -100 < r) (h2 : r < 100) : wrap64 r = r := by unfold wrap64; omega

theorem mode_arith (x : Int) : wrap64 (x.tmod 5 + 5) = x.tmod 5 + 5 ∧ wrap64 ((x.tmod 5 + 5).tmod 5 + 1) = (x.tmod 5 + 5).tmod 5 + 1 ∧ modB ((x.tmod 5 + 5).tmod 5 + 1) = true := by
  have t1 := Int.tmod_lt_of_pos x (show (0 : Int) < 5 by omega)
  have t2 := Int.lt_tmod_of_pos x (show (0 : Int) < 5 by omega)
  have t3 := Int.tmod_lt_of_pos (x.tmod 5 + 5) (show (0 : Int) < 5 by omega)
  have t4 := Int.tmod_nonneg 5 (show 0 ≤ x.tmod 5 + 5 by omega)
  refine ⟨wrap_small _ (by omega) (by omega), wrap_small _ (by omega) (by omega), ?_⟩
  generalize (x.tmod 5 + 5).tmod 5 = r at *
  unfold modB
  rw [decide_eq_true (by omega), decide_eq_true (by omega)]
  rfl

theorem len_arith (n : Nat) (h : n ≤ 12) : wrap64 ((n : Int) + 2) = (n : Int) + 2 := wrap_small _ (by omega) (by omega)

set_option maxHeartbeats 6400000 in
set_option maxRecDepth 20000 in
theorem turns_walk (a : Option Addr) (n c : Nat) (A : Nat → Int) (w : World) (hl : LkLaid w) (hA : ArgInts w a n A) (hn : n ≤ 9223372036854775807) (hr : ∀ i, i < n → i64R (A i)) :
    Calls Tryd.prog 7 #[.slice a n c] w fun e w' => e = .returned (.bool true) ∧ Below w.heap.size w w' := by
  obtain ⟨l, hT⟩ := nokT
  obtain ⟨i0, hi, hzz⟩ := Option.map_eq_some_iff.1 infoInt
  simp only [Prod.mk.injEq] at hzz
  obtain ⟨hz0, hz1, hz2⟩ := hzz
  have HLD : Hid (LkLaid w) := hl
  have HAA : Hid (ArgInts w a n A ∧ ∀ i, i < n → i64R (A i)) := ⟨hA, hr⟩
  have HN := new_any w
  have HAW : Hid (∀ wx, Below w.heap.size w wx → Calls Tryd.prog 10 #[] wx fun e w' => e = .returned (.bool true) ∧ Below wx.heap.size wx w') := fun wx k => awake_any wx (hl.below hl.lt k)
  have HA1 : Hid (∀ wx b S, Below w.heap.size w wx → IsTab S wx b emptyT → Calls Tryd.prog 22 #[.pointer (some ⟨b, 0, none⟩), .int .i64 1, .agg #[.int .i64 2, .int .i64 1, .int .u32 0, .int .i64 0], .int .i64 5, .bool false, .bool true] wx fun e w' => e = .returned (.tuple #[.bool true, .int .i64 0]) ∧ ∃ S', IsTab S' w' b (emptyT.setQ nT [(1, 5, 0, false)]) ∧ MovesL S S' wx w') := fun wx b S k ht =>
    ask_had (hl.below hl.lt k) ht 1 nT l hT 5 false true (by omega) ⟨by omega, by omega⟩ rfl rfl (by decide) (by decide) (by decide) (fun _ => rfl) (by decide) trivial rfl
  clear hl hA hr
  go_enter Tryd.func7, Tryd.ntmps7
  go_wp2_with fail
  refine HN.mono ?_
  rintro e w1 ⟨b, S, rfl, ht1, b1, hS1⟩
  clear HN
  have W2 : Below w1.heap.size w1 (w1.alloc (.cells #[.int .i64 2, .int .i64 1, .int .u32 0, .int .i64 0] 42)) := (Below.refl _ _).alloc (Nat.le_refl _) _
  have HC1 := HA1.out _ b S (b1.trans (W2.mono b1.size)) (ht1.below W2)
  clear HA1
  go_wp2_with fail
  refine HC1.mono ?_
  rintro e w3 ⟨rfl, S3, ht3, m3⟩
  have HTA : Hid (TuAt w w3 b S3 (emptyT.setQ nT [(1, 5, 0, false)]) w1.heap.size (.slice none 0 0) []) := by
    have hSlt : ∀ k, S k → k < w1.heap.size := by obtain ⟨_, _, _, _, ht⟩ := ht1; exact ht.lt
    have hno : ¬ S w1.heap.size := fun x => by have := hSlt _ x; omega
    have b2 := b1.trans (W2.mono b1.size)
    have hb := m3.below hS1 b2 b2.size
    have hof := m3.off (r := w1.heap.size) (by simp) hno
    exact ⟨hb.1, HLD.out.lt, ht3, hb.2, hof.1.trans (heap_alloc_new _ _), b1.size, hof.2, IntsAt.nil _ _, fun g hg => by cases hg⟩
  clear m3 ht3 ht1 hS1 HC1 W2
  have HAW3 := HAW.out w3 HTA.out.bel
  go_wp2_with fail
  refine HAW3.mono ?_
  rintro e w4 ⟨rfl, b4⟩
  have HT4 : Hid (Tu1 w (w4.alloc (.cells #[] 3)) b w1.heap.size (.slice (some ⟨w4.heap.size, 0, none⟩) 0 0) []) := by
    have h4 := (HTA.out.below b4).below ((Below.refl _ _).alloc (Nat.le_refl _) (.cells #[] 3))
    refine ⟨S3, _, ⟨h4.bel, h4.laid, h4.tab, h4.soff, h4.nbx, h4.nbl, h4.nbs, ?_, fun g hg x => ?_⟩, TA.start rfl, by simp⟩
    · have := World.ownsRow_made (base := w.heap.size) (e := 3) (size := 1) w4 #[] 0 (by have := (HTA.out.below b4).bel.size; exact this) (Nat.zero_le _) rfl
      unfold IntsAt
      simpa using this
    · have e1 : w4.heap.size = g := Option.some.inj hg
      have : g < w4.heap.size := by obtain ⟨_, _, _, _, ht⟩ := (HTA.out.below b4).tab; exact ht.lt g x
      omega
  clear HTA HAW3 b4 HAW b1
  generalize w1.heap.size = nb at *
  go_wp2_with fail
  generalize (w4.alloc (.cells #[] 3)) = w5 at *
  generalize w4.heap.size = bo at *
  go_loopw [8, 7] (fun i t7 wr => ∃ M : List Int, M.length ≤ n ∧ M.length ≤ 12 ∧ i = .int .i64 (M.length : Int) ∧ Hid (Tu1 w wr b nb t7 M)) (fun i _ _ => 12 - (intOf i).toNat)
  case atStart => exact ⟨[], by simp, by simp, rfl, HT4⟩
  case round =>
    obtain ⟨M, hMn, hM12, rfl, HM⟩ := hrel
    clear HT4
    by_cases hlt : M.length < n ∧ M.length < 12
    · obtain ⟨S, T, hu, ta, hmod⟩ := HM.out
      clear HM
      obtain ⟨ba, oa, rfl, hba, hcell⟩ : ∃ b o, a = some ⟨b, o, none⟩ ∧ b < w.heap.size ∧ w.cell? ⟨b, o + M.length, none⟩ = some (.int .i64 (A M.length)) := by
        rcases HAA.out.1 with h | ⟨b, o, e, h1, h2⟩
        · omega
        · exact ⟨b, o, e, h1, h2 _ hlt.1⟩
      have hc : wr.cell? ⟨ba, oa + M.length, none⟩ = some (.int .i64 (A M.length)) := (hu.bel.cell (p := ⟨ba, oa + M.length, none⟩) hba).trans hcell
      generalize A M.length = x at *
      have hd1 : (M.length : Int) < (n : Int) := by omega
      have hd2 : (M.length : Int) < 12 := by omega
      have hd0 : (0 : Int) ≤ (M.length : Int) := by omega
      obtain ⟨w1, w2, hm5⟩ := mode_arith x
      have w3 := len_arith M.length hM12
      obtain ⟨r, hr1⟩ : ∃ r, x.tmod 5 = r := ⟨_, rfl⟩
      rw [hr1] at w1 w2 hm5
      obtain ⟨r5, hr2⟩ : ∃ r5, r + 5 = r5 := ⟨_, rfl⟩
      rw [hr2] at w1 w2 hm5
      have w1' : wrap64 (r + 5) = r5 := by rw [hr2]; exact w1
      obtain ⟨s, hr3⟩ : ∃ s, r5.tmod 5 = s := ⟨_, rfl⟩
      rw [hr3] at w2 hm5
      obtain ⟨m, hr4⟩ : ∃ m, s + 1 = m := ⟨_, rfl⟩
      rw [hr4] at w2 hm5
      have w2' : wrap64 (s + 1) = m := by rw [hr4]; exact w2
      clear w1 w2 hr2 hr4
      have HAS := hu.ask HLD.out ta hM12 hm5
      clear w3
      obtain ⟨y0, y1, y2, y3⟩ := hu.cells
      have hnl := hu.lt
      clear hu ta
      go_wp2_with fail
      refine HAS.mono ?_
      rintro e w6 ⟨rfl, S6, T6, hu6, ta6⟩
      clear HAS y0 y1 y2 y3 hc hcell
      have hown : (w6.alloc (.cells #[.int .i64 m] 3)).ownsRow w.heap.size 3 1 u7 M.length (M.map (Value.int .i64)) := hu6.ord.below ((Below.refl _ _).alloc (Nat.le_refl _) _)
      have hsz6 : w.heap.size ≤ w6.heap.size := hu6.bel.size
      have HU6 : Hid (TuAt w w6 b S6 T6 nb u7 M ∧ TA T6 (M ++ [m]) ∧ (∀ x ∈ M, modB x = true) ∧ modB m = true) := ⟨hu6, ta6, hmod, hm5⟩
      clear hu6 ta6 hmod hm5
      go_wp2_with (at_builtin; refine wpList_append_own_at _ rfl _ _ 47 rfl w.heap.size 3 i0 (.int .i64 0) 1 8 Tryd.underlying47 hi hz0 hz1 hz2 rfl (by decide) u7 M.length (M.map (Value.int .i64)) rfl hown ⟨w6.heap.size, 0, none⟩ 1 1 [.int .i64 m] rfl rfl (by intro j u hj; match j, hj with | 0, hj => (simp at hj; subst hj; simp [Addr.add])) (by intro u hu; simp at hu; subst hu; rfl) (by unfold maxLen; omega) (by omega) (by simp; omega) ?_; intro v7 w7 hown7 hgrow7 hnil7 hloc7)
      have HT7 : Hid (Tu1 w w7 b nb v7 (M ++ [m])) := by
        obtain ⟨h1, h2, h3, h4⟩ := HU6.out
        exact ⟨S6, T6, h1.push hown7 hgrow7 hloc7, h2, fun x hx => by
          rcases List.mem_append.1 hx with y | y
          · exact h3 x y
          · simp at y; rw [y]; exact h4⟩
      clear hown7 hgrow7 hnil7 hloc7 hown HU6
      go_wp2
      go_roundw
      case rel => exact ⟨M ++ [m], by simp; omega, by simp; omega, by simp, HT7⟩
      case measure => simp [intOf]; omega
    · obtain ⟨S, T, hu, ta, hmod⟩ := HM.out
      clear HM
      have hM0 : ∀ x ∈ M, x ≠ 0 := fun x hx e => by have := hmod x hx; rw [e] at this; cases this
      have HRC := hu.rel1 HLD.out ta hM12 hM0
      have hcond : ¬ ((M.length : Int) < (n : Int)) ∨ ((M.length : Int) < (n : Int) ∧ ¬ ((M.length : Int) < 12)) := by omega
      have HM0 : Hid (∀ x ∈ M, x ≠ 0) := hM0
      obtain ⟨a7, c7, rfl⟩ := hu.ord.val
      clear hu ta hmod hM0 HAA
      rcases hcond with hcd | ⟨hcd0, hcd⟩
      · go_wp2_with fail
        refine HRC.mono ?_
        rintro e w8 ⟨v13, rfl, hrel⟩
        have HT20 : Hid (Tu2 w w8 b nb (.slice a7 M.length c7) M v13 0) := by
          obtain ⟨S', T', k, hk, h1, h2, h3, h4⟩ := hrel
          refine ⟨S', T', [] ++ List.range' 0 k, 0 + k, h1, h2, Nat.zero_le _, fun i _ hi => ?_, by simpa using h3, h4⟩
          rw [List.nil_append, List.mem_range'_1]
          omega
        clear hrel HRC hcd
        go_wp2_with fail
        go_loopw [14, 12, 13] (fun i t12 t13 wr => ∃ q p : Nat, q ≤ 20 ∧ p ≤ M.length ∧ i = .int .i64 (q : Int) ∧ t12 = .int .i64 (p : Int) ∧ Hid (Tu2 w wr b nb (.slice a7 M.length c7) M t13 p)) (fun i _ _ _ => 20 - (intOf i).toNat)
        case atStart => exact ⟨0, 0, by omega, by omega, rfl, rfl, HT20⟩
        case round =>
          obtain ⟨q, p, hq, hp, rfl, rfl, H2⟩ := hrel
          clear HT20
          by_cases hq20 : q < 20
          · have hq1 : (q : Int) < 20 := by omega
            obtain ⟨S, T, Hs, nx, hu, ts, hpn, hin, hwho, hwoff⟩ := H2.out
            clear H2
            obtain ⟨a13, c13, rfl⟩ := hwho.val
            have hnxl := ts.le
            have H30 : Hid (TuAt w wr b S T nb (.slice a7 M.length c7) M ∧ IntsAt w.heap.size wr (.slice a13 ((List.range' p (nx - p)).map fun (i : Nat) => (i : Int) + 2).length c13) ((List.range' p (nx - p)).map fun (i : Nat) => (i : Int) + 2)) := ⟨hu, hwho⟩
            have HTS : Hid (TS T M Hs nx ∧ (∀ i, p ≤ i → i < nx → i ∈ Hs) ∧ ∀ g, (Value.slice a13 ((List.range' p (nx - p)).map fun (i : Nat) => (i : Int) + 2).length c13).ownBlock = some g → ¬ S g) := ⟨ts, hin, hwoff⟩
            have hlen13 : ((List.range' p (nx - p)).map fun (i : Nat) => (i : Int) + 2).length = nx - p := by simp
            rw [hlen13] at H30 HTS ⊢
            clear hu ts hin hwho hwoff hlen13
            obtain ⟨kk, hkk⟩ : ∃ kk, nx = p + kk := ⟨nx - p, by omega⟩
            subst hkk
            rw [Nat.add_sub_cancel_left] at H30 HTS ⊢
            go_wp2_with fail
            go_loopw [15, 12] (fun i t12 wr => ∃ j : Nat, j ≤ kk ∧ i = .int .i64 (j : Int) ∧ t12 = .int .i64 ((p + j : Nat) : Int) ∧ Hid (TuAt w wr b S T nb (.slice a7 M.length c7) M ∧ IntsAt w.heap.size wr (.slice a13 kk c13) ((List.range' p kk).map fun (i : Nat) => (i : Int) + 2))) (fun i _ _ => kk - (intOf i).toNat)
            case atStart => exact ⟨0, by omega, rfl, rfl, H30⟩
            case round =>
              obtain ⟨j, hj, rfl, rfl, H3⟩ := hrel
              clear H30
              by_cases hjk : j < kk
              · obtain ⟨m1, hm1⟩ : ∃ m1, p + j = m1 := ⟨_, rfl⟩
                have hmM : m1 < M.length := by omega
                have hmH : m1 ∈ Hs := HTS.out.2.1 m1 (by omega) (by omega)
                obtain ⟨g13, hg13⟩ := H3.out.2.addr (by simp; omega)
                subst hg13
                obtain ⟨g7, hg7⟩ := H3.out.1.ord.addr (by omega)
                subst hg7
                have hX : M.getD m1 0 = M[m1] := by rw [List.getD_eq_getElem?_getD, List.getElem?_eq_getElem hmM]; rfl
                have hall : ∀ wy, TuAt w wy b S T nb (.slice (some ⟨g7, 0, none⟩) M.length c7) M → IntsAt w.heap.size wy (.slice (some ⟨g13, 0, none⟩) kk c13) ((List.range' p kk).map fun (i : Nat) => (i : Int) + 2) → wy.cell? ⟨g13, j, none⟩ = some (.int .i64 ((m1 : Int) + 2)) ∧ wy.cell? ⟨g7, m1, none⟩ = some (.int .i64 M[m1]) ∧ (wy.cell? ⟨nb, 0, none⟩ = some (.int .i64 2) ∧ wy.cell? ⟨nb, 1, none⟩ = some (.int .i64 1) ∧ wy.cell? ⟨nb, 2, none⟩ = some (.int .u32 0) ∧ wy.cell? ⟨nb, 3, none⟩ = some (.int .i64 0)) := fun wy h1 h2 => by
                  refine ⟨?_, ?_, h1.cells⟩
                  · exact h2.cellAt j _ (by
                      rw [List.getElem?_map, List.getElem?_range' hjk, ← hm1]
                      simp)
                  · exact h1.ord.cellAt m1 _ (List.getElem?_eq_getElem hmM)
                have hall0 := hall wr H3.out.1 H3.out.2
                obtain ⟨X, HX⟩ : ∃ X, Hid (M[m1] = X) := ⟨M[m1], rfl⟩
                rw [HX.out] at hall0
                have cH : ∀ dd os, Calls Tryd.prog 26 #[.pointer (some ⟨b, 0, none⟩), .int .i64 ((m1 : Int) + 2), .agg #[.int .i64 2, .int .i64 1, .int .u32 0, .int .i64 0]] (grow (redrawn wr dd) os) fun e w'' => e = .returned (.int .i64 X) ∧ ∃ p : Regrown, w'' = grow (redrawn wr p.d) p.os := fun dd os => by
                  refine Calls.regrown_of ?_
                  have := (H3.out.1.below (below_regrown wr dd os)).has HTS.out.1 m1
                  rw [if_pos hmH, hX, HX.out] at this
                  exact this
                obtain ⟨q1, q2, q3, q4, q5, q6⟩ := hall0
                have g1 := cell_regrown q1
                have g2 := cell_regrown q2
                have g3 := cell_regrown q3
                have g4 := cell_regrown q4
                have g5 := cell_regrown q5
                have g6 := cell_regrown q6
                have hi1 : (j : Int) < kk := by omega
                have hi0 : (0 : Int) ≤ j := by omega
                have hi2 : (m1 : Int) < M.length := by omega
                have hi3 : (0 : Int) ≤ m1 := by omega
                have hnn : (((m1 : Int) + 2) != ((m1 : Int) + 2)) = false := by simp
                have hnx : (X != X) = false := by simp
                rw [hm1]
                clear hall hX HX hmH q1 q2 q3 q4 q5 q6
                go_upto_region 23 with fail
                refine wp_region_quiet_below lkMixed (by kernel_rfl) ?_
                repeat (first | go_big_quiet_step (first | (go_at_call 26; exact cH _ _)) | quiet_step (first | (go_at_call 26; exact cH _ _)))
                refine wpQuiet_nil ?_
                intro _ hw'
                obtain ⟨⟨dq, osq⟩, hw''⟩ := hw'
                have b7 := below_regrown wr dq osq
                rw [← hw''] at b7
                rename_i w9
                clear hw'' g1 g2 g3 g4 g5 g6 cH
                have HF : Hid (TuAt w w9 b S T nb (.slice (some ⟨g7, 0, none⟩) M.length c7) M ∧ IntsAt w.heap.size w9 (.slice (some ⟨g13, 0, none⟩) kk c13) ((List.range' p kk).map fun (i : Nat) => (i : Int) + 2)) := ⟨H3.out.1.below b7, H3.out.2.below b7⟩
                clear b7 H3
                go_wp2
                go_roundw
                case rel => exact ⟨j + 1, by omega, by go_num, by rw [show p + (j + 1) = m1 + 1 from by omega]; go_num, HF⟩
                case measure => simp [intOf]; omega
              · obtain rfl : j = kk := by omega
                obtain ⟨nx, hnx⟩ : ∃ nx, p + j = nx := ⟨_, rfl⟩
                rw [hnx] at HTS hnxl ⊢
                have hu := H3.out.1
                have hjj : ¬ (j : Int) < (j : Int) := by omega
                clear H3
                by_cases hfin : nx = M.length
                · have hbel : Hid (Below w.heap.size w wr) := hu.bel
                  clear hu HTS HM0
                  subst hfin
                  go_wp2
                  go_ret
                  exact ⟨rfl, hbel.out⟩
                · have hfl : nx < M.length := by omega
                  have hfe : ((nx : Int) == (M.length : Int)) = false := by rw [beq_eq_false_iff_ne]; omega
                  have hpos : 0 < nx := by
                    have h1 := HTS.out.1.st hfl
                    cases hHs : Hs with
                    | nil => exact absurd hHs h1
                    | cons x r => have := HTS.out.1.hs x (by rw [hHs]; simp); omega
                  have hz0' : ((nx : Int) == 0) = false := by rw [beq_eq_false_iff_ne]; omega
                  have HWC := hu.waits HTS.out.1 hfl hM12
                  go_wp2_with fail
                  refine HWC.mono ?_
                  rintro e w9 ⟨rfl, b9⟩
                  have H40 : Hid (Tu4 w (w9.alloc (.cells #[] 3)) b nb (.slice a7 M.length c7) M (.slice (some ⟨w9.heap.size, 0, none⟩) 0 0) nx 0) := by
                    have h9 := (hu.below b9).below ((Below.refl _ _).alloc (Nat.le_refl _) (.cells #[] 3))
                    refine ⟨S, T, Hs, nx, h9, HTS.out.1, Nat.le_refl _, fun i h1 h2 => by omega, ?_, fun g hg x => ?_, fun _ h _ => Nat.zero_le _⟩
                    · have := World.ownsRow_made (base := w.heap.size) (e := 3) (size := 1) w9 #[] 0 (by exact (hu.below b9).bel.size) (Nat.zero_le _) rfl
                      rw [Nat.sub_self]
                      unfold IntsAt
                      simpa using this
                    · have e1 : w9.heap.size = g := Option.some.inj hg
                      have : g < w9.heap.size := by obtain ⟨_, _, _, _, ht⟩ := (hu.below b9).tab; exact ht.lt g x
                      omega
                  clear hu HTS b9 HWC
                  go_wp2_with fail
                  generalize (w9.alloc (.cells #[] 3)) = w10 at *
                  generalize w9.heap.size = bw9 at *
                  go_loopw [16, 13] (fun t16 t13 wr => ∃ cc : Nat, cc ≤ nx ∧ t16 = .int .i64 ((cc : Int) + 2) ∧ Hid (Tu4 w wr b nb (.slice a7 M.length c7) M t13 nx cc)) (fun t16 _ _ => nx + 2 - (intOf t16).toNat)
                  case atStart => exact ⟨0, by omega, rfl, H40⟩
                  case round =>
                    obtain ⟨cc, hcc, rfl, H4⟩ := hrel
                    clear H40
                    obtain ⟨S4, T4, Hs4, nx4, hu4, ts4, hn4, hin4, hwho4, hwoff4, hcle4⟩ := H4.out
                    clear H4
                    obtain ⟨a4, c4, rfl⟩ := hwho4.val
                    obtain ⟨k4, hk4⟩ : ∃ k4, nx4 = nx + k4 := ⟨nx4 - nx, by omega⟩
                    subst hk4
                    have hl4 : ((List.range' nx (nx + k4 - nx)).map fun (i : Nat) => (i : Int) + 2).length = k4 := by simp
                    rw [hl4] at hwho4 hwoff4 ⊢
                    rw [Nat.add_sub_cancel_left] at hwho4
                    have hle4 := ts4.le
                    have H4A : Hid (TuAt w wr b S4 T4 nb (.slice a7 M.length c7) M ∧ TS T4 M Hs4 (nx + k4) ∧ (∀ i, nx ≤ i → i < nx + k4 → i ∈ Hs4) ∧ IntsAt w.heap.size wr (.slice a4 k4 c4) ((List.range' nx k4).map fun (i : Nat) => (i : Int) + 2) ∧ (∀ g, (Value.slice a4 k4 c4).ownBlock = some g → ¬ S4 g) ∧ (k4 = 0 → ∀ h ∈ Hs4, cc ≤ h)) := ⟨hu4, ts4, hin4, hwho4, hwoff4, fun e => hcle4 (by omega)⟩
                    clear hu4 ts4 hin4 hwho4 hwoff4 hcle4 hl4
                    by_cases hgo : cc < nx ∧ k4 = 0
                    · obtain ⟨hgo1, rfl⟩ := hgo
                      have hcl : (cc : Int) + 2 < (nx : Int) + 2 := by omega
                      obtain ⟨x0, x1, x2, x3⟩ := H4A.out.1.cells
                      have hnl4 := H4A.out.1.lt
                      have HHC := H4A.out.1.has H4A.out.2.1 cc
                      by_cases hin : cc ∈ Hs4
                      · rw [if_pos hin] at HHC
                        have hccM : cc < M.length := by omega
                        have hv0 : (M.getD cc 0 != 0) = true := by
                          have : M.getD cc 0 ≠ 0 := by
                            rw [List.getD_eq_getElem?_getD, List.getElem?_eq_getElem hccM]
                            exact HM0.out _ (List.getElem_mem hccM)
                          simpa using this
                        obtain ⟨A1, B1, hAB⟩ := List.append_of_mem hin
                        have HRL : Hid (∀ wx, Below wr.heap.size wr wx → Calls Tryd.prog 20 #[.pointer (some ⟨b, 0, none⟩), .int .i64 ((cc : Int) + 2)] wx fun e w' => ∃ v, e = .returned v ∧ Tu4 w w' b nb (.slice a7 M.length c7) M v nx (cc + 1)) := fun wx kx => by
                          have ts' := H4A.out.2.1
                          rw [hAB] at ts'
                          refine ((H4A.out.1.below kx).rel HLD.out ts' hM12 HM0.out).mono ?_
                          rintro e w' ⟨v, rfl, S', T', k, hk, h1, h2, h3, h4⟩
                          refine ⟨v, rfl, S', T', _, _, h1, h2, by omega, fun i h5 h6 => ?_, ?_, h4, fun e h h5 => ?_⟩
                          · refine List.mem_append_right _ ?_
                            rw [List.mem_range'_1]
                            omega
                          · have e2 : nx + 0 + k - nx = k := by omega
                            rw [e2]
                            exact h3
                          · have hk0 : k = 0 := by omega
                            subst hk0
                            have h6 : h ∈ A1 ++ B1 := by simpa using h5
                            have h7 : h ∈ Hs4 := by
                              rw [hAB]
                              rcases List.mem_append.1 h6 with y | y
                              · exact List.mem_append_left _ y
                              · exact List.mem_append_right _ (List.mem_cons_of_mem _ y)
                            have h8 := H4A.out.2.2.2.2.2 rfl h h7
                            have h9 : h ≠ cc := fun e => by
                              have hd := ts'.nd
                              rw [List.nodup_append, List.nodup_cons] at hd
                              subst e
                              rcases List.mem_append.1 h6 with y | y
                              · exact hd.2.2 h y h (by simp) rfl
                              · exact hd.2.1.1 y
                            omega
                        generalize M.getD cc 0 = V5 at *
                        clear hAB
                        go_wp2_with fail
                        refine HHC.mono ?_
                        rintro e w11 ⟨rfl, b11⟩
                        have HR11 := HRL.out w11 b11
                        clear HRL HHC b11 H4A x0 x1 x2 x3 hnl4
                        go_wp2_with fail
                        refine HR11.mono ?_
                        rintro e w12 ⟨v12, rfl, h12⟩
                        have H12 : Hid (Tu4 w w12 b nb (.slice a7 M.length c7) M v12 nx (cc + 1)) := h12
                        clear h12 HR11
                        go_wp2
                        go_roundw
                        case rel => exact ⟨cc + 1, by omega, by go_num, H12⟩
                        case measure => simp [intOf]; omega
                      · rw [if_neg hin] at HHC
                        have HNX : Hid (∀ wx, Below wr.heap.size wr wx → Tu4 w wx b nb (.slice a7 M.length c7) M (.slice a4 0 c4) nx (cc + 1)) := fun wx kx => by
                          obtain ⟨h1, h2, h3, h4, h5, h6⟩ := H4A.out
                          refine ⟨S4, T4, Hs4, nx + 0, h1.below kx, h2, by omega, h3, ?_, h5, fun _ h h7 => ?_⟩
                          · rw [Nat.add_sub_cancel_left]
                            exact h4.below kx
                          · have := h6 rfl h h7
                            have : h ≠ cc := fun e => hin (e ▸ h7)
                            omega
                        go_wp2_with fail
                        refine HHC.mono ?_
                        rintro e w11 ⟨rfl, b11⟩
                        have H12 : Hid (Tu4 w w11 b nb (.slice a7 M.length c7) M (.slice a4 0 c4) nx (cc + 1)) := HNX.out w11 b11
                        clear HNX HHC b11 H4A x0 x1 x2 x3 hnl4
                        go_wp2
                        go_roundw
                        case rel => exact ⟨cc + 1, by omega, by go_num, H12⟩
                        case measure => simp [intOf]; omega
                    · have hk4p : 0 < k4 := by
                        rcases Nat.eq_zero_or_pos k4 with e | e
                        · exfalso
                          obtain ⟨h1, h2, h3, h4, h5, h6⟩ := H4A.out
                          have hcn : cc = nx := by
                            rcases Nat.lt_or_ge cc nx with x | x
                            · exact absurd ⟨x, e⟩ hgo
                            · omega
                          subst e
                          have := h2.st (by omega)
                          cases hHs : Hs4 with
                          | nil => exact this hHs
                          | cons x r =>
                            have y1 := h6 rfl x (by rw [hHs]; simp)
                            have y2 := h2.hs x (by rw [hHs]; simp)
                            omega
                        · exact e
                      have hk4n : ((k4 : Int) == 0) = false := by rw [beq_eq_false_iff_ne]; omega
                      by_cases hcx : cc < nx
                      · have hcl : (cc : Int) + 2 < (nx : Int) + 2 := by omega
                        have H50 : Hid (TuAt w wr b S4 T4 nb (.slice a7 M.length c7) M ∧ IntsAt w.heap.size wr (.slice a4 k4 c4) ((List.range' nx k4).map fun (i : Nat) => (i : Int) + 2)) := ⟨H4A.out.1, H4A.out.2.2.2.1⟩
                        go_wp2_with fail
                        go_loopw [18, 17] (fun t18 t17 wr => ∃ (c5 : Nat) (B5 : Bool), c5 ≤ nx ∧ t18 = .int .i64 ((c5 : Int) + 2) ∧ t17 = .bool B5 ∧ Hid (TuAt w wr b S4 T4 nb (.slice a7 M.length c7) M ∧ IntsAt w.heap.size wr (.slice a4 k4 c4) ((List.range' nx k4).map fun (i : Nat) => (i : Int) + 2))) (fun t18 _ _ => nx + 2 - (intOf t18).toNat)
                        case atStart => exact ⟨0, false, by omega, rfl, rfl, H50⟩
                        case round =>
                          obtain ⟨c5, B5, hc5, rfl, rfl, H5⟩ := hrel
                          clear H50
                          by_cases hc5n : c5 < nx
                          · have hcl5 : (c5 : Int) + 2 < (nx : Int) + 2 := by omega
                            cases B5 with
                            | true =>
                              go_wp2
                              go_roundw
                              case rel => exact ⟨c5 + 1, true, by omega, by go_num, rfl, H5⟩
                              case measure => simp [intOf]; omega
                            | false =>
                              obtain ⟨x0, x1, x2, x3⟩ := H5.out.1.cells
                              have hnl5 := H5.out.1.lt
                              have HHC := H5.out.1.has H4A.out.2.1 c5
                              generalize (if c5 ∈ Hs4 then M.getD c5 0 else 0) = V5 at *
                              go_wp2_with fail
                              refine HHC.mono ?_
                              rintro e w13 ⟨rfl, b13⟩
                              have H13 : Hid (TuAt w w13 b S4 T4 nb (.slice a7 M.length c7) M ∧ IntsAt w.heap.size w13 (.slice a4 k4 c4) ((List.range' nx k4).map fun (i : Nat) => (i : Int) + 2)) := ⟨H5.out.1.below b13, H5.out.2.below b13⟩
                              clear HHC b13 H5 x0 x1 x2 x3 hnl5
                              go_wp2
                              go_roundw
                              case rel => exact ⟨c5 + 1, (V5 != 0), by omega, by go_num, rfl, H13⟩
                              case measure => simp [intOf]; omega
                          · have hcl5 : ¬ (c5 : Int) + 2 < (nx : Int) + 2 := by omega
                            have hk4e : ((k4 : Int) == 0) = false := by rw [beq_eq_false_iff_ne]; omega
                            have H2N : Hid (Tu2 w wr b nb (.slice a7 M.length c7) M (.slice a4 k4 c4) nx) := by
                              obtain ⟨h1, h2, h3, h4, h5, h6⟩ := H4A.out
                              refine ⟨S4, T4, Hs4, nx + k4, H5.out.1, h2, by omega, h3, ?_, h5⟩
                              rw [Nat.add_sub_cancel_left]
                              exact H5.out.2
                            clear H5 H4A
                            go_wp2
                            go_roundw
                            case rel => exact ⟨q + 1, nx, by omega, by omega, by go_num, rfl, H2N⟩
                            case measure => simp [intOf]; omega
                      · have hcl : ¬ (cc : Int) + 2 < (nx : Int) + 2 := by omega
                        have H50 : Hid (TuAt w wr b S4 T4 nb (.slice a7 M.length c7) M ∧ IntsAt w.heap.size wr (.slice a4 k4 c4) ((List.range' nx k4).map fun (i : Nat) => (i : Int) + 2)) := ⟨H4A.out.1, H4A.out.2.2.2.1⟩
                        go_wp2_with fail
                        go_loopw [18, 17] (fun t18 t17 wr => ∃ (c5 : Nat) (B5 : Bool), c5 ≤ nx ∧ t18 = .int .i64 ((c5 : Int) + 2) ∧ t17 = .bool B5 ∧ Hid (TuAt w wr b S4 T4 nb (.slice a7 M.length c7) M ∧ IntsAt w.heap.size wr (.slice a4 k4 c4) ((List.range' nx k4).map fun (i : Nat) => (i : Int) + 2))) (fun t18 _ _ => nx + 2 - (intOf t18).toNat)
                        case atStart => exact ⟨0, false, by omega, rfl, rfl, H50⟩
                        case round =>
                          obtain ⟨c5, B5, hc5, rfl, rfl, H5⟩ := hrel
                          clear H50
                          by_cases hc5n : c5 < nx
                          · have hcl5 : (c5 : Int) + 2 < (nx : Int) + 2 := by omega
                            cases B5 with
                            | true =>
                              go_wp2
                              go_roundw
                              case rel => exact ⟨c5 + 1, true, by omega, by go_num, rfl, H5⟩
                              case measure => simp [intOf]; omega
                            | false =>
                              obtain ⟨x0, x1, x2, x3⟩ := H5.out.1.cells
                              have hnl5 := H5.out.1.lt
                              have HHC := H5.out.1.has H4A.out.2.1 c5
                              generalize (if c5 ∈ Hs4 then M.getD c5 0 else 0) = V5 at *
                              go_wp2_with fail
                              refine HHC.mono ?_
                              rintro e w13 ⟨rfl, b13⟩
                              have H13 : Hid (TuAt w w13 b S4 T4 nb (.slice a7 M.length c7) M ∧ IntsAt w.heap.size w13 (.slice a4 k4 c4) ((List.range' nx k4).map fun (i : Nat) => (i : Int) + 2)) := ⟨H5.out.1.below b13, H5.out.2.below b13⟩
                              clear HHC b13 H5 x0 x1 x2 x3 hnl5
                              go_wp2
                              go_roundw
                              case rel => exact ⟨c5 + 1, (V5 != 0), by omega, by go_num, rfl, H13⟩
                              case measure => simp [intOf]; omega
                          · have hcl5 : ¬ (c5 : Int) + 2 < (nx : Int) + 2 := by omega
                            have hk4e : ((k4 : Int) == 0) = false := by rw [beq_eq_false_iff_ne]; omega
                            have H2N : Hid (Tu2 w wr b nb (.slice a7 M.length c7) M (.slice a4 k4 c4) nx) := by
                              obtain ⟨h1, h2, h3, h4, h5, h6⟩ := H4A.out
                              refine ⟨S4, T4, Hs4, nx + k4, H5.out.1, h2, by omega, h3, ?_, h5⟩
                              rw [Nat.add_sub_cancel_left]
                              exact H5.out.2
                            clear H5 H4A
                            go_wp2
                            go_roundw
                            case rel => exact ⟨q + 1, nx, by omega, by omega, by go_num, rfl, H2N⟩
                            case measure => simp [intOf]; omega
          · obtain rfl : q = 20 := by omega
            have hbel : Hid (Below w.heap.size w wr) := by obtain ⟨_, _, _, _, hu, _⟩ := H2.out; exact hu.bel
            clear H2
            go_wp2
            go_ret
            exact ⟨rfl, hbel.out⟩
      · go_wp2_with fail
        refine HRC.mono ?_
        rintro e w8 ⟨v13, rfl, hrel⟩
        have HT20 : Hid (Tu2 w w8 b nb (.slice a7 M.length c7) M v13 0) := by
          obtain ⟨S', T', k, hk, h1, h2, h3, h4⟩ := hrel
          refine ⟨S', T', [] ++ List.range' 0 k, 0 + k, h1, h2, Nat.zero_le _, fun i _ hi => ?_, by simpa using h3, h4⟩
          rw [List.nil_append, List.mem_range'_1]
          omega
        clear hrel HRC hcd
        go_wp2_with fail
        go_loopw [14, 12, 13] (fun i t12 t13 wr => ∃ q p : Nat, q ≤ 20 ∧ p ≤ M.length ∧ i = .int .i64 (q : Int) ∧ t12 = .int .i64 (p : Int) ∧ Hid (Tu2 w wr b nb (.slice a7 M.length c7) M t13 p)) (fun i _ _ _ => 20 - (intOf i).toNat)
        case atStart => exact ⟨0, 0, by omega, by omega, rfl, rfl, HT20⟩
        case round =>
          obtain ⟨q, p, hq, hp, rfl, rfl, H2⟩ := hrel
          clear HT20
          by_cases hq20 : q < 20
          · have hq1 : (q : Int) < 20 := by omega
            obtain ⟨S, T, Hs, nx, hu, ts, hpn, hin, hwho, hwoff⟩ := H2.out
            clear H2
            obtain ⟨a13, c13, rfl⟩ := hwho.val
            have hnxl := ts.le
            have H30 : Hid (TuAt w wr b S T nb (.slice a7 M.length c7) M ∧ IntsAt w.heap.size wr (.slice a13 ((List.range' p (nx - p)).map fun (i : Nat) => (i : Int) + 2).length c13) ((List.range' p (nx - p)).map fun (i : Nat) => (i : Int) + 2)) := ⟨hu, hwho⟩
            have HTS : Hid (TS T M Hs nx ∧ (∀ i, p ≤ i → i < nx → i ∈ Hs) ∧ ∀ g, (Value.slice a13 ((List.range' p (nx - p)).map fun (i : Nat) => (i : Int) + 2).length c13).ownBlock = some g → ¬ S g) := ⟨ts, hin, hwoff⟩
            have hlen13 : ((List.range' p (nx - p)).map fun (i : Nat) => (i : Int) + 2).length = nx - p := by simp
            rw [hlen13] at H30 HTS ⊢
            clear hu ts hin hwho hwoff hlen13
            obtain ⟨kk, hkk⟩ : ∃ kk, nx = p + kk := ⟨nx - p, by omega⟩
            subst hkk
            rw [Nat.add_sub_cancel_left] at H30 HTS ⊢
            go_wp2_with fail
            go_loopw [15, 12] (fun i t12 wr => ∃ j : Nat, j ≤ kk ∧ i = .int .i64 (j : Int) ∧ t12 = .int .i64 ((p + j : Nat) : Int) ∧ Hid (TuAt w wr b S T nb (.slice a7 M.length c7) M ∧ IntsAt w.heap.size wr (.slice a13 kk c13) ((List.range' p kk).map fun (i : Nat) => (i : Int) + 2))) (fun i _ _ => kk - (intOf i).toNat)
            case atStart => exact ⟨0, by omega, rfl, rfl, H30⟩
            case round =>
              obtain ⟨j, hj, rfl, rfl, H3⟩ := hrel
              clear H30
              by_cases hjk : j < kk
              · obtain ⟨m1, hm1⟩ : ∃ m1, p + j = m1 := ⟨_, rfl⟩
                have hmM : m1 < M.length := by omega
                have hmH : m1 ∈ Hs := HTS.out.2.1 m1 (by omega) (by omega)
                obtain ⟨g13, hg13⟩ := H3.out.2.addr (by simp; omega)
                subst hg13
                obtain ⟨g7, hg7⟩ := H3.out.1.ord.addr (by omega)
                subst hg7
                have hX : M.getD m1 0 = M[m1] := by rw [List.getD_eq_getElem?_getD, List.getElem?_eq_getElem hmM]; rfl
                have hall : ∀ wy, TuAt w wy b S T nb (.slice (some ⟨g7, 0, none⟩) M.length c7) M → IntsAt w.heap.size wy (.slice (some ⟨g13, 0, none⟩) kk c13) ((List.range' p kk).map fun (i : Nat) => (i : Int) + 2) → wy.cell? ⟨g13, j, none⟩ = some (.int .i64 ((m1 : Int) + 2)) ∧ wy.cell? ⟨g7, m1, none⟩ = some (.int .i64 M[m1]) ∧ (wy.cell? ⟨nb, 0, none⟩ = some (.int .i64 2) ∧ wy.cell? ⟨nb, 1, none⟩ = some (.int .i64 1) ∧ wy.cell? ⟨nb, 2, none⟩ = some (.int .u32 0) ∧ wy.cell? ⟨nb, 3, none⟩ = some (.int .i64 0)) := fun wy h1 h2 => by
                  refine ⟨?_, ?_, h1.cells⟩
                  · exact h2.cellAt j _ (by
                      rw [List.getElem?_map, List.getElem?_range' hjk, ← hm1]
                      simp)
                  · exact h1.ord.cellAt m1 _ (List.getElem?_eq_getElem hmM)
                have hall0 := hall wr H3.out.1 H3.out.2
                obtain ⟨X, HX⟩ : ∃ X, Hid (M[m1] = X) := ⟨M[m1], rfl⟩
                rw [HX.out] at hall0
                have cH : ∀ dd os, Calls Tryd.prog 26 #[.pointer (some ⟨b, 0, none⟩), .int .i64 ((m1 : Int) + 2), .agg #[.int .i64 2, .int .i64 1, .int .u32 0, .int .i64 0]] (grow (redrawn wr dd) os) fun e w'' => e = .returned (.int .i64 X) ∧ ∃ p : Regrown, w'' = grow (redrawn wr p.d) p.os := fun dd os => by
                  refine Calls.regrown_of ?_
                  have := (H3.out.1.below (below_regrown wr dd os)).has HTS.out.1 m1
                  rw [if_pos hmH, hX, HX.out] at this
                  exact this
                obtain ⟨q1, q2, q3, q4, q5, q6⟩ := hall0
                have g1 := cell_regrown q1
                have g2 := cell_regrown q2
                have g3 := cell_regrown q3
                have g4 := cell_regrown q4
                have g5 := cell_regrown q5
                have g6 := cell_regrown q6
                have hi1 : (j : Int) < kk := by omega
                have hi0 : (0 : Int) ≤ j := by omega
                have hi2 : (m1 : Int) < M.length := by omega
                have hi3 : (0 : Int) ≤ m1 := by omega
                have hnn : (((m1 : Int) + 2) != ((m1 : Int) + 2)) = false := by simp
                have hnx : (X != X) = false := by simp
                rw [hm1]
                clear hall hX HX hmH q1 q2 q3 q4 q5 q6
                go_upto_region 23 with fail
                refine wp_region_quiet_below lkMixed (by kernel_rfl) ?_
                repeat (first | go_big_quiet_step (first | (go_at_call 26; exact cH _ _)) | quiet_step (first | (go_at_call 26; exact cH _ _)))
                refine wpQuiet_nil ?_
                intro _ hw'
                obtain ⟨⟨dq, osq⟩, hw''⟩ := hw'
                have b7 := below_regrown wr dq osq
                rw [← hw''] at b7
                rename_i w9
                clear hw'' g1 g2 g3 g4 g5 g6 cH
                have HF : Hid (TuAt w w9 b S T nb (.slice (some ⟨g7, 0, none⟩) M.length c7) M ∧ IntsAt w.heap.size w9 (.slice (some ⟨g13, 0, none⟩) kk c13) ((List.range' p kk).map fun (i : Nat) => (i : Int) + 2)) := ⟨H3.out.1.below b7, H3.out.2.below b7⟩
                clear b7 H3
                go_wp2
                go_roundw
                case rel => exact ⟨j + 1, by omega, by go_num, by rw [show p + (j + 1) = m1 + 1 from by omega]; go_num, HF⟩
                case measure => simp [intOf]; omega
              · obtain rfl : j = kk := by omega
                obtain ⟨nx, hnx⟩ : ∃ nx, p + j = nx := ⟨_, rfl⟩
                rw [hnx] at HTS hnxl ⊢
                have hu := H3.out.1
                have hjj : ¬ (j : Int) < (j : Int) := by omega
                clear H3
                by_cases hfin : nx = M.length
                · have hbel : Hid (Below w.heap.size w wr) := hu.bel
                  clear hu HTS HM0
                  subst hfin
                  go_wp2
                  go_ret
                  exact ⟨rfl, hbel.out⟩
                · have hfl : nx < M.length := by omega
                  have hfe : ((nx : Int) == (M.length : Int)) = false := by rw [beq_eq_false_iff_ne]; omega
                  have hpos : 0 < nx := by
                    have h1 := HTS.out.1.st hfl
                    cases hHs : Hs with
                    | nil => exact absurd hHs h1
                    | cons x r => have := HTS.out.1.hs x (by rw [hHs]; simp); omega
                  have hz0' : ((nx : Int) == 0) = false := by rw [beq_eq_false_iff_ne]; omega
                  have HWC := hu.waits HTS.out.1 hfl hM12
                  go_wp2_with fail
                  refine HWC.mono ?_
                  rintro e w9 ⟨rfl, b9⟩
                  have H40 : Hid (Tu4 w (w9.alloc (.cells #[] 3)) b nb (.slice a7 M.length c7) M (.slice (some ⟨w9.heap.size, 0, none⟩) 0 0) nx 0) := by
                    have h9 := (hu.below b9).below ((Below.refl _ _).alloc (Nat.le_refl _) (.cells #[] 3))
                    refine ⟨S, T, Hs, nx, h9, HTS.out.1, Nat.le_refl _, fun i h1 h2 => by omega, ?_, fun g hg x => ?_, fun _ h _ => Nat.zero_le _⟩
                    · have := World.ownsRow_made (base := w.heap.size) (e := 3) (size := 1) w9 #[] 0 (by exact (hu.below b9).bel.size) (Nat.zero_le _) rfl
                      rw [Nat.sub_self]
                      unfold IntsAt
                      simpa using this
                    · have e1 : w9.heap.size = g := Option.some.inj hg
                      have : g < w9.heap.size := by obtain ⟨_, _, _, _, ht⟩ := (hu.below b9).tab; exact ht.lt g x
                      omega
                  clear hu HTS b9 HWC
                  go_wp2_with fail
                  generalize (w9.alloc (.cells #[] 3)) = w10 at *
                  generalize w9.heap.size = bw9 at *
                  go_loopw [16, 13] (fun t16 t13 wr => ∃ cc : Nat, cc ≤ nx ∧ t16 = .int .i64 ((cc : Int) + 2) ∧ Hid (Tu4 w wr b nb (.slice a7 M.length c7) M t13 nx cc)) (fun t16 _ _ => nx + 2 - (intOf t16).toNat)
                  case atStart => exact ⟨0, by omega, rfl, H40⟩
                  case round =>
                    obtain ⟨cc, hcc, rfl, H4⟩ := hrel
                    clear H40
                    obtain ⟨S4, T4, Hs4, nx4, hu4, ts4, hn4, hin4, hwho4, hwoff4, hcle4⟩ := H4.out
                    clear H4
                    obtain ⟨a4, c4, rfl⟩ := hwho4.val
                    obtain ⟨k4, hk4⟩ : ∃ k4, nx4 = nx + k4 := ⟨nx4 - nx, by omega⟩
                    subst hk4
                    have hl4 : ((List.range' nx (nx + k4 - nx)).map fun (i : Nat) => (i : Int) + 2).length = k4 := by simp
                    rw [hl4] at hwho4 hwoff4 ⊢
                    rw [Nat.add_sub_cancel_left] at hwho4
                    have hle4 := ts4.le
                    have H4A : Hid (TuAt w wr b S4 T4 nb (.slice a7 M.length c7) M ∧ TS T4 M Hs4 (nx + k4) ∧ (∀ i, nx ≤ i → i < nx + k4 → i ∈ Hs4) ∧ IntsAt w.heap.size wr (.slice a4 k4 c4) ((List.range' nx k4).map fun (i : Nat) => (i : Int) + 2) ∧ (∀ g, (Value.slice a4 k4 c4).ownBlock = some g → ¬ S4 g) ∧ (k4 = 0 → ∀ h ∈ Hs4, cc ≤ h)) := ⟨hu4, ts4, hin4, hwho4, hwoff4, fun e => hcle4 (by omega)⟩
                    clear hu4 ts4 hin4 hwho4 hwoff4 hcle4 hl4
                    by_cases hgo : cc < nx ∧ k4 = 0
                    · obtain ⟨hgo1, rfl⟩ := hgo
                      have hcl : (cc : Int) + 2 < (nx : Int) + 2 := by omega
                      obtain ⟨x0, x1, x2, x3⟩ := H4A.out.1.cells
                      have hnl4 := H4A.out.1.lt
                      have HHC := H4A.out.1.has H4A.out.2.1 cc
                      by_cases hin : cc ∈ Hs4
                      · rw [if_pos hin] at HHC
                        have hccM : cc < M.length := by omega
                        have hv0 : (M.getD cc 0 != 0) = true := by
                          have : M.getD cc 0 ≠ 0 := by
                            rw [List.getD_eq_getElem?_getD, List.getElem?_eq_getElem hccM]
                            exact HM0.out _ (List.getElem_mem hccM)
                          simpa using this
                        obtain ⟨A1, B1, hAB⟩ := List.append_of_mem hin
                        have HRL : Hid (∀ wx, Below wr.heap.size wr wx → Calls Tryd.prog 20 #[.pointer (some ⟨b, 0, none⟩), .int .i64 ((cc : Int) + 2)] wx fun e w' => ∃ v, e = .returned v ∧ Tu4 w w' b nb (.slice a7 M.length c7) M v nx (cc + 1)) := fun wx kx => by
                          have ts' := H4A.out.2.1
                          rw [hAB] at ts'
                          refine ((H4A.out.1.below kx).rel HLD.out ts' hM12 HM0.out).mono ?_
                          rintro e w' ⟨v, rfl, S', T', k, hk, h1, h2, h3, h4⟩
                          refine ⟨v, rfl, S', T', _, _, h1, h2, by omega, fun i h5 h6 => ?_, ?_, h4, fun e h h5 => ?_⟩
                          · refine List.mem_append_right _ ?_
                            rw [List.mem_range'_1]
                            omega
                          · have e2 : nx + 0 + k - nx = k := by omega
                            rw [e2]
                            exact h3
                          · have hk0 : k = 0 := by omega
                            subst hk0
                            have h6 : h ∈ A1 ++ B1 := by simpa using h5
                            have h7 : h ∈ Hs4 := by
                              rw [hAB]
                              rcases List.mem_append.1 h6 with y | y
                              · exact List.mem_append_left _ y
                              · exact List.mem_append_right _ (List.mem_cons_of_mem _ y)
                            have h8 := H4A.out.2.2.2.2.2 rfl h h7
                            have h9 : h ≠ cc := fun e => by
                              have hd := ts'.nd
                              rw [List.nodup_append, List.nodup_cons] at hd
                              subst e
                              rcases List.mem_append.1 h6 with y | y
                              · exact hd.2.2 h y h (by simp) rfl
                              · exact hd.2.1.1 y
                            omega
                        generalize M.getD cc 0 = V5 at *
                        clear hAB
                        go_wp2_with fail
                        refine HHC.mono ?_
                        rintro e w11 ⟨rfl, b11⟩
                        have HR11 := HRL.out w11 b11
                        clear HRL HHC b11 H4A x0 x1 x2 x3 hnl4
                        go_wp2_with fail
                        refine HR11.mono ?_
                        rintro e w12 ⟨v12, rfl, h12⟩
                        have H12 : Hid (Tu4 w w12 b nb (.slice a7 M.length c7) M v12 nx (cc + 1)) := h12
                        clear h12 HR11
                        go_wp2
                        go_roundw
                        case rel => exact ⟨cc + 1, by omega, by go_num, H12⟩
                        case measure => simp [intOf]; omega
                      · rw [if_neg hin] at HHC
                        have HNX : Hid (∀ wx, Below wr.heap.size wr wx → Tu4 w wx b nb (.slice a7 M.length c7) M (.slice a4 0 c4) nx (cc + 1)) := fun wx kx => by
                          obtain ⟨h1, h2, h3, h4, h5, h6⟩ := H4A.out
                          refine ⟨S4, T4, Hs4, nx + 0, h1.below kx, h2, by omega, h3, ?_, h5, fun _ h h7 => ?_⟩
                          · rw [Nat.add_sub_cancel_left]
                            exact h4.below kx
                          · have := h6 rfl h h7
                            have : h ≠ cc := fun e => hin (e ▸ h7)
                            omega
                        go_wp2_with fail
                        refine HHC.mono ?_
                        rintro e w11 ⟨rfl, b11⟩
                        have H12 : Hid (Tu4 w w11 b nb (.slice a7 M.length c7) M (.slice a4 0 c4) nx (cc + 1)) := HNX.out w11 b11
                        clear HNX HHC b11 H4A x0 x1 x2 x3 hnl4
                        go_wp2
                        go_roundw
                        case rel => exact ⟨cc + 1, by omega, by go_num, H12⟩
                        case measure => simp [intOf]; omega
                    · have hk4p : 0 < k4 := by
                        rcases Nat.eq_zero_or_pos k4 with e | e
                        · exfalso
                          obtain ⟨h1, h2, h3, h4, h5, h6⟩ := H4A.out
                          have hcn : cc = nx := by
                            rcases Nat.lt_or_ge cc nx with x | x
                            · exact absurd ⟨x, e⟩ hgo
                            · omega
                          subst e
                          have := h2.st (by omega)
                          cases hHs : Hs4 with
                          | nil => exact this hHs
                          | cons x r =>
                            have y1 := h6 rfl x (by rw [hHs]; simp)
                            have y2 := h2.hs x (by rw [hHs]; simp)
                            omega
                        · exact e
                      have hk4n : ((k4 : Int) == 0) = false := by rw [beq_eq_false_iff_ne]; omega
                      by_cases hcx : cc < nx
                      · have hcl : (cc : Int) + 2 < (nx : Int) + 2 := by omega
                        have H50 : Hid (TuAt w wr b S4 T4 nb (.slice a7 M.length c7) M ∧ IntsAt w.heap.size wr (.slice a4 k4 c4) ((List.range' nx k4).map fun (i : Nat) => (i : Int) + 2)) := ⟨H4A.out.1, H4A.out.2.2.2.1⟩
                        go_wp2_with fail
                        go_loopw [18, 17] (fun t18 t17 wr => ∃ (c5 : Nat) (B5 : Bool), c5 ≤ nx ∧ t18 = .int .i64 ((c5 : Int) + 2) ∧ t17 = .bool B5 ∧ Hid (TuAt w wr b S4 T4 nb (.slice a7 M.length c7) M ∧ IntsAt w.heap.size wr (.slice a4 k4 c4) ((List.range' nx k4).map fun (i : Nat) => (i : Int) + 2))) (fun t18 _ _ => nx + 2 - (intOf t18).toNat)
                        case atStart => exact ⟨0, false, by omega, rfl, rfl, H50⟩
                        case round =>
                          obtain ⟨c5, B5, hc5, rfl, rfl, H5⟩ := hrel
                          clear H50
                          by_cases hc5n : c5 < nx
                          · have hcl5 : (c5 : Int) + 2 < (nx : Int) + 2 := by omega
                            cases B5 with
                            | true =>
                              go_wp2
                              go_roundw
                              case rel => exact ⟨c5 + 1, true, by omega, by go_num, rfl, H5⟩
                              case measure => simp [intOf]; omega
                            | false =>
                              obtain ⟨x0, x1, x2, x3⟩ := H5.out.1.cells
                              have hnl5 := H5.out.1.lt
                              have HHC := H5.out.1.has H4A.out.2.1 c5
                              generalize (if c5 ∈ Hs4 then M.getD c5 0 else 0) = V5 at *
                              go_wp2_with fail
                              refine HHC.mono ?_
                              rintro e w13 ⟨rfl, b13⟩
                              have H13 : Hid (TuAt w w13 b S4 T4 nb (.slice a7 M.length c7) M ∧ IntsAt w.heap.size w13 (.slice a4 k4 c4) ((List.range' nx k4).map fun (i : Nat) => (i : Int) + 2)) := ⟨H5.out.1.below b13, H5.out.2.below b13⟩
                              clear HHC b13 H5 x0 x1 x2 x3 hnl5
                              go_wp2
                              go_roundw
                              case rel => exact ⟨c5 + 1, (V5 != 0), by omega, by go_num, rfl, H13⟩
                              case measure => simp [intOf]; omega
                          · have hcl5 : ¬ (c5 : Int) + 2 < (nx : Int) + 2 := by omega
                            have hk4e : ((k4 : Int) == 0) = false := by rw [beq_eq_false_iff_ne]; omega
                            have H2N : Hid (Tu2 w wr b nb (.slice a7 M.length c7) M (.slice a4 k4 c4) nx) := by
                              obtain ⟨h1, h2, h3, h4, h5, h6⟩ := H4A.out
                              refine ⟨S4, T4, Hs4, nx + k4, H5.out.1, h2, by omega, h3, ?_, h5⟩
                              rw [Nat.add_sub_cancel_left]
                              exact H5.out.2
                            clear H5 H4A
                            go_wp2
                            go_roundw
                            case rel => exact ⟨q + 1, nx, by omega, by omega, by go_num, rfl, H2N⟩
                            case measure => simp [intOf]; omega
                      · have hcl : ¬ (cc : Int) + 2 < (nx : Int) + 2 := by omega
                        have H50 : Hid (TuAt w wr b S4 T4 nb (.slice a7 M.length c7) M ∧ IntsAt w.heap.size wr (.slice a4 k4 c4) ((List.range' nx k4).map fun (i : Nat) => (i : Int) + 2)) := ⟨H4A.out.1, H4A.out.2.2.2.1⟩
                        go_wp2_with fail
                        go_loopw [18, 17] (fun t18 t17 wr => ∃ (c5 : Nat) (B5 : Bool), c5 ≤ nx ∧ t18 = .int .i64 ((c5 : Int) + 2) ∧ t17 = .bool B5 ∧ Hid (TuAt w wr b S4 T4 nb (.slice a7 M.length c7) M ∧ IntsAt w.heap.size wr (.slice a4 k4 c4) ((List.range' nx k4).map fun (i : Nat) => (i : Int) + 2))) (fun t18 _ _ => nx + 2 - (intOf t18).toNat)
                        case atStart => exact ⟨0, false, by omega, rfl, rfl, H50⟩
                        case round =>
                          obtain ⟨c5, B5, hc5, rfl, rfl, H5⟩ := hrel
                          clear H50
                          by_cases hc5n : c5 < nx
                          · have hcl5 : (c5 : Int) + 2 < (nx : Int) + 2 := by omega
                            cases B5 with
                            | true =>
                              go_wp2
                              go_roundw
                              case rel => exact ⟨c5 + 1, true, by omega, by go_num, rfl, H5⟩
                              case measure => simp [intOf]; omega
                            | false =>
                              obtain ⟨x0, x1, x2, x3⟩ := H5.out.1.cells
                              have hnl5 := H5.out.1.lt
                              have HHC := H5.out.1.has H4A.out.2.1 c5
                              generalize (if c5 ∈ Hs4 then M.getD c5 0 else 0) = V5 at *
                              go_wp2_with fail
                              refine HHC.mono ?_
                              rintro e w13 ⟨rfl, b13⟩
                              have H13 : Hid (TuAt w w13 b S4 T4 nb (.slice a7 M.length c7) M ∧ IntsAt w.heap.size w13 (.slice a4 k4 c4) ((List.range' nx k4).map fun (i : Nat) => (i : Int) + 2)) := ⟨H5.out.1.below b13, H5.out.2.below b13⟩
                              clear HHC b13 H5 x0 x1 x2 x3 hnl5
                              go_wp2
                              go_roundw
                              case rel => exact ⟨c5 + 1, (V5 != 0), by omega, by go_num, rfl, H13⟩
                              case measure => simp [intOf]; omega
                          · have hcl5 : ¬ (c5 : Int) + 2 < (nx : Int) + 2 := by omega
                            have hk4e : ((k4 : Int) == 0) = false := by rw [beq_eq_false_iff_ne]; omega
                            have H2N : Hid (Tu2 w wr b nb (.slice a7 M.length c7) M (.slice a4 k4 c4) nx) := by
                              obtain ⟨h1, h2, h3, h4, h5, h6⟩ := H4A.out
                              refine ⟨S4, T4, Hs4, nx + k4, H5.out.1, h2, by omega, h3, ?_, h5⟩
                              rw [Nat.add_sub_cancel_left]
                              exact H5.out.2
                            clear H5 H4A
                            go_wp2
                            go_roundw
                            case rel => exact ⟨q + 1, nx, by omega, by omega, by go_num, rfl, H2N⟩
                            case measure => simp [intOf]; omega
          · obtain rfl : q = 20 := by omega
            have hbel : Hid (Below w.heap.size w wr) := by obtain ⟨_, _, _, _, hu, _⟩ := H2.out; exact hu.bel
            clear H2
            go_wp2
            go_ret
            exact ⟨rfl, hbel.out⟩

end Go.Proofs.YtfniepccldkahaaDoor
