/-
  The walk of Cycle.
-/
import Derived.Test.YthagomibjlcfmaaDoorLkCycHC
import Derived.Test.YthagomibjlcfmaaDoorLkSortC
import Derived.Test.YthagomibjlcfmaaDoorShRevC
import Derived.Deep.LoopGhost
import Derived.Laws.OwnMore
namespace Go.Proofs.YthagomibjlcfmaaDoor
open Go.RowKit Go.Sort Go.Shelf
set_option linter.unusedVariables false
set_option linter.unusedSimpArgs false

def cntB (bn : Int → Bool) : Nat := (([1, 2, 3, 4] : List Int).filter bn).length

theorem cntB_le (bn : Int → Bool) : cntB bn ≤ 4 := List.length_filter_le _ _

theorem cntB_put {bn : Int → Bool} {z : Int} (hz : 1 ≤ z ∧ z ≤ 4) (h : bn z = false) : cntB (fun u => if u = z then true else bn u) = cntB bn + 1 := by
  unfold cntB
  rcases (by omega : z = 1 ∨ z = 2 ∨ z = 3 ∨ z = 4) with rfl | rfl | rfl | rfl <;>
  cases h1 : bn 1 <;> cases h2 : bn 2 <;> cases h3 : bn 3 <;> cases h4 : bn 4 <;> simp_all [List.filter]

/-- Where Cycle's loop stands. -/
structure CyAt (w wr : World) (bm : Nat) (su : Int → List Int) (x : Int) (v : Value) (way : List Int) (bn : Int → Bool) (sz : Nat) (D : DataW Value) : Prop where
  bel : Below w.heap.size w wr
  ints : IntsAt w.heap.size wr v way
  been : BeenAt wr bm sz D bn
  bml : w.heap.size ≤ bm
  st : CySt su x way bn
  rng : ∀ y ∈ way, 1 ≤ y ∧ y ≤ 4
  szc : sz ≤ cntB bn
  len : way.length ≤ cntB bn + 1
  off : ∀ g, v.ownBlock = some g → g ≠ bm

theorem CyAt.below {w wr wx : World} {bm : Nat} {su : Int → List Int} {x : Int} {v : Value} {way : List Int} {bn : Int → Bool} {sz : Nat} {D : DataW Value} (h : CyAt w wr bm su x v way bn sz D) (k : Below wr.heap.size wr wx) : CyAt w wx bm su x v way bn sz D :=
  ⟨h.bel.trans (k.mono h.bel.size), h.ints.below k, h.been.same (k.block bm h.been.map.lt), h.bml, h.st, h.rng, h.szc, h.len, h.off⟩

theorem rev_any {B g n c : Nat} {w : World} {zs : List Int} (h : IntsAt B w (.slice (some ⟨g, 0, none⟩) n c) zs) (hz : zs.length ≤ 1000) :
    Calls Tryd.prog 31 #[.slice (some ⟨g, 0, none⟩) n c] w fun e w' => e = .returned (.tuple #[]) ∧ w.grownBy w' (some g) := by
  have h0 := h
  unfold IntsAt at h0
  rcases h0.2 with ⟨e, hn⟩ | ⟨g', cap, cur, e, hB, hb, hn, hm, hs, ht⟩
  · cases e
  · obtain ⟨e2, e3, e4⟩ := Value.slice.inj e
    have hgg : g = g' := by simpa using e2
    subst hgg
    subst e4
    subst e3
    rw [Nat.mul_one] at ht
    refine (Any.slices_Reverse_int revLays g 0 c zs w (holds_of_blockI hb ht) (by omega)).mono ?_
    rintro e w' ⟨rfl, q, rfl⟩
    refine ⟨rfl, ?_⟩
    have := grownBy_sortedI (w := w) (g := g) (n := q) (os := #[]) zs.reverse.toArray
    rw [grow_empty] at this
    exact this

set_option maxHeartbeats 3200000 in
set_option maxRecDepth 20000 in
theorem cyc_any {w : World} {b : Nat} (su : Int → List Int) {x : Int} (hx : 1 ≤ x ∧ x ≤ 4) (hs4 : ∀ y, ∀ z ∈ su y, 1 ≤ z ∧ z ≤ 4) (hsl : ∀ y, (su y).length ≤ 1000000)
    (hB : ∀ (y : Int) (wx : World), 1 ≤ y ∧ y ≤ 4 → Below w.heap.size w wx → Calls Tryd.prog 13 #[.pointer (some ⟨b, 0, none⟩), .int .i64 y] wx fun e w' => ∃ v, e = .returned v ∧ IntsAt wx.heap.size w' v (su y) ∧ Below wx.heap.size wx w') :
    Calls Tryd.prog 12 #[.pointer (some ⟨b, 0, none⟩), .int .i64 x] w fun e w' => ∃ va k c, e = .returned (.slice va k c) ∧ Below w.heap.size w w' ∧ (k = 0 → ∃ B : Int → Prop, (∀ z ∈ su x, B z) ∧ Closed su B ∧ ¬ B x) := by
  obtain ⟨ti, hi, hzz⟩ := Option.map_eq_some_iff.1 infoInt
  simp only [Prod.mk.injEq] at hzz
  obtain ⟨hz0, hz1, hz2⟩ := hzz
  have HFN : Hid (∀ y wx bm sz D bn, 1 ≤ y ∧ y ≤ 4 → Below w.heap.size w wx → BeenAt wx bm sz D bn → Calls Tryd.prog 29 #[.pointer (some ⟨b, 0, none⟩), .int .i64 y, .map (some bm)] wx fun e w' => e = .returned (.int .i64 (newF bn (su y))) ∧ Below wx.heap.size wx w') := fun y wx bm sz D bn hy k hbn =>
    first_any hbn (fun z hz => by have := hs4 y z hz; exact ⟨by omega, by omega⟩) (hsl y) (hB y wx hy k)
  have HS4 : Hid (∀ y, ∀ z ∈ su y, 1 ≤ z ∧ z ≤ 4) := hs4
  have hmm := @run_makeMap Tryd.prog
  clear hB hs4 hsl
  go_enter Tryd.func12, Tryd.ntmps12
  have H0 : Hid (CyAt w ((w.alloc (.cells #[.int .i64 x] 3)).alloc (.map #[] 0)) (w.heap.size + 1) su x (.slice (some ⟨w.heap.size, 0, none⟩) 1 1) [x] (fun _ => false) 0 (.map [])) := by
    have s1 : (w.alloc (.cells #[.int .i64 x] 3)).heap.size = w.heap.size + 1 := by simp
    have m1 := BeenAt.made (w.alloc (.cells #[.int .i64 x] 3))
    rw [s1] at m1
    refine ⟨((Below.refl _ _).alloc (Nat.le_refl _) _).alloc (by simp) _, ?_, m1, by omega, CySt.start su x, fun y hy => by rw [List.mem_singleton.1 hy]; exact hx, Nat.zero_le _, by simp, fun g hg => by have : w.heap.size = g := Option.some.inj hg; omega⟩
    have h2 : IntsAt w.heap.size (w.alloc (.cells #[.int .i64 x] 3)) (.slice (some ⟨w.heap.size, 0, none⟩) 1 1) [x] :=
      ⟨rfl, .inr ⟨w.heap.size, 1, #[.int .i64 x], rfl, Nat.le_refl _, heap_alloc_new w _, Nat.le_refl _, by unfold maxLen; omega, rfl, rfl⟩⟩
    exact h2.below ((Below.refl _ _).alloc (Nat.le_refl _) _)
  go_wp2_with fail
  generalize ((w.alloc (.cells #[.int .i64 x] 3)).alloc (.map #[] 0)) = w2 at *
  generalize w.heap.size + 1 = bm at *
  go_loopg [5] 9 (fun gk t5 wr => ∃ way bn sz D, Hid (CyAt w wr bm su x t5 way bn sz D) ∧ (4 - cntB bn) * 2 + way.length ≤ gk)
  case atStart => exact ⟨[x], _, 0, _, H0, by simp [cntB]⟩
  case round =>
    obtain ⟨way, bn, sz, D, HC, hgk⟩ := hrel
    clear H0
    rcases List.eq_nil_or_concat way with rfl | ⟨wy, y, rfl⟩
    · have HF : Hid (Below w.heap.size w wr ∧ ∃ B : Int → Prop, (∀ z ∈ su x, B z) ∧ Closed su B ∧ ¬ B x) := ⟨HC.out.bel, HC.out.st.end'⟩
      obtain ⟨va, vc, rfl⟩ := HC.out.ints.val
      clear HC
      go_wp2
      go_ret
      exact ⟨none, 0, 0, rfl, HF.out.1, fun _ => HF.out.2⟩
    · rw [List.concat_eq_append] at HC hgk
      obtain ⟨va, vc, rfl⟩ := HC.out.ints.val
      have hml : wy.length + 1 ≤ 5 := by have := HC.out.len; have := cntB_le bn; simp at *; omega
      rw [List.length_append, List.length_singleton] at HC hgk ⊢
      obtain ⟨m, hm⟩ : ∃ m, wy.length = m := ⟨_, rfl⟩
      rw [hm] at HC hgk hml ⊢
      obtain ⟨g, rfl, hcap⟩ : ∃ g, va = some ⟨g, 0, none⟩ ∧ m + 1 ≤ vc := by
        rcases HC.out.ints.2 with ⟨e, hn⟩ | ⟨g, cap, cur, e, _, _, hn, _⟩
        · simp at hn
        · obtain ⟨e1, e2, e3⟩ := Value.slice.inj e
          refine ⟨g, e1, ?_⟩
          simp at hn
          omega
      have hc : wr.cell? ⟨g, m, none⟩ = some (.int .i64 y) := by
        have := World.ownsRow.cells (g := g) HC.out.ints rfl m (.int .i64 y) (by rw [List.getElem?_map, ← hm]; simp)
        rw [Addr.add_lit, Nat.zero_add] at this
        exact this
      have hyr := HC.out.rng y (by simp)
      have hFN := HFN.out y wr bm sz D bn hyr HC.out.bel HC.out.been
      obtain ⟨nx, Hnx⟩ : ∃ nx, Hid (newF bn (su y) = nx) := ⟨_, rfl⟩
      rw [Hnx.out] at hFN
      have hw0 : wrap64 ((m : Int) + 1 - 1) = m := by unfold wrap64; omega
      have i0 : (0 : Int) ≤ m := by omega
      have i1 : (m : Int) < (m : Int) + 1 := by omega
      have i2 : (m : Int) ≤ vc := by omega
      have i3 : (0 : Int) < (m : Int) + 1 := by omega
      clear hyr
      go_wp2_with fail
      refine hFN.mono ?_
      rintro e w3 ⟨rfl, b3⟩
      have HC3 : Hid (CyAt w w3 bm su x (.slice (some ⟨g, 0, none⟩) (m + 1) vc) (wy ++ [y]) bn sz D) := HC.out.below b3
      have hwl : (wy ++ [y]).length = m + 1 := by simp [hm]
      clear HC hFN b3 hc
      by_cases hn0 : nx = 0
      · have HP : Hid (CyAt w w3 bm su x (.slice (some ⟨g, 0, none⟩) m vc) wy bn sz D) := by
          have h := HC3.out
          have hp := h.ints.pop
          rw [hm] at hp
          exact ⟨h.bel, hp, h.been, h.bml, h.st.pop (fun z hz => by have := HS4.out y z hz; omega) (by rw [Hnx.out]; exact hn0), fun u hu => h.rng u (by simp [hu]), h.szc, by have := h.len; rw [hwl] at this; omega, fun g' hg' => h.off g' hg'⟩
        clear HC3 Hnx
        subst hn0
        go_wp2
        go_roundg (gk - 1)
        case measure => omega
        case rel => exact ⟨wy, bn, sz, D, HP, by omega⟩
      · have hn0' : (nx == 0) = false := by rw [beq_eq_false_iff_ne]; exact hn0
        by_cases hnx : nx = x
        · have hnx' : (nx == x) = true := by rw [beq_iff_eq]; exact hnx
          have hSo := sorts_all 1000 (by omega) w.heap.size (wy ++ [y]) w3 (.slice (some ⟨g, 0, none⟩) (m + 1) vc) (by rw [hwl]; omega) HC3.out.ints
          clear Hnx hnx
          go_wp2_with fail
          refine hSo.mono ?_
          rintro e w4 ⟨rfl, hi4, hg4⟩
          have hRv := rev_any hi4 (by rw [sortI_len, hwl]; omega)
          have B4 : Hid (Below w.heap.size w w4 ∧ w.heap.size ≤ g) := ⟨HC3.out.bel.grown hg4 HC3.out.bel.size (fun k hk => (HC3.out.ints.lt k hk).1), (hi4.lt g rfl).1⟩
          clear hSo hi4 hg4 HC3
          go_wp2_with fail
          refine hRv.mono ?_
          rintro e w5 ⟨rfl, hg5⟩
          have HF : Hid (Below w.heap.size w w5) := B4.out.1.grown hg5 B4.out.1.size (fun k hk => by cases hk; exact B4.out.2)
          clear hRv hg5 B4
          go_wp2
          go_ret
          exact ⟨some ⟨g, 0, none⟩, m + 1, vc, rfl, HF.out, fun e => by omega⟩
        · have hnx' : (nx == x) = false := by rw [beq_eq_false_iff_ne]; exact hnx
          have hmem := newF_mem (bn := bn) (zs := su y) (by rw [Hnx.out]; exact hn0)
          rw [Hnx.out] at hmem
          have hr4 := HS4.out y nx hmem.1
          obtain ⟨u, hu⟩ := put_ex 3 72 75 bm (.int .i64 nx) (.agg #[])
          obtain ⟨hru, hmp, htn⟩ := hu w3 _ _ _ HC3.out.been.map txKeyed Tryd.underlying72 (by have := HC3.out.szc; have := cntB_le bn; omega) (tkey_key (by omega) (by omega))
          have hgr := htn.grown
          have bel4 : Below w.heap.size w (u w3) := HC3.out.bel.grown hgr HC3.out.bel.size (fun k hk => by cases hk; exact HC3.out.bml)
          have ints4 : IntsAt w.heap.size (u w3) (.slice (some ⟨g, 0, none⟩) (m + 1) vc) (wy ++ [y]) := HC3.out.ints.same fun g' hg' => hgr.block g' (HC3.out.ints.lt g' hg').2 (fun e => HC3.out.off g' hg' (Option.some.inj e))
          have been4 := HC3.out.been.put hmp
          have hcp := cntB_put hr4 hmem.2
          have HX : Hid (CySt su x (wy ++ [y] ++ [nx]) (fun u => if u = nx then true else bn u) ∧ (∀ v ∈ wy ++ [y] ++ [nx], 1 ≤ v ∧ v ≤ 4) ∧ Maps.size (D.put (tkey nx) (.held (.agg #[]))) ≤ cntB (fun u => if u = nx then true else bn u)) := by
            refine ⟨HC3.out.st.push hnx, fun v hv => ?_, ?_⟩
            · rcases List.mem_append.1 hv with a | a
              · exact HC3.out.rng v a
              · rw [List.mem_singleton.1 a]; exact hr4
            · rw [hcp]
              have := HC3.out.been.size_put (t := nx)
              have := HC3.out.szc
              omega
          have hlen5 : (wy ++ [y]).length ≤ cntB bn + 1 := HC3.out.len
          have HOF : Hid (g ≠ bm ∧ w.heap.size ≤ bm) := ⟨HC3.out.off g rfl, HC3.out.bml⟩
          clear hu hmp htn hgr HC3 Hnx hmem
          have HB4 : Hid (Below w.heap.size w (u w3)) := bel4
          have hsz4 : w.heap.size ≤ (u w3).heap.size := bel4.size
          clear bel4
          have hbm4 : bm < (u w3).heap.size := been4.map.lt
          have hown : ((u w3).alloc (.cells #[.int .i64 nx] 3)).ownsRow w.heap.size 3 1 (.slice (some ⟨g, 0, none⟩) (m + 1) vc) (m + 1) ((wy ++ [y]).map (Value.int .i64)) := by
            have := ints4.below ((Below.refl _ _).alloc (Nat.le_refl _) (.cells #[.int .i64 nx] 3))
            unfold IntsAt at this
            rw [hwl] at this
            exact this
          have HBN : Hid (BeenAt (u w3) bm (Maps.size (D.put (tkey nx) (.held (.agg #[])))) (D.put (tkey nx) (.held (.agg #[]))) (fun u => if u = nx then true else bn u)) := been4
          have HGE : Hid (∀ k, (Value.slice (some ⟨g, 0, none⟩) (m + 1) vc).ownBlock = some k → w.heap.size ≤ k) := fun k hk => (ints4.lt k hk).1
          have HCP : Hid (cntB (fun u => if u = nx then true else bn u) = cntB bn + 1) := hcp
          clear been4 ints4 hcp
          go_wp2_with (at_builtin; refine wpList_append_own_at _ rfl _ _ 38 rfl w.heap.size 3 ti (.int .i64 0) 1 8 Tryd.underlying38 hi hz0 hz1 hz2 rfl (by decide) (.slice (some ⟨g, 0, none⟩) (m + 1) vc) (m + 1) ((wy ++ [y]).map (Value.int .i64)) rfl hown ⟨(u w3).heap.size, 0, none⟩ 1 1 [.int .i64 nx] rfl rfl (by intro j u hj; match j, hj with | 0, hj => (simp at hj; subst hj; simp [Addr.add])) (by intro u hu; simp at hu; subst hu; rfl) (by unfold maxLen; omega) (by omega) (by simp; omega) ?_; intro v7 w7 hown7 hgrow7 hnil7 hloc7)
          have HF : Hid (CyAt w w7 bm su x v7 (wy ++ [y] ++ [nx]) (fun u => if u = nx then true else bn u) (Maps.size (D.put (tkey nx) (.held (.agg #[])))) (D.put (tkey nx) (.held (.agg #[])))) := by
            have b5 := HB4.out.alloc hsz4 (.cells #[.int .i64 nx] 3)
            have hbm5 : bm < ((u w3).alloc (.cells #[.int .i64 nx] 3)).heap.size := by simp; omega
            refine ⟨b5.grown hgrow7 b5.size HGE.out, ?_, HBN.out.same ((hgrow7.block bm hbm5 (fun e => HOF.out.1 (Option.some.inj e.symm))).trans (Below.heap_alloc _ _ _ hbm4)), HOF.out.2, HX.out.1, HX.out.2.1, HX.out.2.2, ?_, fun g' hg' => ?_⟩
            · unfold IntsAt
              rw [List.length_append, hwl, List.map_append]
              exact hown7
            · rw [HCP.out, List.length_append, hwl]
              rw [hwl] at hlen5
              simp
              omega
            · rcases hloc7 with e | e
              · rw [e] at hg'
                have : g = g' := Option.some.inj hg'
                rw [← this]; exact HOF.out.1
              · rw [e] at hg'
                have : _ = g' := Option.some.inj hg'
                omega
          have hcl4 := cntB_le (fun u => if u = nx then true else bn u)
          rw [HCP.out] at hcl4
          have hgk2 : (4 - cntB (fun u => if u = nx then true else bn u)) * 2 + (wy ++ [y] ++ [nx]).length ≤ gk - 1 := by
            rw [HCP.out, List.length_append, hwl]
            simp
            omega
          clear hown7 hgrow7 hnil7 hloc7 hown HBN HGE HX HOF HB4
          go_wp2
          go_roundg (gk - 1)
          case measure => omega
          case rel => exact ⟨_, _, _, _, HF, hgk2⟩

end Go.Proofs.YthagomibjlcfmaaDoor
