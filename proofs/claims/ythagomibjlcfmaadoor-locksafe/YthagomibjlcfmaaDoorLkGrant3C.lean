/-
  The walk of grant.
-/
import Derived.Test.YthagomibjlcfmaaDoorLkGrant2C
namespace Go.Proofs.YthagomibjlcfmaaDoor
open Go.RowKit
set_option linter.unusedVariables false
set_option linter.unusedSimpArgs false

/-- What grant leaves. -/
def Granted (S : Nat → Prop) (w w' : World) (b : Nat) (T : Tab) (n : NameV) (v : Value) : Prop :=
  ∃ S' k, GrantR (T.Q n) k ∧ IntsAt (w.heap.size + 1) w' v (whoF (T.Q n) k) ∧ IsTab S' w' b ((T.delWs (whoF (T.Q n) k)).setQ n (stateL (T.Q n) (waitF (T.Q n)) k)) ∧ MovesL S S' w w' ∧ ∀ g, v.ownBlock = some g → ¬ S' g

theorem GrAt.lay {S : Nat → Prop} {w wr : World} {b bq bw : Nat} {DQ : DataW Value} {T : Tab} {n : NameV} {l : Lit} {v5 v6 v16 : Value} {k : Nat} (h : GrAt S w wr b bq bw DQ T n l v5 v6 v16 k) (hn : NKey n l) (hS : ∀ k, S k → k < w.heap.size) (hR : GrantR (T.Q n) k) (hz : T.z ≤ 1000000) (hL : (T.Q n).length ≤ 400000) :
    Calls Tryd.prog 19 #[.pointer (some ⟨b, 0, none⟩), nval n, v5] wr fun e w' => e = .returned (.tuple #[]) ∧ Granted S w w' b T n v6 := by
  obtain ⟨DW', ht⟩ := h.tab
  have hw := waitF_len (T.Q n)
  have hl : (stateL (T.Q n) (waitF (T.Q n)) k).length ≤ 1000000 := by have := h.len; have := hR.le; omega
  have hloc : v5.ownBlock = (getV DQ l nilS).ownBlock ∨ ∃ z, v5.ownBlock = some z ∧ ¬ S z := by
    rcases h.loc with e | ⟨z, e, hz'⟩
    · exact .inl e
    · exact .inr ⟨z, e, fun x => by have := hS z x; omega⟩
  refine (lay_any hn ht h.q hloc hz hl).mono ?_
  rintro e w' ⟨rfl, hT, hk⟩
  have hbq := hS bq ht.sq
  have hwho := h.who
  refine ⟨rfl, _, k, hR, hwho.same fun g hg => hk.block g (hwho.lt g hg).2 (by have := (hwho.lt g hg).1; omega), hT, ⟨h.kept.trans (hk.mono fun x e => e ▸ ht.sq), fun x hx => ?_⟩, fun g hg hx => ?_⟩
  · rcases hx with hx | hx
    · exact .inl hx
    · rcases h.at5 hn hS x hx with y | y
      · exact .inl y.1
      · exact .inr (by omega)
  · rcases hx with hx | hx
    · have := hS g hx; have := (hwho.lt g hg).1; omega
    · exact q_ne_ints h.q hwho g hx hg

set_option maxHeartbeats 4000000 in
set_option maxRecDepth 20000 in
theorem grant_any {S : Nat → Prop} {w : World} {b : Nat} {T : Tab} (hl : LkLaid w) (h : IsTab S w b T) (n : NameV) (l : Lit) (hn : NKey n l) (hz : T.z ≤ 1000000) (hL : (T.Q n).length ≤ 400000) (hr : ∀ p ∈ T.Q n, i64R p.1) (hS0 : ¬ S 0 ∧ ¬ S 1) :
    Calls Tryd.prog 21 #[ptr b, nval n] w fun e w' => ∃ v, e = .returned v ∧ Granted S w w' b T n v := by
  obtain ⟨bq, bw, DQ, DW, h⟩ := h
  obtain ⟨i0, hi, hzz⟩ := Option.map_eq_some_iff.1 infoInt
  simp only [Prod.mk.injEq] at hzz
  obtain ⟨hz0, hz1, hz2⟩ := hzz
  have hSlt := h.lt
  have hblt := h.lt b h.sb
  have HSB : Hid (S b ∧ S bq ∧ S bw ∧ b ≠ bw ∧ b ≠ bq) := ⟨h.sb, h.sq, h.sw, h.ne.2.1, h.ne.1⟩
  have HT : Hid (∀ wx, Below w.heap.size w wx → TabX noEx S wx b bq bw DQ DW T) := fun wx k => h.below k
  have HLD : Hid (∀ wx, KeptL S w wx → LkLaid wx) := fun wx k => hl.same k.size (k.block 0 (by have := hl.lt; omega) hS0.1) (k.block 1 (by have := hl.lt; omega) hS0.2)
  have HLK : Hid (∀ wx, Below w.heap.size w wx → (Instr.lookup 52 (.map (some bq)) (nval n) false).run Tryd.prog wx = .ok (getV DQ l nilS) wx) := fun wx k => (h.below k).mq.look nameKeyed Tryd.underlying52 (zeroQueue wx) hn
  have HWT : Hid (∀ wx, Below w.heap.size w wx → Calls Tryd.prog 49 #[getV DQ l nilS] wx fun e w' => ∃ v', e = .returned v' ∧ PlsAt wx.heap.size w' v' (waitF (T.Q n)) ∧ Below wx.heap.size wx w') := fun wx k => waiting_any ((h.below k).valq n l hn (fun x => x)) (by omega)
  have HLY : Hid (∀ wr v5 v6 v16 k, GrAt S w wr b bq bw DQ T n l v5 v6 v16 k → GrantR (T.Q n) k → Calls Tryd.prog 19 #[.pointer (some ⟨b, 0, none⟩), nval n, v5] wr fun e w' => e = .returned (.tuple #[]) ∧ Granted S w w' b T n v6) := fun wr v5 v6 v16 k hg hR => hg.lay hn hSlt hR hz hL
  have HRG : Hid (∀ j (hj : j < (waitF (T.Q n)).length), i64R (waitF (T.Q n))[j].1) := fun j hj => hr _ (List.mem_filter.1 (show (waitF (T.Q n))[j] ∈ List.filter (fun p => !decide (p.2.2.1 = 0)) (T.Q n) from List.getElem_mem hj)).1
  have hwl : (waitF (T.Q n)).length ≤ 400000 := Nat.le_trans (waitF_len _) hL
  have HA0 := (show w.heap.size = w.heap.size from rfl)
  clear HA0 hl h hr
  obtain ⟨n0, n1, n2, n3⟩ := n
  unfold ptr
  unfold nval at HLK HLY ⊢
  simp only at HLK HLY ⊢
  have W0 : Below w.heap.size w (w.alloc (.cells #[.int .i64 n0, .int .i64 n1, .int .u32 n2, .int .i64 n3] 33)).drew := ((Below.refl _ _).alloc (Nat.le_refl _) _).drew
  have hc0 := (HT.out _ ((Below.refl w.heap.size w).alloc (Nat.le_refl _) (.cells #[.int .i64 n0, .int .i64 n1, .int .u32 n2, .int .i64 n3] 33))).c0
  have HL0 := HLK.out _ W0
  generalize hgv : getV DQ l nilS = V at *
  go_enter Tryd.func21, Tryd.ntmps21
  go_wp2_with fail
  go_region
  clear HL0 hc0 HLK
  have hbox : (w.alloc (.cells #[.int .i64 n0, .int .i64 n1, .int .u32 n2, .int .i64 n3] 33)).drew.heap[w.heap.size]? = some (.cells (ncellsA (n0, n1, n2, n3)) 33) := heap_alloc_new w _
  have hsz1 : (w.alloc (.cells #[.int .i64 n0, .int .i64 n1, .int .u32 n2, .int .i64 n3] 33)).drew.heap.size = w.heap.size + 1 := by simp [World.drew]
  obtain ⟨w1, Hw1⟩ : ∃ w1, Hid (w1 = (w.alloc (.cells #[.int .i64 n0, .int .i64 n1, .int .u32 n2, .int .i64 n3] 33)).drew) := ⟨_, rfl⟩
  rw [← Hw1.out] at W0 hbox hsz1 ⊢
  clear Hw1
  have HWC := HWT.out w1 W0
  go_wp2_with fail
  refine HWC.mono ?_
  rintro e w2 ⟨v16, rfl, hp2, b2⟩
  rw [hsz1] at hp2
  have HG0 : Hid (GrAt S w w2 b bq bw DQ T (n0, n1, n2, n3) l V (.slice none 0 0) v16 0) := by
    have bel2 := W0.trans (b2.mono W0.size)
    have t2 := HT.out w2 bel2
    have hq := t2.valq _ l hn (fun x => x)
    refine ⟨KeptL.of_below bel2, (b2.block _ (by omega)).trans hbox, ⟨DW, ?_⟩, by rw [hgv] at hq; exact hq, .inl (by rw [hgv]), fun g hg e => ?_, hp2, IntsAt.nil _ _, Nat.le_refl _⟩
    · have : T.delWs (whoF (T.Q (n0, n1, n2, n3)) 0) = T := Tab.delWs_nil T
      rw [this]
      exact t2.touch hn ⟨rfl, rfl, rfl, Nat.le_refl _, fun _ _ _ => rfl⟩
    · rw [← hgv] at hg
      have := hSlt g (t2.rows _ l g hn hg).1
      have := (hp2.lt g e).1
      omega
  obtain ⟨a16, c16, rfl⟩ : ∃ a c, v16 = .slice a (waitF (T.Q (n0, n1, n2, n3))).length c := by
    rcases hp2.2 with ⟨rfl, h1⟩ | ⟨g', cap, cur, rfl, _⟩
    · exact ⟨_, _, by rw [h1]⟩
    · exact ⟨_, _, rfl⟩
  clear hp2 b2 HWC HWT W0 hbox hsz1 HT
  go_wp2_with fail
  go_loopw [18, 5, 6] (fun i t5 t6 wr => ∃ k : Nat, k ≤ (waitF (T.Q (n0, n1, n2, n3))).length ∧ i = .int .i64 k ∧ Hid (GrAt S w wr b bq bw DQ T (n0, n1, n2, n3) l t5 t6 (.slice a16 (waitF (T.Q (n0, n1, n2, n3))).length c16) k ∧ ∀ j (hj : j < k) (hj' : j < (waitF (T.Q (n0, n1, n2, n3))).length), blkF (stateL (T.Q (n0, n1, n2, n3)) (waitF (T.Q (n0, n1, n2, n3))) j) (waitF (T.Q (n0, n1, n2, n3)))[j] = [])) (fun i _ _ _ => (waitF (T.Q (n0, n1, n2, n3))).length - (intOf i).toNat)
  case atStart => exact ⟨0, by omega, rfl, HG0.out, fun j hj => by omega⟩
  case round =>
    obtain ⟨k, hk, rfl, HA⟩ := hrel
    clear HG0
    by_cases hlt : k < (waitF (T.Q (n0, n1, n2, n3))).length
    · obtain ⟨P, HPP⟩ : ∃ P, Hid ((waitF (T.Q (n0, n1, n2, n3)))[k] = P) := ⟨(waitF (T.Q (n0, n1, n2, n3)))[k], rfl⟩
      have hrg := HRG.out k hlt
      rw [HPP.out] at hrg
      obtain ⟨g16, hg16, hP⟩ : ∃ g, a16 = some ⟨g, 0, none⟩ ∧ PlAt wr g (k * 4) P := by
        rcases HA.out.1.ws.q.open with ⟨e1, e2⟩ | ⟨g, cap, e1, hg, _, _, hp⟩
        · rw [e2] at hlt; simp at hlt
        · cases e1
          have := hp k hlt
          rw [HPP.out] at this
          exact ⟨g, rfl, this⟩
      subst hg16
      obtain ⟨t0, t1, t2, t3⟩ := P
      obtain ⟨c0, c1, c2, c3⟩ := hP
      simp only at c0 c1 c2 c3 hrg
      have W1 : Below wr.heap.size wr (wr.alloc (.cells #[.int .i64 t0, .int .i64 t1, .int .i64 t2, .bool t3] 64)) := (Below.refl _ _).alloc (Nat.le_refl _) _
      have HAb := HA.out.1.below W1
      have hsl : (stateL (T.Q (n0, n1, n2, n3)) (waitF (T.Q (n0, n1, n2, n3))) k).length ≤ 1000000 := by have := HA.out.1.len; omega
      have HBC := blockers_any (HLD.out _ HAb.kept) HAb.q (t0, t1, t2, t3) hsl (sorts_all _ hsl)
      unfold pval at HBC
      simp only at HBC
      have hi0 : (0 : Int) ≤ k := by omega
      have hi1 : (k : Int) < (waitF (T.Q (n0, n1, n2, n3))).length := by omega
      have HOK : Hid (∀ j (hj : j < k) (hj' : j < (waitF (T.Q (n0, n1, n2, n3))).length), blkF (stateL (T.Q (n0, n1, n2, n3)) (waitF (T.Q (n0, n1, n2, n3))) j) (waitF (T.Q (n0, n1, n2, n3)))[j] = []) := HA.out.2
      have HGW : Hid (GrAt S w wr b bq bw DQ T (n0, n1, n2, n3) l u5 u6 (.slice (some ⟨g16, 0, none⟩) (waitF (T.Q (n0, n1, n2, n3))).length c16) k) := HA.out.1
      have hwlt := HA.out.1.lt
      have hq5 := HA.out.1.q.lt
      have hblr : b < wr.heap.size := by have := HA.out.1.kept.size; omega
      clear HA HAb HRG
      go_wp2_with fail
      refine HBC.mono ?_
      rintro e w3 ⟨v7, rfl, hi7, b3⟩
      obtain ⟨a7, c7, rfl⟩ := hi7.val
      rw [sortI_len] at *
      have b13 : Below wr.heap.size wr w3 := W1.trans (b3.mono (by simp))
      have d0 := fun i => (World.cell?_of_block (w := (wr.alloc (.cells #[.int .i64 t0, .int .i64 t1, .int .i64 t2, .bool t3] 64))) (w' := w3) (a := ⟨wr.heap.size, i, none⟩) (b3.block wr.heap.size (by simp)))
      have y0 := (d0 0).trans (by rfl)
      have y1 := (d0 1).trans (by rfl)
      have y2 := (d0 2).trans (by rfl)
      have y3 := (d0 3).trans (by rfl)
      simp at y0 y1 y2 y3
      have hpl : wr.heap.size < w3.heap.size := Nat.lt_of_lt_of_le (by simp) b3.size
      clear HBC hi7 d0 W1 b3 HLD
      by_cases hB : blkF (stateL (T.Q (n0, n1, n2, n3)) (waitF (T.Q (n0, n1, n2, n3))) k) (t0, t1, t2, t3) = []
      · rw [hB]
        obtain ⟨G, HGG⟩ : ∃ G, Hid (grantedF (t0, t1, t2, t3) = G) := ⟨_, rfl⟩
        have HGr := granted_any (t0, t1, t2, t3) w3
        rw [HGG.out] at HGr
        have HG3 := HGW.out.below b13
        have HWC : Hid (∀ wx, Below w3.heap.size w3 wx → Calls Tryd.prog 20 #[u5, pval G] wx fun e w' => ∃ v', e = .returned v' ∧ QAt w' v' (withF (stateL (T.Q (n0, n1, n2, n3)) (waitF (T.Q (n0, n1, n2, n3))) k) G) ∧ Steps wx w' u5 v') := fun wx kx => with_any (HG3.q.below kx) G hsl
        obtain ⟨G0, G1, G2, G3⟩ := G
        unfold pval at HGr HWC
        simp only at HGr HWC
        simp only [List.length_nil] at *
        clear HG3
        go_wp2_with fail
        refine HGr.mono ?_
        rintro e w4 ⟨rfl, b4⟩
        have b14 := b13.trans (b4.mono b13.size)
        have HWC4 := HWC.out w4 b4
        clear HGr HWC
        go_wp2_with fail
        refine HWC4.mono ?_
        rintro e w5 ⟨v5', rfl, hq5', st⟩
        clear HWC4
        have HG4 := HGW.out.below b14
        obtain ⟨DW4, t4⟩ := HG4.tab
        have a4 := HG4.at5 hn hSlt
        have t5 := t4.touch2 hn st.grown (fun g hg => by
          rcases a4 g hg with x | x
          · exact .inl x.2.2
          · exact .inr fun y => by have := hSlt g y; omega)
        obtain ⟨u, hu⟩ := del_ex 3 53 33 bw (.int .i64 t0) 0
        have t5d := t5.below ((Below.refl w5.heap.size w5).drew)
        obtain ⟨hru, hm, htn⟩ := hu w5.drew _ _ _ t5d.mw txKeyed Tryd.underlying53 (tkey_key hrg.1 hrg.2)
        have HU := t5.unwaited ((Below.refl w5.heap.size w5).drew) htn hm
        have hc5 := t5.c1
        have hpb : w5.cell? ⟨wr.heap.size, 0, none⟩ = some (.int .i64 t0) := by
          have e1 : w5.heap[wr.heap.size]? = w4.heap[wr.heap.size]? := st.grown.block _ (by have := b4.size; omega) (fun e => by have := hq5 _ e.symm; omega)
          rw [World.cell?_of_block (w := w4) (w' := w5) (a := ⟨wr.heap.size, 0, none⟩) e1]
          rw [b4.cell (p := ⟨wr.heap.size, 0, none⟩) hpl]
          exact y0
        have hpl5 : wr.heap.size < w5.heap.size := by have := b4.size; have := st.grown.size; omega
        have hbl5 : b < w5.heap.size := t5.lt b t5.sb
        have HNX : Hid (∀ w7 v6', ((u w5.drew).alloc (.cells #[.int .i64 t0] 3)).ownsRow (w.heap.size + 1) 3 1 u6 (whoF (T.Q (n0, n1, n2, n3)) k).length ((whoF (T.Q (n0, n1, n2, n3)) k).map (Value.int .i64)) → w7.ownsRow (w.heap.size + 1) 3 1 v6' ((whoF (T.Q (n0, n1, n2, n3)) k).length + 1) ((whoF (T.Q (n0, n1, n2, n3)) k).map (Value.int .i64) ++ [.int .i64 t0]) → ((u w5.drew).alloc (.cells #[.int .i64 t0] 3)).grownBy w7 u6.ownBlock → GrAt S w w7 b bq bw DQ T (n0, n1, n2, n3) l v5' v6' (.slice (some ⟨g16, 0, none⟩) (waitF (T.Q (n0, n1, n2, n3))).length c16) (k + 1)) := fun w7 v6' o1 o2 gg => by
          refine HGW.out.next (w4 := w4) (w5 := w5) (w6 := u w5.drew) (DW6 := DW4.del (tkey t0)) (o := .cells #[.int .i64 t0] 3) hn hSlt hlt b14 st ?_ ?_ HU.2 HSB.out.2.2.1 o1 ?_ gg
          · rw [HPP.out, HGG.out]; exact hq5'
          · rw [HPP.out]; exact HU.1
          · rw [HPP.out]; exact o2
        have HOK2 : Hid (∀ j (hj : j < k + 1) (hj' : j < (waitF (T.Q (n0, n1, n2, n3))).length), blkF (stateL (T.Q (n0, n1, n2, n3)) (waitF (T.Q (n0, n1, n2, n3))) j) (waitF (T.Q (n0, n1, n2, n3)))[j] = []) := fun j hj hj' => by
          rcases Nat.lt_or_ge j k with hh | hh
          · exact HOK.out j hh hj'
          · obtain rfl : j = k := by omega
            rw [HPP.out]; exact hB
        have hk56 := HU.2
        have hown : ((u w5.drew).alloc (.cells #[.int .i64 t0] 3)).ownsRow (w.heap.size + 1) 3 1 u6 (whoF (T.Q (n0, n1, n2, n3)) k).length ((whoF (T.Q (n0, n1, n2, n3)) k).map (Value.int .i64)) := by
          have i4 := HG4.who
          have v56 := q_ne_ints HG4.q i4
          have hbwl := hSlt bw HSB.out.2.2.1
          have i5 : IntsAt (w.heap.size + 1) w5 u6 (whoF (T.Q (n0, n1, n2, n3)) k) := i4.same fun g hg => st.grown.block g (i4.lt g hg).2 (fun e => v56 g e.symm hg)
          have i6 : IntsAt (w.heap.size + 1) (u w5.drew) u6 (whoF (T.Q (n0, n1, n2, n3)) k) := i5.same fun g hg => hk56.block g (i5.lt g hg).2 (by have := (i5.lt g hg).1; omega)
          exact i6.below ((Below.refl _ _).alloc (Nat.le_refl _) _)
        have hsz6 : w.heap.size + 1 ≤ (u w5.drew).heap.size := by have := hk56.size; have := HG4.lt; have := st.grown.size; omega
        have hpl6 : wr.heap.size < (u w5.drew).heap.size := by have := hk56.size; omega
        have hpb6 : (u w5.drew).cell? ⟨wr.heap.size, 0, none⟩ = some (.int .i64 t0) := by
          have e1 : (u w5.drew).heap[wr.heap.size]? = w5.heap[wr.heap.size]? := hk56.block _ hpl5 (by have := hSlt bw HSB.out.2.2.1; omega)
          rw [World.cell?_of_block (w := w5) (w' := u w5.drew) (a := ⟨wr.heap.size, 0, none⟩) e1]
          exact hpb
        have hwhl : (whoF (T.Q (n0, n1, n2, n3)) k).length ≤ 400000 := Nat.le_trans (whoF_len _ _) hL
        clear HU hu t5d hm htn HGW HOK HG4 t4 t5 a4 st hq5' hk56 b14 b4 y0 y1 y2 y3 c0 c1 c2 c3 hB HGG
        go_wp2_with fail
        go_region
        generalize u w5.drew = w6 at *
        clear hpb hc5 hru hpl5 hbl5
        go_wp2_with (at_builtin; refine wpList_append_own_at _ rfl _ _ 38 rfl (w.heap.size + 1) 3 i0 (.int .i64 0) 1 8 Tryd.underlying38 hi hz0 hz1 hz2 rfl (by decide) u6 (whoF (T.Q (n0, n1, n2, n3)) k).length ((whoF (T.Q (n0, n1, n2, n3)) k).map (Value.int .i64)) rfl hown ⟨w6.heap.size, 0, none⟩ 1 1 [.int .i64 t0] rfl rfl (by intro j u hj; match j, hj with | 0, hj => (simp at hj; subst hj; simp [Addr.add])) (by intro u hu; simp at hu; subst hu; rfl) (by unfold maxLen; omega) (by omega) (by simp; omega) ?_; intro v6' w7 hown7 hgrow7 hnil7 hloc7)
        have HA7 : Hid (GrAt S w w7 b bq bw DQ T (n0, n1, n2, n3) l v5' v6' (.slice (some ⟨g16, 0, none⟩) (waitF (T.Q (n0, n1, n2, n3))).length c16) (k + 1)) := HNX.out w7 v6' hown hown7 hgrow7
        clear hown7 hgrow7 hnil7 hloc7 hown HNX
        go_wp2
        go_roundw
        case rel => exact ⟨k + 1, by omega, by go_num, HA7.out, HOK2.out⟩
        case measure => simp [intOf]; omega
      · have hB' : (0 : Int) < ((blkF (stateL (T.Q (n0, n1, n2, n3)) (waitF (T.Q (n0, n1, n2, n3))) k) (t0, t1, t2, t3)).length : Int) := by
          have : (blkF (stateL (T.Q (n0, n1, n2, n3)) (waitF (T.Q (n0, n1, n2, n3))) k) (t0, t1, t2, t3)).length ≠ 0 := fun e => hB (List.eq_nil_of_length_eq_zero e)
          omega
        have HR : GrantR (T.Q (n0, n1, n2, n3)) k := ⟨hk, HOK.out, fun h => by rw [HPP.out]; exact hB⟩
        have HG3 := HGW.out.below b13
        have HL1 := HLY.out w3 u5 u6 _ _ HG3 HR
        obtain ⟨x0, x1, x2, x3⟩ := HG3.cells
        have hlw := HG3.lt
        generalize (blkF (stateL (T.Q (n0, n1, n2, n3)) (waitF (T.Q (n0, n1, n2, n3))) k) (t0, t1, t2, t3)).length = N7 at *
        clear HG3 HR HLY HGW HOK y0 y1 y2 y3 c0 c1 c2 c3 hB
        go_wp2_with fail
        refine HL1.mono ?_
        rintro e w4 ⟨rfl, hg4⟩
        have HG4 : Hid (Granted S w w4 b T (n0, n1, n2, n3) u6) := hg4
        clear hg4 HL1
        go_wp2
        go_ret
        exact ⟨u6, rfl, HG4.out⟩
    · obtain rfl : k = (waitF (T.Q (n0, n1, n2, n3))).length := by omega
      have HR : GrantR (T.Q (n0, n1, n2, n3)) (waitF (T.Q (n0, n1, n2, n3))).length := ⟨Nat.le_refl _, HA.out.2, fun h => by omega⟩
      have HL1 := HLY.out wr u5 u6 _ _ HA.out.1 HR
      obtain ⟨x0, x1, x2, x3⟩ := HA.out.1.cells
      have hlw := HA.out.1.lt
      clear HA HR HLY HRG
      go_wp2_with fail
      refine HL1.mono ?_
      rintro e w3 ⟨rfl, hg3⟩
      have HG3 : Hid (Granted S w w3 b T (n0, n1, n2, n3) u6) := hg3
      clear hg3 HL1
      go_wp2
      go_ret
      exact ⟨u6, rfl, HG3.out⟩

end Go.Proofs.YthagomibjlcfmaaDoor
