/-
  The walk of Cancel.
-/
import Derived.Test.YthagomibjlcfmaaDoorLkBlkTC
namespace Go.Proofs.YthagomibjlcfmaaDoor
open Go.RowKit
set_option linter.unusedVariables false
set_option linter.unusedSimpArgs false

set_option maxHeartbeats 1600000 in
set_option maxRecDepth 20000 in
theorem canc_none {S : Nat → Prop} {w : World} {b : Nat} {T : Tab} (h : IsTab S w b T) (tx : Int) (hr : i64R tx) (hW : T.W tx = none) :
    Calls Tryd.prog 9 #[ptr b, .int .i64 tx] w fun e w' => e = .returned (.slice none 0 0) ∧ Below w.heap.size w w' := by
  have hF := for_any h tx hr
  have e0 : forN T tx = (0, 0, 0, 0) := by unfold forN; rw [hW]; rfl
  rw [hW, e0] at hF
  unfold nval at hF
  simp only [Option.isSome_none] at hF
  unfold ptr
  go_enter Tryd.func9, Tryd.ntmps9
  go_wp2_with fail
  refine hF.mono ?_
  rintro e w1 ⟨rfl, b1⟩
  have HB : Hid (∀ o, Below w.heap.size w (w1.alloc o)) := fun o => b1.alloc b1.size o
  clear hF b1
  go_wp2
  go_ret
  exact ⟨rfl, HB.out _⟩

/-- The table in which one waits no more, ahead of the grants. -/
def cancT (T : Tab) (tx : Int) (n : NameV) : Tab := (T.setQ n (withF (T.Q n) (staysF (oneF (T.Q n) tx)))).delW tx

/-- What Cancel leaves. -/
def Canceled (S : Nat → Prop) (w w' : World) (b : Nat) (T : Tab) (tx : Int) (n : NameV) (v : Value) : Prop :=
  ∃ S' k, GrantR ((cancT T tx n).Q n) k ∧ IntsAt w.heap.size w' v (whoF ((cancT T tx n).Q n) k) ∧ IsTab S' w' b (((cancT T tx n).delWs (whoF ((cancT T tx n).Q n) k)).setQ n (stateL ((cancT T tx n).Q n) (waitF ((cancT T tx n).Q n)) k)) ∧ MovesL S S' w w'

set_option maxHeartbeats 3200000 in
set_option maxRecDepth 20000 in
theorem canc_some {S : Nat → Prop} {w : World} {b : Nat} {T : Tab} (hl : LkLaid w) (h : IsTab S w b T) (tx : Int) (hr : i64R tx) {n : NameV} {l : Lit} (hn : NKey n l) (hW : T.W tx = some n) (hz : T.z ≤ 1000) (hL : (T.Q n).length ≤ 100000) (hL2 : (withF (T.Q n) (staysF (oneF (T.Q n) tx))).length ≤ 400000) (hR : ∀ p ∈ withF (T.Q n) (staysF (oneF (T.Q n) tx)), i64R p.1) (hS0 : ¬ S 0 ∧ ¬ S 1) :
    Calls Tryd.prog 9 #[ptr b, .int .i64 tx] w fun e w' => ∃ v, e = .returned v ∧ Canceled S w w' b T tx n v := by
  have hF := for_any h tx hr
  have e0 : forN T tx = n := by unfold forN; rw [hW]; rfl
  rw [hW, e0] at hF
  have HLD : Hid (LkLaid w ∧ 2 ≤ w.heap.size) := ⟨hl, hl.lt⟩
  obtain ⟨bq, bw, DQ, DW, h⟩ := h
  have HT : Hid (∀ wx, Below w.heap.size w wx → TabX noEx S wx b bq bw DQ DW T) := fun wx k => h.below k
  have HSl : Hid (∀ k, S k → k < w.heap.size) := h.lt
  have hblt := h.lt b h.sb
  have HNK : Hid (NKey n l) := hn
  have HRR : Hid (∀ p ∈ withF (T.Q n) (staysF (oneF (T.Q n) tx)), i64R p.1) := hR
  have HO : Hid (∀ wx, Below w.heap.size w wx → Calls Tryd.prog 23 #[getV DQ l nilS, .int .i64 tx] wx fun e w' => e = .returned (pval (oneF (T.Q n) tx)) ∧ Below wx.heap.size wx w') := fun wx k => one_any ((h.below k).valq _ l hn (fun x => x)) tx
  have HLK : Hid (∀ wx, Below w.heap.size w wx → (Instr.lookup 52 (.map (some bq)) (nval n) false).run Tryd.prog wx = .ok (getV DQ l nilS) wx) := fun wx k => (h.below k).mq.look nameKeyed Tryd.underlying52 (zeroQueue wx) hn
  have HWL : Hid (∀ wx, Below w.heap.size w wx → Calls Tryd.prog 20 #[getV DQ l nilS, pval (staysF (oneF (T.Q n) tx))] wx fun e w2 => ∃ v2, e = .returned v2 ∧ KeptL S wx w2 ∧ w2.cell? ⟨b, 0, none⟩ = some (.map (some bq)) ∧
      Hid (Calls Tryd.prog 19 #[.pointer (some ⟨b, 0, none⟩), nval n, v2] w2 fun e w4 => e = .returned (.tuple #[]) ∧ w4.cell? ⟨b, 0, none⟩ = some (.map (some bq)) ∧ ∃ S', IsTab S' w4 b (T.setQ n (withF (T.Q n) (staysF (oneF (T.Q n) tx)))) ∧ MovesL S S' wx w4)) := fun wx k => with_lay2 hn (h.below k) _ (by omega) (by omega)
  have hst := stays_any (oneF (T.Q n) tx)
  clear h hl hn hR
  obtain ⟨T1, HT1⟩ : ∃ T1, Hid (T.setQ n (withF (T.Q n) (staysF (oneF (T.Q n) tx))) = T1) := ⟨_, rfl⟩
  have HQ1 : Hid (T1.Q n = withF (T.Q n) (staysF (oneF (T.Q n) tx)) ∧ T1.z ≤ 2000) := by rw [← HT1.out]; exact ⟨setQ_same _ _ _, by have := setQ_z T n (withF (T.Q n) (staysF (oneF (T.Q n) tx))); omega⟩
  have HCT : Hid (cancT T tx n = T1.delW tx) := by show cancT T tx n = T1.delW tx; unfold cancT; rw [HT1.out]
  rw [HT1.out] at HWL
  rw [← HQ1.out.1] at hL2 HRR
  generalize hst0 : staysF (oneF (T.Q n) tx) = q' at *
  generalize oneF (T.Q n) tx = q at *
  generalize getV DQ l nilS = V at *
  obtain ⟨n0, n1, n2, n3⟩ := n
  unfold nval at hF HLK HWL
  simp only [Option.isSome_some] at hF
  simp only at HLK HWL
  unfold ptr
  go_enter Tryd.func9, Tryd.ntmps9
  go_wp2_with fail
  refine hF.mono ?_
  rintro e w1 ⟨rfl, b1⟩
  have hbx : (w1.alloc (.cells #[.int .i64 n0, .int .i64 n1, .int .u32 n2, .int .i64 n3] 33)).heap[w1.heap.size]? = some (.cells #[.int .i64 n0, .int .i64 n1, .int .u32 n2, .int .i64 n3] 33) := heap_alloc_new w1 _
  have b2 : Below w.heap.size w (w1.alloc (.cells #[.int .i64 n0, .int .i64 n1, .int .u32 n2, .int .i64 n3] 33)) := b1.alloc b1.size _
  have hcl : Hid (∀ wy : World, wy.heap[w1.heap.size]? = some (.cells #[.int .i64 n0, .int .i64 n1, .int .u32 n2, .int .i64 n3] 33) → wy.cell? ⟨w1.heap.size, 0, none⟩ = some (.int .i64 n0) ∧ wy.cell? ⟨w1.heap.size, 1, none⟩ = some (.int .i64 n1) ∧ wy.cell? ⟨w1.heap.size, 2, none⟩ = some (.int .u32 n2) ∧ wy.cell? ⟨w1.heap.size, 3, none⟩ = some (.int .i64 n3)) := fun wy hb => ⟨by simp [World.cell?, hb], by simp [World.cell?, hb], by simp [World.cell?, hb], by simp [World.cell?, hb]⟩
  obtain ⟨x0, x1, x2, x3⟩ := hcl.out _ hbx
  have c0 := (HT.out _ b2).c0
  have hlk := HLK.out _ b2.drew
  have HB2 : Hid (Below w.heap.size w (w1.alloc (.cells #[.int .i64 n0, .int .i64 n1, .int .u32 n2, .int .i64 n3] 33)).drew) := b2.drew
  have HBX : Hid ((w1.alloc (.cells #[.int .i64 n0, .int .i64 n1, .int .u32 n2, .int .i64 n3] 33)).drew.heap[w1.heap.size]? = some (.cells #[.int .i64 n0, .int .i64 n1, .int .u32 n2, .int .i64 n3] 33)) := hbx
  have hw1 : w.heap.size ≤ w1.heap.size := b1.size
  clear hF b1 b2 hbx HLK HT
  go_wp2_with fail
  generalize (w1.alloc (.cells #[.int .i64 n0, .int .i64 n1, .int .u32 n2, .int .i64 n3] 33)) = W at *
  go_region_held3 (fun wy => (wy.cell? ⟨w1.heap.size, 0, none⟩ = some (.int .i64 n0) ∧ wy.cell? ⟨w1.heap.size, 1, none⟩ = some (.int .i64 n1) ∧ wy.cell? ⟨w1.heap.size, 2, none⟩ = some (.int .u32 n2) ∧ wy.cell? ⟨w1.heap.size, 3, none⟩ = some (.int .i64 n3)) ∧ wy.cell? ⟨b, 0, none⟩ = some (.map (some bq))) (first | go_keep) (fail)
  clear hlk x0 x1 x2 x3 c0
  obtain ⟨x0, x1, x2, x3⟩ := hcl.out _ HBX.out
  generalize W.drew = wd at *
  have hxs : w1.heap.size < wd.heap.size := (Array.getElem?_eq_some_iff.1 HBX.out).1
  have hno : ¬ S w1.heap.size := fun x => by have := HSl.out _ x; omega
  -- the four calls, one behind the other
  have D1 : Hid (Calls Tryd.prog 23 #[V, .int .i64 tx] wd.drew fun e w3 => e = .returned (pval q) ∧ (w3.cell? ⟨w1.heap.size, 0, none⟩ = some (.int .i64 n0) ∧ w3.cell? ⟨w1.heap.size, 1, none⟩ = some (.int .i64 n1) ∧ w3.cell? ⟨w1.heap.size, 2, none⟩ = some (.int .u32 n2) ∧ w3.cell? ⟨w1.heap.size, 3, none⟩ = some (.int .i64 n3)) ∧
      Hid (Calls Tryd.prog 24 #[pval q] w3 fun e w4 => e = .returned (pval q') ∧ (w4.cell? ⟨w1.heap.size, 0, none⟩ = some (.int .i64 n0) ∧ w4.cell? ⟨w1.heap.size, 1, none⟩ = some (.int .i64 n1) ∧ w4.cell? ⟨w1.heap.size, 2, none⟩ = some (.int .u32 n2) ∧ w4.cell? ⟨w1.heap.size, 3, none⟩ = some (.int .i64 n3)) ∧
        Hid (Calls Tryd.prog 20 #[V, pval q'] w4 fun e w5 => ∃ v2, e = .returned v2 ∧ (w5.cell? ⟨w1.heap.size, 0, none⟩ = some (.int .i64 n0) ∧ w5.cell? ⟨w1.heap.size, 1, none⟩ = some (.int .i64 n1) ∧ w5.cell? ⟨w1.heap.size, 2, none⟩ = some (.int .u32 n2) ∧ w5.cell? ⟨w1.heap.size, 3, none⟩ = some (.int .i64 n3)) ∧
          Hid (Calls Tryd.prog 19 #[.pointer (some ⟨b, 0, none⟩), .agg #[.int .i64 n0, .int .i64 n1, .int .u32 n2, .int .i64 n3], v2] w5 fun e w6 => e = .returned (.tuple #[]) ∧ (w6.cell? ⟨w1.heap.size, 0, none⟩ = some (.int .i64 n0) ∧ w6.cell? ⟨w1.heap.size, 1, none⟩ = some (.int .i64 n1) ∧ w6.cell? ⟨w1.heap.size, 2, none⟩ = some (.int .u32 n2) ∧ w6.cell? ⟨w1.heap.size, 3, none⟩ = some (.int .i64 n3)) ∧
            Hid (w6.heap[w1.heap.size]? = some (.cells #[.int .i64 n0, .int .i64 n1, .int .u32 n2, .int .i64 n3] 33) ∧ ∃ S', IsTab S' w6 b T1 ∧ MovesL S S' w w6 ∧ ¬ S' w1.heap.size))))) := by
    have bd := HB2.out.drew
    refine (HO.out _ bd).mono ?_
    rintro e w3 ⟨rfl, b3⟩
    have bd3 := bd.trans (b3.mono bd.size)
    have f3 := (b3.block w1.heap.size hxs).trans HBX.out
    refine ⟨rfl, hcl.out _ f3, ?_⟩
    refine (hst w3).mono ?_
    rintro e w4 ⟨rfl, b4⟩
    have hx3 : w1.heap.size < w3.heap.size := (Array.getElem?_eq_some_iff.1 f3).1
    have bd4 := bd3.trans (b4.mono bd3.size)
    have f4 := (b4.block w1.heap.size hx3).trans f3
    have hx4 : w1.heap.size < w4.heap.size := (Array.getElem?_eq_some_iff.1 f4).1
    refine ⟨rfl, hcl.out _ f4, ?_⟩
    refine (HWL.out w4 bd4).mono ?_
    rintro e w5 ⟨v2, rfl, k5, _, hly⟩
    have f5 := (k5.block w1.heap.size hx4 hno).trans f4
    refine ⟨v2, rfl, hcl.out _ f5, ?_⟩
    refine hly.out.mono ?_
    rintro e w6 ⟨rfl, _, S', k1, k2⟩
    have f6 := (k2.off hx4 hno)
    refine ⟨rfl, hcl.out _ (f6.1.trans f4), f6.1.trans f4, S', k1, (MovesL.of_below bd4 : MovesL S S w w4).trans k2, f6.2⟩
  clear HO HWL hst
  generalize hpq : pval q = vq at *
  generalize hpq' : pval q' = vq' at *
  go_upto_region 5 with fail
  go_region_held3 (fun wy => wy.cell? ⟨w1.heap.size, 0, none⟩ = some (.int .i64 n0) ∧ wy.cell? ⟨w1.heap.size, 1, none⟩ = some (.int .i64 n1) ∧ wy.cell? ⟨w1.heap.size, 2, none⟩ = some (.int .u32 n2) ∧ wy.cell? ⟨w1.heap.size, 3, none⟩ = some (.int .i64 n3)) (first | go_keep | exact s3 | exact s4 | exact s5 | exact s6)
    (first
      | (go_at_call 23; refine D1.out.mono ?_; rintro x w3 ⟨rfl, s3, D2⟩)
      | (go_at_call 24; refine D2.out.mono ?_; rintro x w4 ⟨rfl, s4, D3⟩)
      | (go_at_call 20; refine D3.out.mono ?_; rintro x w5 ⟨v2, rfl, s5, D4⟩)
      | (go_at_call 19; refine D4.out.mono ?_; rintro x w6 ⟨rfl, s6, HE⟩))
  clear D1 D2 D3 D4 s3 s4 s5 s6 x0 x1 x2 x3 HB2 HBX
  obtain ⟨f6, S', ht6, m6, hno6⟩ := HE.out
  clear HE
  obtain ⟨bq', bw', DQ', DW', ht⟩ := ht6
  obtain ⟨u, hu⟩ := del_ex 3 53 33 bw' (.int .i64 tx) 0
  obtain ⟨hru, hm, htn⟩ := hu w6 _ _ _ ht.mw txKeyed Tryd.underlying53 (tkey_key hr.1 hr.2)
  have HU := ht.unwaited (Below.refl w6.heap.size w6) htn hm
  have hc1 := ht.c1
  have hblr : b < w6.heap.size := ht.lt b ht.sb
  have mw : MovesL S' S' w6 (u w6) := ⟨HU.2.mono fun x e => e ▸ ht.sw, fun k x => .inl x⟩
  have f7 : (u w6).heap[w1.heap.size]? = some (.cells #[.int .i64 n0, .int .i64 n1, .int .u32 n2, .int .i64 n3] 33) := (mw.off (Array.getElem?_eq_some_iff.1 f6).1 hno6).1.trans f6
  have mall := m6.trans mw
  have hS0' := mall.zero HLD.out.2 hS0
  have hQ7 : (T1.delW tx).Q (n0, n1, n2, n3) = T1.Q (n0, n1, n2, n3) := rfl
  have hG := grant_any (mall.laid HLD.out.1 hS0) ⟨bq', bw', DQ', _, HU.1⟩ (n0, n1, n2, n3) l HNK.out (by have := HQ1.out.2; show T1.z ≤ _; omega) (by rw [hQ7]; omega) (by rw [hQ7]; exact HRR.out) hS0'
  have HG : Hid (Calls Tryd.prog 21 #[.pointer (some ⟨b, 0, none⟩), .agg #[.int .i64 n0, .int .i64 n1, .int .u32 n2, .int .i64 n3]] (u w6) fun e w' => ∃ v, e = .returned v ∧ Canceled S w w' b T tx (n0, n1, n2, n3) v) := by
    refine hG.mono ?_
    rintro e w' ⟨v, rfl, S2, k, g1, g2, g3, g4, _⟩
    refine ⟨v, rfl, S2, k, ?_, ?_, ?_, mall.trans g4⟩
    · rw [HCT.out]; exact g1
    · rw [HCT.out]
      have hle : w.heap.size ≤ (u w6).heap.size + 1 := by have := mall.1.size; omega
      refine ⟨g2.1, ?_⟩
      rcases g2.2 with ⟨e, h1⟩ | ⟨g', cap, cur, e, h0, hb, hr⟩
      · exact .inl ⟨e, h1⟩
      · exact .inr ⟨g', cap, cur, e, Nat.le_trans hle h0, hb, hr⟩
    · rw [HCT.out]; exact g3
  obtain ⟨x0, x1, x2, x3⟩ := hcl.out _ f7
  clear hG HU hu hm htn ht mw f6 f7 m6 mall hS0'
  go_wp2_with fail
  refine HG.out.mono ?_
  rintro e w8 ⟨v8, rfl, hF8⟩
  have HF : Hid (Canceled S w w8 b T tx (n0, n1, n2, n3) v8) := hF8
  clear hF8 HG x0 x1 x2 x3
  go_wp2
  go_ret
  exact ⟨v8, rfl, HF.out⟩

end Go.Proofs.YthagomibjlcfmaaDoor
