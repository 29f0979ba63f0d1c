/-
  The walk of Ask where one waits.
-/
import Derived.Test.YthagomibjlcfmaaDoorLkAskC
namespace Go.Proofs.YthagomibjlcfmaaDoor
open Go.RowKit
set_option linter.unusedVariables false
set_option linter.unusedSimpArgs false

/-- One waits. -/
theorem TabX.waited {S : Nat → Prop} {w W W' : World} {b bq bw : Nat} {DQ DW : DataW Value} {T : Tab} {n : NameV} {t : Int} (h : TabX noEx S w b bq bw DQ DW T) (hr : i64R t) (hk : Below w.heap.size w W) (ht : W.mapTurned W' bw) (hm : MapV 3 W' bw (Maps.size (DW.put (tkey t) (.held (nval n)))) (DW.put (tkey t) (.held (nval n)))) :
    TabX noEx S W' b bq bw DQ (DW.put (tkey t) (.held (nval n))) (T.setW t n) ∧ MovesL S S w W' := by
  have hW := h.below hk
  have hg := ht.grown
  have off : ∀ k, k < w.heap.size → k ≠ bw → W'.heap[k]? = w.heap[k]? := fun k hk' hne => (hg.block k (Nat.lt_of_lt_of_le hk' hk.size) (by simp; exact hne)).trans (hk.block k hk')
  have hI := (h.mw.tidy txKeyed).isMap
  refine ⟨⟨(off b (h.lt b h.sb) h.ne.2.1).trans h.blk, h.mq.same (off bq (h.lt bq h.sq) h.ne.2.2), hm, ?_, h.hasq, fun n' l' hn' hx => (h.valq n' l' hn' hx).same fun g hg' => off g (h.lt g (h.rows n' l' g hn' hg').1) (h.rows n' l' g hn' hg').2.2.2, h.apart, h.rows, ?_, ?_, h.sb, h.sq, h.sw, h.ne, fun x hx => Nat.lt_of_lt_of_le (h.lt x hx) (Nat.le_trans hk.size hg.size), h.keys⟩, ?_, fun k hk' => .inl hk'⟩
  · rw [Maps.size_put (h.mw.tidy txKeyed)]
    have := h.y
    show _ ≤ T.y + 1
    split <;> omega
  · intro x hx
    by_cases e : x = t
    · subst e
      rw [Maps.has_put_same hI (tkey_lit x)]
      simp [Tab.setW]
    · rw [Maps.has_put_other (tkey_ne e), h.hasw x hx]
      simp [Tab.setW, e]
  · intro x m hx hm'
    by_cases e : x = t
    · subst e
      have : m = n := by simpa [Tab.setW] using hm'.symm
      rw [this, getV_put_same hI (tkey_lit x)]
    · rw [getV_put_other (tkey_ne e)]
      exact h.valw x m hx (by simpa [Tab.setW, e] using hm')
  · exact (KeptL.of_below hk).trans (KeptL.of_grown hg fun k e => by cases e; exact h.sw)

set_option maxHeartbeats 3200000 in
set_option maxRecDepth 60000 in
theorem ask_wait {S : Nat → Prop} {w : World} {b : Nat} {T : Tab} (hl : LkLaid w) (h : IsTab S w b T) (tx : Int) (n : NameV) (l : Lit) (hn : NKey n l) (mode : Int) (i wt : Bool) (h1 : 1 ≤ tx) (hr : i64R tx) (h2 : modB mode = true) (h3 : T.W tx = none) (hL : (T.Q n).length < 1000000) (hz : T.z ≤ 1000000) (h4 : joinF (oneF (T.Q n) tx).2.1 mode ≠ (oneF (T.Q n) tx).2.1) (h5 : (oneF (T.Q n) tx).2.1 = 0 → ofF (T.Q n) tx = (T.Q n).length) (hJ : joinF (oneF (T.Q n) tx).2.1 mode ≠ 0) (hB : blkF (T.Q n) (tx, (oneF (T.Q n) tx).2.1, joinF (oneF (T.Q n) tx).2.1 mode, i) ≠ []) (hB0 : True) (hwt : wt = true) (hy : T.y ≤ 1000000) :
    Calls Tryd.prog 10 #[ptr b, .int .i64 tx, nval n, .int .i64 mode, .bool i, .bool wt] w fun e w' => e = .returned (.tuple #[.bool false, .int .i64 0]) ∧ ∃ S', IsTab S' w' b ((T.setQ n (withF (T.Q n) (tx, (oneF (T.Q n) tx).2.1, joinF (oneF (T.Q n) tx).2.1 mode, i))).setW tx n) ∧ MovesL S S' w w' := by
  have hm := mode_any mode
  rw [h2] at hm
  obtain ⟨bq, bw, DQ, DW, h⟩ := h
  have HT : Hid (∀ wx, Below w.heap.size w wx → TabX noEx S wx b bq bw DQ DW T) := fun wx k => h.below k
  have HW : Hid (∀ wx, Below w.heap.size w wx → Calls Tryd.prog 11 #[.pointer (some ⟨b, 0, none⟩), .int .i64 tx] wx fun e w' => e = .returned (.bool false) ∧ Below wx.heap.size wx w') := fun wx k => by
    have := waits_any (b := b) (S := S) (T := T) ⟨bq, bw, DQ, DW, h.below k⟩ tx hr
    rw [h3] at this
    exact this
  have HO : Hid (∀ wx, Below w.heap.size w wx → Calls Tryd.prog 23 #[getV DQ l nilS, .int .i64 tx] wx fun e w' => e = .returned (pval (oneF (T.Q n) tx)) ∧ Below wx.heap.size wx w') := fun wx k => one_any ((h.below k).valq n l hn (fun x => x)) tx
  have HJ : Hid (∀ (a : Int) wx, Below w.heap.size w wx → Calls Tryd.prog 26 #[.int .i64 a, .int .i64 mode] wx fun e w' => e = .returned (.int .i64 (joinF a mode)) ∧ w' = wx) := fun a wx k => join_any a mode wx (hl.below hl.lt k)
  have HLK : Hid (∀ wx, Below w.heap.size w wx → (Instr.lookup 52 (.map (some bq)) (nval n) false).run Tryd.prog wx = .ok (getV DQ l nilS) wx) := fun wx k => (h.below k).mq.look nameKeyed Tryd.underlying52 (zeroQueue wx) hn
  have HB : Hid (∀ (p : Pl) wx, Below w.heap.size w wx → Calls Tryd.prog 27 #[getV DQ l nilS, pval p] wx fun e w' => ∃ v', e = .returned v' ∧ IntsAt wx.heap.size w' v' (sortI (blkF (T.Q n) p)) ∧ Below wx.heap.size wx w') := fun p wx k => blockers_any (hl.below hl.lt k) ((h.below k).valq n l hn (fun x => x)) p (by omega) (sorts_all _ (by omega))
  have hq1 : (oneF (T.Q n) tx).1 = tx := oneF_tx _ _
  have hSlt := h.lt
  have hblt := h.lt b h.sb
  clear hl
  generalize oneF (T.Q n) tx = q at *
  obtain ⟨q0, q1, q2, q3⟩ := q
  simp only at hq1
  subst hq1
  unfold ptr
  clear h
  have HA0 := AskIn.start w n
  obtain ⟨n0, n1, n2, n3⟩ := n
  unfold nval at HLK ⊢
  unfold pval at HO
  simp only at HLK HO HA0 ⊢
  have h1' : ¬ q0 < 1 := by omega
  generalize hgv : getV DQ l nilS = V at *
  go_enter Tryd.func10, Tryd.ntmps10
  go_wp2_with fail
  refine (hm _).mono ?_
  rintro e w1 ⟨rfl, rfl⟩
  go_wp2_with fail
  refine (HW.out _ HA0.bel).mono ?_
  rintro e w2 ⟨rfl, b2⟩
  have HA2 := HA0.below b2
  clear b2 HA0 hm HW
  have HL2 := HLK.out _ (HA2.bel.drew)
  have hc0 := (HT.out _ HA2.bel).c0
  obtain ⟨m0, m1, m2, m3⟩ := HA2.cells
  have hlt2 := HA2.lt
  go_wp2_with fail
  go_region
  have HA3 : AskIn w w2.drew (n0, n1, n2, n3) := HA2.below ((Below.refl _ _).drew)
  clear HL2 hc0 m0 m1 m2 m3 HA2 hlt2
  generalize w2.drew = w3 at *
  go_wp2_with fail
  refine (HO.out _ HA3.bel).mono ?_
  rintro e w4 ⟨rfl, b4⟩
  have HA4 := HA3.below b4
  clear b4 HA3 HO HLK
  have b5 := HA4.bel.alloc HA4.bel.size (.cells #[.int .i64 q0, .int .i64 q1, .int .i64 q2, .bool q3] 64)
  have HJ1 := HJ.out q1 _ b5
  try simp only at h4 h5 hJ hB hB0
  obtain ⟨J, HJJ⟩ : ∃ J, Hid (joinF q1 mode = J) := ⟨_, rfl⟩
  rw [HJJ.out] at HJ1 h4 hJ
  try rw [HJJ.out] at hB
  try rw [HJJ.out] at hB0
  have h4' : (J == q1) = false := by simpa using h4
  have HA5 : AskIn w (w4.alloc (.cells #[.int .i64 q0, .int .i64 q1, .int .i64 J, .bool i] 64)) (n0, n1, n2, n3) := HA4.below ((Below.refl _ _).alloc (Nat.le_refl _) _)
  have hbx : (w4.alloc (.cells #[.int .i64 q0, .int .i64 q1, .int .i64 J, .bool i] 64)).heap[w4.heap.size]? = some (.cells #[.int .i64 q0, .int .i64 q1, .int .i64 J, .bool i] 64) := heap_alloc_new _ _
  have HB1 := HB.out (q0, q1, J, i) _ HA5.bel
  unfold pval at HB1
  simp only at HB1
  go_wp2_with fail
  refine HJ1.mono ?_
  rintro e w5 ⟨rfl, rfl⟩
  clear HJ HJ1 b5
  go_wp2_with fail
  refine HB1.mono ?_
  rintro e w6 ⟨v6, rfl, hi6, b6⟩
  clear HB HB1
  have HA6 := HA5.below b6
  have hb6 : w6.heap[w4.heap.size]? = some (.cells #[.int .i64 q0, .int .i64 q1, .int .i64 J, .bool i] 64) := (b6.block _ (by simp)).trans hbx
  obtain ⟨a6, c6, rfl⟩ := hi6.val
  rw [sortI_len] at *
  have hw46 := HA4.bel.size
  have hw4 := HA4.lt
  clear b6 hbx HA5 HA4 hi6
  have hB' : (((blkF (T.Q (n0, n1, n2, n3)) (q0, q1, J, i)).length : Int) == 0) = false := by
    have : (blkF (T.Q (n0, n1, n2, n3)) (q0, q1, J, i)).length ≠ 0 := fun e => hB (List.eq_nil_of_length_eq_zero e)
    simpa using this
  generalize (blkF (T.Q (n0, n1, n2, n3)) (q0, q1, J, i)).length = N6 at *
  subst hwt
  have HZ : Hid (((q0, q1, J, i) : Pl).2.1 = 0 ∧ ((q0, q1, J, i) : Pl).2.2.1 = 0 → ofF (T.Q (n0, n1, n2, n3)) ((q0, q1, J, i) : Pl).1 = (T.Q (n0, n1, n2, n3)).length) := fun hzz => absurd hzz.2 hJ
  have hcl : ∀ wy : World, wy.heap[w.heap.size]? = w6.heap[w.heap.size]? → wy.heap[w4.heap.size]? = w6.heap[w4.heap.size]? → (fun wy => (wy.cell? ⟨w.heap.size, 0, none⟩ = some (.int .i64 n0) ∧ wy.cell? ⟨w.heap.size, 1, none⟩ = some (.int .i64 n1) ∧ wy.cell? ⟨w.heap.size, 2, none⟩ = some (.int .u32 n2) ∧ wy.cell? ⟨w.heap.size, 3, none⟩ = some (.int .i64 n3)) ∧ (wy.cell? ⟨w4.heap.size, 0, none⟩ = some (.int .i64 q0) ∧ wy.cell? ⟨w4.heap.size, 1, none⟩ = some (.int .i64 q1) ∧ wy.cell? ⟨w4.heap.size, 2, none⟩ = some (.int .i64 J) ∧ wy.cell? ⟨w4.heap.size, 3, none⟩ = some (.bool i))) wy := fun wy e1 e2 => by
    have x1 := e1.trans HA6.box
    have x2 := e2.trans hb6
    exact ⟨⟨by simp [World.cell?, x1], by simp [World.cell?, x1], by simp [World.cell?, x1], by simp [World.cell?, x1]⟩, ⟨by simp [World.cell?, x2], by simp [World.cell?, x2], by simp [World.cell?, x2], by simp [World.cell?, x2]⟩⟩
  have hoff : ∀ wx wy : World, KeptL S wx wy → w6.heap.size ≤ wx.heap.size → wx.heap[w.heap.size]? = w6.heap[w.heap.size]? → wx.heap[w4.heap.size]? = w6.heap[w4.heap.size]? → wy.heap[w.heap.size]? = w6.heap[w.heap.size]? ∧ wy.heap[w4.heap.size]? = w6.heap[w4.heap.size]? := fun wx wy k hs e1 e2 => by
    have l1 := HA6.lt
    have l2 := (Array.getElem?_eq_some_iff.1 hb6).1
    exact ⟨(k.block _ (by omega) (fun x => by have := hSlt _ x; omega)).trans e1, (k.block _ (by omega) (fun x => by have := hSlt _ x; omega)).trans e2⟩
  have hd2 : ∀ wa, Below w6.heap.size w6 wa → Hid (Calls Tryd.prog 20 #[V, .agg #[.int .i64 ((q0, q1, J, i) : Pl).1, .int .i64 ((q0, q1, J, i) : Pl).2.1, .int .i64 ((q0, q1, J, i) : Pl).2.2.1, .bool ((q0, q1, J, i) : Pl).2.2.2]] wa fun e w2 => ∃ v2, e = .returned v2 ∧ (fun wy => (wy.cell? ⟨w.heap.size, 0, none⟩ = some (.int .i64 n0) ∧ wy.cell? ⟨w.heap.size, 1, none⟩ = some (.int .i64 n1) ∧ wy.cell? ⟨w.heap.size, 2, none⟩ = some (.int .u32 n2) ∧ wy.cell? ⟨w.heap.size, 3, none⟩ = some (.int .i64 n3)) ∧ (wy.cell? ⟨w4.heap.size, 0, none⟩ = some (.int .i64 q0) ∧ wy.cell? ⟨w4.heap.size, 1, none⟩ = some (.int .i64 q1) ∧ wy.cell? ⟨w4.heap.size, 2, none⟩ = some (.int .i64 J) ∧ wy.cell? ⟨w4.heap.size, 3, none⟩ = some (.bool i))) w2 ∧
      Hid (Calls Tryd.prog 19 #[.pointer (some ⟨b, 0, none⟩), .agg #[.int .i64 n0, .int .i64 n1, .int .u32 n2, .int .i64 n3], v2] w2 fun e w4' => e = .returned (.tuple #[]) ∧ (fun wy => (wy.cell? ⟨w.heap.size, 0, none⟩ = some (.int .i64 n0) ∧ wy.cell? ⟨w.heap.size, 1, none⟩ = some (.int .i64 n1) ∧ wy.cell? ⟨w.heap.size, 2, none⟩ = some (.int .u32 n2) ∧ wy.cell? ⟨w.heap.size, 3, none⟩ = some (.int .i64 n3)) ∧ (wy.cell? ⟨w4.heap.size, 0, none⟩ = some (.int .i64 q0) ∧ wy.cell? ⟨w4.heap.size, 1, none⟩ = some (.int .i64 q1) ∧ wy.cell? ⟨w4.heap.size, 2, none⟩ = some (.int .i64 J) ∧ wy.cell? ⟨w4.heap.size, 3, none⟩ = some (.bool i))) w4' ∧ Hid (∃ S', IsTab S' w4' b (T.setQ (n0, n1, n2, n3) (withF (T.Q (n0, n1, n2, n3)) ((q0, q1, J, i) : Pl))) ∧ MovesL S S' w w4'))) := fun wa ba => by
    have tb := HT.out wa (HA6.bel.trans (ba.mono HA6.bel.size))
    have hw := with_lay hn tb ((q0, q1, J, i) : Pl) HZ.out hz hL
    rw [hgv] at hw
    refine hw.mono ?_
    rintro e w2 ⟨v2, rfl, k2, hly⟩
    have e1 := ba.block _ HA6.lt
    have e2 := ba.block _ (Array.getElem?_eq_some_iff.1 hb6).1
    obtain ⟨f1, f2⟩ := hoff wa w2 k2 ba.size e1 e2
    refine ⟨v2, rfl, hcl w2 f1 f2, ?_⟩
    refine (hly.out w2 (Below.refl _ _)).mono ?_
    rintro e w4' ⟨rfl, S', ht, hmv⟩
    obtain ⟨f3, f4⟩ := hoff wa w4' hmv.1 ba.size e1 e2
    exact ⟨rfl, hcl w4' f3 f4, S', ht, (MovesL.of_below (HA6.bel.trans (ba.mono HA6.bel.size)) : MovesL S S w wa).trans hmv⟩
  have hd1 := hd2 w6.drew ((Below.refl _ _).drew)
  obtain ⟨⟨x0, x1, x2, x3⟩, ⟨y0, y1, y2, y3⟩⟩ := hcl w6 rfl rfl
  clear hd2 hcl hoff HZ HT hSlt hb6 h4 h5 hJ
  simp only at hd1
  have hl6 := HA6.lt
  go_wp2_with fail
  go_region_held3 (fun wy => (wy.cell? ⟨w.heap.size, 0, none⟩ = some (.int .i64 n0) ∧ wy.cell? ⟨w.heap.size, 1, none⟩ = some (.int .i64 n1) ∧ wy.cell? ⟨w.heap.size, 2, none⟩ = some (.int .u32 n2) ∧ wy.cell? ⟨w.heap.size, 3, none⟩ = some (.int .i64 n3)) ∧ (wy.cell? ⟨w4.heap.size, 0, none⟩ = some (.int .i64 q0) ∧ wy.cell? ⟨w4.heap.size, 1, none⟩ = some (.int .i64 q1) ∧ wy.cell? ⟨w4.heap.size, 2, none⟩ = some (.int .i64 J) ∧ wy.cell? ⟨w4.heap.size, 3, none⟩ = some (.bool i))) (first | go_keep | exact sb | exact sc)
    (first
      | (go_at_call 20; refine hd1.out.mono ?_; rintro x wb ⟨v2, rfl, sb, hd3⟩)
      | (go_at_call 19; refine hd3.out.mono ?_; rintro x wc ⟨rfl, sc, HF⟩))
  obtain ⟨S', ⟨bq', bw', DQ', DW', ht⟩, hmv⟩ := HF.out
  clear HF hd1 hd3 sb x0 x1 x2 x3 y0 y1 y2 y3
  obtain ⟨⟨x0, x1, x2, x3⟩, _⟩ := sc
  obtain ⟨u, hu⟩ := put_ex 3 53 33 bw' (.int .i64 q0) (.agg #[.int .i64 n0, .int .i64 n1, .int .u32 n2, .int .i64 n3])
  have htd := ht.below ((Below.refl wc.heap.size wc).drew)
  obtain ⟨hru, hm, htn⟩ := hu wc.drew _ _ _ htd.mw txKeyed Tryd.underlying53 (Nat.le_trans ht.y hy) (tkey_key hr.1 hr.2)
  have HF2 := ht.waited (n := (n0, n1, n2, n3)) hr ((Below.refl wc.heap.size wc).drew) htn hm
  have HFM : Hid (∃ S', IsTab S' (u wc.drew) b ((T.setQ (n0, n1, n2, n3) (withF (T.Q (n0, n1, n2, n3)) (q0, q1, J, i))).setW q0 (n0, n1, n2, n3)) ∧ MovesL S S' w (u wc.drew)) := ⟨S', ⟨bq', bw', DQ', _, HF2.1⟩, hmv.trans HF2.2⟩
  have hc1 := ht.c1
  have hbl := ht.lt b ht.sb
  have hwl : w.heap.size < wc.heap.size := by
    have := hmv.1.size
    rcases Nat.lt_or_ge w.heap.size wc.heap.size with hh | hh
    · exact hh
    · exfalso
      rw [show w.heap.size = wc.heap.size from by omega] at x0
      simp [World.cell?] at x0
  clear HF2 hu htd ht hm htn hmv
  go_wp2_with fail
  go_region
  go_wp2
  refine bodyPost_ret (v := .tuple #[.bool false, .int .i64 0]) (by simp [results, Tryd.results10, go_sem]) rfl ?_
  rw [HJJ.out]
  exact ⟨rfl, HFM.out⟩

end Go.Proofs.YthagomibjlcfmaaDoor
