/-
  The walk of Ask.
-/
import Derived.Test.YthagomibjlcfmaaDoorLkTabC
import Derived.Test.YthagomibjlcfmaaDoorLkSortC
import Derived.Deep.RegionHeld3
namespace Go.Proofs.YthagomibjlcfmaaDoor
open Go.RowKit
set_option linter.unusedVariables false
set_option linter.unusedSimpArgs false

theorem loc_new {S : Nat → Prop} {w : World} {v v' : Value} (hS : ∀ k, S k → k < w.heap.size) (h : v'.ownBlock = v.ownBlock ∨ ∃ z, v'.ownBlock = some z ∧ w.heap.size ≤ z) : v'.ownBlock = v.ownBlock ∨ ∃ z, v'.ownBlock = some z ∧ ¬ S z := by
  rcases h with h | ⟨z, h, hz⟩
  · exact .inl h
  · exact .inr ⟨z, h, fun x => by have := hS z x; omega⟩

/-- One is put into a lock's queue, and the queue is laid. -/
theorem with_lay {S : Nat → Prop} {w : World} {b bq bw : Nat} {DQ DW : DataW Value} {T : Tab} {n : NameV} {l : Lit} (hn : NKey n l) (h : TabX noEx S w b bq bw DQ DW T) (p : Pl)
    (hp : (p.2.1 = 0 ∧ p.2.2.1 = 0) → ofF (T.Q n) p.1 = (T.Q n).length) (hz : T.z ≤ 1000000) (hL : (T.Q n).length < 1000000) :
    Calls Tryd.prog 20 #[getV DQ l nilS, pval p] w fun e w2 => ∃ v2, e = .returned v2 ∧ KeptL S w w2 ∧
      Hid (∀ w3, Below w2.heap.size w2 w3 → Calls Tryd.prog 19 #[.pointer (some ⟨b, 0, none⟩), nval n, v2] w3 fun e w4 => e = .returned (.tuple #[]) ∧ ∃ S', IsTab S' w4 b (T.setQ n (withF (T.Q n) p)) ∧ MovesL S S' w w4) := by
  have hv := h.valq n l hn (fun x => x)
  have fin : ∀ (w2 : World) (v2 : Value), QAt w2 v2 (withF (T.Q n) p) → (withF (T.Q n) p).length ≤ 1000000 → Steps w w2 (getV DQ l nilS) v2 → KeptL S w w2 ∧
      Hid (∀ w3, Below w2.heap.size w2 w3 → Calls Tryd.prog 19 #[.pointer (some ⟨b, 0, none⟩), nval n, v2] w3 fun e w4 => e = .returned (.tuple #[]) ∧ ∃ S', IsTab S' w4 b (T.setQ n (withF (T.Q n) p)) ∧ MovesL S S' w w4) := by
    intro w2 v2 h2 hl st
    have k2 : KeptL S w w2 := KeptL.of_grown st.grown fun g e => (h.rows n l g hn e).1
    refine ⟨k2, fun w3 b3 => ?_⟩
    have t3 := (h.touch hn st.grown).below b3
    refine (lay_any hn t3 (h2.below b3) (loc_new h.lt st.at') hz hl).mono ?_
    rintro e w4 ⟨rfl, ht, hk⟩
    refine ⟨rfl, _, ht, ?_, ?_⟩
    · exact (k2.trans (KeptL.of_below b3)).trans (hk.mono fun x e => e ▸ h.sq)
    · intro k hk'
      rcases hk' with hk' | hk'
      · exact .inl hk'
      · rcases st.at' with e | ⟨z, e, hz'⟩
        · exact .inl (h.rows n l k hn (e ▸ hk')).1
        · obtain rfl : z = k := Option.some.inj (e.symm.trans hk')
          exact .inr hz'
  have hle := ofF_le (T.Q n) p.1
  by_cases hc : p.2.1 = 0 ∧ p.2.2.1 = 0
  · refine (with_none hv p hc.1 hc.2 (hp hc) (by omega)).mono ?_
    rintro e w2 ⟨v2, rfl, h2, st⟩
    have hl : (withF (T.Q n) p).length ≤ 1000000 := by
      unfold withF; rw [if_pos hc]; have := List.length_eraseIdx_le (T.Q n) (ofF (T.Q n) p.1); omega
    exact ⟨v2, rfl, fin w2 v2 h2 hl st⟩
  · by_cases hat : ofF (T.Q n) p.1 = (T.Q n).length
    · refine (with_push hv p hc hat (by omega)).mono ?_
      rintro e w2 ⟨v2, rfl, h2, st⟩
      have hl : (withF (T.Q n) p).length ≤ 1000000 := by
        unfold withF; rw [if_neg hc, if_pos hat, List.length_append]; simp; omega
      exact ⟨v2, rfl, fin w2 v2 h2 hl st⟩
    · refine (with_set hv p hc (by omega) (by omega)).mono ?_
      rintro e w2 ⟨rfl, h2, hg⟩
      have hl : (withF (T.Q n) p).length ≤ 1000000 := by
        unfold withF; rw [if_neg hc, if_neg hat, List.length_set]; omega
      exact ⟨_, rfl, fin w2 _ h2 hl ⟨hg, .inl rfl⟩⟩

/-- Where Ask stands: the name lies in its box. -/
structure AskIn (w wx : World) (n : NameV) : Prop where
  bel : Below w.heap.size w wx
  box : wx.heap[w.heap.size]? = some (.cells #[.int .i64 n.1, .int .i64 n.2.1, .int .u32 n.2.2.1, .int .i64 n.2.2.2] 33)

theorem AskIn.start (w : World) (n : NameV) : AskIn w (w.alloc (.cells #[.int .i64 n.1, .int .i64 n.2.1, .int .u32 n.2.2.1, .int .i64 n.2.2.2] 33)) n := ⟨(Below.refl _ _).alloc (Nat.le_refl _) _, heap_alloc_new _ _⟩
theorem AskIn.lt {w wx : World} {n : NameV} (h : AskIn w wx n) : w.heap.size < wx.heap.size := (Array.getElem?_eq_some_iff.1 h.box).1
theorem AskIn.below {w wx wy : World} {n : NameV} (h : AskIn w wx n) (k : Below wx.heap.size wx wy) : AskIn w wy n := ⟨h.bel.trans (k.mono h.bel.size), (k.block _ h.lt).trans h.box⟩
theorem AskIn.cells {w wx : World} {n : NameV} (h : AskIn w wx n) : wx.cell? ⟨w.heap.size, 0, none⟩ = some (.int .i64 n.1) ∧ wx.cell? ⟨w.heap.size, 1, none⟩ = some (.int .i64 n.2.1) ∧ wx.cell? ⟨w.heap.size, 2, none⟩ = some (.int .u32 n.2.2.1) ∧ wx.cell? ⟨w.heap.size, 3, none⟩ = some (.int .i64 n.2.2.2) :=
  ⟨by simp [World.cell?, h.box], by simp [World.cell?, h.box], by simp [World.cell?, h.box], by simp [World.cell?, h.box]⟩



set_option maxHeartbeats 1600000 in
set_option maxRecDepth 60000 in
theorem ask_arg (p : Value) (hp : p = .pointer none ∨ ∃ b, p = ptr b) (tx : Int) (n : NameV) (mode : Int) (i wt : Bool) (w : World) (h : p = .pointer none ∨ tx < 1 ∨ modB mode = false) :
    Calls Tryd.prog 10 #[p, .int .i64 tx, nval n, .int .i64 mode, .bool i, .bool wt] w fun e w' => e = .returned (.tuple #[.bool false, .int .i64 1]) ∧ Below w.heap.size w w' := by
  have hm := mode_any mode
  obtain ⟨n0, n1, n2, n3⟩ := n
  unfold nval
  simp only
  rcases hp with rfl | ⟨b, rfl⟩
  · clear h hm
    go_enter Tryd.func10, Tryd.ntmps10
    go_wp2
    refine bodyPost_ret (v := .tuple #[.bool false, .int .i64 1]) (by simp [results, Tryd.results10, go_sem]) rfl ?_
    exact ⟨rfl, (Below.refl _ _).alloc (Nat.le_refl _) _⟩
  · unfold ptr at *
    by_cases h1 : tx < 1
    · clear h hm
      go_enter Tryd.func10, Tryd.ntmps10
      go_wp2
      refine bodyPost_ret (v := .tuple #[.bool false, .int .i64 1]) (by simp [results, Tryd.results10, go_sem]) rfl ?_
      exact ⟨rfl, (Below.refl _ _).alloc (Nat.le_refl _) _⟩
    · have h2 : modB mode = false := by
        rcases h with h | h | h
        · cases h
        · exact absurd h h1
        · exact h
      rw [h2] at hm
      go_enter Tryd.func10, Tryd.ntmps10
      go_wp2_with fail
      refine (hm _).mono ?_
      rintro e w1 ⟨rfl, rfl⟩
      go_wp2
      refine bodyPost_ret (v := .tuple #[.bool false, .int .i64 1]) (by simp [results, Tryd.results10, go_sem]) rfl ?_
      exact ⟨rfl, (Below.refl _ _).alloc (Nat.le_refl _) _⟩

set_option maxHeartbeats 1600000 in
set_option maxRecDepth 60000 in
theorem ask_waits {S : Nat → Prop} {w : World} {b : Nat} {T : Tab} (h : IsTab S w b T) (tx : Int) (n : NameV) (mode : Int) (i wt : Bool) (h1 : 1 ≤ tx) (hr : i64R tx) (h2 : modB mode = true) (h3 : (T.W tx).isSome = true) :
    Calls Tryd.prog 10 #[ptr b, .int .i64 tx, nval n, .int .i64 mode, .bool i, .bool wt] w fun e w' => e = .returned (.tuple #[.bool false, .int .i64 80]) ∧ Below w.heap.size w w' := by
  have hm := mode_any mode
  rw [h2] at hm
  have HW : Hid (∀ wx, Below w.heap.size w wx → Calls Tryd.prog 11 #[.pointer (some ⟨b, 0, none⟩), .int .i64 tx] wx fun e w' => e = .returned (.bool true) ∧ Below wx.heap.size wx w') := fun wx k => by
    have := waits_any (h.below k) tx hr
    rw [h3] at this
    exact this
  obtain ⟨n0, n1, n2, n3⟩ := n
  unfold nval ptr
  simp only
  have W1 : Below w.heap.size w (w.alloc (.cells #[.int .i64 n0, .int .i64 n1, .int .u32 n2, .int .i64 n3] 33)) := (Below.refl _ _).alloc (Nat.le_refl _) _
  have h1' : ¬ tx < 1 := by omega
  go_enter Tryd.func10, Tryd.ntmps10
  go_wp2_with fail
  refine (hm _).mono ?_
  rintro e w1 ⟨rfl, rfl⟩
  go_wp2_with fail
  refine (HW.out _ W1).mono ?_
  rintro e w2 ⟨rfl, b2⟩
  go_wp2
  refine bodyPost_ret (v := .tuple #[.bool false, .int .i64 80]) (by simp [results, Tryd.results10, go_sem]) rfl ?_
  exact ⟨rfl, W1.trans (b2.mono (by simp))⟩

set_option maxHeartbeats 3200000 in
set_option maxRecDepth 60000 in
theorem ask_has {S : Nat → Prop} {w : World} {b : Nat} {T : Tab} (hl : LkLaid w) (h : IsTab S w b T) (tx : Int) (n : NameV) (l : Lit) (hn : NKey n l) (mode : Int) (i wt : Bool) (h1 : 1 ≤ tx) (hr : i64R tx) (h2 : modB mode = true) (h3 : T.W tx = none) (hL : (T.Q n).length < 1000000) (hz : T.z ≤ 1000000) (h4 : joinF (oneF (T.Q n) tx).2.1 mode = (oneF (T.Q n) tx).2.1) :
    Calls Tryd.prog 10 #[ptr b, .int .i64 tx, nval n, .int .i64 mode, .bool i, .bool wt] w fun e w' => e = .returned (.tuple #[.bool true, .int .i64 0]) ∧ Below w.heap.size w w' := by
  have hm := mode_any mode
  rw [h2] at hm
  obtain ⟨bq, bw, DQ, DW, h⟩ := h
  have HT : Hid (∀ wx, Below w.heap.size w wx → TabX noEx S wx b bq bw DQ DW T) := fun wx k => h.below k
  have HW : Hid (∀ wx, Below w.heap.size w wx → Calls Tryd.prog 11 #[.pointer (some ⟨b, 0, none⟩), .int .i64 tx] wx fun e w' => e = .returned (.bool false) ∧ Below wx.heap.size wx w') := fun wx k => by
    have := waits_any (b := b) (S := S) (T := T) ⟨bq, bw, DQ, DW, h.below k⟩ tx hr
    rw [h3] at this
    exact this
  have HO : Hid (∀ wx, Below w.heap.size w wx → Calls Tryd.prog 23 #[getV DQ l nilS, .int .i64 tx] wx fun e w' => e = .returned (pval (oneF (T.Q n) tx)) ∧ Below wx.heap.size wx w') := fun wx k => one_any ((h.below k).valq n l hn (fun x => x)) tx
  have HJ : Hid (∀ (a : Int) wx, Below w.heap.size w wx → Calls Tryd.prog 26 #[.int .i64 a, .int .i64 mode] wx fun e w' => e = .returned (.int .i64 (joinF a mode)) ∧ w' = wx) := fun a wx k => join_any a mode wx (hl.below hl.lt k)
  have HLK : Hid (∀ wx, Below w.heap.size w wx → (Instr.lookup 52 (.map (some bq)) (nval n) false).run Tryd.prog wx = .ok (getV DQ l nilS) wx) := fun wx k => (h.below k).mq.look nameKeyed Tryd.underlying52 (zeroQueue wx) hn
  have hq1 : (oneF (T.Q n) tx).1 = tx := oneF_tx _ _
  have hSlt := h.lt
  have hblt := h.lt b h.sb
  clear hl
  generalize oneF (T.Q n) tx = q at *
  obtain ⟨q0, q1, q2, q3⟩ := q
  simp only at hq1
  subst hq1
  unfold ptr
  clear h
  have HA0 := AskIn.start w n
  obtain ⟨n0, n1, n2, n3⟩ := n
  unfold nval at HLK ⊢
  unfold pval at HO
  simp only at HLK HO HA0 ⊢
  have h1' : ¬ q0 < 1 := by omega
  generalize hgv : getV DQ l nilS = V at *
  go_enter Tryd.func10, Tryd.ntmps10
  go_wp2_with fail
  refine (hm _).mono ?_
  rintro e w1 ⟨rfl, rfl⟩
  go_wp2_with fail
  refine (HW.out _ HA0.bel).mono ?_
  rintro e w2 ⟨rfl, b2⟩
  have HA2 := HA0.below b2
  clear b2 HA0 hm HW
  have HL2 := HLK.out _ (HA2.bel.drew)
  have hc0 := (HT.out _ HA2.bel).c0
  obtain ⟨m0, m1, m2, m3⟩ := HA2.cells
  have hlt2 := HA2.lt
  go_wp2_with fail
  go_region
  have HA3 : AskIn w w2.drew (n0, n1, n2, n3) := HA2.below ((Below.refl _ _).drew)
  clear HL2 hc0 m0 m1 m2 m3 HA2 hlt2
  generalize w2.drew = w3 at *
  go_wp2_with fail
  refine (HO.out _ HA3.bel).mono ?_
  rintro e w4 ⟨rfl, b4⟩
  have HA4 := HA3.below b4
  clear b4 HA3 HO HLK
  have b5 := HA4.bel.alloc HA4.bel.size (.cells #[.int .i64 q0, .int .i64 q1, .int .i64 q2, .bool q3] 64)
  have HJ1 := HJ.out q1 _ b5
  try simp only at h4
  rw [h4] at HJ1
  go_wp2_with fail
  refine HJ1.mono ?_
  rintro e w5 ⟨rfl, rfl⟩
  go_wp2
  refine bodyPost_ret (v := .tuple #[.bool true, .int .i64 0]) (by simp [results, Tryd.results10, go_sem]) rfl ?_
  exact ⟨rfl, HA4.bel.alloc HA4.bel.size _⟩

set_option maxHeartbeats 3200000 in
set_option maxRecDepth 60000 in
theorem ask_no {S : Nat → Prop} {w : World} {b : Nat} {T : Tab} (hl : LkLaid w) (h : IsTab S w b T) (tx : Int) (n : NameV) (l : Lit) (hn : NKey n l) (mode : Int) (i wt : Bool) (h1 : 1 ≤ tx) (hr : i64R tx) (h2 : modB mode = true) (h3 : T.W tx = none) (hL : (T.Q n).length < 1000000) (hz : T.z ≤ 1000000) (h4 : joinF (oneF (T.Q n) tx).2.1 mode ≠ (oneF (T.Q n) tx).2.1) (h5 : (oneF (T.Q n) tx).2.1 = 0 → ofF (T.Q n) tx = (T.Q n).length) (hJ : joinF (oneF (T.Q n) tx).2.1 mode ≠ 0) (hB : blkF (T.Q n) (tx, (oneF (T.Q n) tx).2.1, joinF (oneF (T.Q n) tx).2.1 mode, i) ≠ []) (hB0 : True) (hwt : wt = false) :
    Calls Tryd.prog 10 #[ptr b, .int .i64 tx, nval n, .int .i64 mode, .bool i, .bool wt] w fun e w' => e = .returned (.tuple #[.bool false, .int .i64 0]) ∧ Below w.heap.size w w' := by
  have hm := mode_any mode
  rw [h2] at hm
  obtain ⟨bq, bw, DQ, DW, h⟩ := h
  have HT : Hid (∀ wx, Below w.heap.size w wx → TabX noEx S wx b bq bw DQ DW T) := fun wx k => h.below k
  have HW : Hid (∀ wx, Below w.heap.size w wx → Calls Tryd.prog 11 #[.pointer (some ⟨b, 0, none⟩), .int .i64 tx] wx fun e w' => e = .returned (.bool false) ∧ Below wx.heap.size wx w') := fun wx k => by
    have := waits_any (b := b) (S := S) (T := T) ⟨bq, bw, DQ, DW, h.below k⟩ tx hr
    rw [h3] at this
    exact this
  have HO : Hid (∀ wx, Below w.heap.size w wx → Calls Tryd.prog 23 #[getV DQ l nilS, .int .i64 tx] wx fun e w' => e = .returned (pval (oneF (T.Q n) tx)) ∧ Below wx.heap.size wx w') := fun wx k => one_any ((h.below k).valq n l hn (fun x => x)) tx
  have HJ : Hid (∀ (a : Int) wx, Below w.heap.size w wx → Calls Tryd.prog 26 #[.int .i64 a, .int .i64 mode] wx fun e w' => e = .returned (.int .i64 (joinF a mode)) ∧ w' = wx) := fun a wx k => join_any a mode wx (hl.below hl.lt k)
  have HLK : Hid (∀ wx, Below w.heap.size w wx → (Instr.lookup 52 (.map (some bq)) (nval n) false).run Tryd.prog wx = .ok (getV DQ l nilS) wx) := fun wx k => (h.below k).mq.look nameKeyed Tryd.underlying52 (zeroQueue wx) hn
  have HB : Hid (∀ (p : Pl) wx, Below w.heap.size w wx → Calls Tryd.prog 27 #[getV DQ l nilS, pval p] wx fun e w' => ∃ v', e = .returned v' ∧ IntsAt wx.heap.size w' v' (sortI (blkF (T.Q n) p)) ∧ Below wx.heap.size wx w') := fun p wx k => blockers_any (hl.below hl.lt k) ((h.below k).valq n l hn (fun x => x)) p (by omega) (sorts_all _ (by omega))
  have hq1 : (oneF (T.Q n) tx).1 = tx := oneF_tx _ _
  have hSlt := h.lt
  have hblt := h.lt b h.sb
  clear hl
  generalize oneF (T.Q n) tx = q at *
  obtain ⟨q0, q1, q2, q3⟩ := q
  simp only at hq1
  subst hq1
  unfold ptr
  clear h
  have HA0 := AskIn.start w n
  obtain ⟨n0, n1, n2, n3⟩ := n
  unfold nval at HLK ⊢
  unfold pval at HO
  simp only at HLK HO HA0 ⊢
  have h1' : ¬ q0 < 1 := by omega
  generalize hgv : getV DQ l nilS = V at *
  go_enter Tryd.func10, Tryd.ntmps10
  go_wp2_with fail
  refine (hm _).mono ?_
  rintro e w1 ⟨rfl, rfl⟩
  go_wp2_with fail
  refine (HW.out _ HA0.bel).mono ?_
  rintro e w2 ⟨rfl, b2⟩
  have HA2 := HA0.below b2
  clear b2 HA0 hm HW
  have HL2 := HLK.out _ (HA2.bel.drew)
  have hc0 := (HT.out _ HA2.bel).c0
  obtain ⟨m0, m1, m2, m3⟩ := HA2.cells
  have hlt2 := HA2.lt
  go_wp2_with fail
  go_region
  have HA3 : AskIn w w2.drew (n0, n1, n2, n3) := HA2.below ((Below.refl _ _).drew)
  clear HL2 hc0 m0 m1 m2 m3 HA2 hlt2
  generalize w2.drew = w3 at *
  go_wp2_with fail
  refine (HO.out _ HA3.bel).mono ?_
  rintro e w4 ⟨rfl, b4⟩
  have HA4 := HA3.below b4
  clear b4 HA3 HO HLK
  have b5 := HA4.bel.alloc HA4.bel.size (.cells #[.int .i64 q0, .int .i64 q1, .int .i64 q2, .bool q3] 64)
  have HJ1 := HJ.out q1 _ b5
  try simp only at h4 h5 hJ hB hB0
  obtain ⟨J, HJJ⟩ : ∃ J, Hid (joinF q1 mode = J) := ⟨_, rfl⟩
  rw [HJJ.out] at HJ1 h4 hJ
  try rw [HJJ.out] at hB
  try rw [HJJ.out] at hB0
  have h4' : (J == q1) = false := by simpa using h4
  have HA5 : AskIn w (w4.alloc (.cells #[.int .i64 q0, .int .i64 q1, .int .i64 J, .bool i] 64)) (n0, n1, n2, n3) := HA4.below ((Below.refl _ _).alloc (Nat.le_refl _) _)
  have hbx : (w4.alloc (.cells #[.int .i64 q0, .int .i64 q1, .int .i64 J, .bool i] 64)).heap[w4.heap.size]? = some (.cells #[.int .i64 q0, .int .i64 q1, .int .i64 J, .bool i] 64) := heap_alloc_new _ _
  have HB1 := HB.out (q0, q1, J, i) _ HA5.bel
  unfold pval at HB1
  simp only at HB1
  go_wp2_with fail
  refine HJ1.mono ?_
  rintro e w5 ⟨rfl, rfl⟩
  clear HJ HJ1 b5
  go_wp2_with fail
  refine HB1.mono ?_
  rintro e w6 ⟨v6, rfl, hi6, b6⟩
  clear HB HB1
  have HA6 := HA5.below b6
  have hb6 : w6.heap[w4.heap.size]? = some (.cells #[.int .i64 q0, .int .i64 q1, .int .i64 J, .bool i] 64) := (b6.block _ (by simp)).trans hbx
  obtain ⟨a6, c6, rfl⟩ := hi6.val
  rw [sortI_len] at *
  have hw46 := HA4.bel.size
  have hw4 := HA4.lt
  clear b6 hbx HA5 HA4 hi6
  have hB' : (((blkF (T.Q (n0, n1, n2, n3)) (q0, q1, J, i)).length : Int) == 0) = false := by
    have : (blkF (T.Q (n0, n1, n2, n3)) (q0, q1, J, i)).length ≠ 0 := fun e => hB (List.eq_nil_of_length_eq_zero e)
    simpa using this
  generalize (blkF (T.Q (n0, n1, n2, n3)) (q0, q1, J, i)).length = N6 at *
  subst hwt
  go_wp2
  refine bodyPost_ret (v := .tuple #[.bool false, .int .i64 0]) (by simp [results, Tryd.results10, go_sem]) rfl ?_
  exact ⟨rfl, HA6.bel⟩

set_option maxHeartbeats 3200000 in
set_option maxRecDepth 60000 in
theorem ask_had {S : Nat → Prop} {w : World} {b : Nat} {T : Tab} (hl : LkLaid w) (h : IsTab S w b T) (tx : Int) (n : NameV) (l : Lit) (hn : NKey n l) (mode : Int) (i wt : Bool) (h1 : 1 ≤ tx) (hr : i64R tx) (h2 : modB mode = true) (h3 : T.W tx = none) (hL : (T.Q n).length < 1000000) (hz : T.z ≤ 1000000) (h4 : joinF (oneF (T.Q n) tx).2.1 mode ≠ (oneF (T.Q n) tx).2.1) (h5 : (oneF (T.Q n) tx).2.1 = 0 → ofF (T.Q n) tx = (T.Q n).length) (hJ : joinF (oneF (T.Q n) tx).2.1 mode ≠ 0) (hB : True) (hB0 : blkF (T.Q n) (tx, (oneF (T.Q n) tx).2.1, joinF (oneF (T.Q n) tx).2.1 mode, i) = []) :
    Calls Tryd.prog 10 #[ptr b, .int .i64 tx, nval n, .int .i64 mode, .bool i, .bool wt] w fun e w' => e = .returned (.tuple #[.bool true, .int .i64 0]) ∧ ∃ S', IsTab S' w' b (T.setQ n (withF (T.Q n) (grantedF (tx, (oneF (T.Q n) tx).2.1, joinF (oneF (T.Q n) tx).2.1 mode, i)))) ∧ MovesL S S' w w' := by
  have hm := mode_any mode
  rw [h2] at hm
  obtain ⟨bq, bw, DQ, DW, h⟩ := h
  have HT : Hid (∀ wx, Below w.heap.size w wx → TabX noEx S wx b bq bw DQ DW T) := fun wx k => h.below k
  have HW : Hid (∀ wx, Below w.heap.size w wx → Calls Tryd.prog 11 #[.pointer (some ⟨b, 0, none⟩), .int .i64 tx] wx fun e w' => e = .returned (.bool false) ∧ Below wx.heap.size wx w') := fun wx k => by
    have := waits_any (b := b) (S := S) (T := T) ⟨bq, bw, DQ, DW, h.below k⟩ tx hr
    rw [h3] at this
    exact this
  have HO : Hid (∀ wx, Below w.heap.size w wx → Calls Tryd.prog 23 #[getV DQ l nilS, .int .i64 tx] wx fun e w' => e = .returned (pval (oneF (T.Q n) tx)) ∧ Below wx.heap.size wx w') := fun wx k => one_any ((h.below k).valq n l hn (fun x => x)) tx
  have HJ : Hid (∀ (a : Int) wx, Below w.heap.size w wx → Calls Tryd.prog 26 #[.int .i64 a, .int .i64 mode] wx fun e w' => e = .returned (.int .i64 (joinF a mode)) ∧ w' = wx) := fun a wx k => join_any a mode wx (hl.below hl.lt k)
  have HLK : Hid (∀ wx, Below w.heap.size w wx → (Instr.lookup 52 (.map (some bq)) (nval n) false).run Tryd.prog wx = .ok (getV DQ l nilS) wx) := fun wx k => (h.below k).mq.look nameKeyed Tryd.underlying52 (zeroQueue wx) hn
  have HB : Hid (∀ (p : Pl) wx, Below w.heap.size w wx → Calls Tryd.prog 27 #[getV DQ l nilS, pval p] wx fun e w' => ∃ v', e = .returned v' ∧ IntsAt wx.heap.size w' v' (sortI (blkF (T.Q n) p)) ∧ Below wx.heap.size wx w') := fun p wx k => blockers_any (hl.below hl.lt k) ((h.below k).valq n l hn (fun x => x)) p (by omega) (sorts_all _ (by omega))
  have hq1 : (oneF (T.Q n) tx).1 = tx := oneF_tx _ _
  have hSlt := h.lt
  have hblt := h.lt b h.sb
  clear hl
  generalize oneF (T.Q n) tx = q at *
  obtain ⟨q0, q1, q2, q3⟩ := q
  simp only at hq1
  subst hq1
  unfold ptr
  clear h
  have HA0 := AskIn.start w n
  obtain ⟨n0, n1, n2, n3⟩ := n
  unfold nval at HLK ⊢
  unfold pval at HO
  simp only at HLK HO HA0 ⊢
  have h1' : ¬ q0 < 1 := by omega
  generalize hgv : getV DQ l nilS = V at *
  go_enter Tryd.func10, Tryd.ntmps10
  go_wp2_with fail
  refine (hm _).mono ?_
  rintro e w1 ⟨rfl, rfl⟩
  go_wp2_with fail
  refine (HW.out _ HA0.bel).mono ?_
  rintro e w2 ⟨rfl, b2⟩
  have HA2 := HA0.below b2
  clear b2 HA0 hm HW
  have HL2 := HLK.out _ (HA2.bel.drew)
  have hc0 := (HT.out _ HA2.bel).c0
  obtain ⟨m0, m1, m2, m3⟩ := HA2.cells
  have hlt2 := HA2.lt
  go_wp2_with fail
  go_region
  have HA3 : AskIn w w2.drew (n0, n1, n2, n3) := HA2.below ((Below.refl _ _).drew)
  clear HL2 hc0 m0 m1 m2 m3 HA2 hlt2
  generalize w2.drew = w3 at *
  go_wp2_with fail
  refine (HO.out _ HA3.bel).mono ?_
  rintro e w4 ⟨rfl, b4⟩
  have HA4 := HA3.below b4
  clear b4 HA3 HO HLK
  have b5 := HA4.bel.alloc HA4.bel.size (.cells #[.int .i64 q0, .int .i64 q1, .int .i64 q2, .bool q3] 64)
  have HJ1 := HJ.out q1 _ b5
  try simp only at h4 h5 hJ hB hB0
  obtain ⟨J, HJJ⟩ : ∃ J, Hid (joinF q1 mode = J) := ⟨_, rfl⟩
  rw [HJJ.out] at HJ1 h4 hJ
  try rw [HJJ.out] at hB
  try rw [HJJ.out] at hB0
  have h4' : (J == q1) = false := by simpa using h4
  have HA5 : AskIn w (w4.alloc (.cells #[.int .i64 q0, .int .i64 q1, .int .i64 J, .bool i] 64)) (n0, n1, n2, n3) := HA4.below ((Below.refl _ _).alloc (Nat.le_refl _) _)
  have hbx : (w4.alloc (.cells #[.int .i64 q0, .int .i64 q1, .int .i64 J, .bool i] 64)).heap[w4.heap.size]? = some (.cells #[.int .i64 q0, .int .i64 q1, .int .i64 J, .bool i] 64) := heap_alloc_new _ _
  have HB1 := HB.out (q0, q1, J, i) _ HA5.bel
  unfold pval at HB1
  simp only at HB1
  go_wp2_with fail
  refine HJ1.mono ?_
  rintro e w5 ⟨rfl, rfl⟩
  clear HJ HJ1 b5
  go_wp2_with fail
  refine HB1.mono ?_
  rintro e w6 ⟨v6, rfl, hi6, b6⟩
  clear HB HB1
  have HA6 := HA5.below b6
  have hb6 : w6.heap[w4.heap.size]? = some (.cells #[.int .i64 q0, .int .i64 q1, .int .i64 J, .bool i] 64) := (b6.block _ (by simp)).trans hbx
  obtain ⟨a6, c6, rfl⟩ := hi6.val
  rw [sortI_len] at *
  have hw46 := HA4.bel.size
  have hw4 := HA4.lt
  clear b6 hbx HA5 HA4 hi6
  have HG : Hid (grantedF (q0, q1, J, i) = (if i then (q0, q1, 0, false) else (q0, J, 0, false))) := rfl
  obtain ⟨G, HG2⟩ : ∃ G, Hid (grantedF (q0, q1, J, i) = G) := ⟨_, rfl⟩
  have hG1 : G.1 = q0 := by rw [← HG2.out, HG.out]; cases i <;> rfl
  have HZ : Hid ((G.2.1 = 0 ∧ G.2.2.1 = 0) → ofF (T.Q (n0, n1, n2, n3)) G.1 = (T.Q (n0, n1, n2, n3)).length) := fun hzz => by
    rw [hG1]
    rw [← HG2.out, HG.out] at hzz
    cases i with
    | true => exact h5 hzz.1
    | false => exact absurd hzz.1 hJ
  have hcl : ∀ wy : World, wy.heap[w.heap.size]? = w6.heap[w.heap.size]? → wy.heap[w4.heap.size]? = w6.heap[w4.heap.size]? → (fun wy => (wy.cell? ⟨w.heap.size, 0, none⟩ = some (.int .i64 n0) ∧ wy.cell? ⟨w.heap.size, 1, none⟩ = some (.int .i64 n1) ∧ wy.cell? ⟨w.heap.size, 2, none⟩ = some (.int .u32 n2) ∧ wy.cell? ⟨w.heap.size, 3, none⟩ = some (.int .i64 n3)) ∧ (wy.cell? ⟨w4.heap.size, 0, none⟩ = some (.int .i64 q0) ∧ wy.cell? ⟨w4.heap.size, 1, none⟩ = some (.int .i64 q1) ∧ wy.cell? ⟨w4.heap.size, 2, none⟩ = some (.int .i64 J) ∧ wy.cell? ⟨w4.heap.size, 3, none⟩ = some (.bool i))) wy := fun wy e1 e2 => by
    have x1 := e1.trans HA6.box
    have x2 := e2.trans hb6
    exact ⟨⟨by simp [World.cell?, x1], by simp [World.cell?, x1], by simp [World.cell?, x1], by simp [World.cell?, x1]⟩, ⟨by simp [World.cell?, x2], by simp [World.cell?, x2], by simp [World.cell?, x2], by simp [World.cell?, x2]⟩⟩
  have hoff : ∀ wx wy : World, KeptL S wx wy → w6.heap.size ≤ wx.heap.size → wx.heap[w.heap.size]? = w6.heap[w.heap.size]? → wx.heap[w4.heap.size]? = w6.heap[w4.heap.size]? → wy.heap[w.heap.size]? = w6.heap[w.heap.size]? ∧ wy.heap[w4.heap.size]? = w6.heap[w4.heap.size]? := fun wx wy k hs e1 e2 => by
    have l1 := HA6.lt
    have l2 := (Array.getElem?_eq_some_iff.1 hb6).1
    exact ⟨(k.block _ (by omega) (fun x => by have := hSlt _ x; omega)).trans e1, (k.block _ (by omega) (fun x => by have := hSlt _ x; omega)).trans e2⟩
  have hd2 : ∀ wa, Below w6.heap.size w6 wa → Hid (Calls Tryd.prog 20 #[V, .agg #[.int .i64 G.1, .int .i64 G.2.1, .int .i64 G.2.2.1, .bool G.2.2.2]] wa fun e w2 => ∃ v2, e = .returned v2 ∧ (fun wy => (wy.cell? ⟨w.heap.size, 0, none⟩ = some (.int .i64 n0) ∧ wy.cell? ⟨w.heap.size, 1, none⟩ = some (.int .i64 n1) ∧ wy.cell? ⟨w.heap.size, 2, none⟩ = some (.int .u32 n2) ∧ wy.cell? ⟨w.heap.size, 3, none⟩ = some (.int .i64 n3)) ∧ (wy.cell? ⟨w4.heap.size, 0, none⟩ = some (.int .i64 q0) ∧ wy.cell? ⟨w4.heap.size, 1, none⟩ = some (.int .i64 q1) ∧ wy.cell? ⟨w4.heap.size, 2, none⟩ = some (.int .i64 J) ∧ wy.cell? ⟨w4.heap.size, 3, none⟩ = some (.bool i))) w2 ∧
      Hid (Calls Tryd.prog 19 #[.pointer (some ⟨b, 0, none⟩), .agg #[.int .i64 n0, .int .i64 n1, .int .u32 n2, .int .i64 n3], v2] w2 fun e w4' => e = .returned (.tuple #[]) ∧ (fun wy => (wy.cell? ⟨w.heap.size, 0, none⟩ = some (.int .i64 n0) ∧ wy.cell? ⟨w.heap.size, 1, none⟩ = some (.int .i64 n1) ∧ wy.cell? ⟨w.heap.size, 2, none⟩ = some (.int .u32 n2) ∧ wy.cell? ⟨w.heap.size, 3, none⟩ = some (.int .i64 n3)) ∧ (wy.cell? ⟨w4.heap.size, 0, none⟩ = some (.int .i64 q0) ∧ wy.cell? ⟨w4.heap.size, 1, none⟩ = some (.int .i64 q1) ∧ wy.cell? ⟨w4.heap.size, 2, none⟩ = some (.int .i64 J) ∧ wy.cell? ⟨w4.heap.size, 3, none⟩ = some (.bool i))) w4' ∧ Hid (∃ S', IsTab S' w4' b (T.setQ (n0, n1, n2, n3) (withF (T.Q (n0, n1, n2, n3)) G)) ∧ MovesL S S' w w4'))) := fun wa ba => by
    have tb := HT.out wa (HA6.bel.trans (ba.mono HA6.bel.size))
    have hw := with_lay hn tb G HZ.out hz hL
    rw [hgv] at hw
    refine hw.mono ?_
    rintro e w2 ⟨v2, rfl, k2, hly⟩
    have e1 := ba.block _ HA6.lt
    have e2 := ba.block _ (Array.getElem?_eq_some_iff.1 hb6).1
    obtain ⟨f1, f2⟩ := hoff wa w2 k2 ba.size e1 e2
    refine ⟨v2, rfl, hcl w2 f1 f2, ?_⟩
    refine (hly.out w2 (Below.refl _ _)).mono ?_
    rintro e w4' ⟨rfl, S', ht, hmv⟩
    obtain ⟨f3, f4⟩ := hoff wa w4' hmv.1 ba.size e1 e2
    exact ⟨rfl, hcl w4' f3 f4, S', ht, (MovesL.of_below (HA6.bel.trans (ba.mono HA6.bel.size)) : MovesL S S w wa).trans hmv⟩
  have hd1 : Hid (Calls Tryd.prog 28 #[.agg #[.int .i64 q0, .int .i64 q1, .int .i64 J, .bool i]] w6.drew fun e wa => e = .returned (.agg #[.int .i64 G.1, .int .i64 G.2.1, .int .i64 G.2.2.1, .bool G.2.2.2]) ∧ (fun wy => (wy.cell? ⟨w.heap.size, 0, none⟩ = some (.int .i64 n0) ∧ wy.cell? ⟨w.heap.size, 1, none⟩ = some (.int .i64 n1) ∧ wy.cell? ⟨w.heap.size, 2, none⟩ = some (.int .u32 n2) ∧ wy.cell? ⟨w.heap.size, 3, none⟩ = some (.int .i64 n3)) ∧ (wy.cell? ⟨w4.heap.size, 0, none⟩ = some (.int .i64 q0) ∧ wy.cell? ⟨w4.heap.size, 1, none⟩ = some (.int .i64 q1) ∧ wy.cell? ⟨w4.heap.size, 2, none⟩ = some (.int .i64 J) ∧ wy.cell? ⟨w4.heap.size, 3, none⟩ = some (.bool i))) wa ∧ Hid (Calls Tryd.prog 20 #[V, .agg #[.int .i64 G.1, .int .i64 G.2.1, .int .i64 G.2.2.1, .bool G.2.2.2]] wa fun e w2 => ∃ v2, e = .returned v2 ∧ (fun wy => (wy.cell? ⟨w.heap.size, 0, none⟩ = some (.int .i64 n0) ∧ wy.cell? ⟨w.heap.size, 1, none⟩ = some (.int .i64 n1) ∧ wy.cell? ⟨w.heap.size, 2, none⟩ = some (.int .u32 n2) ∧ wy.cell? ⟨w.heap.size, 3, none⟩ = some (.int .i64 n3)) ∧ (wy.cell? ⟨w4.heap.size, 0, none⟩ = some (.int .i64 q0) ∧ wy.cell? ⟨w4.heap.size, 1, none⟩ = some (.int .i64 q1) ∧ wy.cell? ⟨w4.heap.size, 2, none⟩ = some (.int .i64 J) ∧ wy.cell? ⟨w4.heap.size, 3, none⟩ = some (.bool i))) w2 ∧
      Hid (Calls Tryd.prog 19 #[.pointer (some ⟨b, 0, none⟩), .agg #[.int .i64 n0, .int .i64 n1, .int .u32 n2, .int .i64 n3], v2] w2 fun e w4' => e = .returned (.tuple #[]) ∧ (fun wy => (wy.cell? ⟨w.heap.size, 0, none⟩ = some (.int .i64 n0) ∧ wy.cell? ⟨w.heap.size, 1, none⟩ = some (.int .i64 n1) ∧ wy.cell? ⟨w.heap.size, 2, none⟩ = some (.int .u32 n2) ∧ wy.cell? ⟨w.heap.size, 3, none⟩ = some (.int .i64 n3)) ∧ (wy.cell? ⟨w4.heap.size, 0, none⟩ = some (.int .i64 q0) ∧ wy.cell? ⟨w4.heap.size, 1, none⟩ = some (.int .i64 q1) ∧ wy.cell? ⟨w4.heap.size, 2, none⟩ = some (.int .i64 J) ∧ wy.cell? ⟨w4.heap.size, 3, none⟩ = some (.bool i))) w4' ∧ Hid (∃ S', IsTab S' w4' b (T.setQ (n0, n1, n2, n3) (withF (T.Q (n0, n1, n2, n3)) G)) ∧ MovesL S S' w w4')))) := by
    refine (granted_any (q0, q1, J, i) w6.drew).mono ?_
    rintro e wa ⟨rfl, ba⟩
    have ba' : Below w6.heap.size w6 wa := ((Below.refl _ _).drew).trans ba
    refine ⟨by rw [HG2.out]; rfl, hcl wa (ba'.block _ HA6.lt) (ba'.block _ (Array.getElem?_eq_some_iff.1 hb6).1), hd2 wa ba'⟩
  obtain ⟨⟨x0, x1, x2, x3⟩, ⟨y0, y1, y2, y3⟩⟩ := hcl w6 rfl rfl
  rw [hB0]
  clear hd2 hcl hoff HZ HG hG1 HT hSlt hb6 h4 h5 hJ
  obtain ⟨G0, G1, G2, G3⟩ := G
  simp only at hd1
  simp only [List.length_nil] at *
  have hl6 := HA6.lt
  go_wp2_with fail
  go_region_held3 (fun wy => (wy.cell? ⟨w.heap.size, 0, none⟩ = some (.int .i64 n0) ∧ wy.cell? ⟨w.heap.size, 1, none⟩ = some (.int .i64 n1) ∧ wy.cell? ⟨w.heap.size, 2, none⟩ = some (.int .u32 n2) ∧ wy.cell? ⟨w.heap.size, 3, none⟩ = some (.int .i64 n3)) ∧ (wy.cell? ⟨w4.heap.size, 0, none⟩ = some (.int .i64 q0) ∧ wy.cell? ⟨w4.heap.size, 1, none⟩ = some (.int .i64 q1) ∧ wy.cell? ⟨w4.heap.size, 2, none⟩ = some (.int .i64 J) ∧ wy.cell? ⟨w4.heap.size, 3, none⟩ = some (.bool i))) (first | go_keep | exact sa | exact sb | exact sc)
    (first
      | (go_at_call 28; refine hd1.out.mono ?_; rintro x wa ⟨rfl, sa, hd2⟩)
      | (go_at_call 20; refine hd2.out.mono ?_; rintro x wb ⟨v2, rfl, sb, hd3⟩)
      | (go_at_call 19; refine hd3.out.mono ?_; rintro x wc ⟨rfl, sc, HF⟩))
  go_wp2
  refine bodyPost_ret (v := .tuple #[.bool true, .int .i64 0]) (by simp [results, Tryd.results10, go_sem]) rfl ?_
  rw [HJJ.out, HG2.out]
  exact ⟨rfl, HF.out⟩

end Go.Proofs.YthagomibjlcfmaaDoor
