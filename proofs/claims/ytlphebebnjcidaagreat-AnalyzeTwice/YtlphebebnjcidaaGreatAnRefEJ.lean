/-
  The walk of girderref19.record.
-/
import Derived.Test.YtlphebebnjcidaaGreatAnRefBC
import Derived.Deep.CutRange
set_option linter.unusedVariables false
set_option linter.unusedSimpArgs false
namespace Go.Proofs.YtlphebebnjcidaaGreat
open Go.RowKit Go.Sort Go.Shelf Go.Lib

def knownL (L : List TxV) (n : Int) : TxV := match idxL keyT n L with
  | some i => L.getD i (n, 1, 0, 0)
  | none => (n, 1, 0, 0)

def recordL (L : List TxV) (r : RefV) : List TxV := if r.kind = 6 then L.filter (fun x => decide (keyT x ≠ r.tx)) else putEnd (behindF (knownL L r.tx) r.at' r.kind r.next) (putTo keyT (behindF (knownL L r.tx) r.at' r.kind r.next) L L.length)

theorem idxL_lt {α : Type} {key : α → Int} {n : Int} : ∀ (l : List α) (i : Nat), idxL key n l = some i → i < l.length
  | [], i, h => by cases h
  | x :: l, i, h => by
    unfold idxL at h
    split at h
    · cases h; simp
    · cases e : idxL key n l with
      | none => rw [e] at h; cases h
      | some j =>
        rw [e] at h
        simp only [Option.map_some, Option.some.injEq] at h
        have := idxL_lt l j e
        simp
        omega

structure RsAt (w wr : World) (r : RefV) (tv dv : Value) (t : TxV) : Prop where
  bel : Below w.heap.size w wr
  box : Blk wr w.heap.size (c7 (r, tv, dv)).toArray 74
  tx : Blk wr (w.heap.size + 1) (atcells t).toArray 46

theorem RsAt.set {w wr : World} {r : RefV} {tv dv : Value} {t t' : TxV} (h : RsAt w wr r tv dv t) (i : Nat) (v : Value) (e : (atcells t').toArray = (atcells t).toArray.setIfInBounds i v) : RsAt w (wr.setCell ⟨w.heap.size + 1, i, none⟩ v) r tv dv t' :=
  have k := Kept.setCell (fun j => j = w.heap.size + 1) wr (w.heap.size + 1) i v rfl
  ⟨h.bel.setCell (p := ⟨w.heap.size + 1, i, none⟩) (by show w.heap.size ≤ w.heap.size + 1; omega) v, h.box.same (k.block _ h.box.lt (by omega)), by rw [e]; exact h.tx.set i v⟩

end Go.Proofs.YtlphebebnjcidaaGreat

namespace Go.Proofs.YtlphebebnjcidaaGreat
open Go.RowKit Go.Sort Go.Shelf Go.Lib

theorem bd_of {x : TxV} {at' nx : Nat} {k : Int} : behindF x at' k nx = (x.1, if k = 4 then 2 else if k = 5 then 3 else x.2.1, at', if k = 1 then at' else if k = 2 ∨ k = 3 then nx else x.2.2.2) := rfl

set_option maxHeartbeats 6400000 in
set_option maxRecDepth 20000 in
theorem rrecord_any (L : List TxV) (a : Option Addr) (c : Nat) (r : RefV) (a1 a2 : Option Addr) (n1 c1 n2 c2 : Nat) (w : World) (h : TxsAt w a L) (hl : L.length ≤ 1000000) :
    Calls Tryz.prog 21 #[.slice a L.length c, .agg #[.int .u64 r.at', .int .i64 r.kind, .int .i64 r.tx, .int .u64 r.next, .int .u32 r.page, .slice a1 n1 c1, .slice a2 n2 c2]] w fun e w' => ∃ v, e = .returned v ∧ rsAt w.heap.size w' v (recordL L r) ∧ Below w.heap.size w w' := by
  have HL := hida h
  have hll := hl
  clear h hl
  have HWI : Hid (∀ wx, Below w.heap.size w wx → Calls Tryz.prog 72 #[.slice a L.length c, .int .i64 r.tx] wx fun e w' => ∃ v, e = .returned v ∧ rsAt wx.heap.size w' v (L.filter fun x => decide (keyT x ≠ r.tx)) ∧ Below wx.heap.size wx w') := fun wx k => rwithout_any L a c r.tx wx (HL.out.below k) hll
  have HST : Hid (∀ wx, Below w.heap.size w wx → Calls Tryz.prog 23 #[.slice a L.length c, .int .i64 r.tx] wx fun e w' => e = .returned (.int .i64 (idxI (idxL keyT r.tx L))) ∧ w' = wx) := fun wx k => rstate_any L a c r.tx wx (HL.out.below k) hll
  have HPT : Hid (∀ (t : TxV) wx, Below w.heap.size w wx → Calls Tryz.prog 24 #[.slice a L.length c, .agg #[.int .i64 t.1, .int .i64 t.2.1, .int .u64 t.2.2.1, .int .u64 t.2.2.2]] wx fun e w' => ∃ v, e = .returned v ∧ rsAt wx.heap.size w' v (putEnd t (putTo keyT t L L.length)) ∧ Below wx.heap.size wx w') := fun t wx k => rput_any L a c t wx (HL.out.below k) hll
  obtain ⟨rat, rk, rtx, rnx, rpg, rT, rD⟩ := r
  dsimp only at HWI HST ⊢
  obtain ⟨W0, HW0⟩ : ∃ W0, Hid (W0 = w.alloc (.cells #[.int .u64 rat, .int .i64 rk, .int .i64 rtx, .int .u64 rnx, .int .u32 rpg, .slice a1 n1 c1, .slice a2 n2 c2] 74)) := ⟨_, rfl⟩
  have B0 : Hid (Below w.heap.size w W0 ∧ W0.heap.size = w.heap.size + 1 ∧ Blk W0 w.heap.size (c7 (⟨rat, rk, rtx, rnx, rpg, rT, rD⟩, .slice a1 n1 c1, .slice a2 n2 c2)).toArray 74) := by
    rw [HW0.out]; exact ⟨(Below.refl _ _).alloc (Nat.le_refl _) _, by simp, Blk.made _ _ _⟩
  go_enter Tryz.func21, Tryz.ntmps21
  go_upto_region 1 with fail
  rw [← HW0.out]
  clear HW0
  have z0 : W0.cell? ⟨w.heap.size, 0, none⟩ = some (.int .u64 rat) := B0.out.2.2.cell 0
  have z1 : W0.cell? ⟨w.heap.size, 1, none⟩ = some (.int .i64 rk) := B0.out.2.2.cell 1
  have z2 : W0.cell? ⟨w.heap.size, 2, none⟩ = some (.int .i64 rtx) := B0.out.2.2.cell 2
  by_cases h6 : rk = 6
  · have e6 : (rk == 6) = true := by simp [h6]
    have HC := hida (HWI.out W0 B0.out.1)
    have HR : Hid (recordL L ⟨rat, rk, rtx, rnx, rpg, rT, rD⟩ = L.filter fun x => decide (keyT x ≠ rtx)) := by
      show _ = _
      unfold recordL
      rw [if_pos (show rk = 6 from h6)]
    clear HWI HST HPT h6
    go_wp2_with fail
    refine HC.out.mono ?_
    rintro e w' ⟨v, rfl, ho, hb⟩
    have HF := hida (show rsAt w.heap.size w' v (recordL L ⟨rat, rk, rtx, rnx, rpg, rT, rD⟩) ∧ Below w.heap.size w w' from ⟨by rw [HR.out]; exact owns_base7 ho (by have := B0.out.2.1; omega), below_chain B0.out.1 hb⟩)
    clear ho hb HC HR B0
    go_wp2_with fail
    go_ret
    exact ⟨_, rfl, HF.out.1, HF.out.2⟩
  · have e6 : (rk == 6) = false := beq_eq_false_iff_ne.2 h6
    have HR : Hid (recordL L ⟨rat, rk, rtx, rnx, rpg, rT, rD⟩ = putEnd (behindF (knownL L rtx) rat rk rnx) (putTo keyT (behindF (knownL L rtx) rat rk rnx) L L.length)) := by
      show _ = _
      unfold recordL
      rw [if_neg (show ¬ rk = 6 from h6)]
    obtain ⟨W1, HW1⟩ : ∃ W1, Hid (W1 = W0.alloc (.cells #[.int .i64 rtx, .int .i64 1, .int .u64 0, .int .u64 0] 46)) := ⟨_, rfl⟩
    have B1 : Hid (RsAt w W1 ⟨rat, rk, rtx, rnx, rpg, rT, rD⟩ (.slice a1 n1 c1) (.slice a2 n2 c2) (rtx, 1, 0, 0)) := by
      have b1 : Below W0.heap.size W0 W1 := by rw [HW1.out]; exact (Below.refl _ _).alloc (Nat.le_refl _) _
      have k1 : Blk W1 W0.heap.size (atcells (rtx, 1, 0, 0)).toArray 46 := by rw [HW1.out]; exact Blk.made _ _ _
      rw [B0.out.2.1] at k1
      exact ⟨below_chain B0.out.1 b1, B0.out.2.2.same (b1.block _ B0.out.2.2.lt), k1⟩
    have hs0 := B0.out.2.1
    go_upto_region 4 with fail
    rw [← HW1.out]
    try rw [hs0]
    clear HW1 z0 z1 z2 B0 hs0 HWI e6
    have z2 : W1.cell? ⟨w.heap.size, 2, none⟩ = some (.int .i64 rtx) := B1.out.box.cell 2
    have HC := hida (HST.out W1 B1.out.bel)
    clear HST
    go_wp2_with fail
    refine HC.out.mono ?_
    rintro e wx ⟨rfl, hwx⟩
    subst hwx
    clear HC
    have HKN : Hid (∀ t, knownL L rtx = t → t = knownL L rtx) := fun t h => h.symm
    go_upto_if 22 with fail
    go_cut [6] from 20 to 26 (fun _ wx => Hid (RsAt w wx ⟨rat, rk, rtx, rnx, rpg, rT, rD⟩ (.slice a1 n1 c1) (.slice a2 n2 c2) (knownL L rtx)))
    case first =>
      cases hi : idxL keyT rtx L with
      | none =>
        have hk : knownL L rtx = (rtx, 1, 0, 0) := by unfold knownL; rw [hi]
        have e0 : decide ((0 : Int) ≤ idxI none) = false := rfl
        have e1 : idxI none = -1 := rfl
        rw [e1]
        go_wp2_with fail
        go_meet
        case rel => rw [hk]; exact B1
      | some i =>
        have hlt := idxL_lt L i hi
        have hk : knownL L rtx = L[i] := by unfold knownL; rw [hi]; simp [List.getD_eq_getElem?_getD, hlt]
        have e1 : idxI (some i) = (i : Int) := rfl
        rw [e1]
        have e2 : (0 : Int) ≤ (i : Int) := by omega
        have e3 : (i : Int) < (L.length : Int) := by omega
        have e4 : decide ((0 : Int) ≤ (i : Int)) = true := decide_eq_true e2
        obtain ⟨tb, t9, rfl, g1⟩ : ∃ b1 o1, a = some ⟨b1, o1, none⟩ ∧ TxAt wx b1 (o1 + i * 4) L[i] := by
          rcases HL.out.below B1.out.bel with h | ⟨b1, o1, e, hb, h⟩
          · rw [h] at hlt; simp at hlt
          · exact ⟨b1, o1, e, h i hlt⟩
        obtain ⟨x, hx⟩ : ∃ x, L[i] = x := ⟨_, rfl⟩
        rw [hx] at g1 hk
        clear hx
        obtain ⟨x1, x2, x3, x4⟩ := x
        obtain ⟨g0, g1, g2, g3⟩ := g1
        simp only at g0 g1 g2 g3
        have f0 := B1.out.tx.frozen 0
        have f1 := B1.out.tx.frozen 1
        have f2 := B1.out.tx.frozen 2
        have f3 := B1.out.tx.frozen 3
        have y0 : wx.cell? ⟨w.heap.size + 1, 0, none⟩ = some (.int .i64 rtx) := B1.out.tx.cell 0
        have y1 : wx.cell? ⟨w.heap.size + 1, 1, none⟩ = some (.int .i64 1) := B1.out.tx.cell 1
        have y2 : wx.cell? ⟨w.heap.size + 1, 2, none⟩ = some (.int .u64 0) := B1.out.tx.cell 2
        have y3 : wx.cell? ⟨w.heap.size + 1, 3, none⟩ = some (.int .u64 0) := B1.out.tx.cell 3
        have B2 := hida ((((B1.out.set (t' := (x1, 1, 0, 0)) 0 (.int .i64 x1) rfl).set (t' := (x1, x2, 0, 0)) 1 (.int .i64 x2) rfl).set (t' := (x1, x2, x3, 0)) 2 (.int .u64 x3) rfl).set (t' := (x1, x2, x3, x4)) 3 (.int .u64 x4) rfl)
        clear B1 hi
        go_wp2_with fail
        go_meet
        case rel => rw [hk]; exact B2
    obtain ⟨t, ht⟩ : ∃ t, knownL L rtx = t := ⟨_, rfl⟩
    have B2 := hcut
    rw [ht] at B2 HR
    clear ht B1 HKN hcut
    obtain ⟨k1, k2, k3, k4⟩ := t
    have z0 : wc.cell? ⟨w.heap.size, 0, none⟩ = some (.int .u64 (rat : Nat)) := B2.out.box.cell 0
    have z1 : wc.cell? ⟨w.heap.size, 1, none⟩ = some (.int .i64 rk) := B2.out.box.cell 1
    have z3 : wc.cell? ⟨w.heap.size, 3, none⟩ = some (.int .u64 (rnx : Nat)) := B2.out.box.cell 3
    have f0 := B2.out.tx.frozen 0
    have f1 := B2.out.tx.frozen 1
    have f2 := B2.out.tx.frozen 2
    have f3 := B2.out.tx.frozen 3
    have y0 : wc.cell? ⟨w.heap.size + 1, 0, none⟩ = some (.int .i64 k1) := B2.out.tx.cell 0
    have y1 : wc.cell? ⟨w.heap.size + 1, 1, none⟩ = some (.int .i64 k2) := B2.out.tx.cell 1
    have y2 : wc.cell? ⟨w.heap.size + 1, 2, none⟩ = some (.int .u64 (k3 : Nat)) := B2.out.tx.cell 2
    have y3 : wc.cell? ⟨w.heap.size + 1, 3, none⟩ = some (.int .u64 (k4 : Nat)) := B2.out.tx.cell 3
    by_cases r1 : rk = 1
    · obtain rfl := r1
      obtain ⟨Z, HZ⟩ : ∃ Z, Hid (((wc.setCell ⟨w.heap.size + 1, 2, none⟩ (.int .u64 (rat : Nat))).setCell ⟨w.heap.size + 1, 3, none⟩ (.int .u64 (rat : Nat))) = Z) := ⟨_, rfl⟩
      have B4 := hida ((B2.out.set (t' := (k1, k2, rat, k4)) 2 (.int .u64 (rat : Nat)) rfl).set (t' := (k1, k2, rat, rat)) 3 (.int .u64 (rat : Nat)) rfl)
      rw [HZ.out] at B4
      have HC := hida (HPT.out (k1, k2, rat, rat) Z B4.out.bel)
      clear B2
      go_upto_region 18 with fail
      rw [HZ.out]
      clear HZ z0 z1 z3 y0 y1 y2 y3 f0 f1 f2 f3
      have y0 : Z.cell? ⟨w.heap.size + 1, 0, none⟩ = some (.int .i64 ((k1, k2, rat, rat) : TxV).1) := B4.out.tx.cell 0
      have y1 : Z.cell? ⟨w.heap.size + 1, 1, none⟩ = some (.int .i64 ((k1, k2, rat, rat) : TxV).2.1) := B4.out.tx.cell 1
      have y2 : Z.cell? ⟨w.heap.size + 1, 2, none⟩ = some (.int .u64 (((k1, k2, rat, rat) : TxV).2.2.1 : Nat)) := B4.out.tx.cell 2
      have y3 : Z.cell? ⟨w.heap.size + 1, 3, none⟩ = some (.int .u64 (((k1, k2, rat, rat) : TxV).2.2.2 : Nat)) := B4.out.tx.cell 3
      dsimp only at y0 y1 y2 y3 HC
      go_wp2_with fail
      refine HC.out.mono ?_
      rintro e w' ⟨v, rfl, ho, hb⟩
      have HF := hida (show rsAt w.heap.size w' v (recordL L ⟨rat, 1, rtx, rnx, rpg, rT, rD⟩) ∧ Below w.heap.size w w' from ⟨by rw [HR.out];  exact owns_base7 ho (B4.out.bel.size), below_chain B4.out.bel hb⟩)
      clear ho hb HC HR B4
      go_wp2_with fail
      go_ret
      exact ⟨_, rfl, HF.out.1, HF.out.2⟩
    by_cases r2 : rk = 2
    · obtain rfl := r2
      obtain ⟨Z, HZ⟩ : ∃ Z, Hid (((wc.setCell ⟨w.heap.size + 1, 2, none⟩ (.int .u64 (rat : Nat))).setCell ⟨w.heap.size + 1, 3, none⟩ (.int .u64 (rnx : Nat))) = Z) := ⟨_, rfl⟩
      have B4 := hida ((B2.out.set (t' := (k1, k2, rat, k4)) 2 (.int .u64 (rat : Nat)) rfl).set (t' := (k1, k2, rat, rnx)) 3 (.int .u64 (rnx : Nat)) rfl)
      rw [HZ.out] at B4
      have HC := hida (HPT.out (k1, k2, rat, rnx) Z B4.out.bel)
      clear B2
      go_upto_region 18 with fail
      rw [HZ.out]
      clear HZ z0 z1 z3 y0 y1 y2 y3 f0 f1 f2 f3
      have y0 : Z.cell? ⟨w.heap.size + 1, 0, none⟩ = some (.int .i64 ((k1, k2, rat, rnx) : TxV).1) := B4.out.tx.cell 0
      have y1 : Z.cell? ⟨w.heap.size + 1, 1, none⟩ = some (.int .i64 ((k1, k2, rat, rnx) : TxV).2.1) := B4.out.tx.cell 1
      have y2 : Z.cell? ⟨w.heap.size + 1, 2, none⟩ = some (.int .u64 (((k1, k2, rat, rnx) : TxV).2.2.1 : Nat)) := B4.out.tx.cell 2
      have y3 : Z.cell? ⟨w.heap.size + 1, 3, none⟩ = some (.int .u64 (((k1, k2, rat, rnx) : TxV).2.2.2 : Nat)) := B4.out.tx.cell 3
      dsimp only at y0 y1 y2 y3 HC
      go_wp2_with fail
      refine HC.out.mono ?_
      rintro e w' ⟨v, rfl, ho, hb⟩
      have HF := hida (show rsAt w.heap.size w' v (recordL L ⟨rat, 2, rtx, rnx, rpg, rT, rD⟩) ∧ Below w.heap.size w w' from ⟨by rw [HR.out];  exact owns_base7 ho (B4.out.bel.size), below_chain B4.out.bel hb⟩)
      clear ho hb HC HR B4
      go_wp2_with fail
      go_ret
      exact ⟨_, rfl, HF.out.1, HF.out.2⟩
    by_cases r3 : rk = 3
    · obtain rfl := r3
      obtain ⟨Z, HZ⟩ : ∃ Z, Hid (((wc.setCell ⟨w.heap.size + 1, 2, none⟩ (.int .u64 (rat : Nat))).setCell ⟨w.heap.size + 1, 3, none⟩ (.int .u64 (rnx : Nat))) = Z) := ⟨_, rfl⟩
      have B4 := hida ((B2.out.set (t' := (k1, k2, rat, k4)) 2 (.int .u64 (rat : Nat)) rfl).set (t' := (k1, k2, rat, rnx)) 3 (.int .u64 (rnx : Nat)) rfl)
      rw [HZ.out] at B4
      have HC := hida (HPT.out (k1, k2, rat, rnx) Z B4.out.bel)
      clear B2
      go_upto_region 18 with fail
      rw [HZ.out]
      clear HZ z0 z1 z3 y0 y1 y2 y3 f0 f1 f2 f3
      have y0 : Z.cell? ⟨w.heap.size + 1, 0, none⟩ = some (.int .i64 ((k1, k2, rat, rnx) : TxV).1) := B4.out.tx.cell 0
      have y1 : Z.cell? ⟨w.heap.size + 1, 1, none⟩ = some (.int .i64 ((k1, k2, rat, rnx) : TxV).2.1) := B4.out.tx.cell 1
      have y2 : Z.cell? ⟨w.heap.size + 1, 2, none⟩ = some (.int .u64 (((k1, k2, rat, rnx) : TxV).2.2.1 : Nat)) := B4.out.tx.cell 2
      have y3 : Z.cell? ⟨w.heap.size + 1, 3, none⟩ = some (.int .u64 (((k1, k2, rat, rnx) : TxV).2.2.2 : Nat)) := B4.out.tx.cell 3
      dsimp only at y0 y1 y2 y3 HC
      go_wp2_with fail
      refine HC.out.mono ?_
      rintro e w' ⟨v, rfl, ho, hb⟩
      have HF := hida (show rsAt w.heap.size w' v (recordL L ⟨rat, 3, rtx, rnx, rpg, rT, rD⟩) ∧ Below w.heap.size w w' from ⟨by rw [HR.out];  exact owns_base7 ho (B4.out.bel.size), below_chain B4.out.bel hb⟩)
      clear ho hb HC HR B4
      go_wp2_with fail
      go_ret
      exact ⟨_, rfl, HF.out.1, HF.out.2⟩
    by_cases r4 : rk = 4
    · obtain rfl := r4
      obtain ⟨Z, HZ⟩ : ∃ Z, Hid (((wc.setCell ⟨w.heap.size + 1, 2, none⟩ (.int .u64 (rat : Nat))).setCell ⟨w.heap.size + 1, 1, none⟩ (.int .i64 2)) = Z) := ⟨_, rfl⟩
      have B4 := hida ((B2.out.set (t' := (k1, k2, rat, k4)) 2 (.int .u64 (rat : Nat)) rfl).set (t' := (k1, 2, rat, k4)) 1 (.int .i64 2) rfl)
      rw [HZ.out] at B4
      have HC := hida (HPT.out (k1, 2, rat, k4) Z B4.out.bel)
      clear B2
      go_upto_region 18 with fail
      rw [HZ.out]
      clear HZ z0 z1 z3 y0 y1 y2 y3 f0 f1 f2 f3
      have y0 : Z.cell? ⟨w.heap.size + 1, 0, none⟩ = some (.int .i64 ((k1, 2, rat, k4) : TxV).1) := B4.out.tx.cell 0
      have y1 : Z.cell? ⟨w.heap.size + 1, 1, none⟩ = some (.int .i64 ((k1, 2, rat, k4) : TxV).2.1) := B4.out.tx.cell 1
      have y2 : Z.cell? ⟨w.heap.size + 1, 2, none⟩ = some (.int .u64 (((k1, 2, rat, k4) : TxV).2.2.1 : Nat)) := B4.out.tx.cell 2
      have y3 : Z.cell? ⟨w.heap.size + 1, 3, none⟩ = some (.int .u64 (((k1, 2, rat, k4) : TxV).2.2.2 : Nat)) := B4.out.tx.cell 3
      dsimp only at y0 y1 y2 y3 HC
      go_wp2_with fail
      refine HC.out.mono ?_
      rintro e w' ⟨v, rfl, ho, hb⟩
      have HF := hida (show rsAt w.heap.size w' v (recordL L ⟨rat, 4, rtx, rnx, rpg, rT, rD⟩) ∧ Below w.heap.size w w' from ⟨by rw [HR.out];  exact owns_base7 ho (B4.out.bel.size), below_chain B4.out.bel hb⟩)
      clear ho hb HC HR B4
      go_wp2_with fail
      go_ret
      exact ⟨_, rfl, HF.out.1, HF.out.2⟩
    by_cases r5 : rk = 5
    · obtain rfl := r5
      obtain ⟨Z, HZ⟩ : ∃ Z, Hid (((wc.setCell ⟨w.heap.size + 1, 2, none⟩ (.int .u64 (rat : Nat))).setCell ⟨w.heap.size + 1, 1, none⟩ (.int .i64 3)) = Z) := ⟨_, rfl⟩
      have B4 := hida ((B2.out.set (t' := (k1, k2, rat, k4)) 2 (.int .u64 (rat : Nat)) rfl).set (t' := (k1, 3, rat, k4)) 1 (.int .i64 3) rfl)
      rw [HZ.out] at B4
      have HC := hida (HPT.out (k1, 3, rat, k4) Z B4.out.bel)
      clear B2
      go_upto_region 18 with fail
      rw [HZ.out]
      clear HZ z0 z1 z3 y0 y1 y2 y3 f0 f1 f2 f3
      have y0 : Z.cell? ⟨w.heap.size + 1, 0, none⟩ = some (.int .i64 ((k1, 3, rat, k4) : TxV).1) := B4.out.tx.cell 0
      have y1 : Z.cell? ⟨w.heap.size + 1, 1, none⟩ = some (.int .i64 ((k1, 3, rat, k4) : TxV).2.1) := B4.out.tx.cell 1
      have y2 : Z.cell? ⟨w.heap.size + 1, 2, none⟩ = some (.int .u64 (((k1, 3, rat, k4) : TxV).2.2.1 : Nat)) := B4.out.tx.cell 2
      have y3 : Z.cell? ⟨w.heap.size + 1, 3, none⟩ = some (.int .u64 (((k1, 3, rat, k4) : TxV).2.2.2 : Nat)) := B4.out.tx.cell 3
      dsimp only at y0 y1 y2 y3 HC
      go_wp2_with fail
      refine HC.out.mono ?_
      rintro e w' ⟨v, rfl, ho, hb⟩
      have HF := hida (show rsAt w.heap.size w' v (recordL L ⟨rat, 5, rtx, rnx, rpg, rT, rD⟩) ∧ Below w.heap.size w w' from ⟨by rw [HR.out];  exact owns_base7 ho (B4.out.bel.size), below_chain B4.out.bel hb⟩)
      clear ho hb HC HR B4
      go_wp2_with fail
      go_ret
      exact ⟨_, rfl, HF.out.1, HF.out.2⟩
    have q1 : (rk == 1) = false := beq_eq_false_iff_ne.2 r1
    have q2 : (rk == 2) = false := beq_eq_false_iff_ne.2 r2
    have q3 : (rk == 3) = false := beq_eq_false_iff_ne.2 r3
    have q4 : (rk == 4) = false := beq_eq_false_iff_ne.2 r4
    have q5 : (rk == 5) = false := beq_eq_false_iff_ne.2 r5
    have hbd : behindF (k1, k2, k3, k4) rat rk rnx = (k1, k2, rat, k4) := by
      rw [bd_of, if_neg r4, if_neg r5, if_neg r1, if_neg (fun h => by rcases h with h | h; exact r2 h; exact r3 h)]
    rw [hbd] at HR
    obtain ⟨Z, HZ⟩ : ∃ Z, Hid ((wc.setCell ⟨w.heap.size + 1, 2, none⟩ (.int .u64 (rat : Nat))) = Z) := ⟨_, rfl⟩
    have B4 := hida (B2.out.set (t' := (k1, k2, rat, k4)) 2 (.int .u64 (rat : Nat)) rfl)
    rw [HZ.out] at B4
    have HC := hida (HPT.out (k1, k2, rat, k4) Z B4.out.bel)
    clear B2
    go_upto_region 18 with fail
    rw [HZ.out]
    clear HZ z0 z1 z3 y0 y1 y2 y3 f0 f1 f2 f3
    have y0 : Z.cell? ⟨w.heap.size + 1, 0, none⟩ = some (.int .i64 ((k1, k2, rat, k4) : TxV).1) := B4.out.tx.cell 0
    have y1 : Z.cell? ⟨w.heap.size + 1, 1, none⟩ = some (.int .i64 ((k1, k2, rat, k4) : TxV).2.1) := B4.out.tx.cell 1
    have y2 : Z.cell? ⟨w.heap.size + 1, 2, none⟩ = some (.int .u64 (((k1, k2, rat, k4) : TxV).2.2.1 : Nat)) := B4.out.tx.cell 2
    have y3 : Z.cell? ⟨w.heap.size + 1, 3, none⟩ = some (.int .u64 (((k1, k2, rat, k4) : TxV).2.2.2 : Nat)) := B4.out.tx.cell 3
    dsimp only at y0 y1 y2 y3 HC
    go_wp2_with fail
    refine HC.out.mono ?_
    rintro e w' ⟨v, rfl, ho, hb⟩
    have HF := hida (show rsAt w.heap.size w' v (recordL L ⟨rat, rk, rtx, rnx, rpg, rT, rD⟩) ∧ Below w.heap.size w w' from ⟨by rw [HR.out];  exact owns_base7 ho (B4.out.bel.size), below_chain B4.out.bel hb⟩)
    clear ho hb HC HR B4
    go_wp2_with fail
    go_ret
    exact ⟨_, rfl, HF.out.1, HF.out.2⟩

end Go.Proofs.YtlphebebnjcidaaGreat
