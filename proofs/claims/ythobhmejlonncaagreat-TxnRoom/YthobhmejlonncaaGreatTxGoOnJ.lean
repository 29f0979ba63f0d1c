/-
  The walks of a transaction's goOn and owe.
  The walk of a transaction's owe.
-/
import Derived.Test.YthobhmejlonncaaGreatTxMarkJ
import Derived.Maps.AppendAt
import Derived.Deep.AppendLies
import Derived.BigRegion
import Derived.Deep.RegionLaw
namespace Go.Proofs.YthobhmejlonncaaGreat
open Go.RowKit Go.Sort
set_option linter.unusedVariables false
set_option linter.unusedSimpArgs false

/-- The debts are stored. -/
theorem MtAt.putD {S S' : Nat → Prop} {w : World} {b : Nat} {t : MtV} (h : MtAt S w b t) {dv : Value} {L : List DbV} (hd : DebtsAt w dv L) (hs : ∀ g, dv.ownBlock = some g → S' g ∧ g ≠ b) (hb : S' b) (hlt : ∀ k, S' k → k < w.heap.size) : MtAt S' (w.setCell ⟨b, 6, none⟩ dv) b { t with debts := L } := by
  obtain ⟨⟨dv0, h1, h2, h3⟩, h4, h5⟩ := h
  have hk := Kept.setCell S w b 6 dv h4
  refine ⟨⟨dv, h1.set 6 dv, ?_, hs⟩, hb, fun k x => Nat.lt_of_lt_of_le (hlt k x) hk.size⟩
  refine ownsRow_same hd fun g hg => ?_
  have hne := (hs g hg).2
  simp [World.setCell, Array.getElem?_modify, Ne.symm hne]

theorem debts_take : ∀ (L : List DbV) (k : Nat), k ≤ L.length → (L.take k).flatMap DbV.enc = (L.flatMap DbV.enc).take (k * 2)
  | _, 0, _ => by simp
  | [], k + 1, h => by simp at h
  | x :: L, k + 1, h => by
    rw [List.take_succ_cons, List.flatMap_cons, List.flatMap_cons, debts_take L k (by simpa using h), show (k + 1) * 2 = (DbV.enc x).length + k * 2 by simp [DbV.enc]; omega, List.take_length_add_append]

/-- The first of them. -/
theorem DebtsAt.take {w : World} {g len c : Nat} {L : List DbV} (h : DebtsAt w (.slice (some ⟨g, 0, none⟩) len c) L) (k : Nat) (hk : k ≤ L.length) : DebtsAt w (.slice (some ⟨g, 0, none⟩) k c) (L.take k) := by
  rcases h.2 with ⟨e, q⟩ | ⟨g', cap, cur, e, h1, h2, h3, h4, h5, h6⟩
  · cases e
  · simp only [Value.slice.injEq, Option.some.injEq, Addr.mk.injEq, and_true, true_and] at e
    obtain ⟨rfl, rfl, rfl⟩ := e
    have hl : (L.take k).length = k := by rw [List.length_take]; omega
    have hf := debts_take L k hk
    unfold DebtsAt
    rw [hl, hf]
    refine ⟨by rw [List.length_take, debts_len]; omega, .inr ⟨g, c, cur, rfl, h1, h2, by omega, h4, h5, ?_⟩⟩
    rw [← h6, List.take_take]
    congr 1
    omega

set_option maxHeartbeats 1600000 in
set_option maxRecDepth 20000 in
theorem goOn_any {S : Nat → Prop} {w : World} {b : Nat} {t : MtV} (h : MtAt S w b t) (hr : RisesD t.debts) (hn : t.debts.length ≤ 10000000) (x : Nat) :
    Calls Tryz.prog 54 #[.pointer (some ⟨b, 0, none⟩), .int .u64 x] w fun r w' => r = .returned (.tuple #[]) ∧ MtAt S w' b { t with next := x, debts := t.debts.take (standN t.debts x) } ∧ Moves S S w w' := by
  have c3 := h.cells.c3
  have f3 := h.cells.fr 3
  obtain ⟨h1, m1⟩ := h.put (t' := { t with next := x }) 3 (.int .u64 x) rfl (fun dv => rfl)
  obtain ⟨W, HW⟩ : ∃ W, Hid (W = w.setCell ⟨b, 3, none⟩ (.int .u64 x)) := ⟨_, rfl⟩
  rw [← HW.out] at h1 m1
  have H1 := hidx h1
  have hD : MtAt S W.drew b { t with next := x } := h1.same (fun _ _ => rfl) (Nat.le_refl _)
  have HST := hidx (standing_any hD hr hn x)
  obtain ⟨k, HK⟩ : ∃ k, Hid (standN t.debts x = k) := ⟨_, rfl⟩
  rw [show standN ({ t with next := x } : MtV).debts x = k from HK.out] at HST
  rw [HK.out]
  have hkl : k ≤ t.debts.length := by rw [← HK.out]; exact stand_le _ _
  have f6 := h1.cells.fr 6
  obtain ⟨⟨dv, e1, e2, e3⟩, e4, e5⟩ := h1
  have c6 : W.cell? ⟨b, 6, none⟩ = some dv := e1.cell 6
  have HM := hidx m1
  rcases e2.2 with ⟨e, q⟩ | ⟨g, cap, cur, e, q1, q2, q3, q4, q5, q6⟩
  · have hL : t.debts = [] := by
      cases hh : t.debts with
      | nil => rfl
      | cons y L => rw [hh] at q; simp at q
    subst e
    have hk0 : k = 0 := by rw [hL] at hkl; simpa using hkl
    subst hk0
    rw [show t.debts.take 0 = [] from rfl]
    have c6 : W.cell? ⟨b, 6, none⟩ = some (.slice none 0 0) := c6
    have HF : Hid (∀ wx, Below W.heap.size W wx → MtAt S (wx.setCell ⟨b, 6, none⟩ (.slice none 0 0)) b { t with next := x, debts := [] } ∧ Moves S S w (wx.setCell ⟨b, 6, none⟩ (.slice none 0 0))) := fun wx bx => by
      have hx := H1.out.same (fun i hi => bx.block i (H1.out.lt i hi)) bx.size
      exact ⟨hx.putD (World.ownsRow_nil _ _ _ _ : DebtsAt wx (.slice none 0 0) []) (fun g' hg' => by cases hg') e4 (fun i hi => Nat.lt_of_lt_of_le (e5 i hi) bx.size), (HM.out.trans (Moves.of_kept (Kept.of_below bx))).kept (Kept.setCell _ _ _ _ _ e4)⟩
    have hbl : b < W.heap.size := e5 b e4
    have HST' : Hid (∀ wx, Below W.heap.size W wx → Calls Tryz.prog 95 #[.pointer (some ⟨b, 0, none⟩), .int .u64 x] wx fun r w' => r = .returned (.int .i64 0) ∧ Below wx.heap.size wx w') := fun wx bx => by
      have hx := H1.out.same (fun i hi => bx.block i (H1.out.lt i hi)) bx.size
      have := standing_any hx hr hn x
      rw [show standN ({ t with next := x } : MtV).debts x = 0 from HK.out] at this
      exact this
    have HFR : Hid (∀ wx, Below W.heap.size W wx → wx.frozen? ⟨b, 6, none⟩ = false ∧ wx.cell? ⟨b, 6, none⟩ = some (.slice none 0 0)) := fun wx bx => ⟨(H1.out.same (fun i hi => bx.block i (H1.out.lt i hi)) bx.size).cells.fr 6, (bx.cell (p := ⟨b, 6, none⟩) hbl).trans c6⟩
    have HST2 : Hid (Calls Tryz.prog 95 #[.pointer (some ⟨b, 0, none⟩), .int .u64 x] W.drew fun r w' => r = .returned (.int .i64 0) ∧ w'.cell? ⟨b, 6, none⟩ = some (.slice none 0 0) ∧ w'.frozen? ⟨b, 6, none⟩ = false ∧ Hid (Below W.heap.size W w')) := by
      have bd : Below W.heap.size W W.drew := (Below.refl _ _).drew
      refine (HST'.out W.drew bd).mono ?_
      rintro r w' ⟨rfl, bx⟩
      have bx' : Below W.heap.size W w' := bd.trans bx
      exact ⟨rfl, (HFR.out w' bx').2, (HFR.out w' bx').1, hidx bx'⟩
    clear e1 e2 e3 e5 q m1 hD HST h HK hr H1 HM HST' HFR f6
    go_enter Tryz.func54, Tryz.ntmps54
    go_upto_region 1 with fail
    rw [← HW.out]
    clear HW c3 f3
    go_region_law (go_simp; go_at_call 95; refine HST2.out.mono ?_; rintro r w5 ⟨rfl, c6', f6, b5⟩)
    all_goals
      have HG := hidx (HF.out w5 b5.out)
      clear HF b5
      go_wp2
      go_end0
      exact ⟨rfl, HG.out⟩
  · subst e
    have HF : Hid (∀ wx, Below W.heap.size W wx → MtAt S (wx.setCell ⟨b, 6, none⟩ (.slice (some ⟨g, 0, none⟩) k cap)) b { t with next := x, debts := t.debts.take k } ∧ Moves S S w (wx.setCell ⟨b, 6, none⟩ (.slice (some ⟨g, 0, none⟩) k cap))) := fun wx bx => by
      have hx := H1.out.same (fun i hi => bx.block i (H1.out.lt i hi)) bx.size
      have dx : DebtsAt wx (.slice (some ⟨g, 0, none⟩) t.debts.length cap) t.debts := ownsRow_same e2 fun g' hg' => bx.block g' (e5 g' (e3 g' hg').1)
      exact ⟨hx.putD (dx.take k hkl) (fun g' hg' => e3 g' hg') e4 (fun i hi => Nat.lt_of_lt_of_le (e5 i hi) bx.size), (HM.out.trans (Moves.of_kept (Kept.of_below bx))).kept (Kept.setCell _ _ _ _ _ e4)⟩
    have hk0 : (0 : Int) ≤ (k : Int) := by omega
    have hk1 : (k : Int) ≤ (cap : Int) := by have : t.debts.length ≤ cap := q3; omega
    have hbl : b < W.heap.size := e5 b e4
    have HST' : Hid (∀ wx, Below W.heap.size W wx → Calls Tryz.prog 95 #[.pointer (some ⟨b, 0, none⟩), .int .u64 x] wx fun r w' => r = .returned (.int .i64 k) ∧ Below wx.heap.size wx w') := fun wx bx => by
      have hx := H1.out.same (fun i hi => bx.block i (H1.out.lt i hi)) bx.size
      have := standing_any hx hr hn x
      rw [show standN ({ t with next := x } : MtV).debts x = k from HK.out] at this
      exact this
    have HFR : Hid (∀ wx, Below W.heap.size W wx → wx.frozen? ⟨b, 6, none⟩ = false ∧ wx.cell? ⟨b, 6, none⟩ = some (.slice (some ⟨g, 0, none⟩) t.debts.length cap)) := fun wx bx => ⟨(H1.out.same (fun i hi => bx.block i (H1.out.lt i hi)) bx.size).cells.fr 6, (bx.cell (p := ⟨b, 6, none⟩) hbl).trans c6⟩
    have HST2 : Hid (Calls Tryz.prog 95 #[.pointer (some ⟨b, 0, none⟩), .int .u64 x] W.drew fun r w' => r = .returned (.int .i64 k) ∧ w'.cell? ⟨b, 6, none⟩ = some (.slice (some ⟨g, 0, none⟩) t.debts.length cap) ∧ w'.frozen? ⟨b, 6, none⟩ = false ∧ Hid (Below W.heap.size W w')) := by
      have bd : Below W.heap.size W W.drew := (Below.refl _ _).drew
      refine (HST'.out W.drew bd).mono ?_
      rintro r w' ⟨rfl, bx⟩
      have bx' : Below W.heap.size W w' := bd.trans bx
      exact ⟨rfl, (HFR.out w' bx').2, (HFR.out w' bx').1, hidx bx'⟩
    clear e1 e2 e3 e5 q1 q2 q3 q4 q5 q6 m1 hD HST h HK hr H1 HM HST' HFR f6
    go_enter Tryz.func54, Tryz.ntmps54
    go_upto_region 1 with fail
    rw [← HW.out]
    clear HW c3 f3
    go_region_law (go_simp; go_at_call 95; refine HST2.out.mono ?_; rintro r w5 ⟨rfl, c6', f6, b5⟩)
    all_goals
      have HG := hidx (HF.out w5 b5.out)
      clear HF b5
      go_wp2
      go_end0
      exact ⟨rfl, HG.out⟩

end Go.Proofs.YthobhmejlonncaaGreat

namespace Go.Proofs.YthobhmejlonncaaGreat
open Go.RowKit Go.Sort
set_option linter.unusedVariables false
set_option linter.unusedSimpArgs false

theorem infoDebt : (Tryz.prog.info? 160).map (fun i => (i.zero, i.size, i.bytes)) = some (some (.agg #[.int .u64 0, .int .i64 0]), 2, 16) := by kernel_rfl

set_option maxHeartbeats 1600000 in
set_option maxRecDepth 20000 in
theorem owe_any {S : Nat → Prop} {w : World} {b : Nat} {t : MtV} (h : MtAt S w b t) (hr : RisesD t.debts) (hn : t.debts.length ≤ 1000000) (x room : Nat) (hx : x < 18446744073709551616) (hro : 0 < room) (hrm : room ≤ 100000000) (hod : owedN t.debts (standN t.debts x) ≤ 100000000) :
    Calls Tryz.prog 44 #[.pointer (some ⟨b, 0, none⟩), .int .u64 x, .int .i64 room] w fun r w' => r = .returned (.tuple #[]) ∧ ∃ S', MtAt S' w' b { t with debts := t.debts ++ [⟨x, owedN t.debts (standN t.debts x) + room⟩] } ∧ Moves S S' w w' := by
  have H := hidx h
  obtain ⟨o, HO⟩ : ∃ o, Hid (owedN t.debts (standN t.debts x) = o) := ⟨_, rfl⟩
  have hod' : o ≤ 100000000 := by rw [← HO.out]; exact hod
  have HW : Hid (∀ wx, Below w.heap.size w wx → Calls Tryz.prog 48 #[.pointer (some ⟨b, 0, none⟩), .int .u64 x] wx fun r w' => r = .returned (.int .i64 o) ∧ Below wx.heap.size wx w') := fun wx bx => by
    have := owes_any (H.out.same (fun i hi => bx.block i (H.out.lt i hi)) bx.size) hr (by omega) x
    rw [HO.out] at this
    exact this
  rw [HO.out]
  obtain ⟨⟨dv, e1, e2, e3⟩, e4, e5⟩ := h
  have c6 : w.cell? ⟨b, 6, none⟩ = some dv := e1.cell 6
  have hbl : b < w.heap.size := e5 b e4
  obtain ⟨i0, hi, hz0, hz1, hz2⟩ := info_parts infoDebt
  have HFR : Hid (∀ wx, Below w.heap.size w wx → wx.cell? ⟨b, 6, none⟩ = some dv ∧ wx.frozen? ⟨b, 6, none⟩ = false ∧ wx.ownsRow 0 160 2 dv t.debts.length (t.debts.flatMap DbV.enc)) := fun wx bx =>
    ⟨(bx.cell (p := ⟨b, 6, none⟩) hbl).trans c6, (H.out.same (fun i hi => bx.block i (H.out.lt i hi)) bx.size).cells.fr 6, ownsRow_same e2 fun g hg => bx.block g (e5 g (e3 g hg).1)⟩
  have HF : Hid (∀ wx w2 g cap, Below w.heap.size w wx → w2.ownsRow 0 160 2 (.slice (some ⟨g, 0, none⟩) (t.debts.length + 1) cap) (t.debts.length + 1) (t.debts.flatMap DbV.enc ++ [.int .u64 x, .int .i64 ((o : Int) + (room : Int))]) → wx.grownBy w2 dv.ownBlock → (dv.ownBlock = some g ∨ g = wx.heap.size) → g < w2.heap.size →
      w2.cell? ⟨b, 6, none⟩ = some dv ∧ w2.frozen? ⟨b, 6, none⟩ = false ∧ ∃ S', MtAt S' (w2.setCell ⟨b, 6, none⟩ (.slice (some ⟨g, 0, none⟩) (t.debts.length + 1) cap)) b { t with debts := t.debts ++ [⟨x, o + room⟩] } ∧ Moves S S' w (w2.setCell ⟨b, 6, none⟩ (.slice (some ⟨g, 0, none⟩) (t.debts.length + 1) cap))) := by
    intro wx w2 g cap bx own2 grow2 loc2 lt2
    have kg : Kept (fun k => dv.ownBlock = some k) wx w2 := Kept.of_grown grow2 (fun k e => e)
    have hk : Kept S w w2 := by
      have k1 : Kept S w wx := Kept.of_below bx
      refine ⟨kg.os.trans k1.os, kg.tape.trans k1.tape, kg.output.trans k1.output, Nat.le_trans k1.size kg.size, fun i hi hs => ?_⟩
      exact (kg.block i (Nat.lt_of_lt_of_le hi k1.size) fun e => hs (e3 i e).1).trans (k1.block i hi hs)
    have hbb : w2.heap[b]? = w.heap[b]? := (kg.block b (Nat.lt_of_lt_of_le hbl bx.size) fun e => (e3 b e).2 rfl).trans (bx.block b hbl)
    have e1' : Blk w2 b (t.cells dv) 93 := e1.same hbb
    refine ⟨e1'.cell 6, e1'.frozen 6, fun k => S k ∨ k = g, ?_, (hk.mono fun k y => y).trans (Kept.setCell S w2 b 6 _ e4), ?_⟩
    · have hgb : g ≠ b := by
        rcases loc2 with e | e
        · exact (e3 g e).2
        · have := bx.size; omega
      refine ⟨⟨.slice (some ⟨g, 0, none⟩) (t.debts.length + 1) cap, e1'.set 6 _, ?_, fun g' hg' => ?_⟩, .inl e4, ?_⟩
      · unfold DebtsAt
        rw [List.length_append, List.length_singleton, List.flatMap_append]
        refine ownsRow_same (w := w2) own2 fun g' hg' => ?_
        simp only [Value.ownBlock, Option.some.injEq] at hg'
        subst hg'
        simp [World.setCell, Array.getElem?_modify, Ne.symm hgb]
      · simp only [Value.ownBlock, Option.some.injEq] at hg'
        subst hg'
        exact ⟨.inr rfl, hgb⟩
      · have hs2 : (w2.setCell ⟨b, 6, none⟩ (.slice (some ⟨g, 0, none⟩) (t.debts.length + 1) cap)).heap.size = w2.heap.size := by simp [World.setCell]
        rintro k (y | y)
        · rw [hs2]; exact Nat.lt_of_lt_of_le (e5 k y) hk.size
        · rw [hs2, y]; exact lt2
    · rintro k (y | y)
      · exact .inl y
      · rw [y]
        rcases loc2 with e | e
        · exact .inl (e3 g e).1
        · right; have := bx.size; omega
  have HOW : Hid (Calls Tryz.prog 48 #[.pointer (some ⟨b, 0, none⟩), .int .u64 x] w.drew fun r w' => r = .returned (.int .i64 o) ∧ w'.cell? ⟨b, 6, none⟩ = some dv ∧ w'.frozen? ⟨b, 6, none⟩ = false ∧ (w'.alloc (.cells #[.int .u64 x, .int .i64 ((o : Int) + (room : Int))] 160)).cell? ⟨b, 6, none⟩ = some dv ∧ Hid (Below w.heap.size w w')) := by
    have bd : Below w.heap.size w w.drew := (Below.refl _ _).drew
    refine (HW.out w.drew bd).mono ?_
    rintro r w' ⟨rfl, bx⟩
    have bx' : Below w.heap.size w w' := bd.trans bx
    exact ⟨rfl, (HFR.out w' bx').1, (HFR.out w' bx').2.1, (HFR.out _ (bx'.alloc bx'.size _)).1, hidx bx'⟩
  have H1C : Hid (∀ u ∈ [Value.int .u64 x, Value.int .i64 ((o : Int) + (room : Int))], u.oneCell' = true) := by
    intro u hu; simp at hu; rcases hu with rfl | rfl <;> rfl
  have hr0 : (0 : Int) < (room : Int) := by omega
  have hwr : IntKind.i64.wrap ((o : Int) + (room : Int)) = (o : Int) + (room : Int) := by rw [IntKind.wrap_i64]; omega
  clear HW e1 e2 e3 e5 H hr HO hod
  go_enter Tryz.func44, Tryz.ntmps44
  go_upto_region 1 with fail
  go_region_law (first
    | (go_simp; go_at_call 48; refine HOW.out.mono ?_; rintro r w1 ⟨rfl, c6', f6', c6a, b1⟩)
    | (refine step_append_lies _ (by rfl) _ _ 91 (by rfl) 0 160 i0 _ 2 16 Tryz.underlying91 hi hz0 hz1 hz2 (by rfl) (by decide) dv t.debts.length (t.debts.flatMap DbV.enc) (by rfl) (HFR.out _ (b1.out.alloc b1.out.size _)).2.2 ⟨_, 0, none⟩ 1 1 [.int .u64 x, .int .i64 ((o : Int) + (room : Int))] (by rfl) (by rfl) (World.news_of_block (heap_alloc_new _ _)) H1C.out (by decide) (by unfold maxLen; omega) (by omega) (Nat.zero_le _) _ rfl ?_
       intro g2 cap2 w2 own2 grow2 loc2 lt2
       obtain ⟨c62, f62, HG⟩ := HF.out _ w2 g2 cap2 (b1.out.alloc b1.out.size _) own2 grow2 loc2 lt2
       have HG' := hidx HG
       clear HG own2 grow2 loc2 lt2))
  all_goals
    go_wp2
    go_end0
    exact ⟨rfl, HG'.out⟩

end Go.Proofs.YthobhmejlonncaaGreat
