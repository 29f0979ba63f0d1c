/-
  slices.MinFunc at dirty pages, by their LSNs.
-/
import Derived.Test.YtgkfdakieebnmaaGreatAnSortC
import Derived.Test.YtgkfdakieebnmaaGreatAnHearC
set_option linter.unusedVariables false
set_option linter.unusedSimpArgs false
namespace Go.Proofs.YtgkfdakieebnmaaGreat
open Go.RowKit Go.Shelf Go.Lib Go.Sort

def minD (x : DiV) (l : List DiV) : DiV := l.foldl (fun m y => if y.2 < m.2 then y else m) x

theorem minD_redo (e : Nat) (x : DiV) (l : List DiV) : (minD x l).2 = redoL e (x :: l) := by
  show (minD x l).2 = l.foldl (fun m y => if y.2 < m then y.2 else m) x.2
  unfold minD
  induction l generalizing x with
  | nil => rfl
  | cons y l ih =>
    rw [List.foldl_cons, List.foldl_cons, ih]
    congr 1
    split <;> rfl

theorem minD_take {x : DiV} {l : List DiV} {i : Nat} (h : i < l.length) : minD x (l.take (i + 1)) = if l[i].2 < (minD x (l.take i)).2 then l[i] else minD x (l.take i) := by
  unfold minD
  rw [List.take_succ_eq_append_getElem h, List.foldl_append]
  rfl

theorem adAt.cells {B : Nat} {w : World} {v : Value} {L : List DiV} (h : adAt B w v L) (hne : L ≠ []) : ∃ g cap, v = .slice (some ⟨g, 0, none⟩) L.length cap ∧ g < w.heap.size ∧ B ≤ g ∧ L.length ≤ cap ∧ ∀ i (hi : i < L.length), w.cell? ⟨g, i * 2, none⟩ = some (.int .u32 L[i].1) ∧ w.cell? ⟨g, i * 2 + 1, none⟩ = some (.int .u64 L[i].2) := by
  have h0 := h
  unfold adAt at h0
  rcases h0.2 with ⟨rfl, hz⟩ | ⟨g, cap, cur, rfl, hb0, hb, hn, hmx, hs, ht⟩
  · exact absurd (List.length_eq_zero_iff.1 hz) hne
  · refine ⟨g, cap, rfl, (Array.getElem?_eq_some_iff.1 hb).1, hb0, hn, fun i hi => ?_⟩
    have hcell : ∀ j, w.cell? ⟨g, j, none⟩ = cur[j]? := fun j => by simp [World.cell?, hb]
    have hget : ∀ j, j < L.length * 2 → cur[j]? = (L.flatMap adcells)[j]? := fun j hj => by
      rw [← ht, List.getElem?_take_of_lt hj, Array.getElem?_toList]
    constructor
    · rw [hcell, hget _ (by omega)]
      have := adflat_get L i 0 hi (by omega)
      rw [Nat.add_zero] at this
      rw [this]
      rfl
    · rw [hcell, hget _ (by omega), adflat_get L i 1 hi (by omega)]
      rfl

set_option maxHeartbeats 3200000 in
set_option maxRecDepth 20000 in
theorem min_any (B : Nat) (x : DiV) (l : List DiV) (w : World) (v : Value) (hl : l.length ≤ 1000000) (h : adAt B w v (x :: l)) :
    Calls Tryz.prog 95 #[v, .func (.func 96) #[] #[]] w fun e w' => e = .returned (.agg #[.int .u32 (minD x l).1, .int .u64 (minD x l).2]) ∧ Below w.heap.size w w' := by
  obtain ⟨g, cap, rfl, hg, _, hcap, hc⟩ := h.cells (by simp)
  obtain ⟨W, HW⟩ : ∃ W, Hid (W = w.alloc (.cells #[.int .u32 0, .int .u64 0] 166)) := ⟨_, rfl⟩
  have b1 : Below w.heap.size w W := by rw [HW.out]; exact (Below.refl _ _).alloc (Nat.le_refl _) _
  have z1 : w.heap.size < W.heap.size := by rw [HW.out]; simp
  have hR : Blk W w.heap.size #[.int .u32 0, .int .u64 0] 166 := by rw [HW.out]; exact Blk.made _ _ _
  have HC : Hid (∀ wx, Below w.heap.size w wx → ∀ i (hi : i < (x :: l).length), wx.cell? ⟨g, i * 2, none⟩ = some (.int .u32 (x :: l)[i].1) ∧ wx.cell? ⟨g, i * 2 + 1, none⟩ = some (.int .u64 (x :: l)[i].2)) := fun wx k i hi => ⟨(k.cell (p := ⟨g, i * 2, none⟩) hg).trans (hc i hi).1, (k.cell (p := ⟨g, i * 2 + 1, none⟩) hg).trans (hc i hi).2⟩
  have HCL : Hid (∀ (a b : DiV) (wx : World), Calls Tryz.prog 96 #[.agg #[.int .u32 a.1, .int .u64 a.2], .agg #[.int .u32 b.1, .int .u64 b.2]] wx fun e w' => e = .returned (.int .i64 (cmpA a.2 b.2)) ∧ Below wx.heap.size wx w') := fun a b wx => by
    refine (adsclo_any a b wx).mono ?_
    rintro e w' ⟨rfl, q, os', rfl⟩
    have k : RowKit.Below wx.heap.size wx (wx.drewN q) := below_drewN (RowKit.Below.refl _ _) q
    exact ⟨rfl, ⟨k.os, k.tape, k.output, by simp, fun i hi => by rw [heap_grow_old _ _ (by simpa using hi)]; rfl⟩⟩
  have hx0 := HC.out W b1 0 (by simp)
  simp only [List.getElem_cons_zero, Nat.zero_mul, Nat.zero_add] at hx0
  obtain ⟨p0, p1⟩ := hx0
  have hln : ¬ ((l.length : Int) + 1 < 1) := by omega
  clear h hc
  simp only [List.length_cons] at hcap ⊢
  go_enter Tryz.func95, Tryz.ntmps95
  go_upto_region 1 with fail
  rw [← HW.out]
  obtain ⟨x0, x1⟩ := x
  simp only at p0 p1
  obtain ⟨V, HV⟩ : ∃ V, Hid (V = W.alloc (.cells #[.int .u32 x0, .int .u64 x1] 166)) := ⟨_, rfl⟩
  have b2 : Below W.heap.size W V := by rw [HV.out]; exact (Below.refl _ _).alloc (Nat.le_refl _) _
  have hM : Blk V W.heap.size #[.int .u32 x0, .int .u64 x1] 166 := by rw [HV.out]; exact Blk.made _ _ _
  have HS0 : Hid (Below w.heap.size w V ∧ Blk V w.heap.size #[.int .u32 0, .int .u64 0] 166 ∧ Blk V W.heap.size #[.int .u32 x0, .int .u64 x1] 166) := ⟨below_chain b1 b2, hR.same (b2.block _ z1), hM⟩
  have HNE : Hid (w.heap.size < W.heap.size) := z1
  go_upto_region 4 with fail
  rw [← HV.out]
  clear HW HV b1 b2 hR hM z1 p0 p1
  generalize W.heap.size = mb at *
  go_wp2_with fail
  go_loopw [6] (fun i wr => ∃ k : Nat, i = .int .i64 ((k : Int) + 1) ∧ k ≤ l.length ∧ Hid (Below w.heap.size w wr ∧ Blk wr w.heap.size #[.int .u32 0, .int .u64 0] 166 ∧ Blk wr mb #[.int .u32 (minD (x0, x1) (l.take k)).1, .int .u64 (minD (x0, x1) (l.take k)).2] 166)) (fun i _ => l.length + 1 - (intOf i).toNat)
  case atStart => exact ⟨0, by go_num, Nat.zero_le _, HS0⟩
  case round =>
    obtain ⟨k, rfl, hk, HS⟩ := hrel
    clear HS0
    by_cases hlt : k < l.length
    · have d1 : decide ((k : Int) + 1 < (l.length : Int) + 1) = true := by simp; omega
      have i1 : (0 : Int) ≤ (k : Int) + 1 := by omega
      have i2 : (k : Int) + 1 < (l.length : Int) + 1 := by omega
      obtain ⟨p0, p1⟩ := HC.out wr HS.out.1 (k + 1) (by simp; omega)
      rw [List.getElem_cons_succ] at p0 p1
      have HMN := hida (minD_take (x := (x0, x1)) hlt)
      generalize minD (x0, x1) (l.take k) = m at *
      obtain ⟨N, HN⟩ : ∃ N, Hid (minD (x0, x1) (l.take (k + 1)) = N) := ⟨_, rfl⟩
      rw [HN.out] at HMN
      generalize l[k] = y at *
      obtain ⟨m0, m1⟩ := m
      obtain ⟨y0, y1⟩ := y
      simp only at p0 p1 HMN
      have q0 : wr.cell? ⟨mb, 0, none⟩ = some (.int .u32 m0) := HS.out.2.2.cell 0
      have q1 : wr.cell? ⟨mb, 1, none⟩ = some (.int .u64 m1) := HS.out.2.2.cell 1
      have g0 := cell_regrown p0
      have g1 := cell_regrown p1
      have e0 := cell_regrown q0
      have e1 := cell_regrown q1
      have cC : ∀ dd os, Calls Tryz.prog 96 #[.agg #[.int .u32 y0, .int .u64 y1], .agg #[.int .u32 m0, .int .u64 m1]] (grow (redrawn wr dd) os) fun e w'' => e = .returned (.int .i64 (cmpA y1 m1)) ∧ ∃ p : Regrown, w'' = grow (redrawn wr p.d) p.os := fun dd os => Calls.regrown_of (HCL.out (y0, y1) (m0, m1) _)
      go_upto_region 7 with fail
      go_cut [27] from 20 to 27 (fun v27 wx => v27 = .bool (decide (y1 < m1)) ∧ Hid (Below wr.heap.size wr wx))
      case first =>
        clear HMN
        have hcm : Hid (decide (cmpA y1 m1 < 0) = decide (y1 < m1)) := by
          show _ = _
          rw [decide_eq_decide, cmpA_lt]
          omega
        generalize cmpA y1 m1 = cv at *
        clear p0 p1 q0 q1
        refine wp_region_quiet_below amixed (by kernel_rfl) ?_
        iterate 8 (quiet_step (first | (go_at_call 96; exact cC _ _)))
        refine wpQuiet_nil ?_
        intro _ hw'
        obtain ⟨⟨dq, osq⟩, hw''⟩ := hw'
        subst hw''
        go_wp2_with fail
        go_meet
        case rel => exact ⟨by rw [hcm.out], hida (below_regrown wr dq osq)⟩
      obtain ⟨rfl, HB1⟩ := hcut
      have HS1 := hida (show Below w.heap.size w wc ∧ Blk wc w.heap.size #[.int .u32 0, .int .u64 0] 166 ∧ Blk wc mb #[.int .u32 m0, .int .u64 m1] 166 from ⟨below_chain HS.out.1 HB1.out, HS.out.2.1.same (HB1.out.block _ HS.out.2.1.lt), HS.out.2.2.same (HB1.out.block _ HS.out.2.2.lt)⟩)
      have hgr : g < wr.heap.size := Nat.lt_of_lt_of_le hg HS.out.1.size
      have r0 : wc.cell? ⟨g, (k + 1) * 2, none⟩ = some (.int .u32 y0) := (HB1.out.cell (p := ⟨g, (k + 1) * 2, none⟩) hgr).trans p0
      have r1 : wc.cell? ⟨g, (k + 1) * 2 + 1, none⟩ = some (.int .u64 y1) := (HB1.out.cell (p := ⟨g, (k + 1) * 2 + 1, none⟩) hgr).trans p1
      clear HS HB1 p0 p1 q0 q1 g0 g1 e0 e1 cC hgr
      by_cases hy : y1 < m1
      · have HN2 := hida (show N = (y0, y1) by rw [HMN.out, if_pos hy])
        have d2 : decide (y1 < m1) = true := decide_eq_true hy
        have f0 : wc.frozen? ⟨mb, 0, none⟩ = false := HS1.out.2.2.frozen 0
        have f1 : wc.frozen? ⟨mb, 1, none⟩ = false := HS1.out.2.2.frozen 1
        have q0 : wc.cell? ⟨mb, 0, none⟩ = some (.int .u32 m0) := HS1.out.2.2.cell 0
        have q1 : wc.cell? ⟨mb, 1, none⟩ = some (.int .u64 m1) := HS1.out.2.2.cell 1
        have HE := hida (show Below w.heap.size w ((wc.setCell ⟨mb, 0, none⟩ (.int .u32 y0)).setCell ⟨mb, 1, none⟩ (.int .u64 y1)) ∧ Blk ((wc.setCell ⟨mb, 0, none⟩ (.int .u32 y0)).setCell ⟨mb, 1, none⟩ (.int .u64 y1)) w.heap.size #[.int .u32 0, .int .u64 0] 166 ∧ Blk ((wc.setCell ⟨mb, 0, none⟩ (.int .u32 y0)).setCell ⟨mb, 1, none⟩ (.int .u64 y1)) mb #[.int .u32 y0, .int .u64 y1] 166 from by
          have hne := HNE.out
          refine ⟨(HS1.out.1.setCell (p := ⟨mb, 0, none⟩) (Nat.le_of_lt hne) _).setCell (p := ⟨mb, 1, none⟩) (Nat.le_of_lt hne) _, ?_, (HS1.out.2.2.set 0 _).set 1 _⟩
          exact (HS1.out.2.1.same (Below.heap_setCell _ _ _ _ (by show w.heap.size ≠ mb; omega))).same (Below.heap_setCell _ _ _ _ (by show w.heap.size ≠ mb; omega)))
        clear HS1 HMN
        go_wp2_with fail
        go_roundw
        case rel => exact ⟨k + 1, by go_num, by omega, by rw [HN.out, HN2.out]; exact HE⟩
        case measure => simp [intOf]; omega
      · have HN2 := hida (show N = (m0, m1) by rw [HMN.out, if_neg hy])
        have d2 : decide (y1 < m1) = false := decide_eq_false hy
        clear HMN
        go_wp2_with fail
        go_roundw
        case rel => exact ⟨k + 1, by go_num, by omega, by rw [HN.out, HN2.out]; exact HS1⟩
        case measure => simp [intOf]; omega
    · obtain rfl : k = l.length := by omega
      rw [List.take_length] at HS
      obtain ⟨m, HMM⟩ : ∃ m, Hid (minD (x0, x1) l = m) := ⟨_, rfl⟩
      rw [HMM.out] at HS
      obtain ⟨m0, m1⟩ := m
      have d1 : decide ((l.length : Int) + 1 < (l.length : Int) + 1) = false := by simp
      have f0 : wr.frozen? ⟨w.heap.size, 0, none⟩ = false := HS.out.2.1.frozen 0
      have f1 : wr.frozen? ⟨w.heap.size, 1, none⟩ = false := HS.out.2.1.frozen 1
      have t0 : wr.cell? ⟨w.heap.size, 0, none⟩ = some (.int .u32 0) := HS.out.2.1.cell 0
      have t1 : wr.cell? ⟨w.heap.size, 1, none⟩ = some (.int .u64 0) := HS.out.2.1.cell 1
      have q0 : wr.cell? ⟨mb, 0, none⟩ = some (.int .u32 m0) := HS.out.2.2.cell 0
      have q1 : wr.cell? ⟨mb, 1, none⟩ = some (.int .u64 m1) := HS.out.2.2.cell 1
      have ne : w.heap.size ≠ mb := by have := HNE.out; omega
      have HB := hida HS.out.1
      have HRB := hida ((HS.out.2.1.set 0 (.int .u32 m0)).set 1 (.int .u64 m1))
      clear HS
      go_wp2_with fail
      have t0' : ((wr.setCell ⟨w.heap.size, 0, none⟩ (.int .u32 m0)).setCell ⟨w.heap.size, 1, none⟩ (.int .u64 m1)).cell? ⟨w.heap.size, 0, none⟩ = some (.int .u32 m0) := HRB.out.cell 0
      have t1' : ((wr.setCell ⟨w.heap.size, 0, none⟩ (.int .u32 m0)).setCell ⟨w.heap.size, 1, none⟩ (.int .u64 m1)).cell? ⟨w.heap.size, 1, none⟩ = some (.int .u64 m1) := HRB.out.cell 1
      refine bodyPost_ret (v := .agg #[.int .u32 m0, .int .u64 m1]) (by simp [results, Tryz.results95, go_sem, t0', t1']) rfl ?_
      exact ⟨by rw [HMM.out], (HB.out.setCell (p := ⟨w.heap.size, 0, none⟩) (Nat.le_refl _) _).setCell (p := ⟨w.heap.size, 1, none⟩) (Nat.le_refl _) _⟩

end Go.Proofs.YtgkfdakieebnmaaGreat
