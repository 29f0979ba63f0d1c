/-
  disk.Plan of one fall.
-/
import Derived.Test.YthmhigjdjclckaaWalF4C
namespace Go.Proofs.Ythmhigjdjclckaa
open Go.RowKit
set_option linter.unusedVariables false

theorem infoF : (Try.prog.info? 38).map (fun i => (i.zero, i.size, i.bytes)) = some (some (.agg #[.int .i64 0, .int .u64 0, .int .i64 0, .int .i64 0, .int .i64 0]), 5, 40) := by kernel_rfl

theorem hidF {q : Prop} (h : q) : Hid q := h

theorem below_of_grown {w w1 w2 : World} (hb : Below w.heap.size w w1) (hg : w1.grownBy w2 none) : Below w.heap.size w w2 :=
  ⟨hg.os.trans hb.os, hg.tape.trans hb.tape, hg.output.trans hb.output, Nat.le_trans hb.size hg.size, fun i hi => (hg.block i (Nat.lt_of_lt_of_le hi hb.size) (by simp)).trans (hb.block i hi)⟩

theorem planned2 {w : World} {p : Nat} {m : Mem} {d : DG} (h : DiskAt w p m d) {v : Value} {r : List FG} (hv : IsFalls w v r) (hb : v.ownBlock ≠ some p) : DiskAt (w.setCell ⟨p, 3, none⟩ v) p { m with planV := v } { d with plan := r } := by
  have h3 := h.set 3 v
  have hP := h3.2
  refine ⟨?_, ⟨?_, hP.sure, hP.fresh, hP.ne, hP.loose, hP.log⟩⟩
  · have e : dvals { m with planV := v } { d with plan := r } = (dvals m d).setIfInBounds 3 v := by
      unfold dvals
      simp
    rw [e]
    exact h3.1
  · exact hv.same fun g hg => heap_set _ _ _ _ (fun e => hb (by rw [hg, e]))

theorem falls_of_row {w : World} {b g cap : Nat} {f : FG} (h : w.ownsRow b 38 5 (.slice (some ⟨g, 0, none⟩) (0 + 1) cap) (0 + 1) ([] ++ fcells f)) : IsFalls w (.slice (some ⟨g, 0, none⟩) 1 cap) [f] := by
  have h0 := owns_zero (b := b) h
  rcases h.2 with ⟨e1, e2⟩ | ⟨g', cap', cur', e1, hb0, hb, h1, h2, h3, h4⟩
  · cases e1
  · simp only [Value.slice.injEq, Option.some.injEq, Addr.mk.injEq, and_true, true_and] at e1
    obtain ⟨rfl, rfl⟩ := e1
    refine .inr ⟨g, 0, cap, cur', rfl, by simpa using h1, h2, hb, fun k u hku => ?_⟩
    rw [Nat.zero_add]
    exact owns_cells (n := 0 + 1) h0 k u (by simpa using hku)

section
variable {w : World} {p : Nat} {S : Nat → Prop} {d : DG}

set_option maxHeartbeats 1600000 in
set_option maxRecDepth 8000 in
theorem plan_one (h : IsDisk w p S d) (f : FG) (hf : (d.calls : Int) ≤ f.call) {g o c : Nat} (hsl : ∀ j u, (fcells f)[j]? = some u → w.cell? ⟨g, o + j, none⟩ = some u) (hg : g < w.heap.size) (hgS : ¬ S g) :
    Calls Try.prog 10 #[.pointer (some ⟨p, 0, none⟩), .slice (some ⟨g, o, none⟩) 1 c] w fun x w' => x = .returned (.tuple #[]) ∧ ∃ S', IsDisk w' p S' { d with plan := [f] } ∧ Moves S S' w w' := by
  obtain ⟨m, hD, hS, _⟩ := h
  have c3 := hD.blk.cells.c3
  have f3 := hD.blk.cells.fr 3
  have hlt := hD.lt
  have hgp : g ≠ p := fun e => hgS (hS g (.inl e))
  have hD1 := planned hD (v := .slice none 0 0) (r := []) (.inl ⟨rfl, rfl⟩) (fun k hk => by simp [Value.ownBlock] at hk)
  have HD : Hid (DiskAt w p m d ∧ ∀ k, m.has p k → S k) := ⟨hD, hS⟩
  have HD1 : Hid (DiskAt (w.setCell ⟨p, 3, none⟩ (.slice none 0 0)) p { m with planV := .slice none 0 0 } { d with plan := [] }) := hD1
  have HK1 : Hid (Kept (fun k => k = p) w (w.setCell ⟨p, 3, none⟩ (.slice none 0 0))) := Kept.setCell (fun k => k = p) _ _ _ _ rfl
  have HS1 : Hid ((w.setCell ⟨p, 3, none⟩ (.slice none 0 0)).heap.size = w.heap.size) := by show (w.setCell ⟨p, 3, none⟩ (.slice none 0 0)).heap.size = w.heap.size; simp
  have HC : Hid (∀ j u, (fcells f)[j]? = some u → (w.setCell ⟨p, 3, none⟩ (.slice none 0 0)).cell? ⟨g, o + j, none⟩ = some u) := fun j u hj => (World.cell?_of_block (a := ⟨g, o + j, none⟩) (heap_set _ _ _ _ hgp)).trans (hsl j u hj)
  clear hD hD1 hS hsl
  go_enter Try.func10, Try.ntmps10
  go_wp2_with fail
  generalize w.setCell ⟨p, 3, none⟩ (.slice none 0 0) = W1 at *
  clear c3 f3
  go_loopw [13] (fun i wr => (i = .int .i64 0 ∧ wr = W1) ∨ (i = .int .i64 1 ∧ ∃ v, Hid (DiskAt wr p { m with planV := v } { d with plan := [f] } ∧ (∀ k, v.ownBlock = some k → w.heap.size ≤ k) ∧ Kept (fun k => k = p) w wr))) (fun i _ => 1 - (intOf i).toNat)
  case atStart => exact .inl ⟨rfl, rfl⟩
  case round =>
    rcases hrel with ⟨rfl, rfl⟩ | ⟨rfl, v, HV⟩
    · obtain ⟨f1, f2, f3, f4, f5⟩ := f
      have k0 := HC.out 0 _ rfl
      have k1 := HC.out 1 _ rfl
      have k2 := HC.out 2 _ rfl
      have k3 := HC.out 3 _ rfl
      have k4 := HC.out 4 _ rfl
      rw [Nat.add_zero] at k0
      simp only at k0 k1 k2 k3 k4 hf
      have c2 : wr.cell? ⟨p, 2, none⟩ = some (.int .i64 d.calls) := HD1.out.blk.cells.c2
      have hltw : p < wr.heap.size := HD1.out.lt
      have hgw : g < wr.heap.size := by rw [HS1.out]; exact hg
      go_upto_region 5 with fail
      go_quiet (fail)
      go_upto_region 6 with fail
      have hD3 : DiskAt ((wr.alloc (.cells #[.int .i64 f1, .int .u64 f2, .int .i64 f3, .int .i64 f4, .int .i64 f5] 38)).drewN nq) p { m with planV := .slice none 0 0 } { d with plan := [] } := (HD1.out.below ((Below.refl _ _).alloc (Nat.le_refl _) _)).below (below_drewN' _ nq)
      have hK3 : Kept (fun k => k = p) w ((wr.alloc (.cells #[.int .i64 f1, .int .u64 f2, .int .i64 f3, .int .i64 f4, .int .i64 f5] 38)).drewN nq) := (HK1.out.trans (Kept.alloc _ _ _)).drewN nq
      have hb3 : Blk ((wr.alloc (.cells #[.int .i64 f1, .int .u64 f2, .int .i64 f3, .int .i64 f4, .int .i64 f5] 38)).drewN nq) wr.heap.size #[.int .i64 f1, .int .u64 f2, .int .i64 f3, .int .i64 f4, .int .i64 f5] 38 := Blk.made _ _ _
      have hs3 : ((wr.alloc (.cells #[.int .i64 f1, .int .u64 f2, .int .i64 f3, .int .i64 f4, .int .i64 f5] 38)).drewN nq).heap.size = wr.heap.size + 1 := by show (wr.alloc _).heap.size = _; simp
      have hs0 : wr.heap.size = w.heap.size := HS1.out
      rw [hs0] at hb3 hs3 ⊢
      have HS0 : Hid (wr.heap.size = w.heap.size) := hs0
      clear hs0
      generalize (wr.alloc (.cells #[.int .i64 f1, .int .u64 f2, .int .i64 f3, .int .i64 f4, .int .i64 f5] 38)).drewN nq = W3 at *
      have a0 := hb3.cell 0
      have a1 := hb3.cell 1
      have a2 := hb3.cell 2
      have a3 := hb3.cell 3
      have a4 := hb3.cell 4
      simp only [List.getElem?_toArray, List.getElem?_cons_zero, List.getElem?_cons_succ] at a0 a1 a2 a3 a4
      have b3 := hD3.blk.cells.c3
      have g3 := hD3.blk.cells.fr 3
      simp only at b3
      have HS3 : Hid (W3.heap.size = w.heap.size + 1) := hs3
      have HD3 : Hid (DiskAt W3 p { m with planV := .slice none 0 0 } { d with plan := [] }) := hD3
      have HK3 : Hid (Kept (fun k => k = p) w W3) := hK3
      have hl3 : p < W3.heap.size := hD3.lt
      clear hD3 hK3 hb3 hs3 k0 k1 k2 k3 k4 c2
      obtain ⟨i0, hi, hz0, hz1, hz2⟩ := info_parts infoF
      have HO1 : Hid (((W3.alloc (.cells #[.int .i64 f1, .int .u64 f2, .int .i64 f3, .int .i64 f4, .int .i64 f5] 38)).drew).ownsRow W3.heap.size 38 5 (.slice none 0 0) 0 []) := World.ownsRow_nil _ _ _ _
      have HN1 : Hid (∀ j u, [Value.int .i64 f1, .int .u64 f2, .int .i64 f3, .int .i64 f4, .int .i64 f5][j]? = some u → ((W3.alloc (.cells #[.int .i64 f1, .int .u64 f2, .int .i64 f3, .int .i64 f4, .int .i64 f5] 38)).drew).cell? ((⟨W3.heap.size, 0, none⟩ : Addr).add j) = some u) := World.news_of_block (w := (W3.alloc (.cells #[.int .i64 f1, .int .u64 f2, .int .i64 f3, .int .i64 f4, .int .i64 f5] 38)).drew) (heap_alloc_new W3 _)
      have H1C : Hid (∀ u ∈ [Value.int .i64 f1, .int .u64 f2, .int .i64 f3, .int .i64 f4, .int .i64 f5], u.oneCell' = true) := by intro u hu; simp at hu; rcases hu with rfl | rfl | rfl | rfl | rfl <;> rfl
      go_region_law (refine step_append_lies _ (by rfl) _ _ 44 (by rfl) W3.heap.size 38 i0 _ 5 40 Try.underlying44 hi hz0 hz1 hz2 (by rfl) (by decide) (.slice none 0 0) 0 [] (by rfl) HO1.out ⟨W3.heap.size, 0, none⟩ 1 1 [.int .i64 f1, .int .u64 f2, .int .i64 f3, .int .i64 f4, .int .i64 f5] (by rfl) (by rfl) HN1.out H1C.out (by decide) (by unfold maxLen; omega) (by omega) (by simp) _ (by rfl) ?_; intro g5 cap5 w5 hown5 hgrow5 hloc5 hlt5; have HB5 : Hid (Below W3.heap.size W3 w5) := below_of_grown (((Below.refl _ _).alloc (Nat.le_refl _) _).drew) hgrow5; have HO5 := hidF hown5; have e3 : w5.cell? ⟨p, 3, none⟩ = some (.slice none 0 0) := (World.cell?_of_block (a := ⟨p, 3, none⟩) (HB5.out.block p hl3)).trans b3; have e4 : w5.frozen? ⟨p, 3, none⟩ = false := (World.frozen?_of_block (a := ⟨p, 3, none⟩) (HB5.out.block p hl3)).trans g3; have hne5 : W3.heap.size < g5 := (hloc5.elim (fun x => (by simp [Value.ownBlock] at x)) (fun x => (by rw [x]; simp))); clear hown5 hgrow5 hloc5)
      all_goals
        have HFN : Hid (∃ v, DiskAt (w5.setCell ⟨p, 3, none⟩ (.slice (some ⟨g5, 0, none⟩) 1 cap5)) p { m with planV := v } { d with plan := [⟨f1, f2, f3, f4, f5⟩] } ∧ (∀ k, v.ownBlock = some k → w.heap.size ≤ k) ∧ Kept (fun k => k = p) w (w5.setCell ⟨p, 3, none⟩ (.slice (some ⟨g5, 0, none⟩) 1 cap5))) := by
          refine ⟨.slice (some ⟨g5, 0, none⟩) 1 cap5, planned2 (HD3.out.below HB5.out) (falls_of_row HO5.out) (fun e => ?_), fun k hk => ?_, ?_⟩
          · simp only [Value.ownBlock, Option.some.injEq] at e
            omega
          · simp only [Value.ownBlock, Option.some.injEq] at hk
            have := HS3.out
            omega
          · exact (HK3.out.trans (Kept.of_below HB5.out)).trans (Kept.setCell _ _ _ _ _ rfl)
        clear HB5 HO5 HO1 HN1 H1C
        go_wp2_with fail
        obtain ⟨v, hv⟩ := HFN.out
        exact ⟨.inr ⟨by simp, v, hv⟩, by simp [intOf]⟩
    · obtain ⟨a, cp, hv⟩ : ∃ a cp, v = .slice a 1 cp := by
        rcases HV.out.1.parts.plan with ⟨_, e⟩ | ⟨g, o, cap, cur, e, _⟩
        · cases e
        · exact ⟨_, _, e⟩
      subst hv
      have c3 := HV.out.1.blk.cells.c3
      simp only at c3
      go_wp2_with fail
      refine (fsort_small a cp _ 1 (by omega) _).mono ?_
      rintro e w1 ⟨rfl, rfl⟩
      go_wp2
      go_end0
      refine ⟨rfl, ?_⟩
      refine moved HD.out.1 HD.out.2 HV.out.1 ?_ HV.out.2.2 fun k x => .inl x
      rintro k (x | x | x | x | x)
      · exact .inl (.inl x)
      · exact .inl (.inr (.inl x))
      · exact .inl (.inr (.inr (.inl x)))
      · exact .inl (.inr (.inr (.inr (.inl x))))
      · exact .inr (HV.out.2.1 k x)

end

end Go.Proofs.Ythmhigjdjclckaa
