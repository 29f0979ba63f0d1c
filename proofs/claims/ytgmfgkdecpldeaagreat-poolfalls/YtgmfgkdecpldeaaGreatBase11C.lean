/-
  disk.Plan of one fall.
  Flush where the plan's first fall is not due, where it strikes ahead of AppendLog, and where it strikes ahead of SyncLog.
  The walk of wal.Open where something is torn.
  writeSure, Flush and writeOut of a pool on a disk with a plan of one fall.
-/
import Derived.Test.YtgmfgkdecpldeaaGreatBase10C
import Derived.Test.YtgmfgkdecpldeaaGreatWalFlushC
import Derived.Test.YtgmfgkdecpldeaaGreatWalMoreC
import Derived.Test.YtgmfgkdecpldeaaGreatBase9C
namespace Go.Proofs.YtgmfgkdecpldeaaGreat
open Go.RowKit
set_option linter.unusedVariables false

theorem infoF : (Tryz.prog.info? 38).map (fun i => (i.zero, i.size, i.bytes)) = some (some (.agg #[.int .i64 0, .int .u64 0, .int .i64 0, .int .i64 0, .int .i64 0]), 5, 40) := by kernel_rfl

theorem hidF {q : Prop} (h : q) : Hid q := h

theorem below_of_grown {w w1 w2 : World} (hb : Below w.heap.size w w1) (hg : w1.grownBy w2 none) : Below w.heap.size w w2 :=
  ⟨hg.os.trans hb.os, hg.tape.trans hb.tape, hg.output.trans hb.output, Nat.le_trans hb.size hg.size, fun i hi => (hg.block i (Nat.lt_of_lt_of_le hi hb.size) (by simp)).trans (hb.block i hi)⟩

theorem planned2 {w : World} {p : Nat} {m : Mem} {d : DG} (h : DiskAt w p m d) {v : Value} {r : List FG} (hv : IsFalls w v r) (hb : v.ownBlock ≠ some p) : DiskAt (w.setCell ⟨p, 3, none⟩ v) p { m with planV := v } { d with plan := r } := by
  have h3 := h.set 3 v
  have hP := h3.2
  refine ⟨?_, ⟨?_, hP.sure, hP.fresh, hP.ne, hP.loose, hP.log⟩⟩
  · have e : dvals { m with planV := v } { d with plan := r } = (dvals m d).setIfInBounds 3 v := by
      unfold dvals
      simp
    rw [e]
    exact h3.1
  · exact hv.same fun g hg => heap_set _ _ _ _ (fun e => hb (by rw [hg, e]))

theorem falls_of_row {w : World} {b g cap : Nat} {f : FG} (h : w.ownsRow b 38 5 (.slice (some ⟨g, 0, none⟩) (0 + 1) cap) (0 + 1) ([] ++ fcells f)) : IsFalls w (.slice (some ⟨g, 0, none⟩) 1 cap) [f] := by
  have h0 := owns_zero (b := b) h
  rcases h.2 with ⟨e1, e2⟩ | ⟨g', cap', cur', e1, hb0, hb, h1, h2, h3, h4⟩
  · cases e1
  · simp only [Value.slice.injEq, Option.some.injEq, Addr.mk.injEq, and_true, true_and] at e1
    obtain ⟨rfl, rfl⟩ := e1
    refine .inr ⟨g, 0, cap, cur', rfl, by simpa using h1, h2, hb, fun k u hku => ?_⟩
    rw [Nat.zero_add]
    exact owns_cells (n := 0 + 1) h0 k u (by simpa using hku)

section
variable {w : World} {p : Nat} {S : Nat → Prop} {d : DG}

set_option maxHeartbeats 1600000 in
set_option maxRecDepth 8000 in
theorem plan_one (h : IsDisk w p S d) (f : FG) (hf : (d.calls : Int) ≤ f.call) {g o c : Nat} (hsl : ∀ j u, (fcells f)[j]? = some u → w.cell? ⟨g, o + j, none⟩ = some u) (hg : g < w.heap.size) (hgS : ¬ S g) :
    Calls Tryz.prog 13 #[.pointer (some ⟨p, 0, none⟩), .slice (some ⟨g, o, none⟩) 1 c] w fun x w' => x = .returned (.tuple #[]) ∧ ∃ S', IsDisk w' p S' { d with plan := [f] } ∧ Moves S S' w w' := by
  obtain ⟨m, hD, hS, _⟩ := h
  have c3 := hD.blk.cells.c3
  have f3 := hD.blk.cells.fr 3
  have hlt := hD.lt
  have hgp : g ≠ p := fun e => hgS (hS g (.inl e))
  have hD1 := planned hD (v := .slice none 0 0) (r := []) (.inl ⟨rfl, rfl⟩) (fun k hk => by simp [Value.ownBlock] at hk)
  have HD : Hid (DiskAt w p m d ∧ ∀ k, m.has p k → S k) := ⟨hD, hS⟩
  have HD1 : Hid (DiskAt (w.setCell ⟨p, 3, none⟩ (.slice none 0 0)) p { m with planV := .slice none 0 0 } { d with plan := [] }) := hD1
  have HK1 : Hid (Kept (fun k => k = p) w (w.setCell ⟨p, 3, none⟩ (.slice none 0 0))) := Kept.setCell (fun k => k = p) _ _ _ _ rfl
  have HS1 : Hid ((w.setCell ⟨p, 3, none⟩ (.slice none 0 0)).heap.size = w.heap.size) := by show (w.setCell ⟨p, 3, none⟩ (.slice none 0 0)).heap.size = w.heap.size; simp
  have HC : Hid (∀ j u, (fcells f)[j]? = some u → (w.setCell ⟨p, 3, none⟩ (.slice none 0 0)).cell? ⟨g, o + j, none⟩ = some u) := fun j u hj => (World.cell?_of_block (a := ⟨g, o + j, none⟩) (heap_set _ _ _ _ hgp)).trans (hsl j u hj)
  clear hD hD1 hS hsl
  go_enter Tryz.func13, Tryz.ntmps13
  go_wp2_with fail
  generalize w.setCell ⟨p, 3, none⟩ (.slice none 0 0) = W1 at *
  clear c3 f3
  go_loopw [13] (fun i wr => (i = .int .i64 0 ∧ wr = W1) ∨ (i = .int .i64 1 ∧ ∃ v, Hid (DiskAt wr p { m with planV := v } { d with plan := [f] } ∧ (∀ k, v.ownBlock = some k → w.heap.size ≤ k) ∧ Kept (fun k => k = p) w wr))) (fun i _ => 1 - (intOf i).toNat)
  case atStart => exact .inl ⟨rfl, rfl⟩
  case round =>
    rcases hrel with ⟨rfl, rfl⟩ | ⟨rfl, v, HV⟩
    · obtain ⟨f1, f2, f3, f4, f5⟩ := f
      have k0 := HC.out 0 _ rfl
      have k1 := HC.out 1 _ rfl
      have k2 := HC.out 2 _ rfl
      have k3 := HC.out 3 _ rfl
      have k4 := HC.out 4 _ rfl
      rw [Nat.add_zero] at k0
      simp only at k0 k1 k2 k3 k4 hf
      have c2 : wr.cell? ⟨p, 2, none⟩ = some (.int .i64 d.calls) := HD1.out.blk.cells.c2
      have hltw : p < wr.heap.size := HD1.out.lt
      have hgw : g < wr.heap.size := by rw [HS1.out]; exact hg
      go_upto_region 5 with fail
      go_quiet (fail)
      go_upto_region 6 with fail
      have hD3 : DiskAt ((wr.alloc (.cells #[.int .i64 f1, .int .u64 f2, .int .i64 f3, .int .i64 f4, .int .i64 f5] 38)).drewN nq) p { m with planV := .slice none 0 0 } { d with plan := [] } := (HD1.out.below ((Below.refl _ _).alloc (Nat.le_refl _) _)).below (below_drewN' _ nq)
      have hK3 : Kept (fun k => k = p) w ((wr.alloc (.cells #[.int .i64 f1, .int .u64 f2, .int .i64 f3, .int .i64 f4, .int .i64 f5] 38)).drewN nq) := (HK1.out.trans (Kept.alloc _ _ _)).drewN nq
      have hb3 : Blk ((wr.alloc (.cells #[.int .i64 f1, .int .u64 f2, .int .i64 f3, .int .i64 f4, .int .i64 f5] 38)).drewN nq) wr.heap.size #[.int .i64 f1, .int .u64 f2, .int .i64 f3, .int .i64 f4, .int .i64 f5] 38 := Blk.made _ _ _
      have hs3 : ((wr.alloc (.cells #[.int .i64 f1, .int .u64 f2, .int .i64 f3, .int .i64 f4, .int .i64 f5] 38)).drewN nq).heap.size = wr.heap.size + 1 := by show (wr.alloc _).heap.size = _; simp
      have hs0 : wr.heap.size = w.heap.size := HS1.out
      rw [hs0] at hb3 hs3 ⊢
      have HS0 : Hid (wr.heap.size = w.heap.size) := hs0
      clear hs0
      generalize (wr.alloc (.cells #[.int .i64 f1, .int .u64 f2, .int .i64 f3, .int .i64 f4, .int .i64 f5] 38)).drewN nq = W3 at *
      have a0 := hb3.cell 0
      have a1 := hb3.cell 1
      have a2 := hb3.cell 2
      have a3 := hb3.cell 3
      have a4 := hb3.cell 4
      simp only [List.getElem?_toArray, List.getElem?_cons_zero, List.getElem?_cons_succ] at a0 a1 a2 a3 a4
      have b3 := hD3.blk.cells.c3
      have g3 := hD3.blk.cells.fr 3
      simp only at b3
      have HS3 : Hid (W3.heap.size = w.heap.size + 1) := hs3
      have HD3 : Hid (DiskAt W3 p { m with planV := .slice none 0 0 } { d with plan := [] }) := hD3
      have HK3 : Hid (Kept (fun k => k = p) w W3) := hK3
      have hl3 : p < W3.heap.size := hD3.lt
      clear hD3 hK3 hb3 hs3 k0 k1 k2 k3 k4 c2
      obtain ⟨i0, hi, hz0, hz1, hz2⟩ := info_parts infoF
      have HO1 : Hid (((W3.alloc (.cells #[.int .i64 f1, .int .u64 f2, .int .i64 f3, .int .i64 f4, .int .i64 f5] 38)).drew).ownsRow W3.heap.size 38 5 (.slice none 0 0) 0 []) := World.ownsRow_nil _ _ _ _
      have HN1 : Hid (∀ j u, [Value.int .i64 f1, .int .u64 f2, .int .i64 f3, .int .i64 f4, .int .i64 f5][j]? = some u → ((W3.alloc (.cells #[.int .i64 f1, .int .u64 f2, .int .i64 f3, .int .i64 f4, .int .i64 f5] 38)).drew).cell? ((⟨W3.heap.size, 0, none⟩ : Addr).add j) = some u) := World.news_of_block (w := (W3.alloc (.cells #[.int .i64 f1, .int .u64 f2, .int .i64 f3, .int .i64 f4, .int .i64 f5] 38)).drew) (heap_alloc_new W3 _)
      have H1C : Hid (∀ u ∈ [Value.int .i64 f1, .int .u64 f2, .int .i64 f3, .int .i64 f4, .int .i64 f5], u.oneCell' = true) := by intro u hu; simp at hu; rcases hu with rfl | rfl | rfl | rfl | rfl <;> rfl
      go_region_law (refine step_append_lies _ (by rfl) _ _ 46 (by rfl) W3.heap.size 38 i0 _ 5 40 Tryz.underlying46 hi hz0 hz1 hz2 (by rfl) (by decide) (.slice none 0 0) 0 [] (by rfl) HO1.out ⟨W3.heap.size, 0, none⟩ 1 1 [.int .i64 f1, .int .u64 f2, .int .i64 f3, .int .i64 f4, .int .i64 f5] (by rfl) (by rfl) HN1.out H1C.out (by decide) (by unfold maxLen; omega) (by omega) (by simp) _ (by rfl) ?_; intro g5 cap5 w5 hown5 hgrow5 hloc5 hlt5; have HB5 : Hid (Below W3.heap.size W3 w5) := below_of_grown (((Below.refl _ _).alloc (Nat.le_refl _) _).drew) hgrow5; have HO5 := hidF hown5; have e3 : w5.cell? ⟨p, 3, none⟩ = some (.slice none 0 0) := (World.cell?_of_block (a := ⟨p, 3, none⟩) (HB5.out.block p hl3)).trans b3; have e4 : w5.frozen? ⟨p, 3, none⟩ = false := (World.frozen?_of_block (a := ⟨p, 3, none⟩) (HB5.out.block p hl3)).trans g3; have hne5 : W3.heap.size < g5 := (hloc5.elim (fun x => (by simp [Value.ownBlock] at x)) (fun x => (by rw [x]; simp))); clear hown5 hgrow5 hloc5)
      all_goals
        have HFN : Hid (∃ v, DiskAt (w5.setCell ⟨p, 3, none⟩ (.slice (some ⟨g5, 0, none⟩) 1 cap5)) p { m with planV := v } { d with plan := [⟨f1, f2, f3, f4, f5⟩] } ∧ (∀ k, v.ownBlock = some k → w.heap.size ≤ k) ∧ Kept (fun k => k = p) w (w5.setCell ⟨p, 3, none⟩ (.slice (some ⟨g5, 0, none⟩) 1 cap5))) := by
          refine ⟨.slice (some ⟨g5, 0, none⟩) 1 cap5, planned2 (HD3.out.below HB5.out) (falls_of_row HO5.out) (fun e => ?_), fun k hk => ?_, ?_⟩
          · simp only [Value.ownBlock, Option.some.injEq] at e
            omega
          · simp only [Value.ownBlock, Option.some.injEq] at hk
            have := HS3.out
            omega
          · exact (HK3.out.trans (Kept.of_below HB5.out)).trans (Kept.setCell _ _ _ _ _ rfl)
        clear HB5 HO5 HO1 HN1 H1C
        go_wp2_with fail
        obtain ⟨v, hv⟩ := HFN.out
        exact ⟨.inr ⟨by simp, v, hv⟩, by simp [intOf]⟩
    · obtain ⟨a, cp, hv⟩ : ∃ a cp, v = .slice a 1 cp := by
        rcases HV.out.1.parts.plan with ⟨_, e⟩ | ⟨g, o, cap, cur, e, _⟩
        · cases e
        · exact ⟨_, _, e⟩
      subst hv
      have c3 := HV.out.1.blk.cells.c3
      simp only at c3
      go_wp2_with fail
      refine (fsort_small a cp _ 1 (by omega) _).mono ?_
      rintro e w1 ⟨rfl, rfl⟩
      go_wp2
      go_end0
      refine ⟨rfl, ?_⟩
      refine moved HD.out.1 HD.out.2 HV.out.1 ?_ HV.out.2.2 fun k x => .inl x
      rintro k (x | x | x | x | x)
      · exact .inl (.inl x)
      · exact .inl (.inr (.inl x))
      · exact .inl (.inr (.inr (.inl x)))
      · exact .inl (.inr (.inr (.inr (.inl x))))
      · exact .inr (HV.out.2.1 k x)

end

end Go.Proofs.YtgmfgkdecpldeaaGreat

namespace Go.Proofs.YtgmfgkdecpldeaaGreat
open Go.RowKit
set_option linter.unusedVariables false

section
variable {w : World} {p : Nat} {S : Nat → Prop} {l : LG}

set_option maxHeartbeats 800000 in
set_option maxRecDepth 8000 in
theorem flush_yes {D : Nat → Prop} {d : DG} (h : IsLog w p S l) (hd : IsDisk w l.dp D d) (ha : ∀ k, S k → ¬ D k) (hh : l.half = false) (hf : l.flushed < l.bytes.length) (hb : l.bytes.length ≤ 4194304)
    (d1 : d.dead = false) (d2 : NotDue d) (d2' : NotDue (putD d ⟨(l.bytes.drop l.flushed).toArray⟩)) (d3 : d.calls ≤ 100000) (d4 : d.log.length = l.flushed) (up : Nat) (hto : l.flushed + 1 ≤ up) :
    Calls Tryz.prog 84 #[.pointer (some ⟨p, 0, none⟩), .int .u64 up] w fun e w' => e = .returned (.int .i64 0) ∧
      ∃ D', IsLog w' p S { l with flushed := l.bytes.length } ∧ IsDisk w' l.dp D' (flushD l d) ∧ (∀ k, S k → ¬ D' k) ∧ (∀ k, D' k → D k ∨ w.heap.size ≤ k) ∧ Kept (fun k => S k ∨ D k) w w' := by
  have hsz : (ByteArray.mk (l.bytes.drop l.flushed).toArray).size = l.bytes.length - l.flushed := by rw [bytes_size]; simp
  have HM : Hid (∀ W : World, W.heap = w.heap → Calls Tryz.prog 114 #[.pointer (some ⟨p, 0, none⟩)] W fun e w' => e = .returned (.string ⟨(l.bytes.drop l.flushed).toArray⟩) ∧ w' = W.drew) := fun W hW => missing_out (h.same (fun k hk => by rw [hW]) (by rw [hW]; exact Nat.le_refl _)) hh hf hb
  have HFL : Hid (∀ W : World, W.heap = w.heap → Calls Tryz.prog 24 #[.pointer (some ⟨p, 0, none⟩)] W fun e w' => e = .returned (.int .u64 ((l.flushed + 1 : Nat) : Int)) ∧ w' = W) := fun W hW => flushed_out (h.same (fun k hk => by rw [hW]) (by rw [hW]; exact Nat.le_refl _)) (by omega)
  have HAL : Hid (∀ W : World, W.heap = w.heap → Calls Tryz.prog 113 #[.pointer (some ⟨l.dp, 0, none⟩), .string ⟨(l.bytes.drop l.flushed).toArray⟩] W fun x w' => x = .returned (.int .i64 0) ∧ ∃ S', IsDisk w' l.dp S' (putD d ⟨(l.bytes.drop l.flushed).toArray⟩) ∧ Moves D S' W w') :=
    fun W hW => appendLog_yes (hd.same (fun k hk => by rw [hW]) (by rw [hW]; exact Nat.le_refl _)) d1 d2 (by omega) _ (by rw [hsz]; omega)
  have HH := hid h
  have HD := hid hd
  have HA := hid ha
  obtain ⟨ba, bc, sv, hC⟩ := h.lcells
  have c0 := hC.c0
  have c1 := hC.c1
  have c3 := hC.c3
  have c4 := hC.c4
  have k0 : ((l.flushed : Int) == (l.bytes.length : Int)) = false := by rw [beq_eq_false_iff_ne]; omega
  have k1 : decide ((up : Int) < ((l.flushed + 1 : Nat) : Int)) = false := by simp; omega
  have k2 : decide ((up : Int) < (l.flushed : Int) + 1) = false := by simp; omega
  clear hC h hd ha
  go_enter Tryz.func84, Tryz.ntmps84
  go_wp2_with fail
  go_region_held3 (fun w' => w'.cell? ⟨p, 1, none⟩ = some (.slice ba l.bytes.length bc) ∧ w'.cell? ⟨p, 3, none⟩ = some (.int .i64 l.flushed)) (first | exact ⟨c1, c3⟩ | go_keep)
    (first | (go_at_call 24; refine (HFL.out w.drew rfl).mono ?_; rintro x w3 ⟨rfl, rfl⟩))
  go_wp2_with fail
  have HHX : Hid (IsLog w.drew.drew.drew p S l) := HH.out.same (fun _ _ => rfl) (Nat.le_refl _)
  clear c1 c3 c4
  go_region_held3 (fun w' => w'.cell? ⟨p, 0, none⟩ = some (.pointer (some ⟨l.dp, 0, none⟩))) (first | exact c0 | go_keep | assumption)
    (first | (go_at_call 114; refine (HM.out w.drew.drew rfl).mono ?_; rintro x w3 ⟨rfl, rfl⟩) | (go_at_call 113; refine (HAL.out w.drew.drew.drew rfl).mono ?_; rintro x w5 ⟨rfl, D5, hd5, hm5⟩; have hb5 := HHX.out.beside hm5 HA.out; have hc0 : w5.cell? ⟨p, 0, none⟩ = some (.pointer (some ⟨l.dp, 0, none⟩)) := hb5.1.c0))
  have hpS : S p := HH.out.has
  have H5 : Hid (IsLog w5 p S l ∧ (∀ k, S k → ¬ D5 k) ∧ IsDisk w5 l.dp D5 (putD d ⟨(l.bytes.drop l.flushed).toArray⟩) ∧ Moves D D5 w w5) := ⟨hb5.1, hb5.2, hd5, hm5.undrew.undrew.undrew⟩
  obtain ⟨ba5, bc5, sv5, hC5⟩ := hb5.1.lcells
  have q1 := hC5.c1
  have q4 := hC5.c4
  have q0 := hC5.c0
  have f4 := hC5.fr 4
  clear hC5 hb5 hd5 hm5 hc0 c0
  go_wp2_with fail
  have hL6 : IsLog (w5.setCell ⟨p, 4, none⟩ (.bool true)) p S { l with half := true } := H5.out.1.set (fun _ _ => rfl) rfl rfl
  have hD6 : IsDisk (w5.setCell ⟨p, 4, none⟩ (.bool true)) l.dp D5 (putD d ⟨(l.bytes.drop l.flushed).toArray⟩) := H5.out.2.2.1.same (fun k hk => heap_set _ _ _ _ (fun e => H5.out.2.1 p hpS (e ▸ hk))) (by simp)
  refine (syncLog_yes hD6 d1 d2' (by show d.calls + 1 ≤ _; omega) (by show (d.log ++ _).length ≤ _; simp; omega)).mono ?_
  rintro x w6 ⟨rfl, D6, hd6, hm6⟩
  have hb6 := hL6.beside hm6 H5.out.2.1
  obtain ⟨ba6, bc6, sv6, hC6⟩ := hb6.1.lcells
  have r1 : w6.cell? ⟨p, 1, none⟩ = some (.slice ba6 l.bytes.length bc6) := hC6.c1
  have r3 : w6.cell? ⟨p, 3, none⟩ = some (.int .i64 l.flushed) := hC6.c3
  have r4 : w6.cell? ⟨p, 4, none⟩ = some (.bool true) := hC6.c4
  have g3 := hC6.fr 3
  have g4 := hC6.fr 4
  have HF : Hid (∃ D', IsLog ((w6.setCell ⟨p, 4, none⟩ (.bool false)).setCell ⟨p, 3, none⟩ (.int .i64 l.bytes.length)) p S { l with flushed := l.bytes.length } ∧ IsDisk ((w6.setCell ⟨p, 4, none⟩ (.bool false)).setCell ⟨p, 3, none⟩ (.int .i64 l.bytes.length)) l.dp D' (flushD l d) ∧ (∀ k, S k → ¬ D' k) ∧ (∀ k, D' k → D k ∨ w.heap.size ≤ k) ∧ Kept (fun k => S k ∨ D k) w ((w6.setCell ⟨p, 4, none⟩ (.bool false)).setCell ⟨p, 3, none⟩ (.int .i64 l.bytes.length))) := by
    have e1 : ({ l with flushed := l.bytes.length } : LG) = { l with half := false, flushed := l.bytes.length } := by rw [← hh]
    have hm : Moves (fun k => S k ∨ D k) (fun k => S k ∨ D6 k) w w6 := by
      have a := H5.out.2.2.2
      have h1 : Moves (fun k => S k ∨ D k) (fun k => S k ∨ D5 k) w w5 := ⟨a.1.mono fun _ x => .inr x, fun k x => by
        rcases x with x | x
        · exact .inl (.inl x)
        · rcases a.2 k x with y | y
          · exact .inl (.inr y)
          · exact .inr y⟩
      have h2 : Moves (fun k => S k ∨ D5 k) (fun k => S k ∨ D5 k) w5 (w5.setCell ⟨p, 4, none⟩ (.bool true)) := Moves.of_kept (Kept.setCell _ _ _ _ _ (.inl hpS))
      have h3 : Moves (fun k => S k ∨ D5 k) (fun k => S k ∨ D6 k) (w5.setCell ⟨p, 4, none⟩ (.bool true)) w6 := ⟨hm6.1.mono fun _ x => .inr x, fun k x => by
        rcases x with x | x
        · exact .inl (.inl x)
        · rcases hm6.2 k x with y | y
          · exact .inl (.inr y)
          · exact .inr y⟩
      exact (h1.trans h2).trans h3
    have hp6 : ¬ D6 p := hb6.2 p hpS
    refine ⟨D6, ?_, ?_, hb6.2, fun k hk => ?_, ?_⟩
    · rw [e1]
      have s1 : IsLog (w6.setCell ⟨p, 4, none⟩ (.bool false)) p S { l with half := false } := hb6.1.set (fun _ _ => rfl) rfl rfl
      exact s1.set (fun _ _ => rfl) rfl rfl
    · refine IsDisk.same (w := w6) hd6 (fun k hk => ?_) (by simp)
      have ne : k ≠ p := fun e => hp6 (e ▸ hk)
      exact (heap_set _ _ _ _ ne).trans (heap_set _ _ _ _ ne)
    · rcases hm.2 k (.inr hk) with (y | y) | y
      · exact absurd hk (hb6.2 k y)
      · exact .inl y
      · exact .inr y
    · exact ((hm.kept (Kept.setCell _ _ _ _ _ (.inl hpS))).kept (Kept.setCell _ _ _ _ _ (.inl hpS))).1
  clear hC6 hb6 hd6 hm6 hL6 hD6
  go_wp2
  go_ret
  exact ⟨rfl, HF.out⟩


set_option maxHeartbeats 800000 in
set_option maxRecDepth 8000 in
theorem flush_fall1 {D : Nat → Prop} {d : DG} (h : IsLog w p S l) (hd : IsDisk w l.dp D d) (ha : ∀ k, S k → ¬ D k) (hh : l.half = false) (hf : l.flushed < l.bytes.length) (hb : l.bytes.length ≤ 4194304)
    (d1 : d.dead = false) (d0 : d.ok) {f : FG} {r : List FG} (d2 : d.plan = f :: r) (d2' : f.call = d.calls) (d5 : f.keep < 18446744073709551616) (d3 : d.calls ≤ 100000) (d4 : d.log.length = l.flushed) (up : Nat) (hto : l.flushed + 1 ≤ up) :
    Calls Tryz.prog 84 #[.pointer (some ⟨p, 0, none⟩), .int .u64 up] w fun e w' => e = .returned (.int .i64 7) ∧
      ∃ D', IsDisk w' l.dp D' (failD f { d with plan := r }) ∧ Moves D D' w w' := by
  have hsz : (ByteArray.mk (l.bytes.drop l.flushed).toArray).size = l.bytes.length - l.flushed := by rw [bytes_size]; simp
  have HM : Hid (∀ W : World, W.heap = w.heap → Calls Tryz.prog 114 #[.pointer (some ⟨p, 0, none⟩)] W fun e w' => e = .returned (.string ⟨(l.bytes.drop l.flushed).toArray⟩) ∧ w' = W.drew) := fun W hW => missing_out (h.same (fun k hk => by rw [hW]) (by rw [hW]; exact Nat.le_refl _)) hh hf hb
  have HFL : Hid (∀ W : World, W.heap = w.heap → Calls Tryz.prog 24 #[.pointer (some ⟨p, 0, none⟩)] W fun e w' => e = .returned (.int .u64 ((l.flushed + 1 : Nat) : Int)) ∧ w' = W) := fun W hW => flushed_out (h.same (fun k hk => by rw [hW]) (by rw [hW]; exact Nat.le_refl _)) (by omega)
  have HAL : Hid (∀ W : World, W.heap = w.heap → Calls Tryz.prog 113 #[.pointer (some ⟨l.dp, 0, none⟩), .string ⟨(l.bytes.drop l.flushed).toArray⟩] W fun x w' => x = .returned (.int .i64 7) ∧ ∃ S', IsDisk w' l.dp S' (failD f { d with plan := r }) ∧ Moves D S' W w') :=
    fun W hW => appendLog_falls (hd.same (fun k hk => by rw [hW]) (by rw [hW]; exact Nat.le_refl _)) d1 d0 d2 d2' d5 _ (by rw [hsz]; omega)
  have HH := hid h
  have HD := hid hd
  have HA := hid ha
  obtain ⟨ba, bc, sv, hC⟩ := h.lcells
  have c0 := hC.c0
  have c1 := hC.c1
  have c3 := hC.c3
  have c4 := hC.c4
  have k0 : ((l.flushed : Int) == (l.bytes.length : Int)) = false := by rw [beq_eq_false_iff_ne]; omega
  have k1 : decide ((up : Int) < ((l.flushed + 1 : Nat) : Int)) = false := by simp; omega
  have k2 : decide ((up : Int) < (l.flushed : Int) + 1) = false := by simp; omega
  clear hC h hd ha
  go_enter Tryz.func84, Tryz.ntmps84
  go_wp2_with fail
  go_region_held3 (fun w' => w'.cell? ⟨p, 1, none⟩ = some (.slice ba l.bytes.length bc) ∧ w'.cell? ⟨p, 3, none⟩ = some (.int .i64 l.flushed)) (first | exact ⟨c1, c3⟩ | go_keep)
    (first | (go_at_call 24; refine (HFL.out w.drew rfl).mono ?_; rintro x w3 ⟨rfl, rfl⟩))
  go_wp2_with fail
  have HHX : Hid (IsLog w.drew.drew.drew p S l) := HH.out.same (fun _ _ => rfl) (Nat.le_refl _)
  clear c1 c3 c4
  go_region_held3 (fun w' => w'.cell? ⟨p, 0, none⟩ = some (.pointer (some ⟨l.dp, 0, none⟩))) (first | exact c0 | go_keep | assumption)
    (first | (go_at_call 114; refine (HM.out w.drew.drew rfl).mono ?_; rintro x w3 ⟨rfl, rfl⟩) | (go_at_call 113; refine (HAL.out w.drew.drew.drew rfl).mono ?_; rintro x w5 ⟨rfl, D5, hd5, hm5⟩; have hb5 := HHX.out.beside hm5 HA.out; have hc0 : w5.cell? ⟨p, 0, none⟩ = some (.pointer (some ⟨l.dp, 0, none⟩)) := hb5.1.c0))
  have HF : Hid (∃ D', IsDisk w5 l.dp D' (failD f { d with plan := r }) ∧ Moves D D' w w5) := ⟨D5, hd5, hm5.undrew.undrew.undrew⟩
  clear hb5 hd5 hm5 hc0 c0
  go_wp2
  go_ret
  exact ⟨rfl, HF.out⟩

set_option maxHeartbeats 800000 in
set_option maxRecDepth 8000 in
theorem flush_fall2 {D : Nat → Prop} {d : DG} (h : IsLog w p S l) (hd : IsDisk w l.dp D d) (ha : ∀ k, S k → ¬ D k) (hh : l.half = false) (hf : l.flushed < l.bytes.length) (hb : l.bytes.length ≤ 4194304)
    (d1 : d.dead = false) (d0 : (putD d ⟨(l.bytes.drop l.flushed).toArray⟩).ok) {f : FG} {r : List FG} (d2 : d.plan = f :: r) (d2' : f.call = d.calls + 1) (d5 : f.keep < 18446744073709551616) (d3 : d.calls ≤ 100000) (d4 : d.log.length = l.flushed) (up : Nat) (hto : l.flushed + 1 ≤ up) :
    Calls Tryz.prog 84 #[.pointer (some ⟨p, 0, none⟩), .int .u64 up] w fun e w' => e = .returned (.int .i64 7) ∧
      ∃ D', IsDisk w' l.dp D' (failD f { putD d ⟨(l.bytes.drop l.flushed).toArray⟩ with plan := r }) ∧ (∀ k, D' k → D k ∨ w.heap.size ≤ k) ∧ Kept (fun k => S k ∨ D k) w w' := by
  have hsz : (ByteArray.mk (l.bytes.drop l.flushed).toArray).size = l.bytes.length - l.flushed := by rw [bytes_size]; simp
  have HM : Hid (∀ W : World, W.heap = w.heap → Calls Tryz.prog 114 #[.pointer (some ⟨p, 0, none⟩)] W fun e w' => e = .returned (.string ⟨(l.bytes.drop l.flushed).toArray⟩) ∧ w' = W.drew) := fun W hW => missing_out (h.same (fun k hk => by rw [hW]) (by rw [hW]; exact Nat.le_refl _)) hh hf hb
  have HFL : Hid (∀ W : World, W.heap = w.heap → Calls Tryz.prog 24 #[.pointer (some ⟨p, 0, none⟩)] W fun e w' => e = .returned (.int .u64 ((l.flushed + 1 : Nat) : Int)) ∧ w' = W) := fun W hW => flushed_out (h.same (fun k hk => by rw [hW]) (by rw [hW]; exact Nat.le_refl _)) (by omega)
  have HAL : Hid (∀ W : World, W.heap = w.heap → Calls Tryz.prog 113 #[.pointer (some ⟨l.dp, 0, none⟩), .string ⟨(l.bytes.drop l.flushed).toArray⟩] W fun x w' => x = .returned (.int .i64 0) ∧ ∃ S', IsDisk w' l.dp S' (putD d ⟨(l.bytes.drop l.flushed).toArray⟩) ∧ Moves D S' W w') :=
    fun W hW => appendLog_yes (hd.same (fun k hk => by rw [hW]) (by rw [hW]; exact Nat.le_refl _)) d1 (.inr ⟨f, r, d2, by omega⟩) (by omega) _ (by rw [hsz]; omega)
  have HH := hid h
  have HD := hid hd
  have HA := hid ha
  obtain ⟨ba, bc, sv, hC⟩ := h.lcells
  have c0 := hC.c0
  have c1 := hC.c1
  have c3 := hC.c3
  have c4 := hC.c4
  have k0 : ((l.flushed : Int) == (l.bytes.length : Int)) = false := by rw [beq_eq_false_iff_ne]; omega
  have k1 : decide ((up : Int) < ((l.flushed + 1 : Nat) : Int)) = false := by simp; omega
  have k2 : decide ((up : Int) < (l.flushed : Int) + 1) = false := by simp; omega
  clear hC h hd ha
  go_enter Tryz.func84, Tryz.ntmps84
  go_wp2_with fail
  go_region_held3 (fun w' => w'.cell? ⟨p, 1, none⟩ = some (.slice ba l.bytes.length bc) ∧ w'.cell? ⟨p, 3, none⟩ = some (.int .i64 l.flushed)) (first | exact ⟨c1, c3⟩ | go_keep)
    (first | (go_at_call 24; refine (HFL.out w.drew rfl).mono ?_; rintro x w3 ⟨rfl, rfl⟩))
  go_wp2_with fail
  have HHX : Hid (IsLog w.drew.drew.drew p S l) := HH.out.same (fun _ _ => rfl) (Nat.le_refl _)
  clear c1 c3 c4
  go_region_held3 (fun w' => w'.cell? ⟨p, 0, none⟩ = some (.pointer (some ⟨l.dp, 0, none⟩))) (first | exact c0 | go_keep | assumption)
    (first | (go_at_call 114; refine (HM.out w.drew.drew rfl).mono ?_; rintro x w3 ⟨rfl, rfl⟩) | (go_at_call 113; refine (HAL.out w.drew.drew.drew rfl).mono ?_; rintro x w5 ⟨rfl, D5, hd5, hm5⟩; have hb5 := HHX.out.beside hm5 HA.out; have hc0 : w5.cell? ⟨p, 0, none⟩ = some (.pointer (some ⟨l.dp, 0, none⟩)) := hb5.1.c0))
  have hpS : S p := HH.out.has
  have H5 : Hid (IsLog w5 p S l ∧ (∀ k, S k → ¬ D5 k) ∧ IsDisk w5 l.dp D5 (putD d ⟨(l.bytes.drop l.flushed).toArray⟩) ∧ Moves D D5 w w5) := ⟨hb5.1, hb5.2, hd5, hm5.undrew.undrew.undrew⟩
  obtain ⟨ba5, bc5, sv5, hC5⟩ := hb5.1.lcells
  have q1 := hC5.c1
  have q4 := hC5.c4
  have q0 := hC5.c0
  have f4 := hC5.fr 4
  clear hC5 hb5 hd5 hm5 hc0 c0
  go_wp2_with fail
  have hL6 : IsLog (w5.setCell ⟨p, 4, none⟩ (.bool true)) p S { l with half := true } := H5.out.1.set (fun _ _ => rfl) rfl rfl
  have hD6 : IsDisk (w5.setCell ⟨p, 4, none⟩ (.bool true)) l.dp D5 (putD d ⟨(l.bytes.drop l.flushed).toArray⟩) := H5.out.2.2.1.same (fun k hk => heap_set _ _ _ _ (fun e => H5.out.2.1 p hpS (e ▸ hk))) (by simp)
  refine (syncLog_falls hD6 d1 d0 d2 (by rw [d2']; rfl) d5).mono ?_
  rintro x w6 ⟨rfl, D6, hd6, hm6⟩
  have HF : Hid (∃ D', IsDisk w6 l.dp D' (failD f { putD d ⟨(l.bytes.drop l.flushed).toArray⟩ with plan := r }) ∧ (∀ k, D' k → D k ∨ w.heap.size ≤ k) ∧ Kept (fun k => S k ∨ D k) w w6) := by
    have hm : Moves (fun k => S k ∨ D k) (fun k => S k ∨ D6 k) w w6 := by
      have a := H5.out.2.2.2
      have h1 : Moves (fun k => S k ∨ D k) (fun k => S k ∨ D5 k) w w5 := ⟨a.1.mono fun _ x => .inr x, fun k x => by
        rcases x with x | x
        · exact .inl (.inl x)
        · rcases a.2 k x with y | y
          · exact .inl (.inr y)
          · exact .inr y⟩
      have h2 : Moves (fun k => S k ∨ D5 k) (fun k => S k ∨ D5 k) w5 (w5.setCell ⟨p, 4, none⟩ (.bool true)) := Moves.of_kept (Kept.setCell _ _ _ _ _ (.inl hpS))
      have h3 : Moves (fun k => S k ∨ D5 k) (fun k => S k ∨ D6 k) (w5.setCell ⟨p, 4, none⟩ (.bool true)) w6 := ⟨hm6.1.mono fun _ x => .inr x, fun k x => by
        rcases x with x | x
        · exact .inl (.inl x)
        · rcases hm6.2 k x with y | y
          · exact .inl (.inr y)
          · exact .inr y⟩
      exact (h1.trans h2).trans h3
    have hb6 := hL6.beside hm6 H5.out.2.1
    refine ⟨D6, hd6, fun k hk => ?_, hm.1⟩
    rcases hm.2 k (.inr hk) with (y | y) | y
    · exact absurd hk (hb6.2 k y)
    · exact .inl y
    · exact .inr y
  clear hd6 hm6 hL6 hD6
  go_wp2
  go_ret
  exact ⟨rfl, HF.out⟩

end

end Go.Proofs.YtgmfgkdecpldeaaGreat

namespace Go.Proofs.YtgmfgkdecpldeaaGreat
open Go.RowKit
set_option linter.unusedVariables false

/-- The disk once its torn end is cut away. -/
def tornD (d : DG) (n : Nat) : DG := { cutD d n with calls := (cutD d n).calls + 1, sl := (cutD d n).log.length }

set_option maxHeartbeats 800000 in
set_option maxRecDepth 8000 in
theorem open_torn {w : World} {p : Nat} {D : Nat → Prop} {d : DG} (h : IsDisk w p D d) (hd : d.dead = false) (hp : d.plan = []) (hc : d.calls ≤ 100000) (hl : d.log.length ≤ 4194304) (t : Nat) (ht : (scan ⟨d.log.toArray⟩ (d.log.length + 1) 0).2 = t) (htl : t < d.log.length) :
    Calls Tryz.prog 19 #[.pointer (some ⟨p, 0, none⟩)] w fun e w' => ∃ q, e = .returned (.tuple #[.pointer (some ⟨q, 0, none⟩), .int .i64 ((d.log.length - t : Nat) : Int), .int .i64 0]) ∧
      ∃ S' D', IsLog w' q S' (openL p d) ∧ IsDisk w' p D' (tornD d t) ∧ (∀ k, S' k → w.heap.size ≤ k) ∧ (∀ k, S' k → ¬ D' k) ∧ Moves D D' w w' := by
  have hsz : (ByteArray.mk d.log.toArray).size = d.log.length := bytes_size _
  have HD : Hid (IsDisk w p D d) := h
  have HL : Hid (openL p d = ⟨p, (ByteArray.mk d.log.toArray).data.toList.take (scan ⟨d.log.toArray⟩ ((ByteArray.mk d.log.toArray).size + 1) 0).2, (scan ⟨d.log.toArray⟩ ((ByteArray.mk d.log.toArray).size + 1) 0).1, (scan ⟨d.log.toArray⟩ ((ByteArray.mk d.log.toArray).size + 1) 0).2, false, 0⟩) := by
    show _ = _
    rw [hsz]
    rfl
  have hT : (scan ⟨d.log.toArray⟩ ((ByteArray.mk d.log.toArray).size + 1) 0).2 = t := by rw [hsz]; exact ht
  have HR : Hid (Calls Tryz.prog 53 #[.pointer (some ⟨p, 0, none⟩)] w fun x w' => x = .returned (.tuple #[.string ⟨d.log.toArray⟩, .int .i64 0]) ∧ Below w.heap.size w w') := readLog_out h hd
  generalize openL p d = L at *
  generalize ByteArray.mk d.log.toArray = all at *
  clear ht h
  go_enter Tryz.func19, Tryz.ntmps19
  go_wp2_with fail
  refine HR.out.mono ?_
  rintro e w1 ⟨rfl, b1⟩
  go_wp2_with fail
  have hlog : LogAt (w1.alloc (.cells (lvals (.slice none 0 0) (.slice none 0 0) (log0 p)) 105)) w1.heap.size (.slice none 0 0) (.slice none 0 0) (log0 p) :=
    ⟨Blk.made _ _ _, .inl ⟨rfl, rfl⟩, World.ownsRow_nil _ _ _ _⟩
  have hb1 : Below w.heap.size w (w1.alloc (.cells (lvals (.slice none 0 0) (.slice none 0 0) (log0 p)) 105)) := b1.alloc b1.size _
  refine (take_any _ w1.heap.size p all hlog (by omega)).mono ?_
  rintro e w2 ⟨rfl, bv, sv, hL, hK, hnew⟩
  rw [← HL.out] at hL
  have hb2 : Below w.heap.size w w2 := ⟨hK.os.trans hb1.os, hK.tape.trans hb1.tape, hK.output.trans hb1.output, Nat.le_trans hb1.size hK.size, fun k hk => (hK.block k (Nat.lt_of_lt_of_le hk hb1.size) (fun e => by have := b1.size; omega)).trans (hb1.block k hk)⟩
  have HF : Hid ((∃ S', IsLog w2 w1.heap.size S' L ∧ ∀ k, S' k → w.heap.size ≤ k) ∧ Below w.heap.size w w2) := by
    refine ⟨⟨lhas w1.heap.size bv sv, ⟨bv, sv, hL, fun _ x => x, fun k hk => hL.lt hk⟩, ?_⟩, hb2⟩
    have h1 := b1.size
    rintro k (hk | hk)
    · omega
    · have := hnew k hk; simp at this; omega
  have hfl : L.flushed = t := by rw [HL.out]; exact hT
  have c3 := hL.cells.c3
  rw [hfl] at c3
  have hD2 := hid (HD.out.below hb2)
  clear hL hK hnew hb2 hb1 hlog b1 HR
  have k1 : ((all.size : Int) - (t : Int) == 0) = false := by rw [beq_eq_false_iff_ne]; omega
  have k2 : ((d.log.length : Int) - (t : Int) == 0) = false := by rw [beq_eq_false_iff_ne]; omega
  go_wp2_with fail
  refine (cutLog_out hD2.out hd hp (by omega) (by omega) t (by omega)).mono ?_
  rintro e w3 ⟨rfl, D3, hd3, hm3⟩
  have HD3 := hid hd3
  have HM3 := hid hm3
  clear hd3 hm3
  go_wp2_with fail
  refine (syncLog_out HD3.out hd hp (by show d.calls + 1 ≤ _; omega) (by show (d.log.take t).length ≤ _; rw [List.length_take]; omega)).mono ?_
  rintro e w4 ⟨rfl, D4, hd4, hm4⟩
  have HZ : Hid (∃ S' D', IsLog w4 w1.heap.size S' L ∧ IsDisk w4 p D' (tornD d t) ∧ (∀ k, S' k → w.heap.size ≤ k) ∧ (∀ k, S' k → ¬ D' k) ∧ Moves D D' w w4) := by
    obtain ⟨⟨S', hS', hn'⟩, hb⟩ := HF.out
    have ha : ∀ k, S' k → ¬ D k := fun k x y => by have := hn' k x; have := HD.out.lt y; omega
    have h3 := hS'.beside HM3.out ha
    have h4 := h3.1.beside hm4 h3.2
    exact ⟨S', D4, h4.1, hd4, hn', h4.2, ((Moves.of_kept (Kept.of_below hb)).trans HM3.out).trans hm4⟩
  have ee : (d.log.length : Int) - (t : Int) = ((d.log.length - t : Nat) : Int) := by omega
  clear hd4 hm4 HM3 HD3
  go_wp2
  go_ret3
  exact ⟨w1.heap.size, by rfl, HZ.out⟩

end Go.Proofs.YtgmfgkdecpldeaaGreat

namespace Go.Proofs.YtgmfgkdecpldeaaGreat
open Go.RowKit Go.Sort Go.Shelf
set_option linter.unusedVariables false
set_option linter.unusedSimpArgs false

/-- A disk with a plan of one fall that is still to come, on which nothing is loose. -/
structure DFk (d : DG) (f : FG) (N : Nat) : Prop where
  up : d.dead = false
  np : d.plan = [f]
  due : (d.calls : Int) ≤ f.call
  kp : f.keep < 18446744073709551616
  ok : d.ok
  no : d.loose = []
  fr : ∀ q, d.fresh q = none
  nf : d.nF ≤ 10
  calls : d.calls ≤ N
  ns : d.nS ≤ N

theorem DFk.bare {d : DG} {f : FG} {N : Nat} (h : DFk d f N) : DOk { d with plan := [] } N := ⟨h.up, rfl, ⟨h.ok.loose, h.ok.sure, h.ok.n, h.ok.log, h.ok.sl⟩, h.no, h.fr, h.nf, h.calls, h.ns⟩

theorem DFk.read {d : DG} {f : FG} {N : Nat} (h : DFk d f N) (q : Nat) : readD d q = d.sure q := by unfold readD; rw [h.fr q]; rfl

/-- The power has failed: what is left of dd. -/
structure Fell (w w' : World) (dp : Nat) (A : Nat → Prop) (f : FG) (dd : DG) : Prop where
  ex : ∃ D, IsDisk w' dp D (failD f { dd with plan := [] }) ∧ ∀ k, D k → A k ∨ w.heap.size ≤ k
  kept : Kept A w w'

theorem Fell.trans {u w w' : World} {dp : Nat} {A A' : Nat → Prop} {f : FG} {dd : DG} (hm : Moves A A' u w) (h : Fell w w' dp A' f dd) : Fell u w' dp A f dd := by
  obtain ⟨⟨D, hD, hn⟩, hk⟩ := h
  refine ⟨⟨D, hD, fun k x => ?_⟩, (hm.trans ⟨hk, fun _ y => .inl y⟩).1⟩
  rcases hn k x with y | y
  · exact hm.2 k y
  · exact .inr (Nat.le_trans hm.1.size y)

theorem Fell.mono {w w' : World} {dp : Nat} {A A' : Nat → Prop} {f : FG} {dd : DG} (h : Fell w w' dp A f dd) (hA : ∀ k, A k → A' k) : Fell w w' dp A' f dd := by
  obtain ⟨⟨D, hD, hn⟩, hk⟩ := h
  exact ⟨⟨D, hD, fun k x => by rcases hn k x with y | y; exact .inl (hA k y); exact .inr y⟩, hk.mono hA⟩

theorem wr_ok' {d : DG} {f : FG} {N : Nat} (h : DFk d f N) (hN : N ≤ 900000) {q : Nat} (hq : q < 4294967296) {s : ByteArray} (hs : s.size = 512) : (wrD d q s).ok := by
  have := wr_ok h.bare hN hq hs
  exact ⟨this.loose, this.sure, this.n, this.log, this.sl⟩

theorem DFk.ws {d : DG} {f : FG} {N : Nat} (h : DFk d f N) (hN : N ≤ 900000) {q : Nat} (hq : 1 ≤ q) {s : ByteArray} (hs : s.size = 512) (h2 : (d.calls : Int) + 2 ≤ f.call) : DFk (wsD d q s) f (N + 2) ∧ ∀ r, readD (wsD d q s) r = if r = q then s else readD d r := by
  obtain ⟨k, hr⟩ := h.bare.ws hN hq hs
  refine ⟨⟨h.up, h.np, by show ((d.calls + 1 + 1 : Nat) : Int) ≤ f.call; omega, h.kp, ⟨k.ok.loose, k.ok.sure, k.ok.n, k.ok.log, k.ok.sl⟩, rfl, fun _ => rfl, k.nf, k.calls, k.ns⟩, fun r => ?_⟩
  exact hr r

set_option maxHeartbeats 1600000 in
theorem writeSure_fall {w : World} {p : Nat} {S A : Nat → Prop} {P : PG} {l : LG} {d : DG} {f : FG} {N : Nat} (hS : DevS w p S A P l d) (hd : DFk d f N) (hN : N ≤ 900000) (q : Nat) (hq : q < 4294967296) (hc : checkE d.room q = 0) (s : ByteArray) (hs : s.size = 512) :
    Calls Tryz.prog 85 #[.pointer (some ⟨p, 0, none⟩), .int .u32 q, .string s] w fun e w' =>
      (e = .returned (.int .i64 0) ∧ (d.calls : Int) + 2 ≤ f.call ∧ ∃ A', DevS w' p S A' P l (wsD d q s) ∧ Moves A A' w w') ∨
      (e = .returned (.int .i64 7) ∧ f.call ≤ (d.calls : Int) + 1 ∧ (Fell w w' P.dp A f d ∨ Fell w w' P.dp A f (wrD d q s))) := by
  obtain ⟨fb, pv, hC⟩ := hS.pcells
  have c0 := hC.c0
  clear hC
  obtain ⟨D, hD, hDA, hst⟩ := hS.disk
  have h1 := hd.calls
  have hdue := hd.due
  have hln : d.loose.length = 0 := by rw [hd.no]; rfl
  by_cases e1 : f.call = d.calls
  · have HW := hid (write_falls hD hd.up hd.ok hd.np e1 hd.kp q hq hc s hs)
    go_enter Tryz.func85, Tryz.ntmps85
    go_wp2_with fail
    refine HW.out.mono ?_
    rintro e w1 ⟨rfl, D1, hD1, hm1⟩
    have HF : Hid (Fell w w1 P.dp A f d) := ⟨⟨D1, hD1, fun k x => by rcases hm1.2 k x with y | y; exact .inl (hDA k y); exact .inr y⟩, hm1.1.mono hDA⟩
    go_wp2
    go_ret
    exact .inr ⟨rfl, by omega, .inl HF.out⟩
  · have hnd : NotDue d := .inr ⟨f, [], hd.np, e1⟩
    have HW := hid (write_yes hD hd.up hnd ⟨by omega, by omega, by have := hd.nf; omega⟩ q hq hc s hs)
    go_enter Tryz.func85, Tryz.ntmps85
    go_wp2_with fail
    refine HW.out.mono ?_
    rintro e w1 ⟨rfl, D1, hD1, hm1⟩
    obtain ⟨A1, hS1, hmA1⟩ := hst w1 D1 _ hD1 hm1
    obtain ⟨fb1, pv1, hC1⟩ := hS1.pcells
    have c0' := hC1.c0
    obtain ⟨D1', hD1', hDA1, hst1⟩ := hS1.disk
    have hcw : (wrD d q s).calls = d.calls + 1 := rfl
    by_cases e2 : f.call = ((d.calls + 1 : Nat) : Int)
    · have HY := hid (sync_falls hD1' (show (wrD d q s).dead = false from hd.up) (wr_ok' hd hN hq hs) (show (wrD d q s).plan = f :: [] from hd.np) (by rw [hcw]; exact e2) hd.kp)
      clear HW hD hst hD1 hm1 hC1 c0 hS
      go_wp2_with fail
      refine HY.out.mono ?_
      rintro e w2 ⟨rfl, D2, hD2, hm2⟩
      have HF : Hid (Fell w w2 P.dp A f (wrD d q s)) := Fell.trans hmA1 ⟨⟨D2, hD2, fun k x => by rcases hm2.2 k x with y | y; exact .inl (hDA1 k y); exact .inr y⟩, hm2.1.mono hDA1⟩
      go_wp2
      go_ret
      exact .inr ⟨rfl, by omega, .inr HF.out⟩
    · have hnd2 : NotDue (wrD d q s) := .inr ⟨f, [], hd.np, by rw [hcw]; exact e2⟩
      have HY := hid (sync_yes hD1' (show (wrD d q s).dead = false from hd.up) hnd2 (by show d.calls + 1 ≤ _; omega) (wr_ok' hd hN hq hs))
      clear HW hD hst hD1 hm1 hC1 c0 hS
      go_wp2_with fail
      refine HY.out.mono ?_
      rintro e w2 ⟨rfl, D2, hD2, hm2⟩
      obtain ⟨A2, hS2, hmA2⟩ := hst1 w2 D2 _ hD2 hm2
      have HF := hid hS2
      have HMM := hid (hmA1.trans hmA2)
      go_wp2
      go_ret
      exact .inl ⟨rfl, by omega, A2, HF.out, HMM.out⟩

/-- What the log adds. -/
def tailB (l : LG) : ByteArray := ⟨(l.bytes.drop l.flushed).toArray⟩

theorem DFk.flush {l : LG} {d : DG} {f : FG} {N : Nat} (h : DFk d f N) (hl : LOk l d) (h2 : (d.calls : Int) + 2 ≤ f.call) : DFk (flushD l d) f (N + 2) ∧ (∀ q, readD (flushD l d) q = readD d q) ∧ (flushD l d).room = d.room := by
  have h1 := h.calls
  have h2' := h.ns
  have h3 := hl.at'
  have h4 := hl.fl
  have h5 := hl.most
  have hlen : (flushD l d).log.length = l.bytes.length := by
    show (d.log ++ (ByteArray.mk (l.bytes.drop l.flushed).toArray).data.toList).length = l.bytes.length
    simp
    omega
  refine ⟨⟨h.up, h.np, by show ((d.calls + 1 + 1 : Nat) : Int) ≤ f.call; omega, h.kp, ⟨h.ok.loose, h.ok.sure, h.ok.n, by rw [hlen]; exact h5, Nat.le_refl _⟩, h.no, h.fr, h.nf, ?_, ?_⟩, fun q => rfl, rfl⟩
  · show d.calls + 1 + 1 ≤ N + 2
    omega
  · show d.nS ≤ N + 2
    omega

theorem put_ok' {l : LG} {d : DG} {f : FG} {N : Nat} (h : DFk d f N) (hl : LOk l d) : (putD d (tailB l)).ok := by
  have h3 := hl.at'
  have h4 := hl.fl
  have h5 := hl.most
  have h6 := h.ok.sl
  have hlen : (putD d (tailB l)).log.length = l.bytes.length := by
    show (d.log ++ (ByteArray.mk (l.bytes.drop l.flushed).toArray).data.toList).length = l.bytes.length
    simp
    omega
  exact ⟨h.ok.loose, h.ok.sure, h.ok.n, by rw [hlen]; exact h5, by rw [hlen]; show d.sl ≤ _; omega⟩

theorem flush_fall {w : World} {p : Nat} {S A : Nat → Prop} {P : PG} {l : LG} {d : DG} {f : FG} {N : Nat} (hS : DevS w p S A P l d) (hd : DFk d f N) (hN : N ≤ 90000) (hl : LOk l d) (up : Nat) (hb : l.flushed < l.bytes.length) (hu : l.flushed + 1 ≤ up) :
    Calls Tryz.prog 84 #[.pointer (some ⟨P.lp, 0, none⟩), .int .u64 up] w fun e w' =>
      (e = .returned (.int .i64 0) ∧ (d.calls : Int) + 2 ≤ f.call ∧ ∃ A', DevS w' p S A' P { l with flushed := l.bytes.length } (flushD l d) ∧ Moves A A' w w') ∨
      (e = .returned (.int .i64 7) ∧ f.call ≤ (d.calls : Int) + 1 ∧ (Fell w w' P.dp A f d ∨ Fell w w' P.dp A f (putD d (tailB l)))) := by
  have hS' := hS
  obtain ⟨hP, ⟨L, D, hL, hD, g6, g7⟩, sb, g8, g9⟩ := hS
  have hD' : IsDisk w l.dp D d := by rw [g8]; exact hD
  have h1 := hd.calls
  have hdue := hd.due
  by_cases e1 : f.call = d.calls
  · refine (flush_fall1 hL hD' g6 hl.half hb hl.most hd.up hd.ok hd.np e1 hd.kp (by omega) hl.at' up hu).mono ?_
    rintro e w' ⟨rfl, D', hD2, hm⟩
    exact .inr ⟨rfl, by omega, .inl ⟨⟨D', by rw [← g8]; exact hD2, fun k x => by rcases hm.2 k x with y | y; exact .inl (g7 k (.inr y)); exact .inr y⟩, hm.1.mono fun k x => g7 k (.inr x)⟩⟩
  · by_cases e2 : f.call = d.calls + 1
    · refine (flush_fall2 hL hD' g6 hl.half hb hl.most hd.up (put_ok' hd hl) hd.np e2 hd.kp (by omega) hl.at' up hu).mono ?_
      rintro e w' ⟨rfl, D', hD2, k2, k3⟩
      exact .inr ⟨rfl, by omega, .inr ⟨⟨D', by rw [← g8]; exact hD2, fun k x => by rcases k2 k x with y | y; exact .inl (g7 k (.inr y)); exact .inr y⟩, k3.mono fun k x => g7 k x⟩⟩
    · refine (flush_yes hL hD' g6 hl.half hb hl.most hd.up (.inr ⟨f, [], hd.np, e1⟩) (.inr ⟨f, [], hd.np, by show f.call ≠ ((d.calls + 1 : Nat) : Int); omega⟩) (by omega) hl.at' up hu).mono ?_
      rintro e w' ⟨rfl, D', hL', hD2, k1, k2, k3⟩
      have hm' : Moves A (fun k => L k ∨ D' k) w w' := ⟨k3.mono fun k x => g7 k x, by
        rintro k (x | x)
        · exact .inl (g7 k (.inl x))
        · rcases k2 k x with z | z
          · exact .inl (g7 k (.inr z))
          · exact .inr z⟩
      refine .inl ⟨rfl, by omega, fun k => L k ∨ D' k, ⟨hP.same (hS'.still hm') k3.size, ⟨L, D', hL', by rw [← g8]; exact hD2, k1, fun _ x => x⟩, fun k x => (hm'.off (hP.lt x) (sb k x)).2, g8, ?_⟩, hm'⟩
      rintro k (x | x)
      · exact hL'.lt x
      · exact hD2.lt x

/-- A contract with two ends, of which one is barred. -/
theorem calls_left {P : Program} {F : Nat} {args : Array Value} {w : World} {Q1 Q2 : Ending → World → Prop} (h : Calls P F args w fun e w' => Q1 e w' ∨ Q2 e w') (hn : ∀ e w', ¬ Q2 e w') : Calls P F args w Q1 :=
  h.mono fun e w' x => by rcases x with x | x; exact x; exact absurd x (hn e w')

theorem calls_right {P : Program} {F : Nat} {args : Array Value} {w : World} {Q1 Q2 : Ending → World → Prop} (h : Calls P F args w fun e w' => Q1 e w' ∨ Q2 e w') (hn : ∀ e w', ¬ Q1 e w') : Calls P F args w Q2 :=
  h.mono fun e w' x => by rcases x with x | x; exact absurd x (hn e w'); exact x

/-- The disk behind writeOut. -/
def outF (l : LG) (d : DG) (X : SheetV) : DG := wsD (wsD (flushD l d) (ord1 d X.num) (encS X)) (ord2 d X.num) (encS X)

/-- Where the power may fail while a page is written out. -/
def FallSt (l : LG) (d : DG) (X : SheetV) (dd : DG) : Prop :=
  dd = d ∨ dd = putD d (tailB l) ∨ dd = flushD l d ∨ dd = wrD (flushD l d) (ord1 d X.num) (encS X) ∨ dd = wsD (flushD l d) (ord1 d X.num) (encS X) ∨ dd = wrD (wsD (flushD l d) (ord1 d X.num) (encS X)) (ord2 d X.num) (encS X)

/-- What writeOut leaves, with a plan. -/
def WoOut (w : World) (p : Nat) (S A : Nat → Prop) (P : PG) (l : LG) (d : DG) (f : FG) (X : SheetV) (e : Ending) (w' : World) : Prop :=
  (e = .returned (.int .i64 0) ∧ (d.calls : Int) + 6 ≤ f.call ∧ ∃ A', DevS w' p S A' P { l with flushed := l.bytes.length } (outF l d X) ∧ Moves A A' w w') ∨
  (e = .returned (.int .i64 7) ∧ f.call ≤ (d.calls : Int) + 5 ∧ ∃ dd, Fell w w' P.dp A f dd ∧ FallSt l d X dd)

set_option maxHeartbeats 3200000 in
set_option maxRecDepth 8000 in
theorem writeOut_fall {w : World} {p : Nat} {S A : Nat → Prop} {P : PG} {l : LG} {d : DG} {f : FG} {N : Nat} (hS : DevS w p S A P l d) (hd : DFk d f N) (hN : N ≤ 80000) (hl : LOk l d) (X : SheetV) (a : Option Addr) (c : Nat) (hF : X.Fits) (hm : StrsAt w a X.slots) (h1 : 1 ≤ X.num) (h2 : X.num ≤ 2048) (hc : checkE d.room X.num = 0) (hb : l.flushed < l.bytes.length) (hu : l.flushed + 1 ≤ X.lsn) :
    Calls Tryz.prog 50 #[.pointer (some ⟨p, 0, none⟩), X.val a c] w fun e w' => WoOut w p S A P l d f X e w' := by
  have hok := hF.ok hm
  have hE0 := (encE_fits hok).2 hF
  have h512 : (encS X).size = 512 := by unfold encS; rw [if_pos hE0]; exact enc_size X hF
  have HEN : Hid (∀ W, Below w.heap.size w W → Calls Tryz.prog 47 #[X.val a c] W fun e w' => e = .returned (.tuple #[.string (encS X), .int .i64 0]) ∧ Below W.heap.size W w') := fun W hb => by
    have := encode_any X a c W (hok.below hb)
    rw [hE0] at this
    exact this
  have hsz : ∀ q, (readD d q).size ≤ 1000000 := fun q => by rw [hd.read]; have := hd.ok.sure q; omega
  obtain ⟨oc1, oc2⟩ := ord_check h2 hc
  obtain ⟨or1, or2⟩ := ord_range (d := d) h1 h2
  have HD := hid hd
  have HORD : Hid (∀ W, DevS W p S A P l d → Calls Tryz.prog 83 #[.pointer (some ⟨p, 0, none⟩), .int .u32 X.num] W fun e w' => e = .returned (.tuple #[.int .u32 (ord1 d X.num : Int), .int .u32 (ord2 d X.num : Int), .int .i64 0]) ∧ Below W.heap.size W w') := fun W h => order_any h hd.up hsz X.num h2 hc
  have HFL : Hid (∀ W, DevS W p S A P l d → Calls Tryz.prog 84 #[.pointer (some ⟨P.lp, 0, none⟩), .int .u64 X.lsn] W fun e w' =>
      (e = .returned (.int .i64 0) ∧ (d.calls : Int) + 2 ≤ f.call ∧ ∃ A', DevS w' p S A' P { l with flushed := l.bytes.length } (flushD l d) ∧ Moves A A' W w') ∨
      (e = .returned (.int .i64 7) ∧ f.call ≤ (d.calls : Int) + 1 ∧ (Fell W w' P.dp A f d ∨ Fell W w' P.dp A f (putD d (tailB l))))) := fun W h => flush_fall h hd (by omega) hl X.lsn hb hu
  have HWS1 : Hid (∀ W A', (d.calls : Int) + 2 ≤ f.call → DevS W p S A' P { l with flushed := l.bytes.length } (flushD l d) → Calls Tryz.prog 85 #[.pointer (some ⟨p, 0, none⟩), .int .u32 (ord1 d X.num : Int), .string (encS X)] W fun e w' =>
      (e = .returned (.int .i64 0) ∧ (d.calls : Int) + 4 ≤ f.call ∧ ∃ A'', DevS w' p S A'' P { l with flushed := l.bytes.length } (wsD (flushD l d) (ord1 d X.num) (encS X)) ∧ Moves A' A'' W w') ∨
      (e = .returned (.int .i64 7) ∧ f.call ≤ (d.calls : Int) + 3 ∧ (Fell W w' P.dp A' f (flushD l d) ∨ Fell W w' P.dp A' f (wrD (flushD l d) (ord1 d X.num) (encS X))))) := fun W A' hfc h => by
    obtain ⟨k1, k2, k3⟩ := hd.flush hl hfc
    have := writeSure_fall h k1 (by omega) (ord1 d X.num) (by omega) (by rw [k3]; exact oc1) (encS X) h512
    refine this.mono fun e w' x => ?_
    have hcc : ((flushD l d).calls : Int) = (d.calls : Int) + 2 := by show ((d.calls + 1 + 1 : Nat) : Int) = _; omega
    rw [hcc] at x
    rcases x with ⟨x1, x2, x3⟩ | ⟨x1, x2, x3⟩
    · exact .inl ⟨x1, by omega, x3⟩
    · exact .inr ⟨x1, by omega, x3⟩
  have HWS2 : Hid (∀ W A', (d.calls : Int) + 4 ≤ f.call → DevS W p S A' P { l with flushed := l.bytes.length } (wsD (flushD l d) (ord1 d X.num) (encS X)) → Calls Tryz.prog 85 #[.pointer (some ⟨p, 0, none⟩), .int .u32 (ord2 d X.num : Int), .string (encS X)] W fun e w' =>
      (e = .returned (.int .i64 0) ∧ (d.calls : Int) + 6 ≤ f.call ∧ ∃ A'', DevS w' p S A'' P { l with flushed := l.bytes.length } (outF l d X) ∧ Moves A' A'' W w') ∨
      (e = .returned (.int .i64 7) ∧ f.call ≤ (d.calls : Int) + 5 ∧ (Fell W w' P.dp A' f (wsD (flushD l d) (ord1 d X.num) (encS X)) ∨ Fell W w' P.dp A' f (wrD (wsD (flushD l d) (ord1 d X.num) (encS X)) (ord2 d X.num) (encS X))))) := fun W A' hfc h => by
    obtain ⟨k1, k2, k3⟩ := hd.flush hl (by omega)
    have hcc : ((flushD l d).calls : Int) = (d.calls : Int) + 2 := by show ((d.calls + 1 + 1 : Nat) : Int) = _; omega
    obtain ⟨k4, k5⟩ := k1.ws (by omega) or1.1 h512 (by rw [hcc]; omega)
    have := writeSure_fall h k4 (by omega) (ord2 d X.num) (by omega) (by show checkE (flushD l d).room _ = 0; rw [k3]; exact oc2) (encS X) h512
    refine this.mono fun e w' x => ?_
    have hc2 : ((wsD (flushD l d) (ord1 d X.num) (encS X)).calls : Int) = (d.calls : Int) + 4 := by show (((flushD l d).calls + 1 + 1 : Nat) : Int) = _; omega
    rw [hc2] at x
    rcases x with ⟨x1, x2, x3⟩ | ⟨x1, x2, x3⟩
    · exact .inl ⟨x1, by omega, x3⟩
    · exact .inr ⟨x1, by omega, x3⟩
  have HV : Hid (X.val a c = .agg #[.int .u32 X.num, .int .u64 X.lsn, .int .i64 X.kind, .string X.head, .slice a X.slots.length c]) := rfl
  have HSS := hid hS
  have HWO : Hid (∀ e w', WoOut w p S A P l d f X e w' ↔ ((e = .returned (.int .i64 0) ∧ (d.calls : Int) + 6 ≤ f.call ∧ ∃ A', DevS w' p S A' P { l with flushed := l.bytes.length } (outF l d X) ∧ Moves A A' w w') ∨ (e = .returned (.int .i64 7) ∧ f.call ≤ (d.calls : Int) + 5 ∧ ∃ dd, Fell w w' P.dp A f dd ∧ FallSt l d X dd))) := fun e w' => Iff.rfl
  have HFS : Hid (∀ dd, FallSt l d X dd ↔ (dd = d ∨ dd = putD d (tailB l) ∨ dd = flushD l d ∨ dd = wrD (flushD l d) (ord1 d X.num) (encS X) ∨ dd = wsD (flushD l d) (ord1 d X.num) (encS X) ∨ dd = wrD (wsD (flushD l d) (ord1 d X.num) (encS X)) (ord2 d X.num) (encS X))) := fun dd => Iff.rfl
  have HCC := hid hd.calls
  generalize ord1 d X.num = O1 at *
  generalize ord2 d X.num = O2 at *
  generalize encS X = ES at *
  rw [HV.out] at HEN ⊢
  clear hok hE0 hsz oc1 oc2 or1 or2 hd hl hc hm hS
  obtain ⟨W0, HW0⟩ : ∃ W0, Hid (W0 = w.alloc (.cells #[.int .u32 X.num, .int .u64 X.lsn, .int .i64 X.kind, .string X.head, .slice a X.slots.length c] 56)) := ⟨_, rfl⟩
  have b0 : Below w.heap.size w W0 := by rw [HW0.out]; exact (Below.refl _ _).alloc (Nat.le_refl _) _
  have kx : Blk W0 w.heap.size (X.arr a c) 56 := by rw [HW0.out]; exact Blk.made w _ _
  have x0 : W0.cell? ⟨w.heap.size, 0, none⟩ = some (.int .u32 X.num) := kx.cell 0
  have x1 : W0.cell? ⟨w.heap.size, 1, none⟩ = some (.int .u64 X.lsn) := kx.cell 1
  have x2 : W0.cell? ⟨w.heap.size, 2, none⟩ = some (.int .i64 X.kind) := kx.cell 2
  have x3 : W0.cell? ⟨w.heap.size, 3, none⟩ = some (.string X.head) := kx.cell 3
  have x4 : W0.cell? ⟨w.heap.size, 4, none⟩ = some (.slice a X.slots.length c) := kx.cell 4
  have nx : ¬ A w.heap.size := fun x => by have := HSS.out.lt _ x; omega
  go_enter Tryz.func50, Tryz.ntmps50
  go_wp2_with fail
  rw [← HW0.out]
  refine (HEN.out _ b0).mono ?_
  rintro x w1 ⟨rfl, b1⟩
  have kx1 := kx.same (b1.block _ kx.lt)
  have bel1 := below_chain b0 b1
  clear x0 x1 x2 x3 x4 HW0
  have x0 : w1.cell? ⟨w.heap.size, 0, none⟩ = some (.int .u32 X.num) := kx1.cell 0
  go_wp2_with fail
  refine (HORD.out _ (HSS.out.below bel1)).mono ?_
  rintro x w2 ⟨rfl, b2⟩
  have kx2 := kx1.same (b2.block _ kx1.lt)
  have bel2 := below_chain bel1 b2
  have hS2 := HSS.out.below bel2
  obtain ⟨fb, pv, hC2⟩ := hS2.pcells
  have c1 : w2.cell? ⟨p, 1, none⟩ = some (.pointer (some ⟨P.lp, 0, none⟩)) := hC2.c1
  have x1 : w2.cell? ⟨w.heap.size, 1, none⟩ = some (.int .u64 X.lsn) := kx2.cell 1
  have hxl : w.heap.size < w2.heap.size := kx2.lt
  have HM2 : Hid (Moves A A w w2.drew) := Moves.of_kept ((Kept.of_below bel2).drew)
  clear x0 kx kx1 b1 b2 b0 bel1 hC2
  have HF0 := hid (HFL.out w2.drew (hS2.drewN 1))
  by_cases hfc : (d.calls : Int) + 2 ≤ f.call
  · have HF1 := hid (calls_left HF0.out fun e w' x => by omega)
    go_upto_region 7 with fail
    go_region_held3 (fun w' => w'.cell? ⟨p, 1, none⟩ = some (.pointer (some ⟨P.lp, 0, none⟩)) ∧ w'.cell? ⟨w.heap.size, 1, none⟩ = some (.int .u64 X.lsn)) (first | go_keep | exact ⟨c1, x1⟩ | exact hkeep3)
      (first | (go_at_call 84; refine HF1.out.mono ?_; rintro x w3 ⟨rfl, _, A3, hS3, hm3⟩; have hkeep3 : w3.cell? ⟨p, 1, none⟩ = some (.pointer (some ⟨P.lp, 0, none⟩)) ∧ w3.cell? ⟨w.heap.size, 1, none⟩ = some (.int .u64 X.lsn) := ⟨by obtain ⟨_, _, hC⟩ := hS3.pcells; exact hC.c1, (World.cell?_of_block (w := w2.drew) (a := ⟨w.heap.size, 1, none⟩) (hm3.off hxl nx).1).trans x1⟩))
    have HM3 := hid (HM2.out.trans hm3)
    go_wp2_with fail
    refine (HWS1.out w3 A3 hfc hS3).mono ?_
    rintro x w4 (⟨rfl, hfc4, A4, hS4, hm4⟩ | ⟨rfl, hf4, hfell⟩)
    · have HM4 := hid (HM3.out.trans hm4)
      go_wp2_with fail
      refine (HWS2.out w4 A4 hfc4 hS4).mono ?_
      rintro x w5 (⟨rfl, hfc5, A5, hS5, hm5⟩ | ⟨rfl, hf5, hfell⟩)
      · have HM5 := hid (HM4.out.trans hm5)
        go_wp2
        go_ret
        exact (HWO.out _ _).2 (.inl ⟨rfl, hfc5, A5, hS5, HM5.out⟩)
      · have HFE : Hid (∃ dd, Fell w w5 P.dp A f dd ∧ FallSt l d X dd) := by
          rcases hfell with y | y
          · exact ⟨_, y.trans HM4.out, (HFS.out _).2 (.inr (.inr (.inr (.inr (.inl rfl)))))⟩
          · exact ⟨_, y.trans HM4.out, (HFS.out _).2 (.inr (.inr (.inr (.inr (.inr rfl)))))⟩
        go_wp2
        go_ret
        exact (HWO.out _ _).2 (.inr ⟨rfl, hf5, HFE.out⟩)
    · have HFE : Hid (∃ dd, Fell w w4 P.dp A f dd ∧ FallSt l d X dd) := by
        rcases hfell with y | y
        · exact ⟨_, y.trans HM3.out, (HFS.out _).2 (.inr (.inr (.inl rfl)))⟩
        · exact ⟨_, y.trans HM3.out, (HFS.out _).2 (.inr (.inr (.inr (.inl rfl))))⟩
      go_wp2
      go_ret
      exact (HWO.out _ _).2 (.inr ⟨rfl, by omega, HFE.out⟩)
  · have HF1 := hid (calls_right HF0.out fun e w' x => hfc x.2.1)
    have HKP : Hid (∀ w3, Kept A w2.drew w3 → w3.cell? ⟨p, 1, none⟩ = some (.pointer (some ⟨P.lp, 0, none⟩)) ∧ w3.cell? ⟨w.heap.size, 1, none⟩ = some (.int .u64 X.lsn)) := fun w3 hkk => by
      have hpS : S p := by obtain ⟨fb', pv', M', hP'⟩ := HSS.out.pool; exact hP'.sp
      have hpl : p < w2.heap.size := hS2.pool.lt hpS
      exact ⟨(World.cell?_of_block (w := w2.drew) (a := ⟨p, 1, none⟩) (hkk.block p hpl (HSS.out.sb p hpS))).trans c1, (World.cell?_of_block (w := w2.drew) (a := ⟨w.heap.size, 1, none⟩) (hkk.block _ hxl nx)).trans x1⟩
    go_upto_region 7 with fail
    go_region_held3 (fun w' => w'.cell? ⟨p, 1, none⟩ = some (.pointer (some ⟨P.lp, 0, none⟩)) ∧ w'.cell? ⟨w.heap.size, 1, none⟩ = some (.int .u64 X.lsn)) (first | go_keep | exact ⟨c1, x1⟩ | exact hkeep3)
      (first | (go_at_call 84; refine HF1.out.mono ?_; rintro x w3 ⟨rfl, hf3, hfell⟩; have hkeep3 := HKP.out w3 (by rcases hfell with y | y; exact y.kept; exact y.kept)))
    have HFE : Hid (∃ dd, Fell w w3 P.dp A f dd ∧ FallSt l d X dd) := by
      rcases hfell with y | y
      · exact ⟨_, y.trans HM2.out, (HFS.out _).2 (.inl rfl)⟩
      · exact ⟨_, y.trans HM2.out, (HFS.out _).2 (.inr (.inl rfl))⟩
    go_wp2
    go_ret
    exact (HWO.out _ _).2 (.inr ⟨rfl, by omega, HFE.out⟩)

end Go.Proofs.YtgmfgkdecpldeaaGreat
