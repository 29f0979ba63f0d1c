/-
  The walk of powered where a fall of the plan strikes.
-/
import Derived.Test.YthmhigjdjclckaaDiskPowerC
import Derived.Test.YthmhigjdjclckaaRowOpsC
namespace Go.Proofs.Ythmhigjdjclckaa
open Go.RowKit
set_option linter.unusedVariables false

theorem infoFall : (Try.prog.info? 38).map (·.size) = some 5 := by kernel_rfl

section
variable {w : World} {p : Nat} {m : Mem} {d : DG}

theorem planned (h : DiskAt w p m d) {v : Value} {r : List FG} (hv : IsFalls w v r) (hb : ∀ k, v.ownBlock = some k → m.planV.ownBlock = some k) : DiskAt (w.setCell ⟨p, 3, none⟩ v) p { m with planV := v } { d with plan := r } := by
  have h3 := h.set 3 v
  have hP := h3.2
  refine ⟨?_, ⟨?_, hP.sure, hP.fresh, hP.ne, hP.loose, hP.log⟩⟩
  · have e : dvals { m with planV := v } { d with plan := r } = (dvals m d).setIfInBounds 3 v := by
      unfold dvals
      simp
    rw [e]
    exact h3.1
  · exact hv.same fun g hg => heap_set _ _ _ _ (h.off (.inr (.inr (.inr (.inr (hb g hg))))))

/-- The plan without its first fall. -/
theorem IsFalls.tail1 {g o : Nat} {f : FG} {r : List FG} (h : IsFalls w (.slice (some ⟨g, o, none⟩) (r.length + 1) 1) (f :: r)) : IsFalls w (.slice (some ⟨g, o, none⟩) r.length 0) r := by
  rcases h with ⟨_, e⟩ | ⟨g', o', cap', cur, e, h1, h2, hb, hk⟩
  · cases e
  · simp only [List.length_cons, Value.slice.injEq, Option.some.injEq, Addr.mk.injEq, and_true, true_and] at e
    obtain ⟨⟨rfl, rfl⟩, rfl⟩ := e
    simp only [List.length_cons] at h1
    have hr : r = [] := List.eq_nil_of_length_eq_zero (by omega)
    subst hr
    exact .inr ⟨g, o, 0, cur, rfl, by simp, by unfold maxLen; omega, hb, fun k u hku => by simp at hku⟩

set_option maxHeartbeats 1600000 in
set_option maxRecDepth 8000 in
theorem powered_falls (hD : DiskAt w p m d) (hok : d.ok) {f : FG} {r : List FG} (hl : d.plan = f :: r) (he : f.call = d.calls) (hf : f.keep < 18446744073709551616) :
    Calls Try.prog 48 #[.pointer (some ⟨p, 0, none⟩)] w fun e w' => e = .returned (.bool false) ∧
      (∃ m', DiskAt w' p m' (failD f { d with plan := r }) ∧ ∀ k, m'.rest k → m.rest k ∨ w.heap.size ≤ k) ∧ Kept (fun k => k = p ∨ k = m.sure) w w' := by
  have c2 := hD.blk.cells.c2
  have f3 := hD.blk.cells.fr 3
  have c3 := hD.blk.cells.c3
  obtain ⟨g, o, cap, hv, hcap, hcm, hlg, hcell⟩ : ∃ g o cap, m.planV = .slice (some ⟨g, o, none⟩) (r.length + 1) cap ∧ r.length + 1 ≤ cap ∧ cap ≤ maxLen ∧ g < w.heap.size ∧ (∀ k u, (fcells f)[k]? = some u → w.cell? ⟨g, o + k, none⟩ = some u) := by
    rcases hD.parts.plan with ⟨_, e⟩ | ⟨g, o, cap, cur, e, h1, h2, hb, hk⟩
    · rw [hl] at e; cases e
    · rw [hl] at e h1 hk
      refine ⟨g, o, cap, e, h1, h2, hb.lt, fun k u hku => hk k u ?_⟩
      simp only [List.flatMap_cons]
      rw [List.getElem?_append_left (List.getElem?_eq_some_iff.1 hku).1]
      exact hku
  have k0 := hcell 0 _ rfl
  have k1 := hcell 1 _ rfl
  have k2 := hcell 2 _ rfl
  have k3 := hcell 3 _ rfl
  have k4 := hcell 4 _ rfl
  rw [Nat.add_zero] at k0
  rw [hv] at c3
  unfold maxLen at hcm
  have HD : Hid (DiskAt w p m d ∧ d.ok ∧ d.plan = f :: r ∧ m.planV = .slice (some ⟨g, o, none⟩) (r.length + 1) cap) := ⟨hD, hok, hl, hv⟩
  have hlt := hD.lt
  clear hD hl hv hcell hok
  obtain ⟨f1, f2, f3', f4, f5⟩ := f
  simp only at he hf
  subst he
  have hg : (0 : Int) < ((r.length + 1 : Nat) : Int) := by omega
  have hg' : (0 : Int) < (r.length : Int) + 1 := by omega
  go_enter Try.func48, Try.ntmps48
  go_wp2
  go_quiet (fail)
  go_upto_region 2 with fail
  obtain ⟨w1, hw1⟩ : ∃ w1, w1 = w.drewN nq := ⟨_, rfl⟩
  rw [← hw1]
  have c3 : w1.cell? ⟨p, 3, none⟩ = some (Value.slice (some ⟨g, o, none⟩) (r.length + 1) cap) := by rw [hw1]; exact c3
  have f3 : w1.frozen? ⟨p, 3, none⟩ = false := by rw [hw1]; exact f3
  have k0 : w1.cell? ⟨g, o, none⟩ = some (.int .i64 d.calls) := by rw [hw1]; exact k0
  have k1 : w1.cell? ⟨g, o + 1, none⟩ = some (.int .u64 f2) := by rw [hw1]; exact k1
  have k2 : w1.cell? ⟨g, o + 2, none⟩ = some (.int .i64 f3') := by rw [hw1]; exact k2
  have k3 : w1.cell? ⟨g, o + 3, none⟩ = some (.int .i64 f4) := by rw [hw1]; exact k3
  have k4 : w1.cell? ⟨g, o + 4, none⟩ = some (.int .i64 f5) := by rw [hw1]; exact k4
  have hlt : p < w1.heap.size := by rw [hw1]; exact hlt
  have hlg : g < w1.heap.size := by rw [hw1]; exact hlg
  have HW1 : Hid (w1 = w.drewN nq) := hw1
  clear hw1
  have hlt1 : ¬ (r.length + 1 < 1) := by omega
  have HFIN : Hid (∀ v, IsFalls w v r → (∀ k, v.ownBlock = some k → k = g) → ∀ W, W = (w1.setCell ⟨p, 3, none⟩ v).alloc (.cells #[.int .i64 d.calls, .int .u64 f2, .int .i64 f3', .int .i64 f4, .int .i64 f5] 38) →
      Calls Try.prog 45 #[.pointer (some ⟨p, 0, none⟩), .agg #[.int .i64 d.calls, .int .u64 f2, .int .i64 f3', .int .i64 f4, .int .i64 f5]] W fun e w' => e = .returned (.tuple #[]) ∧
      (∃ m', DiskAt w' p m' (failD ⟨d.calls, f2, f3', f4, f5⟩ { d with plan := r }) ∧ ∀ k, m'.rest k → m.rest k ∨ w.heap.size ≤ k) ∧ Kept (fun k => k = p ∨ k = m.sure) w w') := by
    rintro v hv hvb W rfl
    obtain ⟨hD, hok, hl, hmv⟩ := HD.out
    have hP0 : m.planV.ownBlock = some g := by rw [hmv]; rfl
    have hD1 : DiskAt w1 p m d := by rw [HW1.out]; exact hD.below (below_drewN' w nq)
    have hv1 : IsFalls w1 v r := by rw [HW1.out]; exact hv
    have hD2 := planned hD1 hv1 (fun k hk => by rw [hvb k hk]; exact hP0)
    have hsz : w1.heap.size = w.heap.size := by rw [HW1.out]; rfl
    have hD3 := hD2.below ((Below.refl _ _).alloc (Nat.le_refl _) (.cells #[.int .i64 d.calls, .int .u64 f2, .int .i64 f3', .int .i64 f4, .int .i64 f5] 38))
    have hok3 : ({ d with plan := r } : DG).ok := ⟨hok.loose, hok.sure, hok.n, hok.log, hok.sl⟩
    refine (fail_any hD3 hok3 ⟨d.calls, f2, f3', f4, f5⟩ hf).mono ?_
    rintro e w' ⟨rfl, ⟨m', hm', hr'⟩, hk'⟩
    refine ⟨rfl, ⟨m', hm', fun k hk => ?_⟩, ?_⟩
    · rcases hr' k hk with (x | x | x | x | x) | x
      · exact .inl (.inl x)
      · exact .inl (.inr (.inl x))
      · exact .inl (.inr (.inr (.inl x)))
      · exact .inl (.inr (.inr (.inr (.inl x))))
      · exact .inl (.inr (.inr (.inr (.inr (by rw [hvb k x]; exact hP0)))))
      · exact .inr (by simp only [World.alloc, World.setCell, Array.size_push, Array.size_modify] at x; omega)
    · have k1 : Kept (fun k => k = p ∨ k = m.sure) w w1 := by rw [HW1.out]; exact (Kept.refl _ _).drewN _
      exact ((k1.trans (Kept.setCell _ _ _ _ _ (.inl rfl))).trans (Kept.alloc _ _ _)).trans hk'
  have HIS : Hid (IsFalls w (.slice (some ⟨g, o, none⟩) (r.length + 1) cap) (⟨d.calls, f2, f3', f4, f5⟩ :: r)) := by
    obtain ⟨hD, hok, hl, hmv⟩ := HD.out
    have := hD.parts.plan
    rw [hmv, hl] at this
    exact this
  by_cases hc1 : cap = 1
  · subst hc1
    go_wp2_with fail
    refine (HFIN.out _ HIS.out.tail1 (fun k hk => by simp only [Value.ownBlock, Option.some.injEq] at hk; exact hk.symm) _ (by rw [show r.length = 0 by omega])).mono ?_
    rintro e w' ⟨rfl, hX⟩
    go_wp2
    go_ret
    exact ⟨rfl, hX⟩
  · go_wp2_with fail
    refine (HFIN.out _ HIS.out.tail (fun k hk => by simp only [Value.ownBlock, Option.some.injEq] at hk; exact hk.symm) _ rfl).mono ?_
    rintro e w' ⟨rfl, hX⟩
    go_wp2
    go_ret
    exact ⟨rfl, hX⟩

end

end Go.Proofs.Ythmhigjdjclckaa
