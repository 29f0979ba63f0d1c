/-
  The walk of powered: a call counts, or a fall of the plan strikes ahead of it.
-/
import Derived.Test.YtgmfgkdecpldeaaGreatDiskFailC
namespace Go.Proofs.YtgmfgkdecpldeaaGreat
open Go.RowKit
set_option linter.unusedVariables false

/-- The disk behind powered, and whether the power is on. -/
def poweredD (d : DG) : DG × Bool :=
  match d.plan with
  | f :: r => if f.call = d.calls then (failD f { d with plan := r }, false) else ({ d with calls := d.calls + 1 }, true)
  | [] => ({ d with calls := d.calls + 1 }, true)

section
variable {w : World} {p : Nat} {m : Mem} {d : DG}

theorem below_drewN' (w : World) (n : Nat) : Below w.heap.size w (w.drewN n) := ⟨rfl, rfl, rfl, Nat.le_refl _, fun _ _ => rfl⟩

theorem ticked (hD : DiskAt w p m d) (n : Nat) : DiskAt ((w.drewN n).setCell ⟨p, 2, none⟩ (.int .i64 ((d.calls : Int) + 1))) p m { d with calls := d.calls + 1 } := by
  have h := (hD.below (below_drewN' w n)).set 2 (.int .i64 ((d.calls : Int) + 1))
  refine ⟨?_, h.2.to rfl rfl rfl rfl rfl rfl rfl⟩
  have e : dvals m { d with calls := d.calls + 1 } = (dvals m d).setIfInBounds 2 (.int .i64 ((d.calls : Int) + 1)) := by
    unfold dvals
    simp
  rw [e]
  exact h.1

set_option maxHeartbeats 1600000 in
set_option maxRecDepth 8000 in
theorem powered_none (hD : DiskAt w p m d) (hl : d.plan = []) (hc : d.calls ≤ 1000000) :
    Calls Tryz.prog 69 #[.pointer (some ⟨p, 0, none⟩)] w fun e w' => e = .returned (.bool true) ∧
      DiskAt w' p m { d with calls := d.calls + 1 } ∧ Kept (fun k => k = p) w w' := by
  have c2 := hD.blk.cells.c2
  have f2 := hD.blk.cells.fr 2
  have c3 := hD.blk.cells.c3
  have HT : Hid (∀ n, DiskAt ((w.drewN n).setCell ⟨p, 2, none⟩ (.int .i64 ((d.calls : Int) + 1))) p m { d with calls := d.calls + 1 }) := ticked hD
  obtain ⟨a, cap, hv⟩ : ∃ a cap, m.planV = .slice a 0 cap := by
    rcases hD.parts.plan with ⟨e, _⟩ | ⟨g, o, cap, cur, e, _⟩
    · exact ⟨_, _, e⟩
    · rw [hl] at e; exact ⟨_, _, e⟩
  rw [hv] at c3
  clear hD hl
  have hg : decide ((0 : Int) < 0) = false := by decide
  go_enter Tryz.func69, Tryz.ntmps69
  go_wp2
  go_quiet (fail)
  go_wp2
  go_ret
  exact ⟨rfl, HT.out _, ((Kept.refl _ _).drewN _).trans (Kept.setCell _ _ _ _ _ rfl)⟩

set_option maxHeartbeats 1600000 in
set_option maxRecDepth 8000 in
theorem powered_other (hD : DiskAt w p m d) {f : FG} {r : List FG} (hl : d.plan = f :: r) (hne : f.call ≠ d.calls) (hc : d.calls ≤ 1000000) :
    Calls Tryz.prog 69 #[.pointer (some ⟨p, 0, none⟩)] w fun e w' => e = .returned (.bool true) ∧
      DiskAt w' p m { d with calls := d.calls + 1 } ∧ Kept (fun k => k = p) w w' := by
  have c2 := hD.blk.cells.c2
  have f2 := hD.blk.cells.fr 2
  have c3 := hD.blk.cells.c3
  have HT : Hid (∀ n, DiskAt ((w.drewN n).setCell ⟨p, 2, none⟩ (.int .i64 ((d.calls : Int) + 1))) p m { d with calls := d.calls + 1 }) := ticked hD
  obtain ⟨g, o, cap, hv, hcap, hcell⟩ : ∃ g o cap, m.planV = .slice (some ⟨g, o, none⟩) (r.length + 1) cap ∧ r.length + 1 ≤ cap ∧ w.cell? ⟨g, o, none⟩ = some (.int .i64 f.call) := by
    rcases hD.parts.plan with ⟨_, e⟩ | ⟨g, o, cap, cur, e, h1, h2, hb, hk⟩
    · rw [hl] at e; cases e
    · rw [hl] at e h1 hk
      exact ⟨g, o, cap, e, h1, hk 0 _ rfl⟩
  rw [hv] at c3
  clear hD hl hv
  have hne' : (f.call == (d.calls : Int)) = false := by simpa using hne
  have hg : (0 : Int) < ((r.length + 1 : Nat) : Int) := by omega
  have hg' : (0 : Int) < (r.length : Int) + 1 := by omega
  go_enter Tryz.func69, Tryz.ntmps69
  go_wp2
  go_quiet (fail)
  go_wp2
  go_ret
  exact ⟨rfl, HT.out _, ((Kept.refl _ _).drewN _).trans (Kept.setCell _ _ _ _ _ rfl)⟩

theorem IsFalls.tail {w : World} {g o cap : Nat} {f : FG} {r : List FG} (h : IsFalls w (.slice (some ⟨g, o, none⟩) (r.length + 1) cap) (f :: r)) : IsFalls w (.slice (some ⟨g, o + 5, none⟩) r.length (cap - 1)) r := by
  rcases h with ⟨_, e⟩ | ⟨g', o', cap', cur, e, h1, h2, hb, hk⟩
  · cases e
  · simp only [List.length_cons, Value.slice.injEq, Option.some.injEq, Addr.mk.injEq, and_true, true_and] at e
    obtain ⟨⟨rfl, rfl⟩, rfl⟩ := e
    simp only [List.length_cons] at h1
    refine .inr ⟨g, o + 5, cap - 1, cur, rfl, by omega, by omega, hb, fun k u hku => ?_⟩
    have := hk (5 + k) u (by simp only [List.flatMap_cons]; rw [List.getElem?_append_right (by simp [fcells])]; simpa [fcells] using hku)
    rw [← Nat.add_assoc] at this
    exact this

end

end Go.Proofs.YtgmfgkdecpldeaaGreat
