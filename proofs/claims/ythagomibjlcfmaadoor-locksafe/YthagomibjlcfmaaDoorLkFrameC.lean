/-
  What is known where a statement of layer 8 begins: the two tables lie in their blocks.
-/
import Derived.Test.YthagomibjlcfmaaDoorRows
import Derived.Test.YthagomibjlcfmaaDoorLkNilC
import Derived.ProofKit
import Derived.LaidMore
import Derived.OpenShut
import Derived.Stop.Joined
namespace Go.Proofs.YthagomibjlcfmaaDoor
open Go.ChangeShapes Go.WideShapes Go.ChangeAt Go.RowKit
set_option linter.unusedVariables false

def lkLaid2 : List (String × DataW Unit) := [("girder/lock.getsOn", Rows.laid_girder_lock_getsOn), ("girder/lock.covers", Rows.laid_girder_lock_covers)]

theorem lkOwn : ownKnob Tryd.prog.godebug = none := by kernel_rfl
theorem gOn : Tryd.prog.globalNamed "girder/lock.getsOn" = some 0 := by kernel_rfl
theorem gCov : Tryd.prog.globalNamed "girder/lock.covers" = some 1 := by kernel_rfl
theorem tOn : (Tryd.prog.globals[0]?).map (·.type) = some 77 := by kernel_rfl
theorem tCov : (Tryd.prog.globals[1]?).map (·.type) = some 77 := by kernel_rfl

/-- The door's own heap meets the condition. -/
theorem lk_door (os : Os) (args : Array Value) : laidMetH Tryd.prog lkLaid2 ((World.doorLaid Tryd.prog 400 os).forCall (fun _ _ => 0) ⟨#[], args, []⟩).memory :=
  laidMetH_of_parts3 (fuel := 8) (laidMet_of_run' 8 (by kernel_rfl) (by kernel_rfl)) (by kernel_rfl) (by kernel_rfl)

section
variable {H : Type} {enc : TypeId × Value → H} {w : World} {base : Nat} {sp : Nat → Bool} {held : Bool}

theorem row_bools {m : Nat} {cs : List Value} {bs : List Bool} {ps : List MemPlace} (h : DataW.trod enc Tryd.prog w base sp held m 76 cs = some (.agg (bs.map fun x => .lit (.bool x)), ps)) :
    ∀ j (hj : j < bs.length), cs[j]? = some (.bool bs[j]) := by
  obtain ⟨xs, m1, _, hx, hlen, hn, hel⟩ := DataW.trod_array Tryd.underlying76 h
  have c4 : Tryd.prog.cellsOf 4 = 1 := by kernel_rfl
  simp only [Prod.mk.injEq, DataW.agg.injEq] at hx
  have hl : bs.length = xs.length := by
    have := congrArg List.length hx.1
    simpa using this
  intro j hj
  have hj6 : j < 6 := by omega
  have hE := hel j hj6
  rw [c4, Nat.mul_one] at hE
  have hxj : j < xs.length := by omega
  rw [List.getElem?_eq_getElem hxj] at hE
  obtain ⟨b, e1, e2⟩ := DataW.trod_bool Tryd.underlying4 hE
  have e3 : (xs.map (·.1))[j]? = some (.lit (.bool bs[j])) := by
    rw [← hx.1, List.getElem?_map, List.getElem?_eq_getElem hj]
    rfl
  rw [List.getElem?_map, List.getElem?_eq_getElem hxj, e2] at e3
  simp only [Option.map_some, Option.some.injEq, DataW.lit.injEq, Lit.bool.injEq] at e3
  rw [← e3]
  have e4 : (cs.drop j)[0]? = some (.bool b) := by
    have := congrArg (·[0]?) e1
    simpa [List.getElem?_take] using this
  rw [List.getElem?_drop] at e4
  simpa using e4

theorem table_bools {m : Nat} {cs : List Value} {rows : List (List Bool)} {ps : List MemPlace} (h : DataW.trod enc Tryd.prog w base sp held m 77 cs = some (.agg (rows.map fun bs => .agg (bs.map fun x => .lit (.bool x))), ps)) (hr : ∀ bs ∈ rows, bs.length = 6) :
    ∀ i (hi : i < rows.length) j (hj : j < 6), cs[i * 6 + j]? = some (.bool ((rows[i])[j]'(by rw [hr _ (List.getElem_mem hi)]; exact hj))) := by
  obtain ⟨xs, m1, _, hx, hlen, hn, hel⟩ := DataW.trod_array Tryd.underlying77 h
  have c6 : Tryd.prog.cellsOf 76 = 6 := by kernel_rfl
  simp only [Prod.mk.injEq, DataW.agg.injEq] at hx
  have hl : rows.length = xs.length := by
    have := congrArg List.length hx.1
    simpa using this
  intro i hi j hj
  have hE := hel i (by omega)
  rw [c6] at hE
  have hxi : i < xs.length := by omega
  rw [List.getElem?_eq_getElem hxi] at hE
  have e3 : (xs.map (·.1))[i]? = some (.agg (rows[i].map fun x => .lit (.bool x))) := by
    rw [← hx.1, List.getElem?_map, List.getElem?_eq_getElem hi]
    rfl
  rw [List.getElem?_map, List.getElem?_eq_getElem hxi] at e3
  simp only [Option.map_some, Option.some.injEq] at e3
  have hE' : DataW.trod enc Tryd.prog w base sp held m1 76 ((cs.drop (i * 6)).take 6) = some (.agg (rows[i].map fun x => .lit (.bool x)), xs[i].2) := by
    rw [hE, ← e3]
  have := row_bools hE' j (by rw [hr _ (List.getElem_mem hi)]; exact hj)
  rw [List.getElem?_take_of_lt hj, List.getElem?_drop] at this
  exact this
end

def rowsOn : List (List Bool) := [[false, false, false, false, false, false], [false, true, true, true, true, false], [false, true, true, false, false, false], [false, true, false, true, false, false], [false, true, false, false, false, false], [false, false, false, false, false, false]]
def rowsCov : List (List Bool) := [[true, false, false, false, false, false], [true, true, false, false, false, false], [true, true, true, false, false, false], [true, true, false, true, false, false], [true, true, true, true, true, false], [true, true, true, true, true, true]]

theorem lk_of_laid {W : World} (h : laidMetH Tryd.prog lkLaid2 W) : LkLaid W := by
  rw [MakeChecks.laidMetH_plain _ _ _ (by kernel_rfl)] at h
  obtain ⟨ps, ⟨g0, t0, cs0, f0, p0, q0, hg0, ht0, hv0, hd0, ⟨g1, t1, cs1, f1, p1, q1, hg1, ht1, hv1, hd1, _, _⟩, _⟩, _, _⟩ := h
  obtain rfl := Option.some.inj (gOn.symm.trans hg0)
  obtain rfl := Option.some.inj (gCov.symm.trans hg1)
  obtain rfl := Option.some.inj (tOn.symm.trans ht0)
  obtain rfl := Option.some.inj (tCov.symm.trans ht1)
  have k0 := table_bools (rows := rowsOn) hd0 (by decide)
  have k1 := table_bools (rows := rowsCov) hd1 (by decide)
  have c0 : ∀ i, W.cell? ⟨0, i, none⟩ = cs0[i]? := World.var?_cell hg0 hv0
  have c1 : ∀ i, W.cell? ⟨1, i, none⟩ = cs1[i]? := World.var?_cell hg1 hv1
  have f0 : ∀ a b : Nat, a < 6 → b < 6 → W.cell? ⟨0, a * 6 + b, none⟩ = some (.bool (togB a b)) := fun a b ha hb => by
    have := k0 a ha b hb
    rw [c0, ← Array.getElem?_toList, this]
    match a, ha, b, hb with
    | 0, _, 0, _ | 0, _, 1, _ | 0, _, 2, _ | 0, _, 3, _ | 0, _, 4, _ | 0, _, 5, _ | 1, _, 0, _ | 1, _, 1, _ | 1, _, 2, _ | 1, _, 3, _ | 1, _, 4, _ | 1, _, 5, _ | 2, _, 0, _ | 2, _, 1, _ | 2, _, 2, _ | 2, _, 3, _ | 2, _, 4, _ | 2, _, 5, _ | 3, _, 0, _ | 3, _, 1, _ | 3, _, 2, _ | 3, _, 3, _ | 3, _, 4, _ | 3, _, 5, _ | 4, _, 0, _ | 4, _, 1, _ | 4, _, 2, _ | 4, _, 3, _ | 4, _, 4, _ | 4, _, 5, _ | 5, _, 0, _ | 5, _, 1, _ | 5, _, 2, _ | 5, _, 3, _ | 5, _, 4, _ | 5, _, 5, _ => rfl
  have f1 : ∀ a b : Nat, a < 6 → b < 6 → W.cell? ⟨1, a * 6 + b, none⟩ = some (.bool (covB a b)) := fun a b ha hb => by
    have := k1 a ha b hb
    rw [c1, ← Array.getElem?_toList, this]
    match a, ha, b, hb with
    | 0, _, 0, _ | 0, _, 1, _ | 0, _, 2, _ | 0, _, 3, _ | 0, _, 4, _ | 0, _, 5, _ | 1, _, 0, _ | 1, _, 1, _ | 1, _, 2, _ | 1, _, 3, _ | 1, _, 4, _ | 1, _, 5, _ | 2, _, 0, _ | 2, _, 1, _ | 2, _, 2, _ | 2, _, 3, _ | 2, _, 4, _ | 2, _, 5, _ | 3, _, 0, _ | 3, _, 1, _ | 3, _, 2, _ | 3, _, 3, _ | 3, _, 4, _ | 3, _, 5, _ | 4, _, 0, _ | 4, _, 1, _ | 4, _, 2, _ | 4, _, 3, _ | 4, _, 4, _ | 4, _, 5, _ | 5, _, 0, _ | 5, _, 1, _ | 5, _, 2, _ | 5, _, 3, _ | 5, _, 4, _ | 5, _, 5, _ => rfl
  refine ⟨?_, f0, f1⟩
  have := f1 0 0 (by omega) (by omega)
  rcases Nat.lt_or_ge 1 W.heap.size with hh | hh
  · exact hh
  · exfalso
    have e : W.heap[1]? = none := by simp; omega
    simp [World.cell?, e] at this

end Go.Proofs.YthagomibjlcfmaaDoor
