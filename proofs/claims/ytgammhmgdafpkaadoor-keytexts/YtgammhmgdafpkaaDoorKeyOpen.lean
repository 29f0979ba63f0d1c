/-
  An argument of type []api.Value, opened: values as plain data, in memory.
-/
import Derived.Test.YtgammhmgdafpkaaDoorKeyMem
import Derived.ProofKit
import Derived.OpenShut
import Derived.Deep.Slices
import Derived.Deep.Strs
import Derived.Lib.SmallJoins
import Derived.ShutString
import Derived.ChangeOld
import Derived.SizedLaws
namespace Go.Proofs.YtgammhmgdafpkaaDoor
open Go.ChangeShapes Go.WideShapes Go.ChangeAt Go.RowKit Go.Deep
set_option linter.unusedVariables false

theorem kcellsV : Tryd.prog.cellsOf 35 = 3 := by kernel_rfl
theorem kcellsI : Tryd.prog.cellsOf 3 = 1 := by kernel_rfl
theorem kcellsL : Tryd.prog.cellsOf 2 = 1 := by kernel_rfl
theorem kcellsS : Tryd.prog.cellsOf 9 = 1 := by kernel_rfl
theorem kbytesV : Tryd.prog.bytesOf 35 = 32 := by kernel_rfl

/-- How a value reads. -/
def ValV.data {H : Type} (v : ValV) : DataW H := .agg [.lit (.int .i64 v.kind), .lit (.int .i64 v.n), .lit (.string v.S.data.toList)]

theorem kbounds_i64 {n : Int} (h : Lit.wf (.int .i64 n) = true) : -9223372036854775808 ≤ n ∧ n ≤ 9223372036854775807 := by
  have e1 : IntKind.i64.min = -9223372036854775808 := by decide
  have e2 : IntKind.i64.max = 9223372036854775807 := by decide
  simpa [Lit.wf, e1, e2] using h

theorem kadd_off (b o i : Nat) : (⟨b, o, none⟩ : Addr).add i = ⟨b, o + i, none⟩ := by
  by_cases h0 : i = 0
  · subst h0; simp [Addr.add]
  · simp [Addr.add, h0]

theorem klist3 {α : Type} {cs : List α} (h : cs.length = 3) : ∃ c0 c1 c2, cs = [c0, c1, c2] := by
  match cs, h with
  | [c0, c1, c2], _ => exact ⟨c0, c1, c2, rfl⟩

set_option maxHeartbeats 800000 in
theorem kopen_val {H : Type} {enc : TypeId × Value → H} {w : World} {base : Nat} {spare : Nat → Bool} {held : Bool} {fuel i b o : Nat} {cs : List Value} {D : DataW H} {Pl : List MemPlace}
    (h1 : w.cells? base ((⟨b, o, none⟩ : Addr).add (i * 3)) 3 = some cs) (h2 : DataW.trod enc Tryd.prog w base spare held fuel 35 cs = some (D, Pl)) :
    ∃ v : ValV, b < w.heap.size ∧ VlAt w b (o + i * 3) v ∧ v.In ∧ D = v.data := by
  obtain ⟨_, hlen, hcell⟩ := World.cells?_some h1
  obtain ⟨y0, y1, y2, n, hx, _, g0, g1, g2⟩ := trod_struct3 Tryd.underlying35 h2
  obtain ⟨v0, v1, v2, rfl⟩ := klist3 hlen
  simp only [kcellsI, kcellsL, kcellsS] at g0 g1 g2
  obtain ⟨a0, e0, rfl, w0⟩ := DataW.trod_int Tryd.underlying3 g0
  obtain ⟨a1, e1, rfl, w1⟩ := DataW.trod_int Tryd.underlying2 g1
  obtain ⟨a2, e2, rfl, w2⟩ := DataW.trod_string Tryd.underlying9 g2
  simp at e0 e1 e2
  subst e0 e1 e2
  have b0 := kbounds_i64 w0
  have b1 := kbounds_i64 w1
  have k0 := hcell 0 (by omega)
  have k1 := hcell 1 (by omega)
  have k2 := hcell 2 (by omega)
  simp only [kadd_off, List.getElem?_cons_zero, List.getElem?_cons_succ] at k0 k1 k2
  simp only [Prod.mk.injEq] at hx
  refine ⟨⟨a0, a1, a2⟩, World.block_lt_of_cell? _ _ k0, ⟨k0, k1, k2⟩, ⟨b0.1, b0.2, b1.1, b1.2⟩, ?_⟩
  rw [hx.1]; rfl

theorem kweights {H : Type} (L : List ValV) {v : ValV} (hv : v ∈ L) : v.S.size ∈ DataW.weightsAll (H := H) Tryd.prog 35 (L.map ValV.data) := by
  induction L with
  | nil => cases hv
  | cons x L ih =>
    simp only [List.map_cons, DataW.weightsAll, List.mem_append]
    rcases List.mem_cons.1 hv with rfl | hv
    · left; simp [ValV.data, DataW.weights, Tryd.underlying35, DataW.weightsEach]
    · right; exact ih hv

set_option maxHeartbeats 800000 in
theorem open_vals {H : Type} {enc : TypeId × Value → H} {w : World} {base : Nat} {spare : Nat → Bool} {held : Bool} {a : Option Addr} {len cap : Nat} {d : DataW H} {pl : List MemPlace}
    (h : DataW.Trod enc Tryd.prog w base spare held 22 (.slice a len cap) d pl) (hw : ∀ n ∈ d.weights Tryd.prog 22, n ≤ reachBytes) :
    ∃ L : List ValV, L.length = len ∧ ValsAt w a L ∧ (∀ v ∈ L, v.In ∧ v.S.size ≤ 140737488351232) ∧ len * 32 ≤ 140737488351232 ∧ (d = .nil ∧ L = [] ∨ ∃ sp, d = .slice (L.map ValV.data) sp) := by
  obtain ⟨fuel, hf⟩ := h
  rcases open_slice Tryd.underlying22 hf with ⟨hcs, hx⟩ | ⟨a', len', cap', m, n, D, Pl, hcs, _, hl, hm, hmm, hx, hel⟩
  · simp [Value.cells] at hcs
    obtain ⟨rfl, rfl, rfl⟩ := hcs
    simp only [Prod.mk.injEq] at hx
    exact ⟨[], rfl, .inl rfl, by simp, by omega, .inl ⟨hx.1, rfl⟩⟩
  · simp [Value.cells] at hcs
    obtain ⟨rfl, rfl, rfl⟩ := hcs
    have hlm : len ≤ m := by rw [hmm]; split <;> omega
    rw [kcellsV] at hel
    simp only [Prod.mk.injEq] at hx
    by_cases h0 : len = 0
    · subst h0
      exact ⟨[], rfl, .inl rfl, by simp, by omega, .inr ⟨_, by rw [hx.1]; rfl⟩⟩
    · obtain ⟨cs0, q0, _⟩ := hel 0 (by omega)
      obtain ⟨_, hlen0, hc0⟩ := World.cells?_some q0
      have hc00 := hc0 0 (by omega)
      obtain ⟨v0, v1, v2, rfl⟩ := klist3 hlen0
      have hsp : a'.spot = none := by
        have := World.cell?_spot (show w.cell? a' = some v0 by simpa [Addr.add] using hc00)
        exact this
      obtain ⟨b, o, sp⟩ := a'
      simp only at hsp
      subst hsp
      obtain ⟨A, hA⟩ := @choose_lt ValV ⟨⟨0, 0, ByteArray.empty⟩⟩ len (fun i v => b < w.heap.size ∧ VlAt w b (o + i * 3) v ∧ v.In ∧ D i = v.data) (fun i hi => by
        obtain ⟨cs, q1, q2⟩ := hel i (by omega)
        exact kopen_val q1 q2)
      have hmap : (List.range len).map D = ((List.range len).map A).map ValV.data := by
        rw [List.map_map]
        exact List.map_congr_left (fun i hi => (hA i (by simpa using hi)).2.2.2)
      have hd : d = .slice (((List.range len).map A).map ValV.data) ((List.range (m - len)).map fun j => D (len + j)) := by rw [hx.1, hmap]
      have hll : ((List.range len).map A).length = len := by simp
      have hbytes : (len + (m - len)) * 32 ≤ 140737488351232 := by
        have := hw ((len + (m - len)) * 32) (by rw [hd]; simp [DataW.weights, Tryd.underlying22, kbytesV])
        simpa [reachBytes] using this
      refine ⟨(List.range len).map A, hll, .inr ⟨b, o, rfl, (hA 0 (by omega)).1, fun i hi => ?_⟩, ?_, by omega, .inr ⟨_, hd⟩⟩
      · have := (hA i (by rw [hll] at hi; exact hi)).2.1
        simpa using this
      · intro v hv
        have hwv : v.S.size ≤ reachBytes := hw _ (by
          rw [hd]
          simp only [DataW.weights, Tryd.underlying22, List.mem_cons, List.mem_append]
          exact .inr (.inl (kweights _ hv)))
        obtain ⟨i, hi, rfl⟩ := List.mem_map.1 hv
        exact ⟨(hA i (by simpa using hi)).2.2.1, by simpa [reachBytes] using hwv⟩

end Go.Proofs.YtgammhmgdafpkaaDoor
