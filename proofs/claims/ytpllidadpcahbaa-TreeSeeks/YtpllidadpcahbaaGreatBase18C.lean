/-
  An argument of type api.Sheet, opened: a page as plain data, its slots in memory.
  Arguments of the laws opened: a page with how it reads, an entry, rows of entries, of children, of acts.
-/
import Derived.Test.YtpllidadpcahbaaGreatBase2C
import Derived.ProofKit
import Derived.OpenShut
import Derived.ShutString
import Derived.ChangeOld
import Derived.SizedLaws
import Derived.SliceStrings
import Derived.Test.YtpllidadpcahbaaGreatBase3C
import Derived.Deep.Slices
import Derived.Deep.Strs
import Derived.Lib.SmallJoins
namespace Go.Proofs.YtpllidadpcahbaaGreat
open Go.ChangeShapes Go.WideShapes Go.ChangeAt Go.RowKit
set_option linter.unusedVariables false

theorem cellsSheet : Tryz.prog.cellsOf 63 = 5 := by kernel_rfl
theorem cellsPage : Tryz.prog.cellsOf 24 = 1 := by kernel_rfl
theorem cellsLSN : Tryz.prog.cellsOf 60 = 1 := by kernel_rfl
theorem cellsInt : Tryz.prog.cellsOf 3 = 1 := by kernel_rfl
theorem cellsString : Tryz.prog.cellsOf 9 = 1 := by kernel_rfl
theorem cellsStrings : Tryz.prog.cellsOf 61 = 1 := by kernel_rfl
theorem bytesString : Tryz.prog.bytesOf 9 = 16 := by kernel_rfl

theorem bounds_u32 {n : Int} (h : Lit.wf (.int .u32 n) = true) : 0 ≤ n ∧ n ≤ 4294967295 := by
  have e1 : IntKind.u32.min = 0 := by decide
  have e2 : IntKind.u32.max = 4294967295 := by decide
  simpa [Lit.wf, e1, e2] using h
theorem bounds_u64' {n : Int} (h : Lit.wf (.int .u64 n) = true) : 0 ≤ n ∧ n ≤ 18446744073709551615 := by
  have e1 : IntKind.u64.min = 0 := by decide
  have e2 : IntKind.u64.max = 18446744073709551615 := by decide
  simpa [Lit.wf, e1, e2] using h
theorem bounds_i64' {n : Int} (h : Lit.wf (.int .i64 n) = true) : -9223372036854775808 ≤ n ∧ n ≤ 9223372036854775807 := by
  have e1 : IntKind.i64.min = -9223372036854775808 := by decide
  have e2 : IntKind.i64.max = 9223372036854775807 := by decide
  simpa [Lit.wf, e1, e2] using h

end Go.Proofs.YtpllidadpcahbaaGreat

namespace Go.Proofs.YtpllidadpcahbaaGreat
open Go.ChangeShapes Go.WideShapes Go.ChangeAt Go.RowKit Go.Deep
set_option linter.unusedVariables false
set_option linter.unusedSimpArgs false

theorem ncellsE : Tryz.prog.cellsOf 28 = 3 := by kernel_rfl

theorem ncellsR : Tryz.prog.cellsOf 26 = 2 := by kernel_rfl

theorem nbytesE : Tryz.prog.bytesOf 28 = 32 := by kernel_rfl


/-- What is known of an entry that was handed in. -/
structure EntV.In (e : EntV) : Prop where
  page : e.page < 4294967296
  lo : -9223372036854775808 ≤ e.slot
  hi : e.slot ≤ 9223372036854775807

/-- How an entry reads, how a child does. -/
def EntV.data {H : Type} (e : EntV) : DataW H := .agg [.lit (.string e.key.data.toList), .agg [.lit (.int .u32 e.page), .lit (.int .i64 e.slot)]]
def ChildV.data {H : Type} (x : ChildV) : DataW H := .agg [.lit (.int .u32 x.page), x.e.data]

theorem nadd_off (b o i : Nat) : (⟨b, o, none⟩ : Addr).add i = ⟨b, o + i, none⟩ := by
  by_cases h0 : i = 0
  · subst h0; simp [Addr.add]
  · simp [Addr.add, h0]

set_option maxHeartbeats 800000 in
theorem nopen_ent {H : Type} {enc : TypeId × Value → H} {w : World} {base : Nat} {spare : Nat → Bool} {held : Bool} {fuel : Nat} {cs : List Value} {D : DataW H} {Pl : List MemPlace} (hl : cs.length = 3)
    (h : DataW.trod enc Tryz.prog w base spare held fuel 28 cs = some (D, Pl)) : ∃ e : EntV, cs = e.enc ∧ e.In ∧ D = e.data := by
  obtain ⟨v0, v1, v2, rfl⟩ : ∃ v0 v1 v2, cs = [v0, v1, v2] := by
    match cs, hl with
    | [v0, v1, v2], _ => exact ⟨_, _, _, rfl⟩
  obtain ⟨y0, y1, n, hx, _, g0, g1⟩ := trod_struct2 Tryz.underlying28 h
  simp only [cellsString, ncellsR] at g0 g1
  obtain ⟨a0, e0, rfl, _⟩ := DataW.trod_string Tryz.underlying9 g0
  obtain ⟨z0, z1, m, hz, _, r0, r1⟩ := trod_struct2 Tryz.underlying26 g1
  simp only [cellsPage, cellsInt] at r0 r1
  obtain ⟨a1, e1, rfl, w1⟩ := DataW.trod_int Tryz.underlying24 r0
  obtain ⟨a2, e2, rfl, w2⟩ := DataW.trod_int Tryz.underlying3 r1
  simp at e0 e1 e2
  have k1 := bounds_u32 w1
  have k2 := bounds_i64' w2
  obtain ⟨p, rfl⟩ := Int.eq_ofNat_of_zero_le k1.1
  simp only [Prod.mk.injEq] at hx
  refine ⟨⟨a0, p, a2⟩, by rw [e0, e1, e2]; rfl, ⟨by show p < _; omega, k2.1, k2.2⟩, ?_⟩
  rw [hx.1, hz]; rfl

/-- A slice of structs, opened. -/
theorem nopen_rows {H : Type} {enc : TypeId × Value → H} {w : World} {base : Nat} {spare : Nat → Bool} {held : Bool} {a : Option Addr} {len cap : Nat} {d : DataW H} {pl : List MemPlace} {α : Type} (def' : α) (k bytes : Nat) (enc' : α → List Value) (dat : α → DataW H) (good : α → Prop) (kz : α → Nat) (T te : TypeId)
    (ht : Tryz.prog.underlying T = some (.slice te)) (hk : Tryz.prog.cellsOf te = k) (hk0 : 0 < k) (hb : Tryz.prog.bytesOf te = bytes)
    (one : ∀ fuel cs D Pl, cs.length = k → DataW.trod enc Tryz.prog w base spare held fuel te cs = some (D, Pl) → ∃ x, cs = enc' x ∧ good x ∧ D = dat x)
    (hwt : ∀ (L : List α) (x : α), x ∈ L → kz x ∈ DataW.weightsAll Tryz.prog te (L.map dat))
    (h : DataW.Trod enc Tryz.prog w base spare held T (.slice a len cap) d pl) (hw : ∀ n ∈ d.weights Tryz.prog T, n ≤ reachBytes) :
    ∃ L : List α, L.length = len ∧ RowsAt k enc' w a L ∧ (∀ x ∈ L, good x ∧ kz x ≤ 140737488351232) ∧ len * bytes ≤ 140737488351232 := by
  obtain ⟨fuel, hf⟩ := h
  rcases open_slice ht hf with ⟨hcs, hx⟩ | ⟨a', len', cap', m, n, D, Pl, hcs, _, hl, hm, hmm, hx, hel⟩
  · simp [Value.cells] at hcs
    obtain ⟨rfl, rfl, rfl⟩ := hcs
    exact ⟨[], rfl, .inl rfl, by simp, by omega⟩
  · simp [Value.cells] at hcs
    obtain ⟨rfl, rfl, rfl⟩ := hcs
    have hlm : len ≤ m := by rw [hmm]; split <;> omega
    rw [hk] at hel
    simp only [Prod.mk.injEq] at hx
    by_cases h0 : len = 0
    · subst h0
      exact ⟨[], rfl, .inl rfl, by simp, by omega⟩
    · obtain ⟨cs0, q0, _⟩ := hel 0 (by omega)
      obtain ⟨_, hlen0, hc0⟩ := World.cells?_some q0
      have hc00 := hc0 0 (by omega)
      have hsp : a'.spot = none := by
        obtain ⟨v0, hv0⟩ : ∃ v0, cs0[0]? = some v0 := ⟨_, List.getElem?_eq_getElem (by omega)⟩
        have := World.cell?_spot (show w.cell? a' = some v0 by rw [← hv0]; simpa [Addr.add] using hc00)
        exact this
      obtain ⟨b, o, sp⟩ := a'
      simp only at hsp
      subst hsp
      obtain ⟨A, hA⟩ := @choose_lt α ⟨def'⟩ len (fun i x => b < w.heap.size ∧ (∀ j v, (enc' x)[j]? = some v → w.cell? ⟨b, o + i * k + j, none⟩ = some v) ∧ good x ∧ D i = dat x) (fun i hi => by
        obtain ⟨cs, q1, q2⟩ := hel i (by omega)
        obtain ⟨_, hlen1, hc1⟩ := World.cells?_some q1
        obtain ⟨x, rfl, hg, hD⟩ := one _ _ _ _ hlen1 q2
        have hcell : ∀ j v, (enc' x)[j]? = some v → w.cell? ⟨b, o + i * k + j, none⟩ = some v := fun j v hv => by
          have hj : j < k := by rw [← hlen1]; exact (List.getElem?_eq_some_iff.1 hv).1
          have := hc1 j hj
          rw [nadd_off, nadd_off, hv] at this
          exact this
        obtain ⟨v0, hv0⟩ : ∃ v0, (enc' x)[0]? = some v0 := ⟨_, List.getElem?_eq_getElem (by omega)⟩
        exact ⟨x, World.block_lt_of_cell? _ _ (hcell 0 v0 hv0), hcell, hg, hD⟩)
      have hmap : (List.range len).map D = ((List.range len).map A).map dat := by
        rw [List.map_map]
        exact List.map_congr_left (fun i hi => (hA i (by simpa using hi)).2.2.2)
      have hd : d = .slice (((List.range len).map A).map dat) ((List.range (m - len)).map fun j => D (len + j)) := by rw [hx.1, hmap]
      have hll : ((List.range len).map A).length = len := by simp
      have hbytes : (len + (m - len)) * bytes ≤ 140737488351232 := by
        have := hw ((len + (m - len)) * bytes) (by rw [hd]; simp [DataW.weights, ht, hb])
        simpa [reachBytes] using this
      refine ⟨(List.range len).map A, hll, .inr ⟨b, o, rfl, (hA 0 (by omega)).1, fun i hi => ?_⟩, ?_, ?_⟩
      · have := (hA i (by rw [hll] at hi; exact hi)).2.1
        simpa using this
      · intro v hv
        have hwv : kz v ≤ reachBytes := hw _ (by
          rw [hd]
          simp only [DataW.weights, ht, List.mem_cons, List.mem_append]
          exact .inr (.inl (hwt _ _ hv)))
        obtain ⟨i, hi, rfl⟩ := List.mem_map.1 hv
        exact ⟨(hA i (by simpa using hi)).2.2.1, by simpa [reachBytes] using hwv⟩
      · refine Nat.le_trans (Nat.mul_le_mul_right bytes (Nat.le_add_right len (m - len))) hbytes

theorem nweights_ent {H : Type} (L : List EntV) (x : EntV) (hx : x ∈ L) : x.key.size ∈ DataW.weightsAll (H := H) Tryz.prog 28 (L.map EntV.data) := by
  induction L with
  | nil => cases hx
  | cons y L ih =>
    simp only [List.map_cons, DataW.weightsAll, List.mem_append]
    rcases List.mem_cons.1 hx with rfl | hx
    · left; simp [EntV.data, DataW.weights, Tryz.underlying28, DataW.weightsEach]
    · right; exact ih hx

theorem open_ents {H : Type} {enc : TypeId × Value → H} {w : World} {base : Nat} {spare : Nat → Bool} {held : Bool} {a : Option Addr} {len cap : Nat} {d : DataW H} {pl : List MemPlace}
    (h : DataW.Trod enc Tryz.prog w base spare held 22 (.slice a len cap) d pl) (hw : ∀ n ∈ d.weights Tryz.prog 22, n ≤ reachBytes) :
    ∃ L : List EntV, L.length = len ∧ EntsAt w a L ∧ (∀ x ∈ L, x.In ∧ x.key.size ≤ 140737488351232) ∧ len * 32 ≤ 140737488351232 :=
  nopen_rows ⟨⟨#[]⟩, 0, 0⟩ 3 32 EntV.enc EntV.data EntV.In (fun x => x.key.size) 22 28 Tryz.underlying22 ncellsE (by omega) nbytesE (fun fuel cs D Pl hl h => nopen_ent hl h) nweights_ent h hw

set_option maxHeartbeats 800000 in
set_option maxRecDepth 100000 in
/-- An entry that was handed in by itself. -/
theorem open_ent {H : Type} {enc : TypeId × Value → H} {w : World} {base b0 : Nat} {r : Reach} {spare : Nat → Bool} {held : Bool} {v : Value} {d : DataW H} {pl : List MemPlace}
    (hv : Value.okWide Tryz.prog w r b0 28 v) (h : DataW.Trod enc Tryz.prog w base spare held 28 v d pl) (hw : ∀ n ∈ d.weights Tryz.prog 28, n ≤ reachBytes) :
    ∃ e : EntV, v = e.val ∧ e.In ∧ e.key.size ≤ 140737488351232 := by
  obtain ⟨fuel, hf⟩ := h
  obtain ⟨cs, rfl, hsz⟩ := okWide_struct Tryz.underlying28 hv
  rw [ncellsE] at hsz
  obtain ⟨l⟩ := cs
  simp only [Value.cells] at hf
  obtain ⟨e, he, hin, rfl⟩ := nopen_ent (by simpa using hsz) hf
  subst he
  refine ⟨e, rfl, hin, ?_⟩
  have := hw e.key.size (by simp [EntV.data, DataW.weights, Tryz.underlying28, DataW.weightsEach])
  simpa [reachBytes] using this

end Go.Proofs.YtpllidadpcahbaaGreat
