/-
  An argument of type api.Sheet, opened: a page as plain data, its slots in memory.
  Arguments of the laws opened: a page with how it reads, an entry, rows of entries, of children, of acts.
  The acts of NodeLeaves, opened.
  Rows of structs that a call has made itself: what append makes of them (of any structs).
  Where NodeLeaves stands: its page, its own list of items, the act, its entry, its change.
-/
import Derived.Test.YtnljephojonilaaBase2C
import Derived.ProofKit
import Derived.OpenShut
import Derived.ShutString
import Derived.ChangeOld
import Derived.SizedLaws
import Derived.SliceStrings
import Derived.Test.YtnljephojonilaaBase3C
import Derived.Deep.Slices
import Derived.Deep.Strs
import Derived.Lib.SmallJoins
import Derived.Maps.AppendAt
import Derived.Deep.AppendLies
import Derived.BigRegion
import Derived.Deep.RegionLaw
import Derived.Test.YtnljephojonilaaNodeSaysC
namespace Go.Proofs.Ytnljephojonilaa
open Go.ChangeShapes Go.WideShapes Go.ChangeAt Go.RowKit
set_option linter.unusedVariables false

theorem cellsSheet : Try.prog.cellsOf 29 = 5 := by kernel_rfl
theorem cellsPage : Try.prog.cellsOf 24 = 1 := by kernel_rfl
theorem cellsLSN : Try.prog.cellsOf 26 = 1 := by kernel_rfl
theorem cellsInt : Try.prog.cellsOf 3 = 1 := by kernel_rfl
theorem cellsString : Try.prog.cellsOf 9 = 1 := by kernel_rfl
theorem cellsStrings : Try.prog.cellsOf 27 = 1 := by kernel_rfl
theorem bytesString : Try.prog.bytesOf 9 = 16 := by kernel_rfl

theorem trod_struct5 {H : Type} {enc : TypeId × Value → H} {P : Program} {w : World} {base : Nat} {spare : Nat → Bool} {held : Bool} {t : TypeId} {f0 f1 f2 f3 f4 : Field} {fuel : Nat} {cs : List Value} {x : DataW H × List MemPlace} (ht : P.underlying t = some (.struct #[f0, f1, f2, f3, f4])) (h : DataW.trod enc P w base spare held fuel t cs = some x) :
    ∃ y0 y1 y2 y3 y4 n, x = (.agg [y0.1, y1.1, y2.1, y3.1, y4.1], y0.2 ++ (y1.2 ++ (y2.2 ++ (y3.2 ++ y4.2)))) ∧ cs.length = P.cellsOf t ∧ DataW.trod enc P w base spare held n f0.type ((cs.drop f0.offset).take (P.cellsOf f0.type)) = some y0 ∧
      DataW.trod enc P w base spare held n f1.type ((cs.drop f1.offset).take (P.cellsOf f1.type)) = some y1 ∧ DataW.trod enc P w base spare held n f2.type ((cs.drop f2.offset).take (P.cellsOf f2.type)) = some y2 ∧
      DataW.trod enc P w base spare held n f3.type ((cs.drop f3.offset).take (P.cellsOf f3.type)) = some y3 ∧ DataW.trod enc P w base spare held n f4.type ((cs.drop f4.offset).take (P.cellsOf f4.type)) = some y4 := by
  obtain ⟨xs, n, _, rfl, hl, hlen, hf⟩ := DataW.trod_struct ht h
  match xs, hlen with
  | [y0, y1, y2, y3, y4], _ => exact ⟨y0, y1, y2, y3, y4, n, by simp, hl, by simpa using hf 0 f0 rfl, by simpa using hf 1 f1 rfl, by simpa using hf 2 f2 rfl, by simpa using hf 3 f3 rfl, by simpa using hf 4 f4 rfl⟩

theorem weights_strs {H : Type} (ss : List ByteArray) {s : ByteArray} (hs : s ∈ ss) : s.size ∈ DataW.weightsAll (H := H) Try.prog 9 (strs ss) := by
  induction ss with
  | nil => cases hs
  | cons x ss ih =>
    simp only [strs, List.map_cons, DataW.weightsAll, List.mem_append]
    rcases List.mem_cons.1 hs with rfl | hs
    · left; simp [DataW.weights]
    · right; exact ih hs

theorem bounds_u32 {n : Int} (h : Lit.wf (.int .u32 n) = true) : 0 ≤ n ∧ n ≤ 4294967295 := by
  have e1 : IntKind.u32.min = 0 := by decide
  have e2 : IntKind.u32.max = 4294967295 := by decide
  simpa [Lit.wf, e1, e2] using h
theorem bounds_u64' {n : Int} (h : Lit.wf (.int .u64 n) = true) : 0 ≤ n ∧ n ≤ 18446744073709551615 := by
  have e1 : IntKind.u64.min = 0 := by decide
  have e2 : IntKind.u64.max = 18446744073709551615 := by decide
  simpa [Lit.wf, e1, e2] using h
theorem bounds_i64' {n : Int} (h : Lit.wf (.int .i64 n) = true) : -9223372036854775808 ≤ n ∧ n ≤ 9223372036854775807 := by
  have e1 : IntKind.i64.min = -9223372036854775808 := by decide
  have e2 : IntKind.i64.max = 9223372036854775807 := by decide
  simpa [Lit.wf, e1, e2] using h

set_option maxHeartbeats 800000 in
set_option maxRecDepth 100000 in
theorem open_sheet {H : Type} {enc : TypeId × Value → H} {w : World} {base b0 : Nat} {r : Reach} {spare : Nat → Bool} {held : Bool} {v : Value} {d : DataW H} {pl : List MemPlace}
    (hv : Value.okWide Try.prog w r b0 29 v) (h : DataW.Trod enc Try.prog w base spare held 29 v d pl) (hw : ∀ n ∈ d.weights Try.prog 29, n ≤ reachBytes) :
    ∃ (p : SheetV) (a : Option Addr) (c : Nat), v = p.val a c ∧ p.Ok w a := by
  obtain ⟨fuel, hf⟩ := h
  obtain ⟨cs, rfl, hsz⟩ := okWide_struct Try.underlying29 hv
  rw [cellsSheet] at hsz
  obtain ⟨l⟩ := cs
  obtain ⟨v0, v1, v2, v3, v4, rfl⟩ : ∃ v0 v1 v2 v3 v4, l = [v0, v1, v2, v3, v4] := by
    match l, hsz with
    | [v0, v1, v2, v3, v4], _ => exact ⟨_, _, _, _, _, rfl⟩
  simp only [Value.cells] at hf
  obtain ⟨y0, y1, y2, y3, y4, n, hx, _, g0, g1, g2, g3, g4⟩ := trod_struct5 Try.underlying29 hf
  simp only [cellsPage, cellsLSN, cellsInt, cellsString, cellsStrings] at g0 g1 g2 g3 g4
  obtain ⟨x0, e0, rfl, w0⟩ := DataW.trod_int Try.underlying24 g0
  obtain ⟨x1, e1, rfl, w1⟩ := DataW.trod_int Try.underlying26 g1
  obtain ⟨x2, e2, rfl, w2⟩ := DataW.trod_int Try.underlying3 g2
  obtain ⟨x3, e3, rfl, w3⟩ := DataW.trod_string Try.underlying9 g3
  simp at e0 e1 e2 e3
  subst e0 e1 e2 e3
  obtain ⟨k0, k1⟩ := bounds_u32 w0
  obtain ⟨k2, k3⟩ := bounds_u64' w1
  obtain ⟨n0, rfl⟩ := Int.eq_ofNat_of_zero_le k0
  obtain ⟨n1, rfl⟩ := Int.eq_ofNat_of_zero_le k2
  have k4 := bounds_i64' w2
  simp only [Prod.mk.injEq] at hx
  obtain ⟨rfl, _⟩ := hx
  have hw3 : x3.data.toList.length ≤ reachBytes := hw _ (by simp [DataW.weights, Try.underlying29, DataW.weightsEach])
  have hw3' : x3.size ≤ 140737488351232 := by simpa [reachBytes] using hw3
  rcases Go.ChangeShapes.open_strings Try.underlying27 Try.underlying9 cellsString g4 with ⟨hcs, rfl⟩ | ⟨a', len', cap', ss, hcs, _, hl, hm, hss, rfl, hc, hz⟩
  · simp at hcs
    subst hcs
    exact ⟨⟨n0, n1, x2, x3, []⟩, none, 0, rfl, ⟨by show n0 < _; omega, by show n1 < _; omega, k4, hw3', by simp, by simp, .inl rfl⟩⟩
  · simp at hcs
    subst hcs
    have hlm : len' ≤ ss.length := by rw [hss]; split <;> omega
    have hmem : ∀ s ∈ ss.take len', s.size ≤ 140737488351232 := fun s hs => by
      have := hw s.size (by
        simp only [DataW.weights, Try.underlying29, DataW.weightsEach, Try.underlying27, List.map_cons, List.map_nil, List.mem_append, List.mem_cons]
        simp [weights_strs _ hs])
      simpa [reachBytes] using this
    have hlen : len' * 16 ≤ 140737488351232 := by
      have := hw ((strs (H := H) (ss.take len')).length + (strs (H := H) (ss.drop len')).length |> (· * 16)) (by
        simp [DataW.weights, Try.underlying29, DataW.weightsEach, Try.underlying27, bytesString])
      have e : (strs (H := H) (ss.take len')).length = len' := by simp [strs]; omega
      rw [e] at this
      have : (len' + (strs (H := H) (ss.drop len')).length) * 16 ≤ 140737488351232 := by simpa [reachBytes] using this
      omega
    have htl : (ss.take len').length = len' := by simp; omega
    refine ⟨⟨n0, n1, x2, x3, ss.take len'⟩, some a', cap', by simp [SheetV.val, htl], ⟨by show n0 < _; omega, by show n1 < _; omega, k4, hw3', by show (ss.take len').length ≤ _; omega, hmem, ?_⟩⟩
    by_cases h0 : len' = 0
    · left; simp [h0]
    · right
      have hc0 := hc 0 (by omega)
      obtain ⟨b, o, sp⟩ := a'
      cases sp with
      | some z => simp [Addr.add, World.cell?] at hc0; split at hc0 <;> simp_all
      | none =>
        refine ⟨b, o, rfl, World.block_lt_of_cell? w _ hc0, fun i hi => ?_⟩
        have hi' : i < len' := by simpa [htl] using hi
        have := hc i (by omega)
        rw [Addr.add_lit] at this
        rw [this, List.getD_eq_getElem?_getD, List.getElem?_eq_getElem (by omega)]
        simp

end Go.Proofs.Ytnljephojonilaa

namespace Go.Proofs.Ytnljephojonilaa
open Go.ChangeShapes Go.WideShapes Go.ChangeAt Go.RowKit Go.Deep
set_option linter.unusedVariables false
set_option linter.unusedSimpArgs false

theorem ncellsE : Try.prog.cellsOf 43 = 3 := by kernel_rfl
theorem ncellsR : Try.prog.cellsOf 41 = 2 := by kernel_rfl
theorem ncellsC : Try.prog.cellsOf 63 = 4 := by kernel_rfl
theorem ncellsA : Try.prog.cellsOf 45 = 6 := by kernel_rfl
theorem ncellsB : Try.prog.cellsOf 4 = 1 := by kernel_rfl
theorem nbytesE : Try.prog.bytesOf 43 = 32 := by kernel_rfl
theorem nbytesC : Try.prog.bytesOf 63 = 40 := by kernel_rfl
theorem nbytesA : Try.prog.bytesOf 45 = 56 := by kernel_rfl

/-- What is known of an entry that was handed in. -/
structure EntV.In (e : EntV) : Prop where
  page : e.page < 4294967296
  lo : -9223372036854775808 ≤ e.slot
  hi : e.slot ≤ 9223372036854775807

/-- How an entry reads, how a child does. -/
def EntV.data {H : Type} (e : EntV) : DataW H := .agg [.lit (.string e.key.data.toList), .agg [.lit (.int .u32 e.page), .lit (.int .i64 e.slot)]]
def ChildV.data {H : Type} (x : ChildV) : DataW H := .agg [.lit (.int .u32 x.page), x.e.data]

theorem nadd_off (b o i : Nat) : (⟨b, o, none⟩ : Addr).add i = ⟨b, o + i, none⟩ := by
  by_cases h0 : i = 0
  · subst h0; simp [Addr.add]
  · simp [Addr.add, h0]

set_option maxHeartbeats 800000 in
theorem nopen_ent {H : Type} {enc : TypeId × Value → H} {w : World} {base : Nat} {spare : Nat → Bool} {held : Bool} {fuel : Nat} {cs : List Value} {D : DataW H} {Pl : List MemPlace} (hl : cs.length = 3)
    (h : DataW.trod enc Try.prog w base spare held fuel 43 cs = some (D, Pl)) : ∃ e : EntV, cs = e.enc ∧ e.In ∧ D = e.data := by
  obtain ⟨v0, v1, v2, rfl⟩ : ∃ v0 v1 v2, cs = [v0, v1, v2] := by
    match cs, hl with
    | [v0, v1, v2], _ => exact ⟨_, _, _, rfl⟩
  obtain ⟨y0, y1, n, hx, _, g0, g1⟩ := trod_struct2 Try.underlying43 h
  simp only [cellsString, ncellsR] at g0 g1
  obtain ⟨a0, e0, rfl, _⟩ := DataW.trod_string Try.underlying9 g0
  obtain ⟨z0, z1, m, hz, _, r0, r1⟩ := trod_struct2 Try.underlying41 g1
  simp only [cellsPage, cellsInt] at r0 r1
  obtain ⟨a1, e1, rfl, w1⟩ := DataW.trod_int Try.underlying24 r0
  obtain ⟨a2, e2, rfl, w2⟩ := DataW.trod_int Try.underlying3 r1
  simp at e0 e1 e2
  have k1 := bounds_u32 w1
  have k2 := bounds_i64' w2
  obtain ⟨p, rfl⟩ := Int.eq_ofNat_of_zero_le k1.1
  simp only [Prod.mk.injEq] at hx
  refine ⟨⟨a0, p, a2⟩, by rw [e0, e1, e2]; rfl, ⟨by show p < _; omega, k2.1, k2.2⟩, ?_⟩
  rw [hx.1, hz]; rfl

set_option maxHeartbeats 800000 in
theorem nopen_child {H : Type} {enc : TypeId × Value → H} {w : World} {base : Nat} {spare : Nat → Bool} {held : Bool} {fuel : Nat} {cs : List Value} {D : DataW H} {Pl : List MemPlace} (hl : cs.length = 4)
    (h : DataW.trod enc Try.prog w base spare held fuel 63 cs = some (D, Pl)) : ∃ x : ChildV, cs = x.enc ∧ (x.page < 4294967296 ∧ x.e.In) ∧ D = x.data := by
  obtain ⟨v0, v1, v2, v3, rfl⟩ : ∃ v0 v1 v2 v3, cs = [v0, v1, v2, v3] := by
    match cs, hl with
    | [v0, v1, v2, v3], _ => exact ⟨_, _, _, _, rfl⟩
  obtain ⟨y0, y1, n, hx, _, g0, g1⟩ := trod_struct2 Try.underlying63 h
  simp only [cellsPage, ncellsE] at g0 g1
  obtain ⟨a1, e1, rfl, w1⟩ := DataW.trod_int Try.underlying24 g0
  obtain ⟨D1, Pl1⟩ := y1
  obtain ⟨e, he, hin, rfl⟩ := nopen_ent (by simp) g1
  simp at e1 he
  have k1 := bounds_u32 w1
  obtain ⟨p, rfl⟩ := Int.eq_ofNat_of_zero_le k1.1
  simp only [Prod.mk.injEq] at hx
  refine ⟨⟨p, e⟩, ?_, ⟨by show p < _; omega, hin⟩, ?_⟩
  · unfold ChildV.enc EntV.enc at *
    simp only [List.cons.injEq] at he
    rw [e1, he.1, he.2.1, he.2.2.1]
  · rw [hx.1]; rfl

/-- A slice of structs, opened. -/
theorem nopen_rows {H : Type} {enc : TypeId × Value → H} {w : World} {base : Nat} {spare : Nat → Bool} {held : Bool} {a : Option Addr} {len cap : Nat} {d : DataW H} {pl : List MemPlace} {α : Type} (def' : α) (k bytes : Nat) (enc' : α → List Value) (dat : α → DataW H) (good : α → Prop) (kz : α → Nat) (T te : TypeId)
    (ht : Try.prog.underlying T = some (.slice te)) (hk : Try.prog.cellsOf te = k) (hk0 : 0 < k) (hb : Try.prog.bytesOf te = bytes)
    (one : ∀ fuel cs D Pl, cs.length = k → DataW.trod enc Try.prog w base spare held fuel te cs = some (D, Pl) → ∃ x, cs = enc' x ∧ good x ∧ D = dat x)
    (hwt : ∀ (L : List α) (x : α), x ∈ L → kz x ∈ DataW.weightsAll Try.prog te (L.map dat))
    (h : DataW.Trod enc Try.prog w base spare held T (.slice a len cap) d pl) (hw : ∀ n ∈ d.weights Try.prog T, n ≤ reachBytes) :
    ∃ L : List α, L.length = len ∧ RowsAt k enc' w a L ∧ (∀ x ∈ L, good x ∧ kz x ≤ 140737488351232) ∧ len * bytes ≤ 140737488351232 := by
  obtain ⟨fuel, hf⟩ := h
  rcases open_slice ht hf with ⟨hcs, hx⟩ | ⟨a', len', cap', m, n, D, Pl, hcs, _, hl, hm, hmm, hx, hel⟩
  · simp [Value.cells] at hcs
    obtain ⟨rfl, rfl, rfl⟩ := hcs
    exact ⟨[], rfl, .inl rfl, by simp, by omega⟩
  · simp [Value.cells] at hcs
    obtain ⟨rfl, rfl, rfl⟩ := hcs
    have hlm : len ≤ m := by rw [hmm]; split <;> omega
    rw [hk] at hel
    simp only [Prod.mk.injEq] at hx
    by_cases h0 : len = 0
    · subst h0
      exact ⟨[], rfl, .inl rfl, by simp, by omega⟩
    · obtain ⟨cs0, q0, _⟩ := hel 0 (by omega)
      obtain ⟨_, hlen0, hc0⟩ := World.cells?_some q0
      have hc00 := hc0 0 (by omega)
      have hsp : a'.spot = none := by
        obtain ⟨v0, hv0⟩ : ∃ v0, cs0[0]? = some v0 := ⟨_, List.getElem?_eq_getElem (by omega)⟩
        have := World.cell?_spot (show w.cell? a' = some v0 by rw [← hv0]; simpa [Addr.add] using hc00)
        exact this
      obtain ⟨b, o, sp⟩ := a'
      simp only at hsp
      subst hsp
      obtain ⟨A, hA⟩ := @choose_lt α ⟨def'⟩ len (fun i x => b < w.heap.size ∧ (∀ j v, (enc' x)[j]? = some v → w.cell? ⟨b, o + i * k + j, none⟩ = some v) ∧ good x ∧ D i = dat x) (fun i hi => by
        obtain ⟨cs, q1, q2⟩ := hel i (by omega)
        obtain ⟨_, hlen1, hc1⟩ := World.cells?_some q1
        obtain ⟨x, rfl, hg, hD⟩ := one _ _ _ _ hlen1 q2
        have hcell : ∀ j v, (enc' x)[j]? = some v → w.cell? ⟨b, o + i * k + j, none⟩ = some v := fun j v hv => by
          have hj : j < k := by rw [← hlen1]; exact (List.getElem?_eq_some_iff.1 hv).1
          have := hc1 j hj
          rw [nadd_off, nadd_off, hv] at this
          exact this
        obtain ⟨v0, hv0⟩ : ∃ v0, (enc' x)[0]? = some v0 := ⟨_, List.getElem?_eq_getElem (by omega)⟩
        exact ⟨x, World.block_lt_of_cell? _ _ (hcell 0 v0 hv0), hcell, hg, hD⟩)
      have hmap : (List.range len).map D = ((List.range len).map A).map dat := by
        rw [List.map_map]
        exact List.map_congr_left (fun i hi => (hA i (by simpa using hi)).2.2.2)
      have hd : d = .slice (((List.range len).map A).map dat) ((List.range (m - len)).map fun j => D (len + j)) := by rw [hx.1, hmap]
      have hll : ((List.range len).map A).length = len := by simp
      have hbytes : (len + (m - len)) * bytes ≤ 140737488351232 := by
        have := hw ((len + (m - len)) * bytes) (by rw [hd]; simp [DataW.weights, ht, hb])
        simpa [reachBytes] using this
      refine ⟨(List.range len).map A, hll, .inr ⟨b, o, rfl, (hA 0 (by omega)).1, fun i hi => ?_⟩, ?_, ?_⟩
      · have := (hA i (by rw [hll] at hi; exact hi)).2.1
        simpa using this
      · intro v hv
        have hwv : kz v ≤ reachBytes := hw _ (by
          rw [hd]
          simp only [DataW.weights, ht, List.mem_cons, List.mem_append]
          exact .inr (.inl (hwt _ _ hv)))
        obtain ⟨i, hi, rfl⟩ := List.mem_map.1 hv
        exact ⟨(hA i (by simpa using hi)).2.2.1, by simpa [reachBytes] using hwv⟩
      · refine Nat.le_trans (Nat.mul_le_mul_right bytes (Nat.le_add_right len (m - len))) hbytes

theorem nweights_ent {H : Type} (L : List EntV) (x : EntV) (hx : x ∈ L) : x.key.size ∈ DataW.weightsAll (H := H) Try.prog 43 (L.map EntV.data) := by
  induction L with
  | nil => cases hx
  | cons y L ih =>
    simp only [List.map_cons, DataW.weightsAll, List.mem_append]
    rcases List.mem_cons.1 hx with rfl | hx
    · left; simp [EntV.data, DataW.weights, Try.underlying43, DataW.weightsEach]
    · right; exact ih hx

theorem nweights_child {H : Type} (L : List ChildV) (x : ChildV) (hx : x ∈ L) : x.e.key.size ∈ DataW.weightsAll (H := H) Try.prog 63 (L.map ChildV.data) := by
  induction L with
  | nil => cases hx
  | cons y L ih =>
    simp only [List.map_cons, DataW.weightsAll, List.mem_append]
    rcases List.mem_cons.1 hx with rfl | hx
    · left; simp [ChildV.data, EntV.data, DataW.weights, Try.underlying63, Try.underlying43, DataW.weightsEach]
    · right; exact ih hx

theorem open_ents {H : Type} {enc : TypeId × Value → H} {w : World} {base : Nat} {spare : Nat → Bool} {held : Bool} {a : Option Addr} {len cap : Nat} {d : DataW H} {pl : List MemPlace}
    (h : DataW.Trod enc Try.prog w base spare held 76 (.slice a len cap) d pl) (hw : ∀ n ∈ d.weights Try.prog 76, n ≤ reachBytes) :
    ∃ L : List EntV, L.length = len ∧ EntsAt w a L ∧ (∀ x ∈ L, x.In ∧ x.key.size ≤ 140737488351232) ∧ len * 32 ≤ 140737488351232 :=
  nopen_rows ⟨⟨#[]⟩, 0, 0⟩ 3 32 EntV.enc EntV.data EntV.In (fun x => x.key.size) 76 43 Try.underlying76 ncellsE (by omega) nbytesE (fun fuel cs D Pl hl h => nopen_ent hl h) nweights_ent h hw

theorem open_childs {H : Type} {enc : TypeId × Value → H} {w : World} {base : Nat} {spare : Nat → Bool} {held : Bool} {a : Option Addr} {len cap : Nat} {d : DataW H} {pl : List MemPlace}
    (h : DataW.Trod enc Try.prog w base spare held 59 (.slice a len cap) d pl) (hw : ∀ n ∈ d.weights Try.prog 59, n ≤ reachBytes) :
    ∃ L : List ChildV, L.length = len ∧ ChildsAt w a L ∧ (∀ x ∈ L, (x.page < 4294967296 ∧ x.e.In) ∧ x.e.key.size ≤ 140737488351232) ∧ len * 40 ≤ 140737488351232 :=
  nopen_rows ⟨0, ⟨⟨#[]⟩, 0, 0⟩⟩ 4 40 ChildV.enc ChildV.data (fun x => x.page < 4294967296 ∧ x.e.In) (fun x => x.e.key.size) 59 63 Try.underlying59 ncellsC (by omega) nbytesC (fun fuel cs D Pl hl h => nopen_child hl h) nweights_child h hw

set_option maxHeartbeats 800000 in
set_option maxRecDepth 100000 in
/-- An entry that was handed in by itself. -/
theorem open_ent {H : Type} {enc : TypeId × Value → H} {w : World} {base b0 : Nat} {r : Reach} {spare : Nat → Bool} {held : Bool} {v : Value} {d : DataW H} {pl : List MemPlace}
    (hv : Value.okWide Try.prog w r b0 43 v) (h : DataW.Trod enc Try.prog w base spare held 43 v d pl) (hw : ∀ n ∈ d.weights Try.prog 43, n ≤ reachBytes) :
    ∃ e : EntV, v = e.val ∧ e.In ∧ e.key.size ≤ 140737488351232 := by
  obtain ⟨fuel, hf⟩ := h
  obtain ⟨cs, rfl, hsz⟩ := okWide_struct Try.underlying43 hv
  rw [ncellsE] at hsz
  obtain ⟨l⟩ := cs
  simp only [Value.cells] at hf
  obtain ⟨e, he, hin, rfl⟩ := nopen_ent (by simpa using hsz) hf
  subst he
  refine ⟨e, rfl, hin, ?_⟩
  have := hw e.key.size (by simp [EntV.data, DataW.weights, Try.underlying43, DataW.weightsEach])
  simpa [reachBytes] using this

set_option maxHeartbeats 800000 in
set_option maxRecDepth 100000 in
/-- How many slots a page has, by how it reads. -/
theorem sheet_slots {H : Type} {enc : TypeId × Value → H} {w : World} {base : Nat} {spare : Nat → Bool} {held : Bool} {p : SheetV} {a : Option Addr} {c : Nat} {d : DataW H} {pl : List MemPlace}
    (h : DataW.Trod enc Try.prog w base spare held 29 (p.val a c) d pl) : p.slots.length = 0 ∨ ∃ y0 y1 y2 y3 elems sp, d = .agg [y0, y1, y2, y3, .slice elems sp] ∧ elems.length = p.slots.length := by
  obtain ⟨fuel, hf⟩ := h
  simp only [Value.cells, SheetV.val] at hf
  obtain ⟨y0, y1, y2, y3, y4, n, hx, _, g0, g1, g2, g3, g4⟩ := trod_struct5 Try.underlying29 hf
  simp only [cellsPage, cellsLSN, cellsInt, cellsString, cellsStrings] at g4
  simp only [Prod.mk.injEq] at hx
  rcases open_slice Try.underlying27 g4 with ⟨hcs, hx4⟩ | ⟨a', len', cap', m, n, D, Pl, hcs, _, hl, hm, hmm, hx4, hel⟩
  · simp at hcs
    exact .inl (by have := hcs.2.1; simpa using this)
  · simp at hcs
    obtain ⟨rfl, rfl, rfl⟩ := hcs
    refine .inr ⟨y0.1, y1.1, y2.1, y3.1, (List.range p.slots.length).map D, (List.range (m - p.slots.length)).map fun j => D (p.slots.length + j), ?_, by simp⟩
    rw [hx.1, hx4]

end Go.Proofs.Ytnljephojonilaa

namespace Go.Proofs.Ytnljephojonilaa
open Go.ChangeShapes Go.WideShapes Go.ChangeAt Go.RowKit
open Go.ChangeMaps (open_string shut_string)
set_option linter.unusedVariables false

structure ActV where
  kind : Int
  n : Int
  e : EntV
  live : Bool

def ActV.enc (x : ActV) : List Value := [.int .i64 x.kind, .int .i64 x.n, .string x.e.key, .int .u32 x.e.page, .int .i64 x.e.slot, .bool x.live]
def ActV.data {H : Type} (x : ActV) : DataW H := .agg [.lit (.int .i64 x.kind), .lit (.int .i64 x.n), x.e.data, .lit (.bool x.live)]

structure ActV.In (x : ActV) : Prop where
  kind : -9223372036854775808 ≤ x.kind ∧ x.kind ≤ 9223372036854775807
  n : -9223372036854775808 ≤ x.n ∧ x.n ≤ 9223372036854775807
  e : x.e.In

def ActsAt (w : World) (a : Option Addr) (L : List ActV) : Prop := RowsAt 6 ActV.enc w a L

set_option maxHeartbeats 800000 in
theorem nopen_act {H : Type} {enc : TypeId × Value → H} {w : World} {base : Nat} {spare : Nat → Bool} {held : Bool} {fuel : Nat} {cs : List Value} {D : DataW H} {Pl : List MemPlace} (hl : cs.length = 6)
    (h : DataW.trod enc Try.prog w base spare held fuel 45 cs = some (D, Pl)) : ∃ x : ActV, cs = x.enc ∧ x.In ∧ D = x.data := by
  obtain ⟨v0, v1, v2, v3, v4, v5, rfl⟩ : ∃ v0 v1 v2 v3 v4 v5, cs = [v0, v1, v2, v3, v4, v5] := by
    match cs, hl with
    | [v0, v1, v2, v3, v4, v5], _ => exact ⟨_, _, _, _, _, _, rfl⟩
  obtain ⟨y0, y1, y2, y3, n, hx, _, g0, g1, g2, g3⟩ := Go.Joins.trod_struct4 Try.underlying45 h
  simp only [cellsInt, ncellsE, ncellsB] at g0 g1 g2 g3
  obtain ⟨a0, e0, rfl, w0⟩ := DataW.trod_int Try.underlying3 g0
  obtain ⟨a1, e1, rfl, w1⟩ := DataW.trod_int Try.underlying3 g1
  obtain ⟨D2, Pl2⟩ := y2
  obtain ⟨e, he, hin, rfl⟩ := nopen_ent (by simp) g2
  obtain ⟨b, e3, rfl⟩ := DataW.trod_bool Try.underlying4 g3
  simp at e0 e1 e3 he
  have k0 := bounds_i64' w0
  have k1 := bounds_i64' w1
  simp only [Prod.mk.injEq] at hx
  refine ⟨⟨a0, a1, e, b⟩, ?_, ⟨k0, k1, hin⟩, ?_⟩
  · unfold ActV.enc EntV.enc at *
    simp only [List.cons.injEq] at he
    rw [e0, e1, e3, he.1, he.2.1, he.2.2.1]
  · rw [hx.1]; rfl

theorem nweights_act {H : Type} (L : List ActV) (x : ActV) (hx : x ∈ L) : x.e.key.size ∈ DataW.weightsAll (H := H) Try.prog 45 (L.map ActV.data) := by
  induction L with
  | nil => cases hx
  | cons y L ih =>
    simp only [List.map_cons, DataW.weightsAll, List.mem_append]
    rcases List.mem_cons.1 hx with rfl | hx
    · left; simp [ActV.data, EntV.data, DataW.weights, Try.underlying45, Try.underlying43, DataW.weightsEach]
    · right; exact ih hx

theorem open_nacts {H : Type} {enc : TypeId × Value → H} {w : World} {base : Nat} {spare : Nat → Bool} {held : Bool} {a : Option Addr} {len cap : Nat} {d : DataW H} {pl : List MemPlace}
    (h : DataW.Trod enc Try.prog w base spare held 23 (.slice a len cap) d pl) (hw : ∀ n ∈ d.weights Try.prog 23, n ≤ reachBytes) :
    ∃ L : List ActV, L.length = len ∧ ActsAt w a L ∧ (∀ x ∈ L, x.In ∧ x.e.key.size ≤ 140737488351232) ∧ len * 56 ≤ 140737488351232 :=
  nopen_rows ⟨0, 0, ⟨⟨#[]⟩, 0, 0⟩, false⟩ 6 56 ActV.enc ActV.data ActV.In (fun x => x.e.key.size) 23 45 Try.underlying23 ncellsA (by omega) nbytesA (fun fuel cs D Pl hl h => nopen_act hl h) nweights_act h hw

end Go.Proofs.Ytnljephojonilaa

namespace Go.Proofs.Ytnljephojonilaa
open Go.RowKit
set_option linter.unusedVariables false
set_option linter.unusedSimpArgs false

/-- The rows of a type: k cells an element. -/
structure RowTy {α : Type} (P : Program) (T te : TypeId) (k bytes : Nat) (enc : α → List Value) : Prop where
  ht : P.underlying T = some (.slice te)
  info : ∃ i z, P.info? te = some i ∧ i.zero = some z ∧ i.size = k ∧ i.bytes = bytes ∧ z.cells.size = k
  hk : 0 < k
  len : ∀ x, (enc x).length = k
  one : ∀ x, ∀ u ∈ enc x, u.oneCell' = true

section
variable {α : Type} {k : Nat} {enc : α → List Value}

theorem rows_length (hl : ∀ x, (enc x).length = k) (M : List α) : (M.flatMap enc).length = M.length * k := by
  induction M with
  | nil => simp
  | cons x M ih => rw [List.flatMap_cons, List.length_append, ih, hl, List.length_cons, Nat.add_mul, Nat.one_mul, Nat.add_comm]

theorem rows_get (hl : ∀ x, (enc x).length = k) : ∀ (M : List α) (i : Nat) (hi : i < M.length) (j : Nat) (v : Value), (enc M[i])[j]? = some v → (M.flatMap enc)[i * k + j]? = some v
  | x :: M, 0, _, j, v, h => by
    have h : (enc x)[j]? = some v := h
    rw [List.flatMap_cons, Nat.zero_mul, Nat.zero_add, List.getElem?_append_left (List.getElem?_eq_some_iff.1 h).1]
    exact h
  | x :: M, i + 1, hi, j, v, h => by
    have := rows_get hl M i (by simpa using hi) j v (by simpa using h)
    rw [List.flatMap_cons, List.getElem?_append_right (by rw [hl, Nat.add_mul, Nat.one_mul]; omega), hl, show (i + 1) * k + j - k = i * k + j by rw [Nat.add_mul, Nat.one_mul]; omega]
    exact this

theorem rows_inv (hl : ∀ x, (enc x).length = k) (hk : 0 < k) (M : List α) (n : Nat) (u : Value) (h : (M.flatMap enc)[n]? = some u) : ∃ (i : Nat) (hi : i < M.length) (j : Nat), n = i * k + j ∧ (enc M[i])[j]? = some u := by
  induction M generalizing n with
  | nil => simp at h
  | cons x M ih =>
    rw [List.flatMap_cons] at h
    by_cases hn : n < k
    · rw [List.getElem?_append_left (by rw [hl]; exact hn)] at h
      exact ⟨0, by simp, n, by omega, by simpa using h⟩
    · rw [List.getElem?_append_right (by rw [hl]; omega), hl] at h
      obtain ⟨i, hi, j, e, hj⟩ := ih _ h
      exact ⟨i + 1, by simpa using hi, j, by rw [Nat.add_mul, Nat.one_mul]; omega, by simpa using hj⟩

theorem rown_add (b o i : Nat) : (⟨b, o, none⟩ : Addr).add i = ⟨b, o + i, none⟩ := by
  by_cases h0 : i = 0
  · subst h0; simp [Addr.add]
  · simp [Addr.add, h0]

theorem RowsAt.news (hl : ∀ x, (enc x).length = k) (hk : 0 < k) {w : World} {sb so : Nat} {N : List α} (h : RowsAt k enc w (some ⟨sb, so, none⟩) N) : ∀ j u, (N.flatMap enc)[j]? = some u → w.cell? ((⟨sb, so, none⟩ : Addr).add j) = some u := by
  intro j u hu
  rcases h with rfl | ⟨b, o, e, _, hc⟩
  · simp at hu
  · simp only [Option.some.injEq, Addr.mk.injEq, and_true] at e
    obtain ⟨rfl, rfl⟩ := e
    obtain ⟨i, hi, j', rfl, hj⟩ := rows_inv hl hk N j u hu
    rw [rown_add, ← Nat.add_assoc]
    exact hc i hi j' u hj

/-- A row that the call has made: its block g, all of it from the front on. -/
def OwnR (k : Nat) (enc : α → List Value) (te : TypeId) (w : World) (base g cap : Nat) (M : List α) : Prop :=
  w.ownsRow base te k (.slice (some ⟨g, 0, none⟩) M.length cap) M.length (M.flatMap enc)

variable {te : TypeId} {w w' : World} {base g cap : Nat} {M : List α}

theorem OwnR.parts (h : OwnR k enc te w base g cap M) : ∃ cur, base ≤ g ∧ w.heap[g]? = some (.cells cur te (0, 0)) ∧ M.length ≤ cap ∧ cap ≤ maxLen ∧ cur.size = cap * k ∧ cur.toList.take (M.length * k) = M.flatMap enc := by
  rcases h.2 with ⟨e, _⟩ | ⟨g', cap', cur, e, h1, h2, h3, h4, h5, h6⟩
  · cases e
  · simp only [Value.slice.injEq, Option.some.injEq, Addr.mk.injEq, and_true, true_and] at e
    obtain ⟨rfl, rfl⟩ := e
    exact ⟨cur, h1, h2, h3, h4, h5, h6⟩

theorem OwnR.lt (h : OwnR k enc te w base g cap M) : g < w.heap.size := by
  obtain ⟨cur, _, h2, _⟩ := h.parts
  exact (Array.getElem?_eq_some_iff.1 h2).1

theorem OwnR.from (h : OwnR k enc te w base g cap M) : base ≤ g := by obtain ⟨cur, h1, _⟩ := h.parts; exact h1
theorem OwnR.room (h : OwnR k enc te w base g cap M) : M.length ≤ cap := by obtain ⟨cur, _, _, h3, _⟩ := h.parts; exact h3

theorem OwnR.same (h : OwnR k enc te w base g cap M) (e : w'.heap[g]? = w.heap[g]?) : OwnR k enc te w' base g cap M := by
  obtain ⟨cur, h1, h2, h3, h4, h5, h6⟩ := h.parts
  exact ⟨h.1, .inr ⟨g, cap, cur, rfl, h1, e.trans h2, h3, h4, h5, h6⟩⟩

theorem OwnR.below (h : OwnR k enc te w base g cap M) (b : Below w.heap.size w w') : OwnR k enc te w' base g cap M := h.same (b.block g h.lt)

theorem OwnR.rows (hl : ∀ x, (enc x).length = k) (hk : 0 < k) (h : OwnR k enc te w base g cap M) : RowsAt k enc w (some ⟨g, 0, none⟩) M := by
  obtain ⟨cur, h1, h2, h3, h4, h5, h6⟩ := h.parts
  refine .inr ⟨g, 0, rfl, h.lt, fun i hi j v hv => ?_⟩
  have hg := rows_get hl M i hi j v hv
  have hj : j < k := by have := (List.getElem?_eq_some_iff.1 hv).1; rw [hl] at this; exact this
  rw [← h6, List.getElem?_take, if_pos (by have : (i + 1) * k ≤ M.length * k := Nat.mul_le_mul_right k hi; rw [Nat.add_mul, Nat.one_mul] at this; omega)] at hg
  rw [Nat.zero_add]
  unfold World.cell?
  simp only [h2]
  simpa using hg

theorem OwnR.new (w : World) (hb : base ≤ w.heap.size) : OwnR k enc te (w.alloc (.cells #[] te)) base w.heap.size 0 ([] : List α) :=
  ⟨by simp, .inr ⟨w.heap.size, 0, #[], rfl, hb, heap_alloc_new w _, Nat.zero_le _, Nat.zero_le _, by simp, by simp⟩⟩

variable {P : Program} {T : TypeId} {bytes : Nat}

/-- append of other rows to it. -/
theorem run_appR (R : RowTy P T te k bytes enc) (ty : TypeId) (h : OwnR k enc te w base g cap M) {sb so : Nat} (c : Nat) {N : List α} (hn : RowsAt k enc w (some ⟨sb, so, none⟩) N) (h1 : M.length + N.length ≤ 1000000) (h2 : (M.length + N.length) * bytes ≤ 140737488355328) (hb : base ≤ w.heap.size) :
    ∃ g' cap' w', (Builtin.append_ #[T, T] ty #[.slice (some ⟨g, 0, none⟩) M.length cap, .slice (some ⟨sb, so, none⟩) N.length c]).run P w = .ok (.slice (some ⟨g', 0, none⟩) (M.length + N.length) cap') w' ∧
      OwnR k enc te w' base g' cap' (M ++ N) ∧ w.grownBy w' (some g) ∧ (g' = g ∨ g' = w.heap.size) := by
  obtain ⟨i, z, hi, hz, hs, hby, hzs⟩ := R.info
  obtain ⟨v', w', hr, ho, hg, hnil, hat⟩ := run_append_own_at (P := P) w base T ty te i z k bytes R.ht hi hz hs hby hzs R.hk _ M.length (M.flatMap enc) h ⟨sb, so, none⟩ N.length c (N.flatMap enc) (rows_length R.len N) (hn.news R.len R.hk)
    (fun u hu => by obtain ⟨x, _, hx⟩ := List.mem_flatMap.1 hu; exact R.one x u hx) (by unfold maxLen; omega) h2 hb
  rcases ho.2 with ⟨e, _⟩ | ⟨g', cap', cur, e, p1, p2, p3, p4, p5, p6⟩
  · rw [hnil] at e; cases e.1
  · subst e
    refine ⟨g', cap', w', hr, ?_, hg, ?_⟩
    · unfold OwnR
      rw [List.flatMap_append, List.length_append]
      exact ho
    · rcases hat with q | q
      · left; simpa [Value.ownBlock] using q
      · right; simpa [Value.ownBlock] using q

theorem wpList_appR (R : RowTy P T te k bytes enc) {ops : Array Oper} {rest : List Oper} {o : Oper} {a : Act} {Q : Exit → Act → World → Prop} (hgd : o.guard = none) (s x : Operand)
    (ho : o.op = .call { callee := .builtin .append, args := #[s, x], argTypes := #[T, T] }) (base g cap : Nat) (M : List α) (n : Nat) (hn : n = M.length) (hs : a.eval s = .slice (some ⟨g, 0, none⟩) n cap) (h : OwnR k enc te w base g cap M)
    (sb so m c : Nat) (N : List α) (hm : m = N.length) (hx : a.eval x = .slice (some ⟨sb, so, none⟩) m c) (hN : RowsAt k enc w (some ⟨sb, so, none⟩) N) (h1 : M.length + N.length ≤ 1000000) (h2 : (M.length + N.length) * bytes ≤ 140737488355328) (hb : base ≤ w.heap.size)
    (hh : ∀ g' cap' w', OwnR k enc te w' base g' cap' (M ++ N) → w.grownBy w' (some g) → (g' = g ∨ g' = w.heap.size) → wpList P ops Q rest (a.put o.dst (.slice (some ⟨g', 0, none⟩) (n + m) cap')) w') :
    wpList P ops Q (o :: rest) a w := by
  subst hn hm
  refine wpList_plain hgd fun K hK => ?_
  obtain ⟨g', cap', w', hr, h3, h4, h5⟩ := run_appR (w := w) R o.type h c hN h1 h2 hb
  unfold Oper.wp execOp
  simp only [ho, resolve, invoke, builtin, Sem.run_bind, Sem.run_pure, Result.andThen_ok, List.map_toArray, List.map_cons, List.map_nil, hs, hx, hr]
  exact hK _ _ (hh g' cap' w' h3 h4 h5)

theorem step_appR (R : RowTy P T te k bytes enc) {ops : Array Oper} {o : Oper} {a : Act} {K : Act → World → Prop} {Q : Exit → Act → World → Prop} {E : Prop} (hgd : o.guard = none) (s x : Operand)
    (ho : o.op = .call { callee := .builtin .append, args := #[s, x], argTypes := #[T, T] }) (base g cap : Nat) (M : List α) (n : Nat) (hn : n = M.length) (hs : a.eval s = .slice (some ⟨g, 0, none⟩) n cap) (h : OwnR k enc te w base g cap M)
    (sb so m c : Nat) (N : List α) (hm : m = N.length) (hx : a.eval x = .slice (some ⟨sb, so, none⟩) m c) (hN : RowsAt k enc w (some ⟨sb, so, none⟩) N) (h1 : M.length + N.length ≤ 1000000) (h2 : (M.length + N.length) * bytes ≤ 140737488355328) (hb : base ≤ w.heap.size) (r : Nat) (hr : r = n + m)
    (hh : ∀ g' cap' w', OwnR k enc te w' base g' cap' (M ++ N) → w.grownBy w' (some g) → (g' = g ∨ g' = w.heap.size) → K (a.put o.dst (.slice (some ⟨g', 0, none⟩) r cap')) w') :
    if Region.wanted o (yielded ops a.tmps) = true then Oper.wp P o a w K Q else E := by
  subst hr
  subst hn hm
  have hw : Region.wanted o (yielded ops a.tmps) = true := by simp [Region.wanted, hgd]
  rw [if_pos hw]
  obtain ⟨g', cap', w', hr, h3, h4, h5⟩ := run_appR (w := w) R o.type h c hN h1 h2 hb
  unfold Oper.wp execOp
  simp only [ho, resolve, invoke, builtin, Sem.run_bind, Sem.run_pure, Result.andThen_ok, List.map_toArray, List.map_cons, List.map_nil, hs, hx, hr]
  exact hh g' cap' w' h3 h4 h5

/-- append to a part of a row that is as long as its room: what is behind it stays as it is. -/
theorem run_cutR (R : RowTy P T te k bytes enc) (ty : TypeId) (g n : Nat) {cur : Array Value} (hcur : w.heap[g]? = some (.cells cur te (0, 0))) (hsz : n * k ≤ cur.size) {M : List α} (hM : M.length = n) (h : RowsAt k enc w (some ⟨g, 0, none⟩) M) {sb so : Nat} (c : Nat) {N : List α} (hn : RowsAt k enc w (some ⟨sb, so, none⟩) N) (h1 : M.length + N.length ≤ 1000000) (h2 : (M.length + N.length) * bytes ≤ 140737488355328) :
    ∃ g' cap' w', (Builtin.append_ #[T, T] ty #[.slice (some ⟨g, 0, none⟩) n n, .slice (some ⟨sb, so, none⟩) N.length c]).run P w = .ok (.slice (some ⟨g', 0, none⟩) (n + N.length) cap') w' ∧
      RowsAt k enc w' (some ⟨g', 0, none⟩) (M ++ N) ∧ Below w.heap.size w w' ∧ (g' = g ∨ g' = w.heap.size) ∧ g' < w'.heap.size ∧ n + N.length ≤ cap' := by
  subst hM
  obtain ⟨i, z, hi, hz, hs, hby, hzs⟩ := R.info
  have hg := (Array.getElem?_eq_some_iff.1 hcur).1
  by_cases h0 : N = []
  · subst h0
    have hr := run_append_room (P := P) w T ty te i R.ht hi g M.length M.length cur hcur ⟨sb, so, none⟩ 0 c [] (by simp) (by simp) (by simp) (by simp) (by rw [hs]; simpa using hsz)
    have he : w.setRow g (cur.toList.take (M.length * i.size) ++ [] ++ cur.toList.drop (M.length * i.size + ([] : List Value).length)).toArray = w.setRow g cur := by simp
    refine ⟨g, M.length, w, ?_, by simpa using h, Below.refl _ _, .inl rfl, hg, by simp⟩
    rw [List.length_nil, hr, he]
    have : w.setRow g cur = w := by
      have hm : ∀ f : Obj → Obj, f (.cells cur te (0, 0)) = .cells cur te (0, 0) → w.heap.modify g f = w.heap := fun f hf => by
        apply Array.ext
        · simp
        · intro i h1 h2
          rw [Array.getElem_modify]
          split
          · rename_i e
            subst e
            rw [(Array.getElem?_eq_some_iff.1 hcur).2]
            exact hf
          · rfl
      unfold World.setRow
      rw [hm _ rfl]
    rw [this]
  · have hN : 0 < N.length := List.length_pos_iff.2 h0
    have hr := run_append_grow (P := P) w T ty te i z R.ht hi hz ⟨g, 0, none⟩ M.length M.length (M.flatMap enc) (by rw [hs]; exact rows_length R.len M) (h.news R.len R.hk) ⟨sb, so, none⟩ N.length c (N.flatMap enc) (by rw [hs]; exact rows_length R.len N) (hn.news R.len R.hk) (by omega) (by omega) (growslice_fits (by omega) (by rw [hby]; exact h2))
    refine ⟨w.heap.size, grownCap w (M.length + N.length) M.length te, _, hr, ?_, ((Below.refl _ _).drew).alloc (by simp) _, .inr rfl, by simp, grownCap_ge _ _ _ _⟩
    refine .inr ⟨w.heap.size, 0, rfl, by simp, fun i' hi' j v hv => ?_⟩
    have hgt := rows_get R.len (M ++ N) i' hi' j v hv
    rw [List.flatMap_append] at hgt
    have hlt := (List.getElem?_eq_some_iff.1 hgt).1
    rw [Nat.zero_add]
    have hnew := heap_alloc_new w.drew (.cells ((M.flatMap enc).toArray ++ (N.flatMap enc).toArray ++ Builtin.zeroCells z.cells (grownCap w (M.length + N.length) M.length te - (M.length + N.length))) te)
    have hz' : w.drew.heap.size = w.heap.size := rfl
    rw [hz'] at hnew
    unfold World.cell?
    simp only [hnew]
    rw [Array.getElem?_append_left (by simpa using hlt)]
    simpa using hgt

theorem step_cutR (R : RowTy P T te k bytes enc) {ops : Array Oper} {o : Oper} {a : Act} {K : Act → World → Prop} {Q : Exit → Act → World → Prop} {E : Prop} (hgd : o.guard = none) (s x : Operand)
    (ho : o.op = .call { callee := .builtin .append, args := #[s, x], argTypes := #[T, T] }) (g n : Nat) (hs : a.eval s = .slice (some ⟨g, 0, none⟩) n n) {cur : Array Value} (hcur : w.heap[g]? = some (.cells cur te (0, 0))) (hsz : n * k ≤ cur.size) {M : List α} (hM : M.length = n) (h : RowsAt k enc w (some ⟨g, 0, none⟩) M)
    (sb so m c : Nat) (N : List α) (hm : m = N.length) (hx : a.eval x = .slice (some ⟨sb, so, none⟩) m c) (hN : RowsAt k enc w (some ⟨sb, so, none⟩) N) (h1 : M.length + N.length ≤ 1000000) (h2 : (M.length + N.length) * bytes ≤ 140737488355328) (r : Nat) (hr : r = n + m)
    (hh : ∀ g' cap' w', RowsAt k enc w' (some ⟨g', 0, none⟩) (M ++ N) → Below w.heap.size w w' → (g' = g ∨ g' = w.heap.size) → g' < w'.heap.size → r ≤ cap' → K (a.put o.dst (.slice (some ⟨g', 0, none⟩) r cap')) w') :
    if Region.wanted o (yielded ops a.tmps) = true then Oper.wp P o a w K Q else E := by
  subst hr
  subst hm
  have hw : Region.wanted o (yielded ops a.tmps) = true := by simp [Region.wanted, hgd]
  rw [if_pos hw]
  obtain ⟨g', cap', w', hr, h3, h4, h5, h6, h7⟩ := run_cutR (w := w) R o.type g n hcur hsz hM h c hN h1 h2
  unfold Oper.wp execOp
  simp only [ho, resolve, invoke, builtin, Sem.run_bind, Sem.run_pure, Result.andThen_ok, List.map_toArray, List.map_cons, List.map_nil, hs, hx, hr]
  exact hh g' cap' w' h3 h4 h5 h6 h7

end

theorem rowItem : RowTy Try.prog 39 49 4 40 ItemV.enc := by
  obtain ⟨i0, hi, hz0, hz1, hz2⟩ := info_parts infoItem
  exact ⟨Try.underlying39, ⟨i0, _, hi, hz0, hz1, hz2, rfl⟩, by omega, fun x => rfl, fun x u hu => by simp [ItemV.enc] at hu; rcases hu with rfl | rfl | rfl | rfl <;> rfl⟩

end Go.Proofs.Ytnljephojonilaa

namespace Go.Proofs.Ytnljephojonilaa
open Go.RowKit Go.Sort
set_option linter.unusedVariables false
set_option linter.unusedSimpArgs false

/-- The page and the list. -/
structure LvAt (w wx : World) (Pb lsn nx : Nat) (M : List ItemV) (a : Option Addr) (c mb mo cm : Nat) : Prop where
  page : RowV wx Pb 5 (five (.int .u32 3) (.int .u64 lsn) (.int .i64 3) (.string (num4 nx)) (.slice a M.length c))
  slots : StrsAt wx a (M.map ItemV.bs)
  row : ItemsAt wx (some ⟨mb, mo, none⟩) M
  bel : Below w.heap.size w wx
  lo : w.heap.size ≤ Pb
  lt : Pb < wx.heap.size
  ml : mb < wx.heap.size
  mp : Pb < mb
  inv : HInv M
  rise : Rises M
  lsn : lsn < 18446744073709551616
  nx : nx < 4294967296
  cap : M.length ≤ cm

theorem LvAt.below {w wx wy : World} {Pb lsn nx : Nat} {M : List ItemV} {a : Option Addr} {c mb mo cm : Nat} (h : LvAt w wx Pb lsn nx M a c mb mo cm) (k : Below wx.heap.size wx wy) : LvAt w wy Pb lsn nx M a c mb mo cm :=
  ⟨h.page.below k h.lt, h.slots.below k, h.row.below k, below_chain h.bel k, h.lo, Nat.lt_of_lt_of_le h.lt k.size, Nat.lt_of_lt_of_le h.ml k.size, h.mp, h.inv, h.rise, h.lsn, h.nx, h.cap⟩

/-- The act's box. -/
structure ABox (w : World) (B : Nat) (x : ActV) : Prop where
  c0 : w.cell? ⟨B, 0, none⟩ = some (.int .i64 x.kind)
  c1 : w.cell? ⟨B, 1, none⟩ = some (.int .i64 x.n)
  c2 : w.cell? ⟨B, 2, none⟩ = some (.string x.e.key)
  c3 : w.cell? ⟨B, 3, none⟩ = some (.int .u32 x.e.page)
  c4 : w.cell? ⟨B, 4, none⟩ = some (.int .i64 x.e.slot)
  c5 : w.cell? ⟨B, 5, none⟩ = some (.bool x.live)
  lt : B < w.heap.size

theorem ABox.below {w w' : World} {B C : Nat} {x : ActV} (h : ABox w B x) (k : Below C w w') (hB : B < C) : ABox w' B x :=
  ⟨(k.cell (p := ⟨B, 0, none⟩) hB).trans h.c0, (k.cell (p := ⟨B, 1, none⟩) hB).trans h.c1, (k.cell (p := ⟨B, 2, none⟩) hB).trans h.c2, (k.cell (p := ⟨B, 3, none⟩) hB).trans h.c3, (k.cell (p := ⟨B, 4, none⟩) hB).trans h.c4, (k.cell (p := ⟨B, 5, none⟩) hB).trans h.c5, Nat.lt_of_lt_of_le h.lt k.size⟩

theorem ABox.new (w : World) (x : ActV) : ABox (w.alloc (.cells #[.int .i64 x.kind, .int .i64 x.n, .string x.e.key, .int .u32 x.e.page, .int .i64 x.e.slot, .bool x.live] 45)) w.heap.size x := ⟨by simp, by simp, by simp, by simp, by simp, by simp, by simp⟩

theorem RowsAt.act {w : World} {a : Option Addr} {L : List ActV} (h : ActsAt w a L) {i : Nat} (hi : i < L.length) : ∃ b o, a = some ⟨b, o, none⟩ ∧ b < w.heap.size ∧
    w.cell? ⟨b, o + i * 6, none⟩ = some (.int .i64 L[i].kind) ∧ w.cell? ⟨b, o + i * 6 + 1, none⟩ = some (.int .i64 L[i].n) ∧ w.cell? ⟨b, o + i * 6 + 2, none⟩ = some (.string L[i].e.key) ∧ w.cell? ⟨b, o + i * 6 + 3, none⟩ = some (.int .u32 L[i].e.page) ∧ w.cell? ⟨b, o + i * 6 + 4, none⟩ = some (.int .i64 L[i].e.slot) ∧ w.cell? ⟨b, o + i * 6 + 5, none⟩ = some (.bool L[i].live) := by
  rcases h with h | ⟨b, o, e, hb, hc⟩
  · subst h; simp at hi
  · exact ⟨b, o, e, hb, hc i hi 0 _ rfl, hc i hi 1 _ rfl, hc i hi 2 _ rfl, hc i hi 3 _ rfl, hc i hi 4 _ rfl, hc i hi 5 _ rfl⟩

/-- In a round: the act's box Ab and the entry's Eb besides. -/
structure RdAt (w wx : World) (Pb lsn nx : Nat) (M : List ItemV) (a : Option Addr) (c mb mo cm Ab Eb : Nat) (x : ActV) (e : EntV) : Prop where
  main : LvAt w wx Pb lsn nx M a c mb mo cm
  act : ABox wx Ab x
  ent : EBox wx Eb e
  pa : Pb < Ab
  ae : Ab < Eb
  ma : mb < Ab
  sl : ∀ b o, a = some ⟨b, o, none⟩ → M ≠ [] → b < Ab

theorem RdAt.below {w wx wy : World} {Pb lsn nx : Nat} {M : List ItemV} {a : Option Addr} {c mb mo cm Ab Eb : Nat} {x : ActV} {e : EntV} (h : RdAt w wx Pb lsn nx M a c mb mo cm Ab Eb x e) (k : Below wx.heap.size wx wy) : RdAt w wy Pb lsn nx M a c mb mo cm Ab Eb x e :=
  ⟨h.main.below k, h.act.below k h.act.lt, h.ent.below k h.ent.lt, h.pa, h.ae, h.ma, h.sl⟩

theorem StrsAt.lateB {w w' : World} {a : Option Addr} {L : List ByteArray} {B : Nat} (h : StrsAt w a L) (k : Below B w w') (hb : ∀ b o, a = some ⟨b, o, none⟩ → L ≠ [] → b < B) : StrsAt w' a L := by
  rcases h with h | ⟨b, o, e, hl, hc⟩
  · exact .inl h
  · by_cases h0 : L = []
    · exact .inl h0
    · have := hb b o e h0
      exact .inr ⟨b, o, e, Nat.lt_of_lt_of_le hl k.size, fun i hi => (k.cell (p := ⟨b, o + i, none⟩) this).trans (hc i hi)⟩

theorem RowsAt.belowB {α : Type} {k : Nat} {enc : α → List Value} {w w' : World} {b o : Nat} {L : List α} {B : Nat} (h : RowsAt k enc w (some ⟨b, o, none⟩) L) (q : Below B w w') (hb : b < B) : RowsAt k enc w' (some ⟨b, o, none⟩) L := by
  rcases h with h | ⟨b', o', e, hl, hc⟩
  · exact .inl h
  · simp only [Option.some.injEq, Addr.mk.injEq, and_true] at e
    obtain ⟨rfl, rfl⟩ := e
    exact .inr ⟨b, o, rfl, Nat.lt_of_lt_of_le hl q.size, fun i hi j v hv => (q.cell (p := ⟨b, o + i * k + j, none⟩) hb).trans (hc i hi j v hv)⟩

/-- A step that turns only blocks behind the entry's. -/
theorem RdAt.late {w wx wy : World} {Pb lsn nx : Nat} {M : List ItemV} {a : Option Addr} {c mb mo cm Ab Eb : Nat} {x : ActV} {e : EntV} (h : RdAt w wx Pb lsn nx M a c mb mo cm Ab Eb x e) (k : Below (Eb + 1) wx wy) : RdAt w wy Pb lsn nx M a c mb mo cm Ab Eb x e := by
  have hpa := h.pa
  have hae := h.ae
  have hma := h.ma
  have hm := h.main
  have hlo := hm.lo
  refine ⟨⟨hm.page.below k (by omega), hm.slots.lateB k (fun b o e1 h0 => ?_), hm.row.belowB k (by omega), hm.bel.trans (k.mono (by omega)), hlo, Nat.lt_of_lt_of_le hm.lt k.size, Nat.lt_of_lt_of_le hm.ml k.size, hm.mp, hm.inv, hm.rise, hm.lsn, hm.nx, hm.cap⟩, h.act.below k (by omega), h.ent.below k (by omega), hpa, hae, hma, h.sl⟩
  have := h.sl b o e1 (fun q => h0 (by rw [q]; rfl))
  omega

/-- With the box of the change, and a copy of the list. -/
structure MdAt (w wx : World) (Pb lsn nx : Nat) (M : List ItemV) (a : Option Addr) (c mb mo cm Ab Eb Ob kg kc : Nat) (x : ActV) (e : EntV) : Prop where
  rd : RdAt w wx Pb lsn nx M a c mb mo cm Ab Eb x e
  op : OpBox wx Ob
  eo : Eb < Ob
  lo : Ob < wx.heap.size
  own : OwnR 4 ItemV.enc 49 wx (Ob + 1) kg kc M

theorem MdAt.below {w wx wy : World} {Pb lsn nx : Nat} {M : List ItemV} {a : Option Addr} {c mb mo cm Ab Eb Ob kg kc : Nat} {x : ActV} {e : EntV} (h : MdAt w wx Pb lsn nx M a c mb mo cm Ab Eb Ob kg kc x e) (k : Below wx.heap.size wx wy) : MdAt w wy Pb lsn nx M a c mb mo cm Ab Eb Ob kg kc x e :=
  ⟨h.rd.below k, h.op.below k h.lo, h.eo, Nat.lt_of_lt_of_le h.lo k.size, h.own.below k⟩

/-- What a change that is told does: the list M becomes M', the next page n'; or it does not fit. -/
structure OpGood (lsn nx : Nat) (M : List ItemV) (O : OpV) (n' : Nat) (M' : List ItemV) (full : Bool) : Prop where
  does : ∀ wx (a : Option Addr) (c : Nat), StrsAt wx a (M.map ItemV.bs) → full = false → Calls Try.prog 8 #[(leafV lsn nx M).val a c, O.val, .int .u64 2] wx fun e w' => ∃ a' c', e = .returned (.tuple #[(leafV 2 n' M').val a' c', .int .i64 0]) ∧ Below wx.heap.size wx w' ∧ StrsFrom wx.heap.size w' a' (M'.map ItemV.bs)
  not : ∀ wx (a : Option Addr) (c : Nat), StrsAt wx a (M.map ItemV.bs) → full = true → Calls Try.prog 8 #[(leafV lsn nx M).val a c, O.val, .int .u64 2] wx fun e w' => e = .returned (.tuple #[sheet0.val none 0, .int .i64 30]) ∧ Below wx.heap.size wx w'
  inv : full = false → HInv M'
  rise : full = false → Rises M'
  nx : n' < 4294967296
  len : M'.length ≤ M.length + 1

/-- Behind the switch. -/
structure EdAt (w wx : World) (Pb lsn nx : Nat) (M : List ItemV) (a : Option Addr) (c mb mo cm Ab Eb Ob : Nat) (x : ActV) (e : EntV) (O : OpV) (M' : List ItemV) (g' c' : Nat) : Prop where
  rd : RdAt w wx Pb lsn nx M a c mb mo cm Ab Eb x e
  eo : Eb < Ob
  lo : Ob < wx.heap.size
  z0 : wx.cell? ⟨Ob, 0, none⟩ = some (.int .i64 O.kind)
  z1 : wx.cell? ⟨Ob, 1, none⟩ = some (.int .i64 O.at')
  z2 : wx.cell? ⟨Ob, 2, none⟩ = some (.string O.S)
  z3 : wx.cell? ⟨Ob, 3, none⟩ = some (.string O.old)
  row : ItemsAt wx (some ⟨g', 0, none⟩) M'
  gl : g' < wx.heap.size
  gp : Ob < g'
  cap : M'.length ≤ c'

/-- A change's own cells are put: all else stays. -/
theorem MdAt.put {w wx : World} {Pb lsn nx : Nat} {M : List ItemV} {a : Option Addr} {c mb mo cm Ab Eb Ob kg kc : Nat} {x : ActV} {e : EntV} (h : MdAt w wx Pb lsn nx M a c mb mo cm Ab Eb Ob kg kc x e) (O : OpV) :
    EdAt w ((((wx.setCell ⟨Ob, 0, none⟩ (.int .i64 O.kind)).setCell ⟨Ob, 1, none⟩ (.int .i64 O.at')).setCell ⟨Ob, 2, none⟩ (.string O.S)).setCell ⟨Ob, 3, none⟩ (.string O.old)) Pb lsn nx M a c mb mo cm Ab Eb Ob x e O M kg kc := by
  have hb : Below (Eb + 1) wx ((((wx.setCell ⟨Ob, 0, none⟩ (.int .i64 O.kind)).setCell ⟨Ob, 1, none⟩ (.int .i64 O.at')).setCell ⟨Ob, 2, none⟩ (.string O.S)).setCell ⟨Ob, 3, none⟩ (.string O.old)) := below_put4 (Below.refl _ _) h.eo _ _ _ _
  have hf := h.own.from
  have hlt := h.own.lt
  have hlo := h.lo
  obtain ⟨z0, z1, z2, z3, _, _, _, _⟩ := h.op
  refine ⟨h.rd.late hb, h.eo, by simpa using hlo, ?_, ?_, ?_, ?_, ?_, by simpa using hlt, by omega, h.own.room⟩
  · rw [World.cell?_setCell_other _ _ _ _ (by simp), World.cell?_setCell_other _ _ _ _ (by simp), World.cell?_setCell_other _ _ _ _ (by simp)]; exact World.cell?_setCell_same _ _ _ z0
  · rw [World.cell?_setCell_other _ _ _ _ (by simp), World.cell?_setCell_other _ _ _ _ (by simp)]; exact World.cell?_setCell_same _ _ _ (by rw [World.cell?_setCell_other _ _ _ _ (by simp)]; exact z1)
  · rw [World.cell?_setCell_other _ _ _ _ (by simp)]; exact World.cell?_setCell_same _ _ _ (by rw [World.cell?_setCell_other _ _ _ _ (by simp), World.cell?_setCell_other _ _ _ _ (by simp)]; exact z2)
  · exact World.cell?_setCell_same _ _ _ (by rw [World.cell?_setCell_other _ _ _ _ (by simp), World.cell?_setCell_other _ _ _ _ (by simp), World.cell?_setCell_other _ _ _ _ (by simp)]; exact z3)
  · have hne : kg ≠ Ob := by omega
    refine (h.own.same ?_).rows (fun x => rfl) (by omega)
    rw [heap_setCell_other _ _ _ _ (by simpa using hne), heap_setCell_other _ _ _ _ (by simpa using hne), heap_setCell_other _ _ _ _ (by simpa using hne), heap_setCell_other _ _ _ _ (by simpa using hne)]

/-- The copy's own block, behind that. -/
theorem MdAt.own_put {w wx : World} {Pb lsn nx : Nat} {M : List ItemV} {a : Option Addr} {c mb mo cm Ab Eb Ob kg kc : Nat} {x : ActV} {e : EntV} (h : MdAt w wx Pb lsn nx M a c mb mo cm Ab Eb Ob kg kc x e) (v0 v1 v2 v3 : Value) :
    OwnR 4 ItemV.enc 49 ((((wx.setCell ⟨Ob, 0, none⟩ v0).setCell ⟨Ob, 1, none⟩ v1).setCell ⟨Ob, 2, none⟩ v2).setCell ⟨Ob, 3, none⟩ v3) (Ob + 1) kg kc M := by
  have hf := h.own.from
  have hne : kg ≠ Ob := by omega
  refine h.own.same ?_
  rw [heap_setCell_other _ _ _ _ (by simpa using hne), heap_setCell_other _ _ _ _ (by simpa using hne), heap_setCell_other _ _ _ _ (by simpa using hne), heap_setCell_other _ _ _ _ (by simpa using hne)]

/-- Another list. -/
theorem EdAt.other {w wx wy : World} {Pb lsn nx : Nat} {M M0 M' : List ItemV} {a : Option Addr} {c mb mo cm Ab Eb Ob g0 c0 g' c' : Nat} {x : ActV} {e : EntV} {O : OpV} (h : EdAt w wx Pb lsn nx M a c mb mo cm Ab Eb Ob x e O M0 g0 c0) (k : Below wx.heap.size wx wy) (hr : ItemsAt wy (some ⟨g', 0, none⟩) M') (h1 : g' < wy.heap.size) (h2 : Ob < g') (h3 : M'.length ≤ c') :
    EdAt w wy Pb lsn nx M a c mb mo cm Ab Eb Ob x e O M' g' c' :=
  ⟨h.rd.below k, h.eo, Nat.lt_of_lt_of_le h.lo k.size, (k.cell (p := ⟨Ob, 0, none⟩) h.lo).trans h.z0, (k.cell (p := ⟨Ob, 1, none⟩) h.lo).trans h.z1, (k.cell (p := ⟨Ob, 2, none⟩) h.lo).trans h.z2, (k.cell (p := ⟨Ob, 3, none⟩) h.lo).trans h.z3, hr, h1, h2, h3⟩

theorem EdAt.below {w wx wy : World} {Pb lsn nx : Nat} {M M0 : List ItemV} {a : Option Addr} {c mb mo cm Ab Eb Ob g0 c0 : Nat} {x : ActV} {e : EntV} {O : OpV} (h : EdAt w wx Pb lsn nx M a c mb mo cm Ab Eb Ob x e O M0 g0 c0) (k : Below wx.heap.size wx wy) : EdAt w wy Pb lsn nx M a c mb mo cm Ab Eb Ob x e O M0 g0 c0 :=
  h.other k (h.row.below k) (Nat.lt_of_lt_of_le h.gl k.size) h.gp h.cap

theorem items_live {wx : World} {kg : Nat} {M : List ItemV} (h : ItemsAt wx (some ⟨kg, 0, none⟩) M) (i : Nat) (hi : i < M.length) (v : Bool) : ItemsAt (wx.setCell ⟨kg, i * 4 + 3, none⟩ (.bool v)) (some ⟨kg, 0, none⟩) (M.set i ⟨M[i].e, v⟩) := by
  rcases h with h | ⟨b, o, e, hb, hc⟩
  · subst h; simp at hi
  · simp only [Option.some.injEq, Addr.mk.injEq, and_true] at e
    obtain ⟨rfl, rfl⟩ := e
    refine .inr ⟨kg, 0, rfl, by simpa using hb, fun j hj n u hu => ?_⟩
    have hj' : j < M.length := by simpa using hj
    have hn : n < 4 := (List.getElem?_eq_some_iff.1 hu).1
    rw [List.getElem_set] at hu
    by_cases hij : i = j
    · subst hij
      rw [if_pos rfl] at hu
      by_cases h3 : n = 3
      · subst h3
        have : u = .bool v := by simpa [ItemV.enc] using hu.symm
        subst this
        have := hc i hi 3 _ rfl
        rw [Nat.zero_add] at this ⊢
        exact World.cell?_setCell_same _ _ _ this
      · rw [World.cell?_setCell_other _ _ _ _ (by first | (simp; done) | (simp; omega))]
        refine hc i hi n u ?_
        rw [← hu]
        unfold ItemV.enc
        rcases (show n = 0 ∨ n = 1 ∨ n = 2 by omega) with rfl | rfl | rfl <;> rfl
    · rw [if_neg hij] at hu
      rw [World.cell?_setCell_other _ _ _ _ (by first | (simp; done) | (simp; omega))]
      exact hc j hj' n u hu

theorem EdAt.turn {w wx : World} {Pb lsn nx : Nat} {M M0 : List ItemV} {a : Option Addr} {c mb mo cm Ab Eb Ob g0 c0 : Nat} {x : ActV} {e : EntV} {O : OpV} (h : EdAt w wx Pb lsn nx M a c mb mo cm Ab Eb Ob x e O M0 g0 c0) (i : Nat) (hi : i < M0.length) (v : Bool) :
    EdAt w (wx.setCell ⟨g0, i * 4 + 3, none⟩ (.bool v)) Pb lsn nx M a c mb mo cm Ab Eb Ob x e O (M0.set i ⟨M0[i].e, v⟩) g0 c0 := by
  have hgp := h.gp
  have heo := h.eo
  have hb : Below (Ob + 1) wx (wx.setCell ⟨g0, i * 4 + 3, none⟩ (.bool v)) := (Below.refl _ _).setCell (p := ⟨g0, i * 4 + 3, none⟩) (by show Ob + 1 ≤ g0; omega) _
  refine ⟨h.rd.late (hb.mono (by omega)), heo, by simpa using h.lo, (hb.cell (p := ⟨Ob, 0, none⟩) (by show Ob < _; omega)).trans h.z0, (hb.cell (p := ⟨Ob, 1, none⟩) (by show Ob < _; omega)).trans h.z1, (hb.cell (p := ⟨Ob, 2, none⟩) (by show Ob < _; omega)).trans h.z2, (hb.cell (p := ⟨Ob, 3, none⟩) (by show Ob < _; omega)).trans h.z3, items_live h.row i hi v, by simpa using h.gl, hgp, by simpa using h.cap⟩

/-- The page and the list are other ones: the next round. -/
theorem EdAt.next {w wx wy : World} {Pb lsn nx : Nat} {M M' : List ItemV} {a a' : Option Addr} {c mb mo cm Ab Eb Ob g' c' c2 n' B : Nat} {x : ActV} {e : EntV} {O : OpV} (h : EdAt w wx Pb lsn nx M a c mb mo cm Ab Eb Ob x e O M' g' c') (k : Below wx.heap.size wx wy) (hs : StrsFrom B wy a' (M'.map ItemV.bs)) (hB : Pb < B) (hi : HInv M') (hr : Rises M') (hn : n' < 4294967296) :
    LvAt w (store5 wy Pb (.int .u32 3) (.int .u64 2) (.int .i64 3) (.string (num4 n')) (.slice a' M'.length c2)) Pb 2 n' M' a' c2 g' 0 c' := by
  have h2 := h.below k
  have hm := h2.rd.main
  have hgp := h2.gp
  have heo := h2.eo
  have hpa := h2.rd.pa
  have hae := h2.rd.ae
  refine ⟨hm.page.set5 _ _ _ _ _, (hs.store5 hB _ _ _ _ _).at, ?_, below_set5 hm.bel hm.lo _ _ _ _ _, hm.lo, by unfold store5; simpa using hm.lt, by unfold store5; simpa using h2.gl, by omega, hi, hr, by omega, hn, h2.cap⟩
  have hrow := h2.row
  rcases hrow with q | ⟨b, o, e1, hb, hc⟩
  · exact .inl q
  · simp only [Option.some.injEq, Addr.mk.injEq, and_true] at e1
    obtain ⟨rfl, rfl⟩ := e1
    refine .inr ⟨g', 0, rfl, by unfold store5; simpa using hb, fun i hi j v hv => ?_⟩
    have hne : g' ≠ Pb := by omega
    have : (store5 wy Pb (.int .u32 3) (.int .u64 2) (.int .i64 3) (.string (num4 n')) (.slice a' M'.length c2)).heap[g']? = wy.heap[g']? := by
      unfold store5
      rw [heap_setCell_other _ _ _ _ (by simpa using hne), heap_setCell_other _ _ _ _ (by simpa using hne), heap_setCell_other _ _ _ _ (by simpa using hne), heap_setCell_other _ _ _ _ (by simpa using hne), heap_setCell_other _ _ _ _ (by simpa using hne)]
    exact (World.cell?_of_block (w := wy) (a := ⟨g', 0 + i * 4 + j, none⟩) this).trans (hc i hi j v hv)

end Go.Proofs.Ytnljephojonilaa
