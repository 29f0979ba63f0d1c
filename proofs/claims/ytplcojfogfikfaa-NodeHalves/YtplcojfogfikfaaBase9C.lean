/-
  An argument of type api.Sheet, opened: a page as plain data, its slots in memory.
  Arguments of the laws opened: a page with how it reads, an entry, rows of entries, of children, of acts.
-/
import Derived.Test.YtplcojfogfikfaaBase2C
import Derived.ProofKit
import Derived.OpenShut
import Derived.ShutString
import Derived.ChangeOld
import Derived.SizedLaws
import Derived.SliceStrings
import Derived.Test.YtplcojfogfikfaaBase3C
import Derived.Deep.Slices
import Derived.Deep.Strs
import Derived.Lib.SmallJoins
namespace Go.Proofs.Ytplcojfogfikfaa
open Go.ChangeShapes Go.WideShapes Go.ChangeAt Go.RowKit
set_option linter.unusedVariables false

theorem cellsSheet : Try.prog.cellsOf 29 = 5 := by kernel_rfl
theorem cellsPage : Try.prog.cellsOf 24 = 1 := by kernel_rfl
theorem cellsLSN : Try.prog.cellsOf 26 = 1 := by kernel_rfl
theorem cellsInt : Try.prog.cellsOf 3 = 1 := by kernel_rfl
theorem cellsString : Try.prog.cellsOf 9 = 1 := by kernel_rfl
theorem cellsStrings : Try.prog.cellsOf 27 = 1 := by kernel_rfl
theorem bytesString : Try.prog.bytesOf 9 = 16 := by kernel_rfl

theorem trod_struct5 {H : Type} {enc : TypeId × Value → H} {P : Program} {w : World} {base : Nat} {spare : Nat → Bool} {held : Bool} {t : TypeId} {f0 f1 f2 f3 f4 : Field} {fuel : Nat} {cs : List Value} {x : DataW H × List MemPlace} (ht : P.underlying t = some (.struct #[f0, f1, f2, f3, f4])) (h : DataW.trod enc P w base spare held fuel t cs = some x) :
    ∃ y0 y1 y2 y3 y4 n, x = (.agg [y0.1, y1.1, y2.1, y3.1, y4.1], y0.2 ++ (y1.2 ++ (y2.2 ++ (y3.2 ++ y4.2)))) ∧ cs.length = P.cellsOf t ∧ DataW.trod enc P w base spare held n f0.type ((cs.drop f0.offset).take (P.cellsOf f0.type)) = some y0 ∧
      DataW.trod enc P w base spare held n f1.type ((cs.drop f1.offset).take (P.cellsOf f1.type)) = some y1 ∧ DataW.trod enc P w base spare held n f2.type ((cs.drop f2.offset).take (P.cellsOf f2.type)) = some y2 ∧
      DataW.trod enc P w base spare held n f3.type ((cs.drop f3.offset).take (P.cellsOf f3.type)) = some y3 ∧ DataW.trod enc P w base spare held n f4.type ((cs.drop f4.offset).take (P.cellsOf f4.type)) = some y4 := by
  obtain ⟨xs, n, _, rfl, hl, hlen, hf⟩ := DataW.trod_struct ht h
  match xs, hlen with
  | [y0, y1, y2, y3, y4], _ => exact ⟨y0, y1, y2, y3, y4, n, by simp, hl, by simpa using hf 0 f0 rfl, by simpa using hf 1 f1 rfl, by simpa using hf 2 f2 rfl, by simpa using hf 3 f3 rfl, by simpa using hf 4 f4 rfl⟩

theorem weights_strs {H : Type} (ss : List ByteArray) {s : ByteArray} (hs : s ∈ ss) : s.size ∈ DataW.weightsAll (H := H) Try.prog 9 (strs ss) := by
  induction ss with
  | nil => cases hs
  | cons x ss ih =>
    simp only [strs, List.map_cons, DataW.weightsAll, List.mem_append]
    rcases List.mem_cons.1 hs with rfl | hs
    · left; simp [DataW.weights]
    · right; exact ih hs

theorem bounds_u32 {n : Int} (h : Lit.wf (.int .u32 n) = true) : 0 ≤ n ∧ n ≤ 4294967295 := by
  have e1 : IntKind.u32.min = 0 := by decide
  have e2 : IntKind.u32.max = 4294967295 := by decide
  simpa [Lit.wf, e1, e2] using h
theorem bounds_u64' {n : Int} (h : Lit.wf (.int .u64 n) = true) : 0 ≤ n ∧ n ≤ 18446744073709551615 := by
  have e1 : IntKind.u64.min = 0 := by decide
  have e2 : IntKind.u64.max = 18446744073709551615 := by decide
  simpa [Lit.wf, e1, e2] using h
theorem bounds_i64' {n : Int} (h : Lit.wf (.int .i64 n) = true) : -9223372036854775808 ≤ n ∧ n ≤ 9223372036854775807 := by
  have e1 : IntKind.i64.min = -9223372036854775808 := by decide
  have e2 : IntKind.i64.max = 9223372036854775807 := by decide
  simpa [Lit.wf, e1, e2] using h

set_option maxHeartbeats 800000 in
set_option maxRecDepth 100000 in
theorem open_sheet {H : Type} {enc : TypeId × Value → H} {w : World} {base b0 : Nat} {r : Reach} {spare : Nat → Bool} {held : Bool} {v : Value} {d : DataW H} {pl : List MemPlace}
    (hv : Value.okWide Try.prog w r b0 29 v) (h : DataW.Trod enc Try.prog w base spare held 29 v d pl) (hw : ∀ n ∈ d.weights Try.prog 29, n ≤ reachBytes) :
    ∃ (p : SheetV) (a : Option Addr) (c : Nat), v = p.val a c ∧ p.Ok w a := by
  obtain ⟨fuel, hf⟩ := h
  obtain ⟨cs, rfl, hsz⟩ := okWide_struct Try.underlying29 hv
  rw [cellsSheet] at hsz
  obtain ⟨l⟩ := cs
  obtain ⟨v0, v1, v2, v3, v4, rfl⟩ : ∃ v0 v1 v2 v3 v4, l = [v0, v1, v2, v3, v4] := by
    match l, hsz with
    | [v0, v1, v2, v3, v4], _ => exact ⟨_, _, _, _, _, rfl⟩
  simp only [Value.cells] at hf
  obtain ⟨y0, y1, y2, y3, y4, n, hx, _, g0, g1, g2, g3, g4⟩ := trod_struct5 Try.underlying29 hf
  simp only [cellsPage, cellsLSN, cellsInt, cellsString, cellsStrings] at g0 g1 g2 g3 g4
  obtain ⟨x0, e0, rfl, w0⟩ := DataW.trod_int Try.underlying24 g0
  obtain ⟨x1, e1, rfl, w1⟩ := DataW.trod_int Try.underlying26 g1
  obtain ⟨x2, e2, rfl, w2⟩ := DataW.trod_int Try.underlying3 g2
  obtain ⟨x3, e3, rfl, w3⟩ := DataW.trod_string Try.underlying9 g3
  simp at e0 e1 e2 e3
  subst e0 e1 e2 e3
  obtain ⟨k0, k1⟩ := bounds_u32 w0
  obtain ⟨k2, k3⟩ := bounds_u64' w1
  obtain ⟨n0, rfl⟩ := Int.eq_ofNat_of_zero_le k0
  obtain ⟨n1, rfl⟩ := Int.eq_ofNat_of_zero_le k2
  have k4 := bounds_i64' w2
  simp only [Prod.mk.injEq] at hx
  obtain ⟨rfl, _⟩ := hx
  have hw3 : x3.data.toList.length ≤ reachBytes := hw _ (by simp [DataW.weights, Try.underlying29, DataW.weightsEach])
  have hw3' : x3.size ≤ 140737488351232 := by simpa [reachBytes] using hw3
  rcases Go.ChangeShapes.open_strings Try.underlying27 Try.underlying9 cellsString g4 with ⟨hcs, rfl⟩ | ⟨a', len', cap', ss, hcs, _, hl, hm, hss, rfl, hc, hz⟩
  · simp at hcs
    subst hcs
    exact ⟨⟨n0, n1, x2, x3, []⟩, none, 0, rfl, ⟨by show n0 < _; omega, by show n1 < _; omega, k4, hw3', by simp, by simp, .inl rfl⟩⟩
  · simp at hcs
    subst hcs
    have hlm : len' ≤ ss.length := by rw [hss]; split <;> omega
    have hmem : ∀ s ∈ ss.take len', s.size ≤ 140737488351232 := fun s hs => by
      have := hw s.size (by
        simp only [DataW.weights, Try.underlying29, DataW.weightsEach, Try.underlying27, List.map_cons, List.map_nil, List.mem_append, List.mem_cons]
        simp [weights_strs _ hs])
      simpa [reachBytes] using this
    have hlen : len' * 16 ≤ 140737488351232 := by
      have := hw ((strs (H := H) (ss.take len')).length + (strs (H := H) (ss.drop len')).length |> (· * 16)) (by
        simp [DataW.weights, Try.underlying29, DataW.weightsEach, Try.underlying27, bytesString])
      have e : (strs (H := H) (ss.take len')).length = len' := by simp [strs]; omega
      rw [e] at this
      have : (len' + (strs (H := H) (ss.drop len')).length) * 16 ≤ 140737488351232 := by simpa [reachBytes] using this
      omega
    have htl : (ss.take len').length = len' := by simp; omega
    refine ⟨⟨n0, n1, x2, x3, ss.take len'⟩, some a', cap', by simp [SheetV.val, htl], ⟨by show n0 < _; omega, by show n1 < _; omega, k4, hw3', by show (ss.take len').length ≤ _; omega, hmem, ?_⟩⟩
    by_cases h0 : len' = 0
    · left; simp [h0]
    · right
      have hc0 := hc 0 (by omega)
      obtain ⟨b, o, sp⟩ := a'
      cases sp with
      | some z => simp [Addr.add, World.cell?] at hc0; split at hc0 <;> simp_all
      | none =>
        refine ⟨b, o, rfl, World.block_lt_of_cell? w _ hc0, fun i hi => ?_⟩
        have hi' : i < len' := by simpa [htl] using hi
        have := hc i (by omega)
        rw [Addr.add_lit] at this
        rw [this, List.getD_eq_getElem?_getD, List.getElem?_eq_getElem (by omega)]
        simp

end Go.Proofs.Ytplcojfogfikfaa

namespace Go.Proofs.Ytplcojfogfikfaa
open Go.ChangeShapes Go.WideShapes Go.ChangeAt Go.RowKit Go.Deep
set_option linter.unusedVariables false
set_option linter.unusedSimpArgs false

theorem ncellsE : Try.prog.cellsOf 43 = 3 := by kernel_rfl
theorem ncellsR : Try.prog.cellsOf 41 = 2 := by kernel_rfl
theorem ncellsC : Try.prog.cellsOf 63 = 4 := by kernel_rfl
theorem ncellsA : Try.prog.cellsOf 45 = 6 := by kernel_rfl
theorem ncellsB : Try.prog.cellsOf 4 = 1 := by kernel_rfl
theorem nbytesE : Try.prog.bytesOf 43 = 32 := by kernel_rfl
theorem nbytesC : Try.prog.bytesOf 63 = 40 := by kernel_rfl
theorem nbytesA : Try.prog.bytesOf 45 = 56 := by kernel_rfl

/-- What is known of an entry that was handed in. -/
structure EntV.In (e : EntV) : Prop where
  page : e.page < 4294967296
  lo : -9223372036854775808 ≤ e.slot
  hi : e.slot ≤ 9223372036854775807

/-- How an entry reads, how a child does. -/
def EntV.data {H : Type} (e : EntV) : DataW H := .agg [.lit (.string e.key.data.toList), .agg [.lit (.int .u32 e.page), .lit (.int .i64 e.slot)]]
def ChildV.data {H : Type} (x : ChildV) : DataW H := .agg [.lit (.int .u32 x.page), x.e.data]

theorem nadd_off (b o i : Nat) : (⟨b, o, none⟩ : Addr).add i = ⟨b, o + i, none⟩ := by
  by_cases h0 : i = 0
  · subst h0; simp [Addr.add]
  · simp [Addr.add, h0]

set_option maxHeartbeats 800000 in
theorem nopen_ent {H : Type} {enc : TypeId × Value → H} {w : World} {base : Nat} {spare : Nat → Bool} {held : Bool} {fuel : Nat} {cs : List Value} {D : DataW H} {Pl : List MemPlace} (hl : cs.length = 3)
    (h : DataW.trod enc Try.prog w base spare held fuel 43 cs = some (D, Pl)) : ∃ e : EntV, cs = e.enc ∧ e.In ∧ D = e.data := by
  obtain ⟨v0, v1, v2, rfl⟩ : ∃ v0 v1 v2, cs = [v0, v1, v2] := by
    match cs, hl with
    | [v0, v1, v2], _ => exact ⟨_, _, _, rfl⟩
  obtain ⟨y0, y1, n, hx, _, g0, g1⟩ := trod_struct2 Try.underlying43 h
  simp only [cellsString, ncellsR] at g0 g1
  obtain ⟨a0, e0, rfl, _⟩ := DataW.trod_string Try.underlying9 g0
  obtain ⟨z0, z1, m, hz, _, r0, r1⟩ := trod_struct2 Try.underlying41 g1
  simp only [cellsPage, cellsInt] at r0 r1
  obtain ⟨a1, e1, rfl, w1⟩ := DataW.trod_int Try.underlying24 r0
  obtain ⟨a2, e2, rfl, w2⟩ := DataW.trod_int Try.underlying3 r1
  simp at e0 e1 e2
  have k1 := bounds_u32 w1
  have k2 := bounds_i64' w2
  obtain ⟨p, rfl⟩ := Int.eq_ofNat_of_zero_le k1.1
  simp only [Prod.mk.injEq] at hx
  refine ⟨⟨a0, p, a2⟩, by rw [e0, e1, e2]; rfl, ⟨by show p < _; omega, k2.1, k2.2⟩, ?_⟩
  rw [hx.1, hz]; rfl

set_option maxHeartbeats 800000 in
theorem nopen_child {H : Type} {enc : TypeId × Value → H} {w : World} {base : Nat} {spare : Nat → Bool} {held : Bool} {fuel : Nat} {cs : List Value} {D : DataW H} {Pl : List MemPlace} (hl : cs.length = 4)
    (h : DataW.trod enc Try.prog w base spare held fuel 63 cs = some (D, Pl)) : ∃ x : ChildV, cs = x.enc ∧ (x.page < 4294967296 ∧ x.e.In) ∧ D = x.data := by
  obtain ⟨v0, v1, v2, v3, rfl⟩ : ∃ v0 v1 v2 v3, cs = [v0, v1, v2, v3] := by
    match cs, hl with
    | [v0, v1, v2, v3], _ => exact ⟨_, _, _, _, rfl⟩
  obtain ⟨y0, y1, n, hx, _, g0, g1⟩ := trod_struct2 Try.underlying63 h
  simp only [cellsPage, ncellsE] at g0 g1
  obtain ⟨a1, e1, rfl, w1⟩ := DataW.trod_int Try.underlying24 g0
  obtain ⟨D1, Pl1⟩ := y1
  obtain ⟨e, he, hin, rfl⟩ := nopen_ent (by simp) g1
  simp at e1 he
  have k1 := bounds_u32 w1
  obtain ⟨p, rfl⟩ := Int.eq_ofNat_of_zero_le k1.1
  simp only [Prod.mk.injEq] at hx
  refine ⟨⟨p, e⟩, ?_, ⟨by show p < _; omega, hin⟩, ?_⟩
  · unfold ChildV.enc EntV.enc at *
    simp only [List.cons.injEq] at he
    rw [e1, he.1, he.2.1, he.2.2.1]
  · rw [hx.1]; rfl

/-- A slice of structs, opened. -/
theorem nopen_rows {H : Type} {enc : TypeId × Value → H} {w : World} {base : Nat} {spare : Nat → Bool} {held : Bool} {a : Option Addr} {len cap : Nat} {d : DataW H} {pl : List MemPlace} {α : Type} (def' : α) (k bytes : Nat) (enc' : α → List Value) (dat : α → DataW H) (good : α → Prop) (kz : α → Nat) (T te : TypeId)
    (ht : Try.prog.underlying T = some (.slice te)) (hk : Try.prog.cellsOf te = k) (hk0 : 0 < k) (hb : Try.prog.bytesOf te = bytes)
    (one : ∀ fuel cs D Pl, cs.length = k → DataW.trod enc Try.prog w base spare held fuel te cs = some (D, Pl) → ∃ x, cs = enc' x ∧ good x ∧ D = dat x)
    (hwt : ∀ (L : List α) (x : α), x ∈ L → kz x ∈ DataW.weightsAll Try.prog te (L.map dat))
    (h : DataW.Trod enc Try.prog w base spare held T (.slice a len cap) d pl) (hw : ∀ n ∈ d.weights Try.prog T, n ≤ reachBytes) :
    ∃ L : List α, L.length = len ∧ RowsAt k enc' w a L ∧ (∀ x ∈ L, good x ∧ kz x ≤ 140737488351232) ∧ len * bytes ≤ 140737488351232 := by
  obtain ⟨fuel, hf⟩ := h
  rcases open_slice ht hf with ⟨hcs, hx⟩ | ⟨a', len', cap', m, n, D, Pl, hcs, _, hl, hm, hmm, hx, hel⟩
  · simp [Value.cells] at hcs
    obtain ⟨rfl, rfl, rfl⟩ := hcs
    exact ⟨[], rfl, .inl rfl, by simp, by omega⟩
  · simp [Value.cells] at hcs
    obtain ⟨rfl, rfl, rfl⟩ := hcs
    have hlm : len ≤ m := by rw [hmm]; split <;> omega
    rw [hk] at hel
    simp only [Prod.mk.injEq] at hx
    by_cases h0 : len = 0
    · subst h0
      exact ⟨[], rfl, .inl rfl, by simp, by omega⟩
    · obtain ⟨cs0, q0, _⟩ := hel 0 (by omega)
      obtain ⟨_, hlen0, hc0⟩ := World.cells?_some q0
      have hc00 := hc0 0 (by omega)
      have hsp : a'.spot = none := by
        obtain ⟨v0, hv0⟩ : ∃ v0, cs0[0]? = some v0 := ⟨_, List.getElem?_eq_getElem (by omega)⟩
        have := World.cell?_spot (show w.cell? a' = some v0 by rw [← hv0]; simpa [Addr.add] using hc00)
        exact this
      obtain ⟨b, o, sp⟩ := a'
      simp only at hsp
      subst hsp
      obtain ⟨A, hA⟩ := @choose_lt α ⟨def'⟩ len (fun i x => b < w.heap.size ∧ (∀ j v, (enc' x)[j]? = some v → w.cell? ⟨b, o + i * k + j, none⟩ = some v) ∧ good x ∧ D i = dat x) (fun i hi => by
        obtain ⟨cs, q1, q2⟩ := hel i (by omega)
        obtain ⟨_, hlen1, hc1⟩ := World.cells?_some q1
        obtain ⟨x, rfl, hg, hD⟩ := one _ _ _ _ hlen1 q2
        have hcell : ∀ j v, (enc' x)[j]? = some v → w.cell? ⟨b, o + i * k + j, none⟩ = some v := fun j v hv => by
          have hj : j < k := by rw [← hlen1]; exact (List.getElem?_eq_some_iff.1 hv).1
          have := hc1 j hj
          rw [nadd_off, nadd_off, hv] at this
          exact this
        obtain ⟨v0, hv0⟩ : ∃ v0, (enc' x)[0]? = some v0 := ⟨_, List.getElem?_eq_getElem (by omega)⟩
        exact ⟨x, World.block_lt_of_cell? _ _ (hcell 0 v0 hv0), hcell, hg, hD⟩)
      have hmap : (List.range len).map D = ((List.range len).map A).map dat := by
        rw [List.map_map]
        exact List.map_congr_left (fun i hi => (hA i (by simpa using hi)).2.2.2)
      have hd : d = .slice (((List.range len).map A).map dat) ((List.range (m - len)).map fun j => D (len + j)) := by rw [hx.1, hmap]
      have hll : ((List.range len).map A).length = len := by simp
      have hbytes : (len + (m - len)) * bytes ≤ 140737488351232 := by
        have := hw ((len + (m - len)) * bytes) (by rw [hd]; simp [DataW.weights, ht, hb])
        simpa [reachBytes] using this
      refine ⟨(List.range len).map A, hll, .inr ⟨b, o, rfl, (hA 0 (by omega)).1, fun i hi => ?_⟩, ?_, ?_⟩
      · have := (hA i (by rw [hll] at hi; exact hi)).2.1
        simpa using this
      · intro v hv
        have hwv : kz v ≤ reachBytes := hw _ (by
          rw [hd]
          simp only [DataW.weights, ht, List.mem_cons, List.mem_append]
          exact .inr (.inl (hwt _ _ hv)))
        obtain ⟨i, hi, rfl⟩ := List.mem_map.1 hv
        exact ⟨(hA i (by simpa using hi)).2.2.1, by simpa [reachBytes] using hwv⟩
      · refine Nat.le_trans (Nat.mul_le_mul_right bytes (Nat.le_add_right len (m - len))) hbytes

theorem nweights_ent {H : Type} (L : List EntV) (x : EntV) (hx : x ∈ L) : x.key.size ∈ DataW.weightsAll (H := H) Try.prog 43 (L.map EntV.data) := by
  induction L with
  | nil => cases hx
  | cons y L ih =>
    simp only [List.map_cons, DataW.weightsAll, List.mem_append]
    rcases List.mem_cons.1 hx with rfl | hx
    · left; simp [EntV.data, DataW.weights, Try.underlying43, DataW.weightsEach]
    · right; exact ih hx

theorem nweights_child {H : Type} (L : List ChildV) (x : ChildV) (hx : x ∈ L) : x.e.key.size ∈ DataW.weightsAll (H := H) Try.prog 63 (L.map ChildV.data) := by
  induction L with
  | nil => cases hx
  | cons y L ih =>
    simp only [List.map_cons, DataW.weightsAll, List.mem_append]
    rcases List.mem_cons.1 hx with rfl | hx
    · left; simp [ChildV.data, EntV.data, DataW.weights, Try.underlying63, Try.underlying43, DataW.weightsEach]
    · right; exact ih hx

theorem open_ents {H : Type} {enc : TypeId × Value → H} {w : World} {base : Nat} {spare : Nat → Bool} {held : Bool} {a : Option Addr} {len cap : Nat} {d : DataW H} {pl : List MemPlace}
    (h : DataW.Trod enc Try.prog w base spare held 76 (.slice a len cap) d pl) (hw : ∀ n ∈ d.weights Try.prog 76, n ≤ reachBytes) :
    ∃ L : List EntV, L.length = len ∧ EntsAt w a L ∧ (∀ x ∈ L, x.In ∧ x.key.size ≤ 140737488351232) ∧ len * 32 ≤ 140737488351232 :=
  nopen_rows ⟨⟨#[]⟩, 0, 0⟩ 3 32 EntV.enc EntV.data EntV.In (fun x => x.key.size) 76 43 Try.underlying76 ncellsE (by omega) nbytesE (fun fuel cs D Pl hl h => nopen_ent hl h) nweights_ent h hw

theorem open_childs {H : Type} {enc : TypeId × Value → H} {w : World} {base : Nat} {spare : Nat → Bool} {held : Bool} {a : Option Addr} {len cap : Nat} {d : DataW H} {pl : List MemPlace}
    (h : DataW.Trod enc Try.prog w base spare held 59 (.slice a len cap) d pl) (hw : ∀ n ∈ d.weights Try.prog 59, n ≤ reachBytes) :
    ∃ L : List ChildV, L.length = len ∧ ChildsAt w a L ∧ (∀ x ∈ L, (x.page < 4294967296 ∧ x.e.In) ∧ x.e.key.size ≤ 140737488351232) ∧ len * 40 ≤ 140737488351232 :=
  nopen_rows ⟨0, ⟨⟨#[]⟩, 0, 0⟩⟩ 4 40 ChildV.enc ChildV.data (fun x => x.page < 4294967296 ∧ x.e.In) (fun x => x.e.key.size) 59 63 Try.underlying59 ncellsC (by omega) nbytesC (fun fuel cs D Pl hl h => nopen_child hl h) nweights_child h hw

set_option maxHeartbeats 800000 in
set_option maxRecDepth 100000 in
/-- An entry that was handed in by itself. -/
theorem open_ent {H : Type} {enc : TypeId × Value → H} {w : World} {base b0 : Nat} {r : Reach} {spare : Nat → Bool} {held : Bool} {v : Value} {d : DataW H} {pl : List MemPlace}
    (hv : Value.okWide Try.prog w r b0 43 v) (h : DataW.Trod enc Try.prog w base spare held 43 v d pl) (hw : ∀ n ∈ d.weights Try.prog 43, n ≤ reachBytes) :
    ∃ e : EntV, v = e.val ∧ e.In ∧ e.key.size ≤ 140737488351232 := by
  obtain ⟨fuel, hf⟩ := h
  obtain ⟨cs, rfl, hsz⟩ := okWide_struct Try.underlying43 hv
  rw [ncellsE] at hsz
  obtain ⟨l⟩ := cs
  simp only [Value.cells] at hf
  obtain ⟨e, he, hin, rfl⟩ := nopen_ent (by simpa using hsz) hf
  subst he
  refine ⟨e, rfl, hin, ?_⟩
  have := hw e.key.size (by simp [EntV.data, DataW.weights, Try.underlying43, DataW.weightsEach])
  simpa [reachBytes] using this

set_option maxHeartbeats 800000 in
set_option maxRecDepth 100000 in
/-- How many slots a page has, by how it reads. -/
theorem sheet_slots {H : Type} {enc : TypeId × Value → H} {w : World} {base : Nat} {spare : Nat → Bool} {held : Bool} {p : SheetV} {a : Option Addr} {c : Nat} {d : DataW H} {pl : List MemPlace}
    (h : DataW.Trod enc Try.prog w base spare held 29 (p.val a c) d pl) : p.slots.length = 0 ∨ ∃ y0 y1 y2 y3 elems sp, d = .agg [y0, y1, y2, y3, .slice elems sp] ∧ elems.length = p.slots.length := by
  obtain ⟨fuel, hf⟩ := h
  simp only [Value.cells, SheetV.val] at hf
  obtain ⟨y0, y1, y2, y3, y4, n, hx, _, g0, g1, g2, g3, g4⟩ := trod_struct5 Try.underlying29 hf
  simp only [cellsPage, cellsLSN, cellsInt, cellsString, cellsStrings] at g4
  simp only [Prod.mk.injEq] at hx
  rcases open_slice Try.underlying27 g4 with ⟨hcs, hx4⟩ | ⟨a', len', cap', m, n, D, Pl, hcs, _, hl, hm, hmm, hx4, hel⟩
  · simp at hcs
    exact .inl (by have := hcs.2.1; simpa using this)
  · simp at hcs
    obtain ⟨rfl, rfl, rfl⟩ := hcs
    refine .inr ⟨y0.1, y1.1, y2.1, y3.1, (List.range p.slots.length).map D, (List.range (m - p.slots.length)).map fun j => D (p.slots.length + j), ?_, by simp⟩
    rw [hx.1, hx4]

end Go.Proofs.Ytplcojfogfikfaa
