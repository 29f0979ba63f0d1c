/-
  An argument of type api.Sheet, opened: a page as plain data, its slots in memory.
-/
import Derived.Test.YtlphebebnjcidaaGreatPageMemJ
import Derived.Test.YtlphebebnjcidaaGreatWriterWalksJ
import Derived.Test.YtlphebebnjcidaaGreatCrcWalksJ
import Derived.Test.YtlphebebnjcidaaGreatProg
import Derived.Shelf.Lays
import Derived.Shelf.Strings.Repeat
import Derived.WalkKit
import Derived.WalkSpells
import Derived.ProofKit
import Derived.OpenShut
import Derived.ShutString
import Derived.ChangeOld
import Derived.SizedLaws
import Derived.SliceStrings
import Derived.Test.YtlphebebnjcidaaGreatRecValC
import Derived.Deep.Slices
import Derived.Lib.SmallJoins
import Derived.ChangeSame
import Derived.Test.YtlphebebnjcidaaGreatAnDecJ
set_option linter.unusedVariables false
set_option linter.unusedSimpArgs false
namespace Go.Proofs.YtlphebebnjcidaaGreat
open Go.ChangeShapes Go.WideShapes Go.ChangeAt Go.RowKit

theorem bounds_u32 {n : Int} (h : Lit.wf (.int .u32 n) = true) : 0 ≤ n ∧ n ≤ 4294967295 := by
  have e1 : IntKind.u32.min = 0 := by decide
  have e2 : IntKind.u32.max = 4294967295 := by decide
  simpa [Lit.wf, e1, e2] using h
theorem bounds_u64' {n : Int} (h : Lit.wf (.int .u64 n) = true) : 0 ≤ n ∧ n ≤ 18446744073709551615 := by
  have e1 : IntKind.u64.min = 0 := by decide
  have e2 : IntKind.u64.max = 18446744073709551615 := by decide
  simpa [Lit.wf, e1, e2] using h
theorem bounds_i64' {n : Int} (h : Lit.wf (.int .i64 n) = true) : -9223372036854775808 ≤ n ∧ n ≤ 9223372036854775807 := by
  have e1 : IntKind.i64.min = -9223372036854775808 := by decide
  have e2 : IntKind.i64.max = 9223372036854775807 := by decide
  simpa [Lit.wf, e1, e2] using h

end Go.Proofs.YtlphebebnjcidaaGreat

namespace Go.Proofs.YtlphebebnjcidaaGreat
open Go.ChangeShapes Go.WideShapes Go.ChangeAt Go.RowKit Go.Deep

theorem cellsRec : Tryz.prog.cellsOf 63 = 17 := by kernel_rfl
theorem cellsOp' : Tryz.prog.cellsOf 57 = 4 := by kernel_rfl
theorem cellsEntry : Tryz.prog.cellsOf 61 = 3 := by kernel_rfl
theorem cellsRID : Tryz.prog.cellsOf 59 = 2 := by kernel_rfl
theorem cellsBool : Tryz.prog.cellsOf 4 = 1 := by kernel_rfl
theorem cellsTxs : Tryz.prog.cellsOf 28 = 1 := by kernel_rfl
theorem cellsDis : Tryz.prog.cellsOf 29 = 1 := by kernel_rfl
theorem cellsTx : Tryz.prog.cellsOf 44 = 4 := by kernel_rfl
theorem cellsDi : Tryz.prog.cellsOf 50 = 2 := by kernel_rfl
theorem bytesTx : Tryz.prog.bytesOf 44 = 32 := by kernel_rfl
theorem bytesDi : Tryz.prog.bytesOf 50 = 16 := by kernel_rfl

theorem rcellsInt : Tryz.prog.cellsOf 3 = 1 := by kernel_rfl
theorem rcellsLSN : Tryz.prog.cellsOf 31 = 1 := by kernel_rfl
theorem rcellsPage : Tryz.prog.cellsOf 48 = 1 := by kernel_rfl
theorem rcellsString : Tryz.prog.cellsOf 9 = 1 := by kernel_rfl

theorem radd_off (b o i : Nat) : (⟨b, o, none⟩ : Addr).add i = ⟨b, o + i, none⟩ := by
  by_cases h0 : i = 0
  · subst h0; simp [Addr.add]
  · simp [Addr.add, h0]

theorem rlist4 {α : Type} {cs : List α} (h : cs.length = 4) : ∃ c0 c1 c2 c3, cs = [c0, c1, c2, c3] := by
  match cs, h with
  | [c0, c1, c2, c3], _ => exact ⟨c0, c1, c2, c3, rfl⟩
theorem rlist2 {α : Type} {cs : List α} (h : cs.length = 2) : ∃ c0 c1, cs = [c0, c1] := by
  match cs, h with
  | [c0, c1], _ => exact ⟨c0, c1, rfl⟩

theorem open_tx {H : Type} {enc : TypeId × Value → H} {w : World} {base : Nat} {spare : Nat → Bool} {held : Bool} {fuel i b o : Nat} {cs : List Value} {D : DataW H} {Pl : List MemPlace}
    (h1 : w.cells? base ((⟨b, o, none⟩ : Addr).add (i * 4)) 4 = some cs) (h2 : DataW.trod enc Tryz.prog w base spare held fuel 44 cs = some (D, Pl)) :
    ∃ v : TxV, b < w.heap.size ∧ TxAt w b (o + i * 4) v ∧ v.2.2.1 < 18446744073709551616 ∧ v.2.2.2 < 18446744073709551616 := by
  obtain ⟨_, hlen, hcell⟩ := World.cells?_some h1
  obtain ⟨y0, y1, y2, y3, n, hx, _, g0, g1, g2, g3⟩ := Joins.trod_struct4 Tryz.underlying44 h2
  obtain ⟨v0, v1, v2, v3, rfl⟩ := rlist4 hlen
  simp only [rcellsInt, rcellsLSN] at g0 g1 g2 g3
  obtain ⟨a0, e0, rfl, w0⟩ := DataW.trod_int Tryz.underlying3 g0
  obtain ⟨a1, e1, rfl, w1⟩ := DataW.trod_int Tryz.underlying3 g1
  obtain ⟨a2, e2, rfl, w2⟩ := DataW.trod_int Tryz.underlying31 g2
  obtain ⟨a3, e3, rfl, w3⟩ := DataW.trod_int Tryz.underlying31 g3
  simp at e0 e1 e2 e3
  subst e0 e1 e2 e3
  obtain ⟨l2, u2⟩ := bounds_u64' w2
  obtain ⟨l3, u3⟩ := bounds_u64' w3
  obtain ⟨n2, rfl⟩ := Int.eq_ofNat_of_zero_le l2
  obtain ⟨n3, rfl⟩ := Int.eq_ofNat_of_zero_le l3
  have k0 := hcell 0 (by omega)
  have k1 := hcell 1 (by omega)
  have k2 := hcell 2 (by omega)
  have k3 := hcell 3 (by omega)
  simp only [radd_off, List.getElem?_cons_zero, List.getElem?_cons_succ] at k0 k1 k2 k3
  exact ⟨(a0, a1, n2, n3), World.block_lt_of_cell? _ _ k0, ⟨k0, k1, k2, k3⟩, by show n2 < _; omega, by show n3 < _; omega⟩

theorem open_di {H : Type} {enc : TypeId × Value → H} {w : World} {base : Nat} {spare : Nat → Bool} {held : Bool} {fuel i b o : Nat} {cs : List Value} {D : DataW H} {Pl : List MemPlace}
    (h1 : w.cells? base ((⟨b, o, none⟩ : Addr).add (i * 2)) 2 = some cs) (h2 : DataW.trod enc Tryz.prog w base spare held fuel 50 cs = some (D, Pl)) :
    ∃ v : DiV, b < w.heap.size ∧ DiAt w b (o + i * 2) v ∧ v.1 < 4294967296 ∧ v.2 < 18446744073709551616 := by
  obtain ⟨_, hlen, hcell⟩ := World.cells?_some h1
  obtain ⟨y0, y1, n, hx, _, g0, g1⟩ := Go.ChangeShapes.trod_struct2 Tryz.underlying50 h2
  obtain ⟨v0, v1, rfl⟩ := rlist2 hlen
  simp only [rcellsPage, rcellsLSN] at g0 g1
  obtain ⟨a0, e0, rfl, w0⟩ := DataW.trod_int Tryz.underlying48 g0
  obtain ⟨a1, e1, rfl, w1⟩ := DataW.trod_int Tryz.underlying31 g1
  simp at e0 e1
  subst e0 e1
  obtain ⟨l0, u0⟩ := bounds_u32 w0
  obtain ⟨l1, u1⟩ := bounds_u64' w1
  obtain ⟨n0, rfl⟩ := Int.eq_ofNat_of_zero_le l0
  obtain ⟨n1, rfl⟩ := Int.eq_ofNat_of_zero_le l1
  have k0 := hcell 0 (by omega)
  have k1 := hcell 1 (by omega)
  simp only [radd_off, List.getElem?_cons_zero, List.getElem?_cons_succ] at k0 k1
  exact ⟨(n0, n1), World.block_lt_of_cell? _ _ k0, ⟨k0, k1⟩, by show n0 < _; omega, by show n1 < _; omega⟩

theorem open_txs {H : Type} {enc : TypeId × Value → H} {w : World} {base fuel : Nat} {spare : Nat → Bool} {held : Bool} {v : Value} {x : DataW H × List MemPlace}
    (hf : DataW.trod enc Tryz.prog w base spare held fuel 28 [v] = some x) (hw : ∀ n ∈ x.1.weights Tryz.prog 28, n ≤ reachBytes) :
    ∃ (a : Option Addr) (L : List TxV) (c : Nat), v = .slice a L.length c ∧ TxsAt w a L ∧ L.length * 32 ≤ 140737488351232 ∧ ∀ i (hi : i < L.length), L[i].2.2.1 < 18446744073709551616 ∧ L[i].2.2.2 < 18446744073709551616 := by
  rcases open_slice Tryz.underlying28 hf with ⟨hcs, hx⟩ | ⟨a', len, cap, m, n, D, Pl, hcs, _, hl, hm, hmm, hx, hel⟩
  · simp at hcs
    subst hcs
    exact ⟨none, [], 0, rfl, .inl rfl, by simp, fun i hi => absurd hi (Nat.not_lt_zero _)⟩
  · simp at hcs
    subst hcs
    have hlm : len ≤ m := by rw [hmm]; split <;> omega
    rw [cellsTx] at hel
    have hlen : len * 32 ≤ 140737488351232 := by
      subst hx
      have := hw ((((List.range len).map D).length + ((List.range (m - len)).map fun j => D (len + j)).length) * 32) (by
        simp only [DataW.weights, Tryz.underlying28, bytesTx]
        simp)
      simp only [List.length_map, List.length_range] at this
      have : (len + (m - len)) * 32 ≤ 140737488351232 := by simpa [reachBytes] using this
      omega
    by_cases h0 : len = 0
    · subst h0
      exact ⟨some a', [], cap, rfl, .inl rfl, by simp, fun i hi => absurd hi (Nat.not_lt_zero _)⟩
    · obtain ⟨cs0, q0, _⟩ := hel 0 (by omega)
      obtain ⟨_, hlen0, hc0⟩ := World.cells?_some q0
      have hc00 := hc0 0 (by omega)
      obtain ⟨v0, v1, v2, v3, rfl⟩ := rlist4 hlen0
      have hsp : a'.spot = none := World.cell?_spot (show w.cell? a' = some v0 by simpa [Addr.add] using hc00)
      obtain ⟨b, o, sp⟩ := a'
      simp only at hsp
      subst hsp
      obtain ⟨A, hA⟩ := @choose_lt TxV ⟨(0, 0, 0, 0)⟩ len (fun i v => b < w.heap.size ∧ TxAt w b (o + i * 4) v ∧ v.2.2.1 < 18446744073709551616 ∧ v.2.2.2 < 18446744073709551616) (fun i hi => by
        obtain ⟨cs, q1, q2⟩ := hel i (by omega)
        exact open_tx q1 q2)
      refine ⟨some ⟨b, o, none⟩, (List.range len).map A, cap, by simp, .inr ⟨b, o, rfl, (hA 0 (by omega)).1, fun i hi => ?_⟩, by simpa using hlen, fun i hi => ?_⟩
      · have hi' : i < len := by simpa using hi
        have := (hA i hi').2.1
        simpa using this
      · have hi' : i < len := by simpa using hi
        have := (hA i hi').2.2
        simpa using this

theorem open_dis {H : Type} {enc : TypeId × Value → H} {w : World} {base fuel : Nat} {spare : Nat → Bool} {held : Bool} {v : Value} {x : DataW H × List MemPlace}
    (hf : DataW.trod enc Tryz.prog w base spare held fuel 29 [v] = some x) (hw : ∀ n ∈ x.1.weights Tryz.prog 29, n ≤ reachBytes) :
    ∃ (a : Option Addr) (L : List DiV) (c : Nat), v = .slice a L.length c ∧ DisAt w a L ∧ L.length * 16 ≤ 140737488351232 ∧ ∀ i (hi : i < L.length), L[i].1 < 4294967296 ∧ L[i].2 < 18446744073709551616 := by
  rcases open_slice Tryz.underlying29 hf with ⟨hcs, hx⟩ | ⟨a', len, cap, m, n, D, Pl, hcs, _, hl, hm, hmm, hx, hel⟩
  · simp at hcs
    subst hcs
    exact ⟨none, [], 0, rfl, .inl rfl, by simp, fun i hi => absurd hi (Nat.not_lt_zero _)⟩
  · simp at hcs
    subst hcs
    have hlm : len ≤ m := by rw [hmm]; split <;> omega
    rw [cellsDi] at hel
    have hlen : len * 16 ≤ 140737488351232 := by
      subst hx
      have := hw ((((List.range len).map D).length + ((List.range (m - len)).map fun j => D (len + j)).length) * 16) (by
        simp only [DataW.weights, Tryz.underlying29, bytesDi]
        simp)
      simp only [List.length_map, List.length_range] at this
      have : (len + (m - len)) * 16 ≤ 140737488351232 := by simpa [reachBytes] using this
      omega
    by_cases h0 : len = 0
    · subst h0
      exact ⟨some a', [], cap, rfl, .inl rfl, by simp, fun i hi => absurd hi (Nat.not_lt_zero _)⟩
    · obtain ⟨cs0, q0, _⟩ := hel 0 (by omega)
      obtain ⟨_, hlen0, hc0⟩ := World.cells?_some q0
      have hc00 := hc0 0 (by omega)
      obtain ⟨v0, v1, rfl⟩ := rlist2 hlen0
      have hsp : a'.spot = none := World.cell?_spot (show w.cell? a' = some v0 by simpa [Addr.add] using hc00)
      obtain ⟨b, o, sp⟩ := a'
      simp only at hsp
      subst hsp
      obtain ⟨A, hA⟩ := @choose_lt DiV ⟨(0, 0)⟩ len (fun i v => b < w.heap.size ∧ DiAt w b (o + i * 2) v ∧ v.1 < 4294967296 ∧ v.2 < 18446744073709551616) (fun i hi => by
        obtain ⟨cs, q1, q2⟩ := hel i (by omega)
        exact open_di q1 q2)
      refine ⟨some ⟨b, o, none⟩, (List.range len).map A, cap, by simp, .inr ⟨b, o, rfl, (hA 0 (by omega)).1, fun i hi => ?_⟩, by simpa using hlen, fun i hi => ?_⟩
      · have hi' : i < len := by simpa using hi
        have := (hA i hi').2.1
        simpa using this
      · have hi' : i < len := by simpa using hi
        have := (hA i hi').2.2
        simpa using this

end Go.Proofs.YtlphebebnjcidaaGreat

namespace Go.Proofs.YtlphebebnjcidaaGreat
open Go.ChangeShapes Go.WideShapes Go.ChangeAt Go.RowKit Go.Deep

theorem trod_struct12 {H : Type} {enc : TypeId × Value → H} {P : Program} {w : World} {base : Nat} {spare : Nat → Bool} {held : Bool} {t : TypeId} {f0 f1 f2 f3 f4 f5 f6 f7 f8 f9 f10 f11 : Field} {fuel : Nat} {cs : List Value} {x : DataW H × List MemPlace}
    (ht : P.underlying t = some (.struct #[f0, f1, f2, f3, f4, f5, f6, f7, f8, f9, f10, f11])) (h : DataW.trod enc P w base spare held fuel t cs = some x) :
    ∃ y0 y1 y2 y3 y4 y5 y6 y7 y8 y9 y10 y11 n, x.1 = .agg [y0.1, y1.1, y2.1, y3.1, y4.1, y5.1, y6.1, y7.1, y8.1, y9.1, y10.1, y11.1] ∧
      DataW.trod enc P w base spare held n f0.type ((cs.drop f0.offset).take (P.cellsOf f0.type)) = some y0 ∧ DataW.trod enc P w base spare held n f1.type ((cs.drop f1.offset).take (P.cellsOf f1.type)) = some y1 ∧
      DataW.trod enc P w base spare held n f2.type ((cs.drop f2.offset).take (P.cellsOf f2.type)) = some y2 ∧ DataW.trod enc P w base spare held n f3.type ((cs.drop f3.offset).take (P.cellsOf f3.type)) = some y3 ∧
      DataW.trod enc P w base spare held n f4.type ((cs.drop f4.offset).take (P.cellsOf f4.type)) = some y4 ∧ DataW.trod enc P w base spare held n f5.type ((cs.drop f5.offset).take (P.cellsOf f5.type)) = some y5 ∧
      DataW.trod enc P w base spare held n f6.type ((cs.drop f6.offset).take (P.cellsOf f6.type)) = some y6 ∧ DataW.trod enc P w base spare held n f7.type ((cs.drop f7.offset).take (P.cellsOf f7.type)) = some y7 ∧
      DataW.trod enc P w base spare held n f8.type ((cs.drop f8.offset).take (P.cellsOf f8.type)) = some y8 ∧ DataW.trod enc P w base spare held n f9.type ((cs.drop f9.offset).take (P.cellsOf f9.type)) = some y9 ∧
      DataW.trod enc P w base spare held n f10.type ((cs.drop f10.offset).take (P.cellsOf f10.type)) = some y10 ∧ DataW.trod enc P w base spare held n f11.type ((cs.drop f11.offset).take (P.cellsOf f11.type)) = some y11 := by
  obtain ⟨xs, n, _, rfl, hl, hlen, hf⟩ := DataW.trod_struct ht h
  match xs, hlen with
  | [y0, y1, y2, y3, y4, y5, y6, y7, y8, y9, y10, y11], _ => exact ⟨y0, y1, y2, y3, y4, y5, y6, y7, y8, y9, y10, y11, n, by simp, by simpa using hf 0 f0 rfl, by simpa using hf 1 f1 rfl, by simpa using hf 2 f2 rfl, by simpa using hf 3 f3 rfl, by simpa using hf 4 f4 rfl, by simpa using hf 5 f5 rfl, by simpa using hf 6 f6 rfl, by simpa using hf 7 f7 rfl, by simpa using hf 8 f8 rfl, by simpa using hf 9 f9 rfl, by simpa using hf 10 f10 rfl, by simpa using hf 11 f11 rfl⟩

end Go.Proofs.YtlphebebnjcidaaGreat

namespace Go.Proofs.YtlphebebnjcidaaGreat
open Go.ChangeShapes Go.WideShapes Go.ChangeAt Go.RowKit Go.Deep

set_option maxHeartbeats 800000 in
set_option maxRecDepth 100000 in
theorem open_recL {H : Type} {enc : TypeId × Value → H} {w : World} {base fuel : Nat} {spare : Nat → Bool} {held : Bool} {l : List Value} {d : DataW H} {pl : List MemPlace}
    (hsz : l.length = 17) (hf : DataW.trod enc Tryz.prog w base spare held fuel 63 l = some (d, pl)) (hw : ∀ n ∈ d.weights Tryz.prog 63, n ≤ reachBytes) :
    ∃ x : RIn, l = x.cells.toList ∧ x.Ok w := by
  obtain ⟨v0, v1, v2, v3, v4, v5, v6, v7, v8, v9, v10, v11, v12, v13, v14, v15, v16, rfl⟩ : ∃ v0 v1 v2 v3 v4 v5 v6 v7 v8 v9 v10 v11 v12 v13 v14 v15 v16, l = [v0, v1, v2, v3, v4, v5, v6, v7, v8, v9, v10, v11, v12, v13, v14, v15, v16] := by
    match l, hsz with
    | [v0, v1, v2, v3, v4, v5, v6, v7, v8, v9, v10, v11, v12, v13, v14, v15, v16], _ => exact ⟨_, _, _, _, _, _, _, _, _, _, _, _, _, _, _, _, _, rfl⟩
  obtain ⟨y0, y1, y2, y3, y4, y5, y6, y7, y8, y9, y10, y11, n, hx, g0, g1, g2, g3, g4, g5, g6, g7, g8, g9, g10, g11⟩ := trod_struct12 Tryz.underlying63 hf
  simp only [rcellsInt, rcellsLSN, rcellsPage, cellsOp', cellsEntry, cellsBool, cellsTxs, cellsDis] at g0 g1 g2 g3 g4 g5 g6 g7 g8 g9 g10 g11
  obtain ⟨x0, e0, rfl, w0⟩ := DataW.trod_int Tryz.underlying3 g0
  obtain ⟨x1, e1, rfl, w1⟩ := DataW.trod_int Tryz.underlying3 g1
  obtain ⟨x2, e2, rfl, w2⟩ := DataW.trod_int Tryz.underlying31 g2
  obtain ⟨x3, e3, rfl, w3⟩ := DataW.trod_int Tryz.underlying31 g3
  obtain ⟨x4, e4, rfl, w4⟩ := DataW.trod_int Tryz.underlying48 g4
  obtain ⟨x6, e6, rfl, w6⟩ := DataW.trod_int Tryz.underlying3 g6
  obtain ⟨x7, e7, rfl, w7⟩ := DataW.trod_int Tryz.underlying3 g7
  obtain ⟨x9, e9, rfl⟩ := DataW.trod_bool Tryz.underlying4 g9
  obtain ⟨z0, z1, z2, z3, n5, hx5, _, o0, o1, o2, o3⟩ := Joins.trod_struct4 Tryz.underlying57 g5
  simp only [rcellsInt, rcellsString] at o0 o1 o2 o3
  obtain ⟨q0, f0, rfl, u0⟩ := DataW.trod_int Tryz.underlying3 o0
  obtain ⟨q1, f1, rfl, u1⟩ := DataW.trod_int Tryz.underlying3 o1
  obtain ⟨q2, f2, rfl, u2⟩ := DataW.trod_string Tryz.underlying9 o2
  obtain ⟨q3, f3, rfl, u3⟩ := DataW.trod_string Tryz.underlying9 o3
  obtain ⟨s0, s1, n8, hx8, _, p0, p1⟩ := Go.ChangeShapes.trod_struct2 Tryz.underlying61 g8
  simp only [rcellsString, cellsRID] at p0 p1
  obtain ⟨t0, h0, rfl, m0⟩ := DataW.trod_string Tryz.underlying9 p0
  obtain ⟨s2, s3, n9, hx9, _, p2, p3⟩ := Go.ChangeShapes.trod_struct2 Tryz.underlying59 p1
  simp only [rcellsPage, rcellsInt] at p2 p3
  obtain ⟨t1, h1, rfl, m1⟩ := DataW.trod_int Tryz.underlying48 p2
  obtain ⟨t2, h2, rfl, m2⟩ := DataW.trod_int Tryz.underlying3 p3
  simp at e0 e1 e2 e3 e4 e6 e7 e9 f0 f1 f2 f3 h0 h1 h2
  subst e0 e1 e2 e3 e4 e6 e7 e9 f0 f1 f2 f3 h0 h1 h2
  simp only at hx
  subst hx
  simp at g10 g11
  obtain ⟨ta, L, tc, rfl, hT, hTl, hTw⟩ := open_txs g10 (fun n hn => hw n (by simp [DataW.weights, Tryz.underlying63, DataW.weightsEach, hn]))
  obtain ⟨da, M, dc, rfl, hD, hDl, hDw⟩ := open_dis g11 (fun n hn => hw n (by simp [DataW.weights, Tryz.underlying63, DataW.weightsEach, hn]))
  have hS : q2.size ≤ 140737488351232 := by
    have := hw q2.data.toList.length (by rw [hx5]; simp [DataW.weights, Tryz.underlying63, Tryz.underlying57, DataW.weightsEach])
    simpa [reachBytes] using this
  have hO : q3.size ≤ 140737488351232 := by
    have := hw q3.data.toList.length (by rw [hx5]; simp [DataW.weights, Tryz.underlying63, Tryz.underlying57, DataW.weightsEach])
    simpa [reachBytes] using this
  have hK : t0.size ≤ 140737488351232 := by
    have := hw t0.data.toList.length (by rw [hx8]; simp [DataW.weights, Tryz.underlying63, Tryz.underlying61, DataW.weightsEach])
    simpa [reachBytes] using this
  obtain ⟨k2, k2'⟩ := bounds_u64' w2
  obtain ⟨k3, k3'⟩ := bounds_u64' w3
  obtain ⟨k4, k4'⟩ := bounds_u32 w4
  obtain ⟨k5, k5'⟩ := bounds_u32 m1
  obtain ⟨n2, rfl⟩ := Int.eq_ofNat_of_zero_le k2
  obtain ⟨n3, rfl⟩ := Int.eq_ofNat_of_zero_le k3
  obtain ⟨n4, rfl⟩ := Int.eq_ofNat_of_zero_le k4
  obtain ⟨n6, rfl⟩ := Int.eq_ofNat_of_zero_le k5
  exact ⟨⟨⟨x0, x1, n2, n3, n4, ⟨q0, q1, q2, q3⟩, x6, x7, t0, n6, t2, x9, L, M⟩, ta, da, tc, dc⟩, rfl,
    ⟨⟨bounds_i64' w0, bounds_i64' w1, by show n2 < _; omega, by show n3 < _; omega, by show n4 < _; omega, ⟨bounds_i64' u0, bounds_i64' u1, hS, hO⟩, bounds_i64' w6, bounds_i64' w7, hK, by show n6 < _; omega, bounds_i64' m2, hTl, hDl, hT, hD⟩, ⟨hTw, hDw⟩⟩⟩

theorem bytesRec : Tryz.prog.bytesOf 63 = 192 := by kernel_rfl

theorem weights_in {H : Type} (T : TypeId) (L : List (DataW H)) (x : DataW H) (hx : x ∈ L) : ∀ n ∈ x.weights Tryz.prog T, n ∈ DataW.weightsAll (H := H) Tryz.prog T L := by
  induction L with
  | nil => cases hx
  | cons y L ih =>
    intro n hn
    simp only [DataW.weightsAll, List.mem_append]
    rcases List.mem_cons.1 hx with rfl | hx
    · exact .inl hn
    · exact .inr (ih hx n hn)

set_option maxRecDepth 100000 in
theorem open_recs' {H : Type} {enc : TypeId × Value → H} {w : World} {base : Nat} {spare : Nat → Bool} {held : Bool} {a : Option Addr} {len cap : Nat} {d : DataW H} {pl : List MemPlace}
    (h : DataW.Trod enc Tryz.prog w base spare held 22 (.slice a len cap) d pl) (hw : ∀ n ∈ d.weights Tryz.prog 22, n ≤ reachBytes) :
    ∃ RL : List RIn, RL.length = len ∧ InsAt w a RL ∧ len * 192 ≤ 140737488351232 := by
  obtain ⟨fuel, hf⟩ := h
  rcases open_slice Tryz.underlying22 hf with ⟨hcs, hx⟩ | ⟨a', len', cap', m, n, D, Pl, hcs, _, hl, hm, hmm, hx, hel⟩
  · simp [Value.cells] at hcs
    obtain ⟨rfl, rfl, rfl⟩ := hcs
    exact ⟨[], rfl, .inl rfl, by omega⟩
  · simp [Value.cells] at hcs
    obtain ⟨rfl, rfl, rfl⟩ := hcs
    have hlm : len ≤ m := by rw [hmm]; split <;> omega
    rw [cellsRec] at hel
    simp only [Prod.mk.injEq] at hx
    by_cases h0 : len = 0
    · subst h0
      exact ⟨[], rfl, .inl rfl, by omega⟩
    · obtain ⟨cs0, q0, _⟩ := hel 0 (by omega)
      obtain ⟨_, hlen0, hc0⟩ := World.cells?_some q0
      have hc00 := hc0 0 (by omega)
      have hsp : a'.spot = none := by
        obtain ⟨v0, hv0⟩ : ∃ v0, cs0[0]? = some v0 := ⟨_, List.getElem?_eq_getElem (by omega)⟩
        have := World.cell?_spot (show w.cell? a' = some v0 by rw [← hv0]; simpa [Addr.add] using hc00)
        exact this
      obtain ⟨b, o, sp⟩ := a'
      simp only at hsp
      subst hsp
      have hd : d = .slice ((List.range len).map D) ((List.range (m - len)).map fun j => D (len + j)) := hx.1
      have hwe : ∀ i, i < len → ∀ n ∈ (D i).weights Tryz.prog 63, n ≤ reachBytes := fun i hi n hn => hw n (by
        rw [hd]
        simp only [DataW.weights, Tryz.underlying22, List.mem_cons, List.mem_append]
        exact .inr (.inl (weights_in _ _ (D i) (List.mem_map.2 ⟨i, by simpa using hi, rfl⟩) n hn)))
      obtain ⟨A, hA⟩ := @choose_lt RIn ⟨⟨plainV 0 0 0, none, none, 0, 0⟩⟩ len (fun i x => b < w.heap.size ∧ w.rangeAt b (o + i * 17) x.cells.toList ∧ x.Ok w) (fun i hi => by
        obtain ⟨cs, q1, q2⟩ := hel i (by omega)
        obtain ⟨_, hlen1, hc1⟩ := World.cells?_some q1
        obtain ⟨x, rfl, hg⟩ := open_recL hlen1 q2 (hwe i hi)
        have hcell : w.rangeAt b (o + i * 17) x.cells.toList := fun j v hv => by
          have hj : j < 17 := by rw [← hlen1]; exact (List.getElem?_eq_some_iff.1 hv).1
          have := hc1 j hj
          rw [Addr.add_mid, Addr.add_mid, hv] at this
          exact this
        obtain ⟨v0, hv0⟩ : ∃ v0, x.cells.toList[0]? = some v0 := ⟨_, List.getElem?_eq_getElem (by omega)⟩
        exact ⟨x, World.block_lt_of_cell? _ _ (hcell 0 v0 hv0), hcell, hg⟩)
      have hll : ((List.range len).map A).length = len := by simp
      have hbytes : (len + (m - len)) * 192 ≤ 140737488351232 := by
        have := hw ((len + (m - len)) * 192) (by rw [hd]; simp [DataW.weights, Tryz.underlying22, bytesRec])
        simpa [reachBytes] using this
      refine ⟨(List.range len).map A, hll, .inr ⟨b, o, rfl, (hA 0 (by omega)).1, fun i hi => ?_⟩, Nat.le_trans (Nat.mul_le_mul_right 192 (Nat.le_add_right len (m - len))) hbytes⟩
      have := (hA i (by rw [hll] at hi; exact hi)).2
      simpa using this

end Go.Proofs.YtlphebebnjcidaaGreat
