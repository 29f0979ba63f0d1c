/-
  An argument of type api.Rec, opened: a record as plain data, its lists in memory.
-/
import Derived.Test.YtpnnadfmhkplhaaRecValC
import Derived.Test.YtpnnadfmhkplhaaSheetsC
import Derived.Deep.Slices
import Derived.Lib.SmallJoins
import Derived.ChangeSame
namespace Go.Proofs.Ytpnnadfmhkplhaa
open Go.ChangeShapes Go.WideShapes Go.ChangeAt Go.RowKit Go.Deep
set_option linter.unusedVariables false

theorem cellsRec : Try.prog.cellsOf 35 = 17 := by kernel_rfl
theorem cellsOp' : Try.prog.cellsOf 27 = 4 := by kernel_rfl
theorem cellsEntry : Try.prog.cellsOf 31 = 3 := by kernel_rfl
theorem cellsRID : Try.prog.cellsOf 29 = 2 := by kernel_rfl
theorem cellsBool : Try.prog.cellsOf 4 = 1 := by kernel_rfl
theorem cellsTxs : Try.prog.cellsOf 32 = 1 := by kernel_rfl
theorem cellsDis : Try.prog.cellsOf 33 = 1 := by kernel_rfl
theorem cellsTx : Try.prog.cellsOf 71 = 4 := by kernel_rfl
theorem cellsDi : Try.prog.cellsOf 73 = 2 := by kernel_rfl
theorem bytesTx : Try.prog.bytesOf 71 = 32 := by kernel_rfl
theorem bytesDi : Try.prog.bytesOf 73 = 16 := by kernel_rfl

theorem rcellsInt : Try.prog.cellsOf 3 = 1 := by kernel_rfl
theorem rcellsLSN : Try.prog.cellsOf 23 = 1 := by kernel_rfl
theorem rcellsPage : Try.prog.cellsOf 25 = 1 := by kernel_rfl
theorem rcellsString : Try.prog.cellsOf 9 = 1 := by kernel_rfl

theorem radd_off (b o i : Nat) : (⟨b, o, none⟩ : Addr).add i = ⟨b, o + i, none⟩ := by
  by_cases h0 : i = 0
  · subst h0; simp [Addr.add]
  · simp [Addr.add, h0]

theorem rlist4 {α : Type} {cs : List α} (h : cs.length = 4) : ∃ c0 c1 c2 c3, cs = [c0, c1, c2, c3] := by
  match cs, h with
  | [c0, c1, c2, c3], _ => exact ⟨c0, c1, c2, c3, rfl⟩
theorem rlist2 {α : Type} {cs : List α} (h : cs.length = 2) : ∃ c0 c1, cs = [c0, c1] := by
  match cs, h with
  | [c0, c1], _ => exact ⟨c0, c1, rfl⟩

theorem open_tx {H : Type} {enc : TypeId × Value → H} {w : World} {base : Nat} {spare : Nat → Bool} {held : Bool} {fuel i b o : Nat} {cs : List Value} {D : DataW H} {Pl : List MemPlace}
    (h1 : w.cells? base ((⟨b, o, none⟩ : Addr).add (i * 4)) 4 = some cs) (h2 : DataW.trod enc Try.prog w base spare held fuel 71 cs = some (D, Pl)) :
    ∃ v : TxV, b < w.heap.size ∧ TxAt w b (o + i * 4) v ∧ v.2.2.1 < 18446744073709551616 ∧ v.2.2.2 < 18446744073709551616 := by
  obtain ⟨_, hlen, hcell⟩ := World.cells?_some h1
  obtain ⟨y0, y1, y2, y3, n, hx, _, g0, g1, g2, g3⟩ := Joins.trod_struct4 Try.underlying71 h2
  obtain ⟨v0, v1, v2, v3, rfl⟩ := rlist4 hlen
  simp only [rcellsInt, rcellsLSN] at g0 g1 g2 g3
  obtain ⟨a0, e0, rfl, w0⟩ := DataW.trod_int Try.underlying3 g0
  obtain ⟨a1, e1, rfl, w1⟩ := DataW.trod_int Try.underlying3 g1
  obtain ⟨a2, e2, rfl, w2⟩ := DataW.trod_int Try.underlying23 g2
  obtain ⟨a3, e3, rfl, w3⟩ := DataW.trod_int Try.underlying23 g3
  simp at e0 e1 e2 e3
  subst e0 e1 e2 e3
  obtain ⟨l2, u2⟩ := bounds_u64' w2
  obtain ⟨l3, u3⟩ := bounds_u64' w3
  obtain ⟨n2, rfl⟩ := Int.eq_ofNat_of_zero_le l2
  obtain ⟨n3, rfl⟩ := Int.eq_ofNat_of_zero_le l3
  have k0 := hcell 0 (by omega)
  have k1 := hcell 1 (by omega)
  have k2 := hcell 2 (by omega)
  have k3 := hcell 3 (by omega)
  simp only [radd_off, List.getElem?_cons_zero, List.getElem?_cons_succ] at k0 k1 k2 k3
  exact ⟨(a0, a1, n2, n3), World.block_lt_of_cell? _ _ k0, ⟨k0, k1, k2, k3⟩, by show n2 < _; omega, by show n3 < _; omega⟩

theorem open_di {H : Type} {enc : TypeId × Value → H} {w : World} {base : Nat} {spare : Nat → Bool} {held : Bool} {fuel i b o : Nat} {cs : List Value} {D : DataW H} {Pl : List MemPlace}
    (h1 : w.cells? base ((⟨b, o, none⟩ : Addr).add (i * 2)) 2 = some cs) (h2 : DataW.trod enc Try.prog w base spare held fuel 73 cs = some (D, Pl)) :
    ∃ v : DiV, b < w.heap.size ∧ DiAt w b (o + i * 2) v ∧ v.1 < 4294967296 ∧ v.2 < 18446744073709551616 := by
  obtain ⟨_, hlen, hcell⟩ := World.cells?_some h1
  obtain ⟨y0, y1, n, hx, _, g0, g1⟩ := Go.ChangeShapes.trod_struct2 Try.underlying73 h2
  obtain ⟨v0, v1, rfl⟩ := rlist2 hlen
  simp only [rcellsPage, rcellsLSN] at g0 g1
  obtain ⟨a0, e0, rfl, w0⟩ := DataW.trod_int Try.underlying25 g0
  obtain ⟨a1, e1, rfl, w1⟩ := DataW.trod_int Try.underlying23 g1
  simp at e0 e1
  subst e0 e1
  obtain ⟨l0, u0⟩ := bounds_u32 w0
  obtain ⟨l1, u1⟩ := bounds_u64' w1
  obtain ⟨n0, rfl⟩ := Int.eq_ofNat_of_zero_le l0
  obtain ⟨n1, rfl⟩ := Int.eq_ofNat_of_zero_le l1
  have k0 := hcell 0 (by omega)
  have k1 := hcell 1 (by omega)
  simp only [radd_off, List.getElem?_cons_zero, List.getElem?_cons_succ] at k0 k1
  exact ⟨(n0, n1), World.block_lt_of_cell? _ _ k0, ⟨k0, k1⟩, by show n0 < _; omega, by show n1 < _; omega⟩

theorem open_txs {H : Type} {enc : TypeId × Value → H} {w : World} {base fuel : Nat} {spare : Nat → Bool} {held : Bool} {v : Value} {x : DataW H × List MemPlace}
    (hf : DataW.trod enc Try.prog w base spare held fuel 32 [v] = some x) (hw : ∀ n ∈ x.1.weights Try.prog 32, n ≤ reachBytes) :
    ∃ (a : Option Addr) (L : List TxV) (c : Nat), v = .slice a L.length c ∧ TxsAt w a L ∧ L.length * 32 ≤ 140737488351232 ∧ ∀ i (hi : i < L.length), L[i].2.2.1 < 18446744073709551616 ∧ L[i].2.2.2 < 18446744073709551616 := by
  rcases open_slice Try.underlying32 hf with ⟨hcs, hx⟩ | ⟨a', len, cap, m, n, D, Pl, hcs, _, hl, hm, hmm, hx, hel⟩
  · simp at hcs
    subst hcs
    exact ⟨none, [], 0, rfl, .inl rfl, by simp, fun i hi => absurd hi (Nat.not_lt_zero _)⟩
  · simp at hcs
    subst hcs
    have hlm : len ≤ m := by rw [hmm]; split <;> omega
    rw [cellsTx] at hel
    have hlen : len * 32 ≤ 140737488351232 := by
      subst hx
      have := hw ((((List.range len).map D).length + ((List.range (m - len)).map fun j => D (len + j)).length) * 32) (by
        simp only [DataW.weights, Try.underlying32, bytesTx]
        simp)
      simp only [List.length_map, List.length_range] at this
      have : (len + (m - len)) * 32 ≤ 140737488351232 := by simpa [reachBytes] using this
      omega
    by_cases h0 : len = 0
    · subst h0
      exact ⟨some a', [], cap, rfl, .inl rfl, by simp, fun i hi => absurd hi (Nat.not_lt_zero _)⟩
    · obtain ⟨cs0, q0, _⟩ := hel 0 (by omega)
      obtain ⟨_, hlen0, hc0⟩ := World.cells?_some q0
      have hc00 := hc0 0 (by omega)
      obtain ⟨v0, v1, v2, v3, rfl⟩ := rlist4 hlen0
      have hsp : a'.spot = none := World.cell?_spot (show w.cell? a' = some v0 by simpa [Addr.add] using hc00)
      obtain ⟨b, o, sp⟩ := a'
      simp only at hsp
      subst hsp
      obtain ⟨A, hA⟩ := @choose_lt TxV ⟨(0, 0, 0, 0)⟩ len (fun i v => b < w.heap.size ∧ TxAt w b (o + i * 4) v ∧ v.2.2.1 < 18446744073709551616 ∧ v.2.2.2 < 18446744073709551616) (fun i hi => by
        obtain ⟨cs, q1, q2⟩ := hel i (by omega)
        exact open_tx q1 q2)
      refine ⟨some ⟨b, o, none⟩, (List.range len).map A, cap, by simp, .inr ⟨b, o, rfl, (hA 0 (by omega)).1, fun i hi => ?_⟩, by simpa using hlen, fun i hi => ?_⟩
      · have hi' : i < len := by simpa using hi
        have := (hA i hi').2.1
        simpa using this
      · have hi' : i < len := by simpa using hi
        have := (hA i hi').2.2
        simpa using this

theorem open_dis {H : Type} {enc : TypeId × Value → H} {w : World} {base fuel : Nat} {spare : Nat → Bool} {held : Bool} {v : Value} {x : DataW H × List MemPlace}
    (hf : DataW.trod enc Try.prog w base spare held fuel 33 [v] = some x) (hw : ∀ n ∈ x.1.weights Try.prog 33, n ≤ reachBytes) :
    ∃ (a : Option Addr) (L : List DiV) (c : Nat), v = .slice a L.length c ∧ DisAt w a L ∧ L.length * 16 ≤ 140737488351232 ∧ ∀ i (hi : i < L.length), L[i].1 < 4294967296 ∧ L[i].2 < 18446744073709551616 := by
  rcases open_slice Try.underlying33 hf with ⟨hcs, hx⟩ | ⟨a', len, cap, m, n, D, Pl, hcs, _, hl, hm, hmm, hx, hel⟩
  · simp at hcs
    subst hcs
    exact ⟨none, [], 0, rfl, .inl rfl, by simp, fun i hi => absurd hi (Nat.not_lt_zero _)⟩
  · simp at hcs
    subst hcs
    have hlm : len ≤ m := by rw [hmm]; split <;> omega
    rw [cellsDi] at hel
    have hlen : len * 16 ≤ 140737488351232 := by
      subst hx
      have := hw ((((List.range len).map D).length + ((List.range (m - len)).map fun j => D (len + j)).length) * 16) (by
        simp only [DataW.weights, Try.underlying33, bytesDi]
        simp)
      simp only [List.length_map, List.length_range] at this
      have : (len + (m - len)) * 16 ≤ 140737488351232 := by simpa [reachBytes] using this
      omega
    by_cases h0 : len = 0
    · subst h0
      exact ⟨some a', [], cap, rfl, .inl rfl, by simp, fun i hi => absurd hi (Nat.not_lt_zero _)⟩
    · obtain ⟨cs0, q0, _⟩ := hel 0 (by omega)
      obtain ⟨_, hlen0, hc0⟩ := World.cells?_some q0
      have hc00 := hc0 0 (by omega)
      obtain ⟨v0, v1, rfl⟩ := rlist2 hlen0
      have hsp : a'.spot = none := World.cell?_spot (show w.cell? a' = some v0 by simpa [Addr.add] using hc00)
      obtain ⟨b, o, sp⟩ := a'
      simp only at hsp
      subst hsp
      obtain ⟨A, hA⟩ := @choose_lt DiV ⟨(0, 0)⟩ len (fun i v => b < w.heap.size ∧ DiAt w b (o + i * 2) v ∧ v.1 < 4294967296 ∧ v.2 < 18446744073709551616) (fun i hi => by
        obtain ⟨cs, q1, q2⟩ := hel i (by omega)
        exact open_di q1 q2)
      refine ⟨some ⟨b, o, none⟩, (List.range len).map A, cap, by simp, .inr ⟨b, o, rfl, (hA 0 (by omega)).1, fun i hi => ?_⟩, by simpa using hlen, fun i hi => ?_⟩
      · have hi' : i < len := by simpa using hi
        have := (hA i hi').2.1
        simpa using this
      · have hi' : i < len := by simpa using hi
        have := (hA i hi').2.2
        simpa using this

end Go.Proofs.Ytpnnadfmhkplhaa
