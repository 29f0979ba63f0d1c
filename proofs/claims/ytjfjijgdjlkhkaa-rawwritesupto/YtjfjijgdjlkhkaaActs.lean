/-
  An argument of type []Act, opened: each element is a kind, an integer, a number and a text.
-/
import Derived.Test.YtjfjijgdjlkhkaaProg
import Derived.WalkKit
import Derived.ProofKit
import Derived.OpenShut
import Derived.Deep.Slices
import Derived.Lib.SmallJoins
import Derived.ShutString
namespace Go.Proofs.Ytjfjijgdjlkhkaa
open Go.ChangeShapes Go.WideShapes Go.ChangeAt Go.RowKit Go.Deep

/-- An act, as plain data. -/
structure ActV where
  kind : Int
  n : Int
  x : Nat
  S : ByteArray

/-- No act. -/
def actNone : ActV := ⟨0, 0, 0, ByteArray.empty⟩

/-- Element i of a row of acts at block b, offset o. -/
structure ActAt (w : World) (b o : Nat) (i : Nat) (v : ActV) : Prop where
  c0 : w.cell? ⟨b, o + i * 4, none⟩ = some (.int .i64 v.kind)
  c1 : w.cell? ⟨b, o + i * 4 + 1, none⟩ = some (.int .i64 v.n)
  c2 : w.cell? ⟨b, o + i * 4 + 2, none⟩ = some (.int .u64 v.x)
  c3 : w.cell? ⟨b, o + i * 4 + 3, none⟩ = some (.string v.S)
  hn : v.n ≤ 9223372036854775807
  hx : v.x < 18446744073709551616
  hS : v.S.size ≤ maxLen

/-- A slice of acts: nil, or a row in block b. -/
def IsActs (w : World) (a : Option Addr) (len : Nat) (A : Nat → ActV) : Prop :=
  len ≤ maxLen ∧ (len = 0 ∨ ∃ b o, a = some ⟨b, o, none⟩ ∧ b < w.heap.size ∧ ∀ i, i < len → ActAt w b o i (A i))

theorem cells45 : Try.prog.cellsOf 45 = 4 := by kernel_rfl
theorem cells3 : Try.prog.cellsOf 3 = 1 := by kernel_rfl
theorem cells27 : Try.prog.cellsOf 27 = 1 := by kernel_rfl
theorem cells9 : Try.prog.cellsOf 9 = 1 := by kernel_rfl

/-- How an act reads. -/
def ActV.data {H : Type} (v : ActV) : DataW H := .agg [.lit (.int .i64 v.kind), .lit (.int .i64 v.n), .lit (.int .u64 (v.x : Int)), .lit (.string v.S.data.toList)]

theorem add_off (b o i : Nat) : (⟨b, o, none⟩ : Addr).add i = ⟨b, o + i, none⟩ := by
  by_cases h0 : i = 0
  · subst h0; simp [Addr.add]
  · simp [Addr.add, h0]

theorem list4 {α : Type} {cs : List α} (h : cs.length = 4) : ∃ c0 c1 c2 c3, cs = [c0, c1, c2, c3] := by
  match cs, h with
  | [c0, c1, c2, c3], _ => exact ⟨c0, c1, c2, c3, rfl⟩

set_option maxHeartbeats 800000 in
theorem open_act {H : Type} {enc : TypeId × Value → H} {w : World} {base : Nat} {spare : Nat → Bool} {held : Bool} {fuel i b o : Nat} {cs : List Value} {D : DataW H} {Pl : List MemPlace}
    (h1 : w.cells? base ((⟨b, o, none⟩ : Addr).add (i * 4)) 4 = some cs) (h2 : DataW.trod enc Try.prog w base spare held fuel 45 cs = some (D, Pl)) :
    ∃ v : ActV, b < w.heap.size ∧ ActAt w b o i v ∧ D = v.data := by
  obtain ⟨_, hlen, hcell⟩ := World.cells?_some h1
  obtain ⟨y0, y1, y2, y3, n, hx, _, g0, g1, g2, g3⟩ := Joins.trod_struct4 Try.underlying45 h2
  obtain ⟨v0, v1, v2, v3, rfl⟩ := list4 hlen
  simp only [cells3, cells27, cells9] at g0 g1 g2 g3
  obtain ⟨a0, e0, rfl, _⟩ := DataW.trod_int Try.underlying3 g0
  obtain ⟨a1, e1, rfl, w1⟩ := DataW.trod_int Try.underlying3 g1
  obtain ⟨a2, e2, rfl, w2⟩ := DataW.trod_int Try.underlying27 g2
  obtain ⟨a3, e3, rfl, w3⟩ := DataW.trod_string Try.underlying9 g3
  simp at e0 e1 e2 e3
  subst e0 e1 e2 e3
  have b1 := bounds_i64 w1
  have b2 := bounds_u64 w2
  obtain ⟨x, rfl⟩ := Int.eq_ofNat_of_zero_le b2.1
  have k0 := hcell 0 (by omega)
  have k1 := hcell 1 (by omega)
  have k2 := hcell 2 (by omega)
  have k3 := hcell 3 (by omega)
  simp only [add_off, List.getElem?_cons_zero, List.getElem?_cons_succ] at k0 k1 k2 k3
  simp only [Prod.mk.injEq] at hx
  refine ⟨⟨a0, a1, x, a3⟩, World.block_lt_of_cell? _ _ k0, ⟨k0, k1, k2, k3, b1.2, by show x < _; omega, w3⟩, ?_⟩
  rw [hx.1]; rfl

theorem open_acts {H : Type} {enc : TypeId × Value → H} {w : World} {base : Nat} {spare : Nat → Bool} {held : Bool} {a : Option Addr} {len cap : Nat} {d : DataW H} {pl : List MemPlace}
    (h : DataW.Trod enc Try.prog w base spare held 37 (.slice a len cap) d pl) :
    ∃ A : Nat → ActV, IsActs w a len A ∧ (d = .nil ∧ len = 0 ∨ ∃ sp, d = .slice ((List.range len).map fun i => (A i).data) sp) := by
  obtain ⟨fuel, hf⟩ := h
  rcases open_slice Try.underlying37 hf with ⟨hcs, hx⟩ | ⟨a', len', cap', m, n, D, Pl, hcs, _, hl, hm, hmm, hx, hel⟩
  · simp [Value.cells] at hcs
    obtain ⟨rfl, rfl, rfl⟩ := hcs
    simp only [Prod.mk.injEq] at hx
    exact ⟨fun _ => actNone, ⟨by unfold maxLen; omega, .inl rfl⟩, .inl ⟨hx.1, rfl⟩⟩
  · simp [Value.cells] at hcs
    obtain ⟨rfl, rfl, rfl⟩ := hcs
    have hlm : len ≤ m := by rw [hmm]; split <;> omega
    rw [cells45] at hel
    simp only [Prod.mk.injEq] at hx
    by_cases h0 : len = 0
    · subst h0
      exact ⟨fun _ => actNone, ⟨by unfold maxLen; omega, .inl rfl⟩, .inr ⟨_, by rw [hx.1]; rfl⟩⟩
    · obtain ⟨cs0, q0, _⟩ := hel 0 (by omega)
      obtain ⟨_, hlen0, hc0⟩ := World.cells?_some q0
      have hc00 := hc0 0 (by omega)
      obtain ⟨v0, v1, v2, v3, rfl⟩ := list4 hlen0
      have hsp : a'.spot = none := by
        have := World.cell?_spot (show w.cell? a' = some v0 by simpa [Addr.add] using hc00)
        exact this
      obtain ⟨b, o, sp⟩ := a'
      simp only at hsp
      subst hsp
      obtain ⟨A, hA⟩ := @choose_lt ActV ⟨actNone⟩ len (fun i v => b < w.heap.size ∧ ActAt w b o i v ∧ D i = v.data) (fun i hi => by
        obtain ⟨cs, q1, q2⟩ := hel i (by omega)
        exact open_act q1 q2)
      have hmap : (List.range len).map D = (List.range len).map fun i => (A i).data := List.map_congr_left (fun i hi => (hA i (by simpa using hi)).2.2)
      exact ⟨A, ⟨by omega, .inr ⟨b, o, rfl, (hA 0 (by omega)).1, fun i hi => (hA i hi).2.1⟩⟩, .inr ⟨(List.range (m - len)).map fun j => D (len + j), by rw [hx.1, hmap]⟩⟩

end Go.Proofs.Ytjfjijgdjlkhkaa
