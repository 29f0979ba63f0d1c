/-
  The walk of page.parse.
-/
import Derived.Test.YtdkjbnnldbmkmaaPageTake
namespace Go.Proofs.Ytdkjbnnldbmkmaa
open Go.RowKit
set_option linter.unusedVariables false

theorem RowV.strs {w : World} {b : Nat} {L : List ByteArray} (hb : b < w.heap.size) (h : RowV w b L.length (fun j => .string (L.getD j ByteArray.empty))) : StrsAt w (some ⟨b, 0, none⟩) L :=
  .inr ⟨b, 0, rfl, hb, fun i hi => by have := (h i hi).1; simp only [Nat.zero_add]; rw [this]; show some (Value.string (L.getD i ByteArray.empty)) = _; rw [List.getD_eq_getElem?_getD, List.getElem?_eq_getElem hi]; rfl⟩

/-- The same, in a block from B on. -/
def StrsFrom (B : Nat) (w : World) (a : Option Addr) (L : List ByteArray) : Prop :=
  L = [] ∨ ∃ b o, a = some ⟨b, o, none⟩ ∧ B ≤ b ∧ b < w.heap.size ∧ ∀ i (hi : i < L.length), w.cell? ⟨b, o + i, none⟩ = some (.string L[i])

theorem StrsFrom.at {B : Nat} {w : World} {a : Option Addr} {L : List ByteArray} (h : StrsFrom B w a L) : StrsAt w a L := by
  rcases h with h | ⟨b, o, e, _, hb, hc⟩
  · exact .inl h
  · exact .inr ⟨b, o, e, hb, hc⟩

theorem StrsFrom.setOther {B : Nat} {w : World} {a : Option Addr} {L : List ByteArray} (h : StrsFrom B w a L) {k i : Nat} (hk : k < B) (v : Value) : StrsFrom B (w.setCell ⟨k, i, none⟩ v) a L := by
  rcases h with h | ⟨b, o, e, h1, hb, hc⟩
  · exact .inl h
  · refine .inr ⟨b, o, e, h1, by simpa using hb, fun j hj => ?_⟩
    rw [World.cell?_setCell_other _ _ _ _ (by intro q; have := congrArg Addr.block q; simp only at this; omega)]
    exact hc j hj

theorem StrsFrom.mono {B C : Nat} {w : World} {a : Option Addr} {L : List ByteArray} (h : StrsFrom B w a L) (hC : C ≤ B) : StrsFrom C w a L := by
  rcases h with h | ⟨b, o, e, h1, hb, hc⟩
  · exact .inl h
  · exact .inr ⟨b, o, e, by omega, hb, hc⟩

theorem StrsFrom.store5 {B : Nat} {w : World} {a : Option Addr} {L : List ByteArray} (h : StrsFrom B w a L) {b : Nat} (hb : b < B) (v0 v1 v2 v3 v4 : Value) :
    StrsFrom B (((((w.setCell ⟨b, 0, none⟩ v0).setCell ⟨b, 1, none⟩ v1).setCell ⟨b, 2, none⟩ v2).setCell ⟨b, 3, none⟩ v3).setCell ⟨b, 4, none⟩ v4) a L :=
  ((((h.setOther hb v0).setOther hb v1).setOther hb v2).setOther hb v3).setOther hb v4

theorem StrsFrom.below {B : Nat} {w w' : World} {a : Option Addr} {L : List ByteArray} (h : StrsFrom B w a L) (k : Below w.heap.size w w') : StrsFrom B w' a L := by
  rcases h with h | ⟨b, o, e, h1, hb, hc⟩
  · exact .inl h
  · exact .inr ⟨b, o, e, h1, Nat.lt_of_lt_of_le hb k.size, fun i hi => (k.cell (p := ⟨b, o + i, none⟩) hb).trans (hc i hi)⟩

theorem RowV.strsFrom {w : World} {b B : Nat} {L : List ByteArray} (hB : B ≤ b) (hb : b < w.heap.size) (h : RowV w b L.length (fun j => .string (L.getD j ByteArray.empty))) : StrsFrom B w (some ⟨b, 0, none⟩) L := by
  rcases h.strs hb with h | ⟨b', o, e, hb', hc⟩
  · exact .inl h
  · cases e; exact .inr ⟨b, 0, rfl, hB, hb, hc⟩

/-- Five values, by their places. -/
def five (v0 v1 v2 v3 v4 : Value) : Nat → Value
  | 0 => v0
  | 1 => v1
  | 2 => v2
  | 3 => v3
  | _ => v4

theorem RowV.five_new (w : World) (v0 v1 v2 v3 v4 : Value) (T : TypeId) : RowV (w.alloc (.cells #[v0, v1, v2, v3, v4] T)) w.heap.size 5 (five v0 v1 v2 v3 v4) := by
  intro j hj
  match j, hj with
  | 0, _ => exact ⟨by simp [five], by simp⟩
  | 1, _ => exact ⟨by simp [five], by simp⟩
  | 2, _ => exact ⟨by simp [five], by simp⟩
  | 3, _ => exact ⟨by simp [five], by simp⟩
  | 4, _ => exact ⟨by simp [five], by simp⟩

theorem RowV.set0 {w : World} {b : Nat} {v0 v1 v2 v3 v4 : Value} (h : RowV w b 5 (five v0 v1 v2 v3 v4)) (v : Value) : RowV (w.setCell ⟨b, 0, none⟩ v) b 5 (five v v1 v2 v3 v4) :=
  (h.set (k := 0) (by omega) v).congr fun j hj => by match j, hj with | 0, _ => rfl | 1, _ => rfl | 2, _ => rfl | 3, _ => rfl | 4, _ => rfl
theorem RowV.set1 {w : World} {b : Nat} {v0 v1 v2 v3 v4 : Value} (h : RowV w b 5 (five v0 v1 v2 v3 v4)) (v : Value) : RowV (w.setCell ⟨b, 1, none⟩ v) b 5 (five v0 v v2 v3 v4) :=
  (h.set (k := 1) (by omega) v).congr fun j hj => by match j, hj with | 0, _ => rfl | 1, _ => rfl | 2, _ => rfl | 3, _ => rfl | 4, _ => rfl
theorem RowV.set2 {w : World} {b : Nat} {v0 v1 v2 v3 v4 : Value} (h : RowV w b 5 (five v0 v1 v2 v3 v4)) (v : Value) : RowV (w.setCell ⟨b, 2, none⟩ v) b 5 (five v0 v1 v v3 v4) :=
  (h.set (k := 2) (by omega) v).congr fun j hj => by match j, hj with | 0, _ => rfl | 1, _ => rfl | 2, _ => rfl | 3, _ => rfl | 4, _ => rfl
theorem RowV.set3 {w : World} {b : Nat} {v0 v1 v2 v3 v4 : Value} (h : RowV w b 5 (five v0 v1 v2 v3 v4)) (v : Value) : RowV (w.setCell ⟨b, 3, none⟩ v) b 5 (five v0 v1 v2 v v4) :=
  (h.set (k := 3) (by omega) v).congr fun j hj => by match j, hj with | 0, _ => rfl | 1, _ => rfl | 2, _ => rfl | 3, _ => rfl | 4, _ => rfl
theorem RowV.set4 {w : World} {b : Nat} {v0 v1 v2 v3 v4 : Value} (h : RowV w b 5 (five v0 v1 v2 v3 v4)) (v : Value) : RowV (w.setCell ⟨b, 4, none⟩ v) b 5 (five v0 v1 v2 v3 v) :=
  (h.set (k := 4) (by omega) v).congr fun j hj => by match j, hj with | 0, _ => rfl | 1, _ => rfl | 2, _ => rfl | 3, _ => rfl | 4, _ => rfl

theorem RowV.cells5 {w : World} {b : Nat} {v0 v1 v2 v3 v4 : Value} (h : RowV w b 5 (five v0 v1 v2 v3 v4)) :
    w.cell? ⟨b, 0, none⟩ = some v0 ∧ w.cell? ⟨b, 1, none⟩ = some v1 ∧ w.cell? ⟨b, 2, none⟩ = some v2 ∧ w.cell? ⟨b, 3, none⟩ = some v3 ∧ w.cell? ⟨b, 4, none⟩ = some v4 :=
  ⟨(h 0 (by omega)).1, (h 1 (by omega)).1, (h 2 (by omega)).1, (h 3 (by omega)).1, (h 4 (by omega)).1⟩
theorem RowV.open5 {w : World} {b : Nat} {v0 v1 v2 v3 v4 : Value} (h : RowV w b 5 (five v0 v1 v2 v3 v4)) :
    w.frozen? ⟨b, 0, none⟩ = false ∧ w.frozen? ⟨b, 1, none⟩ = false ∧ w.frozen? ⟨b, 2, none⟩ = false ∧ w.frozen? ⟨b, 3, none⟩ = false ∧ w.frozen? ⟨b, 4, none⟩ = false :=
  ⟨(h 0 (by omega)).2, (h 1 (by omega)).2, (h 2 (by omega)).2, (h 3 (by omega)).2, (h 4 (by omega)).2⟩

/-- A whole page is stored into block b. -/
def store5 (w : World) (b : Nat) (v0 v1 v2 v3 v4 : Value) : World := ((((w.setCell ⟨b, 0, none⟩ v0).setCell ⟨b, 1, none⟩ v1).setCell ⟨b, 2, none⟩ v2).setCell ⟨b, 3, none⟩ v3).setCell ⟨b, 4, none⟩ v4

theorem RowV.set5 {w : World} {b : Nat} {u0 u1 u2 u3 u4 : Value} (h : RowV w b 5 (five u0 u1 u2 u3 u4)) (v0 v1 v2 v3 v4 : Value) : RowV (store5 w b v0 v1 v2 v3 v4) b 5 (five v0 v1 v2 v3 v4) :=
  ((((h.set0 v0).set1 v1).set2 v2).set3 v3).set4 v4

theorem RowV.set5_other {w : World} {b k N : Nat} {f : Nat → Value} (h : RowV w k N f) (hk : b ≠ k) (v0 v1 v2 v3 v4 : Value) : RowV (store5 w b v0 v1 v2 v3 v4) k N f :=
  ((((h.set_other hk v0).set_other hk v1).set_other hk v2).set_other hk v3).set_other hk v4

theorem below_set5 {B : Nat} {w w' : World} (h : Below B w w') {b : Nat} (hb : B ≤ b) (v0 v1 v2 v3 v4 : Value) : Below B w (store5 w' b v0 v1 v2 v3 v4) :=
  ((((h.setCell (p := ⟨b, 0, none⟩) hb v0).setCell (p := ⟨b, 1, none⟩) hb v1).setCell (p := ⟨b, 2, none⟩) hb v2).setCell (p := ⟨b, 3, none⟩) hb v3).setCell (p := ⟨b, 4, none⟩) hb v4

theorem store5_size (w : World) (b : Nat) (v0 v1 v2 v3 v4 : Value) : (store5 w b v0 v1 v2 v3 v4).heap.size = w.heap.size := by simp [store5]



theorem IsReader.new {s : ByteArray} {w : World} {t : TypeId} (hs : s.size ≤ 140737488351232) : IsReader (w.alloc (.cells #[.string s, .int .i64 0, .int .i64 0] t)) w.heap.size s 0 0 :=
  ⟨by simp, by simp, by simp, by simp, by simp, by omega, hs, by simp⟩



end Go.Proofs.Ytdkjbnnldbmkmaa
