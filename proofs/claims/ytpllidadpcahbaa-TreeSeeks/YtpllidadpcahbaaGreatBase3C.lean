/-
  Rows of structs in memory, as plain data: items, children, entries.
  The walks of page.Same, girderref03.Same, girderlaw03.ref, girderlaw03.same, page.Kind, girderref03.Turned.
-/
import Derived.Test.YtpllidadpcahbaaGreatNodeTakeC
import Derived.Test.YtpllidadpcahbaaGreatPageMemC
import Derived.Test.YtpllidadpcahbaaGreatBase2C
import Derived.Test.YtpllidadpcahbaaGreatPageDecodeC
import Derived.Test.YtpllidadpcahbaaGreatProg
import Derived.Shelf.Slices.Equal
import Derived.Shelf.Slices.Empties2
import Derived.Lib.QuietBelow
namespace Go.Proofs.YtpllidadpcahbaaGreat
open Go.RowKit
set_option linter.unusedVariables false
set_option linter.unusedSimpArgs false

/-- The structs L, of k cells each, lie at a. -/
def RowsAt {α : Type} (k : Nat) (enc : α → List Value) (w : World) (a : Option Addr) (L : List α) : Prop :=
  L = [] ∨ ∃ b o, a = some ⟨b, o, none⟩ ∧ b < w.heap.size ∧ ∀ i (hi : i < L.length) j v, (enc L[i])[j]? = some v → w.cell? ⟨b, o + i * k + j, none⟩ = some v

theorem RowsAt.below {α : Type} {k : Nat} {enc : α → List Value} {w w' : World} {a : Option Addr} {L : List α} (h : RowsAt k enc w a L) (q : Below w.heap.size w w') : RowsAt k enc w' a L := by
  rcases h with h | ⟨b, o, e, hb, hc⟩
  · exact .inl h
  · exact .inr ⟨b, o, e, Nat.lt_of_lt_of_le hb q.size, fun i hi j v hv => (q.cell (p := ⟨b, o + i * k + j, none⟩) hb).trans (hc i hi j v hv)⟩

/-- The same, in a block from B on. -/
def RowsFrom {α : Type} (B k : Nat) (enc : α → List Value) (w : World) (a : Option Addr) (L : List α) : Prop :=
  L = [] ∨ ∃ b o, a = some ⟨b, o, none⟩ ∧ B ≤ b ∧ b < w.heap.size ∧ ∀ i (hi : i < L.length) j v, (enc L[i])[j]? = some v → w.cell? ⟨b, o + i * k + j, none⟩ = some v

theorem RowsFrom.at {α : Type} {B k : Nat} {enc : α → List Value} {w : World} {a : Option Addr} {L : List α} (h : RowsFrom B k enc w a L) : RowsAt k enc w a L := by
  rcases h with h | ⟨b, o, e, _, hb, hc⟩
  · exact .inl h
  · exact .inr ⟨b, o, e, hb, hc⟩

def EntV.enc (e : EntV) : List Value := [.string e.key, .int .u32 e.page, .int .i64 e.slot]
def ItemV.enc (x : ItemV) : List Value := [.string x.e.key, .int .u32 x.e.page, .int .i64 x.e.slot, .bool x.live]
def ChildV.enc (x : ChildV) : List Value := [.int .u32 x.page, .string x.e.key, .int .u32 x.e.page, .int .i64 x.e.slot]

abbrev ItemsAt := RowsAt 4 ItemV.enc
abbrev ChildsAt := RowsAt 4 ChildV.enc
abbrev EntsAt := RowsAt 3 EntV.enc

theorem RowsAt.item {w : World} {a : Option Addr} {L : List ItemV} (h : ItemsAt w a L) {i : Nat} (hi : i < L.length) : ∃ b o, a = some ⟨b, o, none⟩ ∧ b < w.heap.size ∧
    w.cell? ⟨b, o + i * 4, none⟩ = some (.string L[i].e.key) ∧ w.cell? ⟨b, o + i * 4 + 1, none⟩ = some (.int .u32 L[i].e.page) ∧ w.cell? ⟨b, o + i * 4 + 2, none⟩ = some (.int .i64 L[i].e.slot) ∧ w.cell? ⟨b, o + i * 4 + 3, none⟩ = some (.bool L[i].live) := by
  rcases h with h | ⟨b, o, e, hb, hc⟩
  · subst h; simp at hi
  · exact ⟨b, o, e, hb, hc i hi 0 _ rfl, hc i hi 1 _ rfl, hc i hi 2 _ rfl, hc i hi 3 _ rfl⟩

theorem RowsAt.child {w : World} {a : Option Addr} {L : List ChildV} (h : ChildsAt w a L) {i : Nat} (hi : i < L.length) : ∃ b o, a = some ⟨b, o, none⟩ ∧ b < w.heap.size ∧
    w.cell? ⟨b, o + i * 4, none⟩ = some (.int .u32 L[i].page) ∧ w.cell? ⟨b, o + i * 4 + 1, none⟩ = some (.string L[i].e.key) ∧ w.cell? ⟨b, o + i * 4 + 2, none⟩ = some (.int .u32 L[i].e.page) ∧ w.cell? ⟨b, o + i * 4 + 3, none⟩ = some (.int .i64 L[i].e.slot) := by
  rcases h with h | ⟨b, o, e, hb, hc⟩
  · subst h; simp at hi
  · exact ⟨b, o, e, hb, hc i hi 0 _ rfl, hc i hi 1 _ rfl, hc i hi 2 _ rfl, hc i hi 3 _ rfl⟩

/-- The cells of a row of structs of four cells, those of z where there are no more. -/
def cell4 {α : Type} (enc : α → List Value) (z : List Value) (L : List α) (j : Nat) : Value :=
  match L[j / 4]? with
  | some x => (enc x).getD (j % 4) default
  | none => z.getD (j % 4) default

theorem cell4_snoc {α : Type} {enc : α → List Value} {z : List Value} {L : List α} {x : α} {v0 v1 v2 v3 : Value} (hx : enc x = [v0, v1, v2, v3]) (j : Nat) :
    cell4 enc z (L ++ [x]) j = if j = L.length * 4 + 3 then v3 else if j = L.length * 4 + 2 then v2 else if j = L.length * 4 + 1 then v1 else if j = L.length * 4 then v0 else cell4 enc z L j := by
  unfold cell4
  by_cases h : j / 4 < L.length
  · rw [List.getElem?_append_left h, if_neg (by omega), if_neg (by omega), if_neg (by omega), if_neg (by omega)]
  · by_cases h2 : j / 4 = L.length
    · have hm : j % 4 = 0 ∨ j % 4 = 1 ∨ j % 4 = 2 ∨ j % 4 = 3 := by omega
      rw [List.getElem?_append_right (by omega), h2, Nat.sub_self]
      simp only [List.getElem?_cons_zero, hx]
      rcases hm with hm | hm | hm | hm
      · rw [if_neg (by omega), if_neg (by omega), if_neg (by omega), if_pos (by omega), hm]; rfl
      · rw [if_neg (by omega), if_neg (by omega), if_pos (by omega), hm]; rfl
      · rw [if_neg (by omega), if_pos (by omega), hm]; rfl
      · rw [if_pos (by omega), hm]; rfl
    · rw [List.getElem?_append_right (by omega), List.getElem?_eq_none (by simp; omega), List.getElem?_eq_none (by omega), if_neg (by omega), if_neg (by omega), if_neg (by omega), if_neg (by omega)]

theorem RowV.rows4 {α : Type} {enc : α → List Value} {z : List Value} {w : World} {B b : Nat} {L : List α} (hlen : ∀ x, (enc x).length = 4) (hB : B ≤ b) (hb : b < w.heap.size) (h : RowV w b (L.length * 4) (cell4 enc z L)) : RowsFrom B 4 enc w (some ⟨b, 0, none⟩) L := by
  refine .inr ⟨b, 0, rfl, hB, hb, fun i hi j v hv => ?_⟩
  have hj : j < 4 := by
    have := (List.getElem?_eq_some_iff.1 hv).1
    rw [hlen] at this; exact this
  have := (h (i * 4 + j) (by omega)).1
  rw [Nat.zero_add, this]
  unfold cell4
  rw [show (i * 4 + j) / 4 = i from by omega, show (i * 4 + j) % 4 = j from by omega, List.getElem?_eq_getElem hi]
  simp only
  rw [List.getD_eq_getElem?_getD, hv]
  rfl

/-- make of a row of structs. -/
theorem nmake_rows {P : Program} (t e : TypeId) (cs : Array Value) (size bytes : Nat) (ht : P.underlying t = some (.slice e)) (hinfo : (P.info? e).map (fun i => (i.zero, i.size, i.bytes)) = some (some (.agg cs), size, bytes))
    (kl kc : IntKind) (n : Nat) (hbytes : bytes * n ≤ 281474976710656) (h63 : n ≤ 9223372036854775807) (w : World) :
    (Instr.makeSlice t (.int kl (n : Int)) (.int kc (n : Int))).run P w = .ok (.slice (some ⟨w.heap.size, 0, none⟩) n n) (w.alloc (.cells (madeCells cs (n * size)) e)) := by
  obtain ⟨i, hi, hzz⟩ := Option.map_eq_some_iff.1 hinfo
  simp only [Prod.mk.injEq] at hzz
  obtain ⟨hz, hs, hb⟩ := hzz
  have hb' : (i.bytes : Int) * (n : Int) ≤ 281474976710656 := by
    have h : ((i.bytes * n : Nat) : Int) ≤ 281474976710656 := by rw [hb]; omega
    rwa [Int.natCast_mul] at h
  have hr := run_make (P := P) w t e i (.agg cs) ht hi hz kl kc n n (by omega) (Int.le_refl _) hb' (by omega)
  simp only [Int.toNat_natCast, hs] at hr
  exact hr

theorem RowV.made4 {α : Type} (enc : α → List Value) (w : World) (v0 v1 v2 v3 : Value) (N : Nat) (t : TypeId) : RowV (w.alloc (.cells (madeCells #[v0, v1, v2, v3] N) t)) w.heap.size N (cell4 enc [v0, v1, v2, v3] []) := by
  intro j hj
  refine ⟨?_, by simp⟩
  rw [World.cell?_alloc_new]
  have hm : j % 4 = 0 ∨ j % 4 = 1 ∨ j % 4 = 2 ∨ j % 4 = 3 := by omega
  unfold cell4
  rcases hm with hm | hm | hm | hm <;> simp [madeCells, hj, hm]

theorem infoItem : (Tryz.prog.info? 42).map (fun i => (i.zero, i.size, i.bytes)) = some (some (.agg #[.string ⟨#[]⟩, .int .u32 0, .int .i64 0, .bool false]), 4, 40) := by kernel_rfl
theorem infoChild : (Tryz.prog.info? 74).map (fun i => (i.zero, i.size, i.bytes)) = some (some (.agg #[.int .u32 0, .string ⟨#[]⟩, .int .u32 0, .int .i64 0]), 4, 40) := by kernel_rfl

end Go.Proofs.YtpllidadpcahbaaGreat

namespace Go.Proofs.YtpllidadpcahbaaGreat
open Go.RowKit Go.Sort
set_option linter.unusedVariables false

/-- Are two pages the same but for the LSN? -/
def sameB (p q : SheetV) : Bool := decide (p.num = q.num ∧ p.kind = q.kind ∧ p.head = q.head ∧ p.slots = q.slots)

end Go.Proofs.YtpllidadpcahbaaGreat
