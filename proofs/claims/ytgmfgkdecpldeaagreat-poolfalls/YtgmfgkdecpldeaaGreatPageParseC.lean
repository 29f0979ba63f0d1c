/-
  The walk of page.parse.
-/
import Derived.Test.YtgmfgkdecpldeaaGreatPageTakeC
namespace Go.Proofs.YtgmfgkdecpldeaaGreat
open Go.RowKit
set_option linter.unusedVariables false

theorem RowV.strs {w : World} {b : Nat} {L : List ByteArray} (hb : b < w.heap.size) (h : RowV w b L.length (fun j => .string (L.getD j ByteArray.empty))) : StrsAt w (some ⟨b, 0, none⟩) L :=
  .inr ⟨b, 0, rfl, hb, fun i hi => by have := (h i hi).1; simp only [Nat.zero_add]; rw [this]; show some (Value.string (L.getD i ByteArray.empty)) = _; rw [List.getD_eq_getElem?_getD, List.getElem?_eq_getElem hi]; rfl⟩

/-- The same, in a block from B on. -/
def StrsFrom (B : Nat) (w : World) (a : Option Addr) (L : List ByteArray) : Prop :=
  L = [] ∨ ∃ b o, a = some ⟨b, o, none⟩ ∧ B ≤ b ∧ b < w.heap.size ∧ ∀ i (hi : i < L.length), w.cell? ⟨b, o + i, none⟩ = some (.string L[i])

theorem StrsFrom.at {B : Nat} {w : World} {a : Option Addr} {L : List ByteArray} (h : StrsFrom B w a L) : StrsAt w a L := by
  rcases h with h | ⟨b, o, e, _, hb, hc⟩
  · exact .inl h
  · exact .inr ⟨b, o, e, hb, hc⟩

theorem StrsFrom.setOther {B : Nat} {w : World} {a : Option Addr} {L : List ByteArray} (h : StrsFrom B w a L) {k i : Nat} (hk : k < B) (v : Value) : StrsFrom B (w.setCell ⟨k, i, none⟩ v) a L := by
  rcases h with h | ⟨b, o, e, h1, hb, hc⟩
  · exact .inl h
  · refine .inr ⟨b, o, e, h1, by simpa using hb, fun j hj => ?_⟩
    rw [World.cell?_setCell_other _ _ _ _ (by intro q; have := congrArg Addr.block q; simp only at this; omega)]
    exact hc j hj

theorem StrsFrom.mono {B C : Nat} {w : World} {a : Option Addr} {L : List ByteArray} (h : StrsFrom B w a L) (hC : C ≤ B) : StrsFrom C w a L := by
  rcases h with h | ⟨b, o, e, h1, hb, hc⟩
  · exact .inl h
  · exact .inr ⟨b, o, e, by omega, hb, hc⟩

theorem StrsFrom.store5 {B : Nat} {w : World} {a : Option Addr} {L : List ByteArray} (h : StrsFrom B w a L) {b : Nat} (hb : b < B) (v0 v1 v2 v3 v4 : Value) :
    StrsFrom B (((((w.setCell ⟨b, 0, none⟩ v0).setCell ⟨b, 1, none⟩ v1).setCell ⟨b, 2, none⟩ v2).setCell ⟨b, 3, none⟩ v3).setCell ⟨b, 4, none⟩ v4) a L :=
  ((((h.setOther hb v0).setOther hb v1).setOther hb v2).setOther hb v3).setOther hb v4

theorem StrsFrom.below {B : Nat} {w w' : World} {a : Option Addr} {L : List ByteArray} (h : StrsFrom B w a L) (k : Below w.heap.size w w') : StrsFrom B w' a L := by
  rcases h with h | ⟨b, o, e, h1, hb, hc⟩
  · exact .inl h
  · exact .inr ⟨b, o, e, h1, Nat.lt_of_lt_of_le hb k.size, fun i hi => (k.cell (p := ⟨b, o + i, none⟩) hb).trans (hc i hi)⟩

theorem RowV.strsFrom {w : World} {b B : Nat} {L : List ByteArray} (hB : B ≤ b) (hb : b < w.heap.size) (h : RowV w b L.length (fun j => .string (L.getD j ByteArray.empty))) : StrsFrom B w (some ⟨b, 0, none⟩) L := by
  rcases h.strs hb with h | ⟨b', o, e, hb', hc⟩
  · exact .inl h
  · cases e; exact .inr ⟨b, 0, rfl, hB, hb, hc⟩

/-- Five values, by their places. -/
def five (v0 v1 v2 v3 v4 : Value) : Nat → Value
  | 0 => v0
  | 1 => v1
  | 2 => v2
  | 3 => v3
  | _ => v4

theorem RowV.five_new (w : World) (v0 v1 v2 v3 v4 : Value) (T : TypeId) : RowV (w.alloc (.cells #[v0, v1, v2, v3, v4] T)) w.heap.size 5 (five v0 v1 v2 v3 v4) := by
  intro j hj
  match j, hj with
  | 0, _ => exact ⟨by simp [five], by simp⟩
  | 1, _ => exact ⟨by simp [five], by simp⟩
  | 2, _ => exact ⟨by simp [five], by simp⟩
  | 3, _ => exact ⟨by simp [five], by simp⟩
  | 4, _ => exact ⟨by simp [five], by simp⟩

theorem RowV.set0 {w : World} {b : Nat} {v0 v1 v2 v3 v4 : Value} (h : RowV w b 5 (five v0 v1 v2 v3 v4)) (v : Value) : RowV (w.setCell ⟨b, 0, none⟩ v) b 5 (five v v1 v2 v3 v4) :=
  (h.set (k := 0) (by omega) v).congr fun j hj => by match j, hj with | 0, _ => rfl | 1, _ => rfl | 2, _ => rfl | 3, _ => rfl | 4, _ => rfl
theorem RowV.set1 {w : World} {b : Nat} {v0 v1 v2 v3 v4 : Value} (h : RowV w b 5 (five v0 v1 v2 v3 v4)) (v : Value) : RowV (w.setCell ⟨b, 1, none⟩ v) b 5 (five v0 v v2 v3 v4) :=
  (h.set (k := 1) (by omega) v).congr fun j hj => by match j, hj with | 0, _ => rfl | 1, _ => rfl | 2, _ => rfl | 3, _ => rfl | 4, _ => rfl
theorem RowV.set2 {w : World} {b : Nat} {v0 v1 v2 v3 v4 : Value} (h : RowV w b 5 (five v0 v1 v2 v3 v4)) (v : Value) : RowV (w.setCell ⟨b, 2, none⟩ v) b 5 (five v0 v1 v v3 v4) :=
  (h.set (k := 2) (by omega) v).congr fun j hj => by match j, hj with | 0, _ => rfl | 1, _ => rfl | 2, _ => rfl | 3, _ => rfl | 4, _ => rfl
theorem RowV.set3 {w : World} {b : Nat} {v0 v1 v2 v3 v4 : Value} (h : RowV w b 5 (five v0 v1 v2 v3 v4)) (v : Value) : RowV (w.setCell ⟨b, 3, none⟩ v) b 5 (five v0 v1 v2 v v4) :=
  (h.set (k := 3) (by omega) v).congr fun j hj => by match j, hj with | 0, _ => rfl | 1, _ => rfl | 2, _ => rfl | 3, _ => rfl | 4, _ => rfl
theorem RowV.set4 {w : World} {b : Nat} {v0 v1 v2 v3 v4 : Value} (h : RowV w b 5 (five v0 v1 v2 v3 v4)) (v : Value) : RowV (w.setCell ⟨b, 4, none⟩ v) b 5 (five v0 v1 v2 v3 v) :=
  (h.set (k := 4) (by omega) v).congr fun j hj => by match j, hj with | 0, _ => rfl | 1, _ => rfl | 2, _ => rfl | 3, _ => rfl | 4, _ => rfl

theorem RowV.cells5 {w : World} {b : Nat} {v0 v1 v2 v3 v4 : Value} (h : RowV w b 5 (five v0 v1 v2 v3 v4)) :
    w.cell? ⟨b, 0, none⟩ = some v0 ∧ w.cell? ⟨b, 1, none⟩ = some v1 ∧ w.cell? ⟨b, 2, none⟩ = some v2 ∧ w.cell? ⟨b, 3, none⟩ = some v3 ∧ w.cell? ⟨b, 4, none⟩ = some v4 :=
  ⟨(h 0 (by omega)).1, (h 1 (by omega)).1, (h 2 (by omega)).1, (h 3 (by omega)).1, (h 4 (by omega)).1⟩
theorem RowV.open5 {w : World} {b : Nat} {v0 v1 v2 v3 v4 : Value} (h : RowV w b 5 (five v0 v1 v2 v3 v4)) :
    w.frozen? ⟨b, 0, none⟩ = false ∧ w.frozen? ⟨b, 1, none⟩ = false ∧ w.frozen? ⟨b, 2, none⟩ = false ∧ w.frozen? ⟨b, 3, none⟩ = false ∧ w.frozen? ⟨b, 4, none⟩ = false :=
  ⟨(h 0 (by omega)).2, (h 1 (by omega)).2, (h 2 (by omega)).2, (h 3 (by omega)).2, (h 4 (by omega)).2⟩

/-- A whole page is stored into block b. -/
def store5 (w : World) (b : Nat) (v0 v1 v2 v3 v4 : Value) : World := ((((w.setCell ⟨b, 0, none⟩ v0).setCell ⟨b, 1, none⟩ v1).setCell ⟨b, 2, none⟩ v2).setCell ⟨b, 3, none⟩ v3).setCell ⟨b, 4, none⟩ v4

theorem RowV.set5 {w : World} {b : Nat} {u0 u1 u2 u3 u4 : Value} (h : RowV w b 5 (five u0 u1 u2 u3 u4)) (v0 v1 v2 v3 v4 : Value) : RowV (store5 w b v0 v1 v2 v3 v4) b 5 (five v0 v1 v2 v3 v4) :=
  ((((h.set0 v0).set1 v1).set2 v2).set3 v3).set4 v4

theorem RowV.set5_other {w : World} {b k N : Nat} {f : Nat → Value} (h : RowV w k N f) (hk : b ≠ k) (v0 v1 v2 v3 v4 : Value) : RowV (store5 w b v0 v1 v2 v3 v4) k N f :=
  ((((h.set_other hk v0).set_other hk v1).set_other hk v2).set_other hk v3).set_other hk v4

theorem below_set5 {B : Nat} {w w' : World} (h : Below B w w') {b : Nat} (hb : B ≤ b) (v0 v1 v2 v3 v4 : Value) : Below B w (store5 w' b v0 v1 v2 v3 v4) :=
  ((((h.setCell (p := ⟨b, 0, none⟩) hb v0).setCell (p := ⟨b, 1, none⟩) hb v1).setCell (p := ⟨b, 2, none⟩) hb v2).setCell (p := ⟨b, 3, none⟩) hb v3).setCell (p := ⟨b, 4, none⟩) hb v4

theorem store5_size (w : World) (b : Nat) (v0 v1 v2 v3 v4 : Value) : (store5 w b v0 v1 v2 v3 v4).heap.size = w.heap.size := by simp [store5]

/-- What parse's parts do, whatever the case: takeCount, Bytes, takeSlots. -/
structure ParseParts (s : ByteArray) (b : Nat) (hn : Nat) (e1 : Int) (hd : ByteArray) (p2 : Nat) (e2 : Int) (L : List ByteArray) (off : Nat) (fit : Prop) : Prop where
  count : ∀ wx, IsReader wx b s 13 0 → Calls Tryz.prog 98 #[.pointer (some ⟨b, 0, none⟩), .int .i64 1, .int .i64 32] wx fun x w' => x = .returned (.int .i64 hn) ∧ IsReader w' b s 14 e1 ∧ Only b wx w'
  bytes : ∀ wx, IsReader wx b s 14 e1 → Calls Tryz.prog 97 #[.pointer (some ⟨b, 0, none⟩), .int .i64 hn] wx fun x w' => x = .returned (.string hd) ∧ IsReader w' b s p2 e2 ∧ Only b wx w'
  slots : ∀ wx, IsReader wx b s p2 e2 → Calls Tryz.prog 99 #[.pointer (some ⟨b, 0, none⟩)] wx fun x w' => ∃ a c p' e', x = .returned (.slice a L.length c) ∧ IsReader w' b s p' e' ∧ Only b wx w' ∧
      (fit → p' = off ∧ e' = 0 ∧ ∃ bs, a = some ⟨bs, 0, none⟩ ∧ wx.heap.size ≤ bs ∧ bs < w'.heap.size ∧ RowV w' bs L.length (fun j => .string (L.getD j ByteArray.empty))) ∧ (¬ fit → e' ≠ 0)

theorem IsReader.new {s : ByteArray} {w : World} {t : TypeId} (hs : s.size ≤ 281474976710656) : IsReader (w.alloc (.cells #[.string s, .int .i64 0, .int .i64 0] t)) w.heap.size s 0 0 :=
  ⟨by simp, by simp, by simp, by simp, by simp, by omega, hs, by simp⟩

set_option maxHeartbeats 1600000 in
set_option maxRecDepth 60000 in
theorem parse_core (s : ByteArray) (w : World) (hs : s.size = 500) {hn : Nat} {e1 : Int} {hd : ByteArray} {p2 : Nat} {e2 : Int} {L : List ByteArray} {off : Nat} {fit : Prop}
    (H : ParseParts s (w.heap.size + 1) hn e1 hd p2 e2 L off fit) (hoff : fit → off ≤ 500) :
    Calls Tryz.prog 65 #[.string s] w fun x w' => Below w.heap.size w w' ∧
      ((fit ∧ zerosB (part s off (500 - off)) = true → ∃ a c, x = .returned (.tuple #[.agg #[.int .u32 (le (part s 8 4)), .int .u64 (le (part s 0 8)), .int .i64 (le (part s 12 1)), .string hd, .slice a L.length c], .int .i64 0]) ∧ StrsFrom (w.heap.size + 1) w' a L) ∧
      (¬ (fit ∧ zerosB (part s off (500 - off)) = true) → x = .returned (.tuple #[.agg #[.int .u32 0, .int .u64 0, .int .i64 0, .string ⟨#[]⟩, .slice none 0 0], .int .i64 6]))) := by
  have hL8 := le_lt_of (l := part s 0 8) (n := 8) (by rw [part_length (by omega)]; omega)
  have hL4 := le_lt_of (l := part s 8 4) (n := 4) (by rw [part_length (by omega)]; omega)
  have hL1 := le_lt_of (l := part s 12 1) (n := 1) (by rw [part_length (by omega)]; omega)
  have HN1 : Hid (∀ wx, IsReader wx (w.heap.size + 1) s 0 0 → Calls Tryz.prog 96 #[.pointer (some ⟨w.heap.size + 1, 0, none⟩), .int .i64 8] wx fun x w' => x = .returned (.int .u64 (le (part s 0 8))) ∧ IsReader w' (w.heap.size + 1) s 8 0 ∧ Only (w.heap.size + 1) wx w') := fun wx h => number_ok h 8 (by omega) (by omega)
  have HN2 : Hid (∀ wx, IsReader wx (w.heap.size + 1) s 8 0 → Calls Tryz.prog 96 #[.pointer (some ⟨w.heap.size + 1, 0, none⟩), .int .i64 4] wx fun x w' => x = .returned (.int .u64 (le (part s 8 4))) ∧ IsReader w' (w.heap.size + 1) s 12 0 ∧ Only (w.heap.size + 1) wx w') := fun wx h => number_ok h 4 (by omega) (by omega)
  have HN3 : Hid (∀ wx, IsReader wx (w.heap.size + 1) s 12 0 → Calls Tryz.prog 96 #[.pointer (some ⟨w.heap.size + 1, 0, none⟩), .int .i64 1] wx fun x w' => x = .returned (.int .u64 (le (part s 12 1))) ∧ IsReader w' (w.heap.size + 1) s 13 0 ∧ Only (w.heap.size + 1) wx w') := fun wx h => number_ok h 1 (by omega) (by omega)
  generalize le (part s 0 8) = lsn at *
  generalize le (part s 8 4) = num at *
  generalize le (part s 12 1) = kind at *
  go_enter Tryz.func65, Tryz.ntmps65
  go_wp2_with fail
  refine (new_reader s _).mono ?_
  rintro x w1 ⟨rfl, rfl⟩
  go_wp2_with fail
  obtain ⟨W, HW⟩ : ∃ W, Hid (W = ((w.alloc (.cells #[.int .u32 0, .int .u64 0, .int .i64 0, .string ⟨#[]⟩, .slice none 0 0] 56)).alloc (.cells #[.string s, .int .i64 0, .int .i64 0] 187)).alloc (.cells #[.int .u32 0, .int .u64 0, .int .i64 0, .string ⟨#[]⟩, .slice none 0 0] 56)) := ⟨_, rfl⟩
  have hr : IsReader W (w.heap.size + 1) s 0 0 := by
    rw [HW.out]
    have := (IsReader.new (s := s) (w := w.alloc (.cells #[.int .u32 0, .int .u64 0, .int .i64 0, .string ⟨#[]⟩, .slice none 0 0] 56)) (t := 187) (by omega)).alloc (.cells #[.int .u32 0, .int .u64 0, .int .i64 0, .string ⟨#[]⟩, .slice none 0 0] 56)
    simpa using this
  have hres : RowV W w.heap.size 5 (five (.int .u32 0) (.int .u64 0) (.int .i64 0) (.string ⟨#[]⟩) (.slice none 0 0)) := by
    rw [HW.out]
    exact ((RowV.five_new w _ _ _ _ _ _).below ((Below.refl _ _).alloc (Nat.le_refl _) _) (by simp)).below ((Below.refl _ _).alloc (Nat.le_refl _) _) (by simp; omega)
  have hp : RowV W (w.heap.size + 2) 5 (five (.int .u32 0) (.int .u64 0) (.int .i64 0) (.string ⟨#[]⟩) (.slice none 0 0)) := by
    rw [HW.out]
    have := RowV.five_new ((w.alloc (.cells #[.int .u32 0, .int .u64 0, .int .i64 0, .string ⟨#[]⟩, .slice none 0 0] 56)).alloc (.cells #[.string s, .int .i64 0, .int .i64 0] 187)) (.int .u32 0) (.int .u64 0) (.int .i64 0) (.string ⟨#[]⟩) (.slice none 0 0) 56
    simpa using this
  have bel : Below w.heap.size w W := by
    rw [HW.out]
    exact (((Below.refl _ _).alloc (Nat.le_refl _) _).alloc (by simp) _).alloc (by simp; omega) _
  have hz : w.heap.size + 3 ≤ W.heap.size := by rw [HW.out]; simp
  rw [← HW.out]
  clear HW
  go_wp2_with fail
  refine (HN1.out W hr).mono ?_
  rintro x w2 ⟨rfl, h2, o2⟩
  have hp2 := hp.only o2 (by omega) (by omega)
  have hres2 := hres.only o2 (by omega) (by omega)
  have bel2 := o2.below bel (by omega) (by omega)
  have hz2 := Nat.le_trans hz o2.size
  obtain ⟨f0, f1, f2, f3, f4⟩ := hp2.open5
  obtain ⟨d0, d1, d2, d3, d4⟩ := hp2.cells5
  clear hr hp hres bel hz o2
  go_wp2_with fail
  obtain ⟨W2, HW2⟩ : ∃ W2, Hid (W2 = w2.setCell ⟨w.heap.size + 2, 1, none⟩ (.int .u64 lsn)) := ⟨_, rfl⟩
  rw [← HW2.out]
  have hr20 := h2.setOther (k := w.heap.size + 2) (i := 1) (by omega) (.int .u64 lsn)
  have hp20 := hp2.set1 (.int .u64 lsn)
  have hres20 := hres2.set_other (b' := w.heap.size + 2) (k := 1) (by omega) (.int .u64 lsn)
  have bel20 := bel2.setCell (p := ⟨w.heap.size + 2, 1, none⟩) (by show w.heap.size ≤ w.heap.size + 2; omega) (.int .u64 lsn)
  have hz20 : w.heap.size + 3 ≤ W2.heap.size := by rw [HW2.out]; simpa using hz2
  rw [← HW2.out] at hr20 hp20 hres20 bel20
  clear HW2 h2 hp2 hres2 bel2 hz2 f0 f1 f2 f3 f4 d0 d1 d2 d3 d4
  go_wp2_with fail
  refine (HN2.out W2 hr20).mono ?_
  rintro x w3 ⟨rfl, h3, o3⟩
  have hp3 := hp20.only o3 (by omega) (by omega)
  have hres3 := hres20.only o3 (by omega) (by omega)
  have bel3 := o3.below bel20 (by omega) (by omega)
  have hz3 := Nat.le_trans hz20 o3.size
  obtain ⟨f0, f1, f2, f3, f4⟩ := hp3.open5
  obtain ⟨d0, d1, d2, d3, d4⟩ := hp3.cells5
  clear hr20 hp20 hres20 bel20 hz20 o3
  go_wp2_with fail
  obtain ⟨W3, HW3⟩ : ∃ W3, Hid (W3 = w3.setCell ⟨w.heap.size + 2, 0, none⟩ (.int .u32 num)) := ⟨_, rfl⟩
  rw [← HW3.out]
  have hr30 := h3.setOther (k := w.heap.size + 2) (i := 0) (by omega) (.int .u32 num)
  have hp30 := hp3.set0 (.int .u32 num)
  have hres30 := hres3.set_other (b' := w.heap.size + 2) (k := 0) (by omega) (.int .u32 num)
  have bel30 := bel3.setCell (p := ⟨w.heap.size + 2, 0, none⟩) (by show w.heap.size ≤ w.heap.size + 2; omega) (.int .u32 num)
  have hz30 : w.heap.size + 3 ≤ W3.heap.size := by rw [HW3.out]; simpa using hz3
  rw [← HW3.out] at hr30 hp30 hres30 bel30
  clear HW3 h3 hp3 hres3 bel3 hz3 f0 f1 f2 f3 f4 d0 d1 d2 d3 d4
  go_wp2_with fail
  refine (HN3.out W3 hr30).mono ?_
  rintro x w4 ⟨rfl, h4, o4⟩
  have hp4 := hp30.only o4 (by omega) (by omega)
  have hres4 := hres30.only o4 (by omega) (by omega)
  have bel4 := o4.below bel30 (by omega) (by omega)
  have hz4 := Nat.le_trans hz30 o4.size
  obtain ⟨f0, f1, f2, f3, f4⟩ := hp4.open5
  obtain ⟨d0, d1, d2, d3, d4⟩ := hp4.cells5
  clear hr30 hp30 hres30 bel30 hz30 o4
  go_wp2_with fail
  obtain ⟨W4, HW4⟩ : ∃ W4, Hid (W4 = w4.setCell ⟨w.heap.size + 2, 2, none⟩ (.int .i64 kind)) := ⟨_, rfl⟩
  rw [← HW4.out]
  have hr40 := h4.setOther (k := w.heap.size + 2) (i := 2) (by omega) (.int .i64 kind)
  have hp40 := hp4.set2 (.int .i64 kind)
  have hres40 := hres4.set_other (b' := w.heap.size + 2) (k := 2) (by omega) (.int .i64 kind)
  have bel40 := bel4.setCell (p := ⟨w.heap.size + 2, 2, none⟩) (by show w.heap.size ≤ w.heap.size + 2; omega) (.int .i64 kind)
  have hz40 : w.heap.size + 3 ≤ W4.heap.size := by rw [HW4.out]; simpa using hz4
  rw [← HW4.out] at hr40 hp40 hres40 bel40
  clear HW4 h4 hp4 hres4 bel4 hz4 f0 f1 f2 f3 f4 d0 d1 d2 d3 d4
  go_wp2_with fail
  refine (H.count W4 hr40).mono ?_
  rintro x w5 ⟨rfl, h5, o5⟩
  have hp5 := hp40.only o5 (by omega) (by omega)
  have hres5 := hres40.only o5 (by omega) (by omega)
  have bel5 := o5.below bel40 (by omega) (by omega)
  have hz5 := Nat.le_trans hz40 o5.size
  clear hr40 hp40 hres40 bel40 hz40 o5
  go_wp2_with fail
  refine (H.bytes w5 h5).mono ?_
  rintro x w6 ⟨rfl, h6, o6⟩
  have hp6 := hp5.only o6 (by omega) (by omega)
  have hres6 := hres5.only o6 (by omega) (by omega)
  have bel6 := o6.below bel5 (by omega) (by omega)
  have hz6 := Nat.le_trans hz5 o6.size
  obtain ⟨f0, f1, f2, f3, f4⟩ := hp6.open5
  obtain ⟨d0, d1, d2, d3, d4⟩ := hp6.cells5
  clear h5 hp5 hres5 bel5 hz5 o6
  go_wp2_with fail
  obtain ⟨W6, HW6⟩ : ∃ W6, Hid (W6 = w6.setCell ⟨w.heap.size + 2, 3, none⟩ (.string hd)) := ⟨_, rfl⟩
  rw [← HW6.out]
  have hr60 := h6.setOther (k := w.heap.size + 2) (i := 3) (by omega) (.string hd)
  have hp60 := hp6.set3 (.string hd)
  have hres60 := hres6.set_other (b' := w.heap.size + 2) (k := 3) (by omega) (.string hd)
  have bel60 := bel6.setCell (p := ⟨w.heap.size + 2, 3, none⟩) (by show w.heap.size ≤ w.heap.size + 2; omega) (.string hd)
  have hz60 : w.heap.size + 3 ≤ W6.heap.size := by rw [HW6.out]; simpa using hz6
  rw [← HW6.out] at hr60 hp60 hres60 bel60
  clear HW6 h6 hp6 hres6 bel6 hz6 f0 f1 f2 f3 f4 d0 d1 d2 d3 d4
  go_wp2_with fail
  refine (H.slots W6 hr60).mono ?_
  rintro x w7 ⟨a7, c7, p7, e7, rfl, h7, o7, hfit, hnot⟩
  have hp7 := hp60.only o7 (by omega) (by omega)
  have hres7 := hres60.only o7 (by omega) (by omega)
  have bel7 := o7.below bel60 (by omega) (by omega)
  have hz7 := Nat.le_trans hz60 o7.size
  obtain ⟨f0, f1, f2, f3, f4⟩ := hp7.open5
  obtain ⟨d0, d1, d2, d3, d4⟩ := hp7.cells5
  clear hr60 hp60 hres60 bel60
  go_wp2_with fail
  obtain ⟨W7, HW7⟩ : ∃ W7, Hid (W7 = w7.setCell ⟨w.heap.size + 2, 4, none⟩ (.slice a7 L.length c7)) := ⟨_, rfl⟩
  rw [← HW7.out]
  have hr70 := h7.setOther (k := w.heap.size + 2) (i := 4) (by omega) (.slice a7 L.length c7)
  have hp70 := hp7.set4 (.slice a7 L.length c7)
  have hres70 := hres7.set_other (b' := w.heap.size + 2) (k := 4) (by omega) (.slice a7 L.length c7)
  have bel70 := bel7.setCell (p := ⟨w.heap.size + 2, 4, none⟩) (by show w.heap.size ≤ w.heap.size + 2; omega) (.slice a7 L.length c7)
  have hz70 : w7.heap.size = W7.heap.size := by rw [HW7.out]; simp
  rw [← HW7.out] at hr70 hp70 hres70 bel70
  clear f0 f1 f2 f3 f4 d0 d1 d2 d3 d4
  by_cases hf : fit
  · obtain ⟨rfl, rfl, bs, rfl, hbs1, hbs2, hrow⟩ := hfit hf
    have hrow7 := hrow.set_other (b' := w.heap.size + 2) (k := 4) (by omega) (.slice (some ⟨bs, 0, none⟩) L.length c7)
    rw [← HW7.out] at hrow7
    have ho := hoff hf
    clear HW7 h7 hp7 hres7 bel7 hrow hnot hfit
    have HLf : Hid (∀ wx, IsReader wx (w.heap.size + 1) s p7 0 → Calls Tryz.prog 101 #[.pointer (some ⟨w.heap.size + 1, 0, none⟩)] wx fun x w' => x = .returned (.int .i64 ((500 - p7 : Nat) : Int)) ∧ ∃ n, w' = wx.drewN n) := fun wx h => by
      have := left_any h
      rw [hs, show ((500 : Nat) : Int) - (p7 : Int) = ((500 - p7 : Nat) : Int) from by omega] at this
      exact this
    obtain ⟨q, Hq⟩ : ∃ q, Hid (500 - p7 = q) := ⟨_, rfl⟩
    rw [Hq.out] at HLf
    have hq : p7 + q = 500 := by have := Hq.out; omega
    have hb := fun (wx : World) (h : IsReader wx (w.heap.size + 1) s p7 0) => bytes_ok h q (by omega)
    have HBy : Hid (∀ wx, IsReader wx (w.heap.size + 1) s p7 0 → Calls Tryz.prog 97 #[.pointer (some ⟨w.heap.size + 1, 0, none⟩), .int .i64 q] wx fun x w' => x = .returned (.string ⟨(part s p7 q).toArray⟩) ∧ IsReader w' (w.heap.size + 1) s (p7 + q) 0 ∧ Only (w.heap.size + 1) wx w') := hb
    clear hb
    have HZ : Hid (∀ wx, Calls Tryz.prog 61 #[.string ⟨(part s p7 q).toArray⟩] wx fun e w' => e = .returned (.bool (zerosB (part s p7 q))) ∧ w' = wx) := fun wx => by
      have := zeros_any ⟨(part s p7 q).toArray⟩ wx (by rw [bytes_size, part_length (by omega)]; unfold maxLen; omega)
      simpa using this
    obtain ⟨zb, Hzb⟩ : ∃ zb, Hid (zerosB (part s p7 q) = zb) := ⟨_, rfl⟩
    rw [Hzb.out] at HZ
    go_wp2_with fail
    refine (err_any hr70).mono ?_
    rintro x w8 ⟨rfl, rfl⟩
    go_wp2_with fail
    refine (HLf.out _ hr70).mono ?_
    rintro x w8 ⟨rfl, nd, rfl⟩
    have hr8 := hr70.drewN nd
    go_wp2_with fail
    refine (HBy.out _ hr8).mono ?_
    rintro x w9 ⟨rfl, h9, o9⟩
    have o9' := ((Only.refl (w.heap.size + 1) w8).drewN nd).trans o9
    have hp9 := hp70.only o9' (by omega) (by omega)
    have hres9 := hres70.only o9' (by omega) (by omega)
    have bel9 := o9'.below bel70 (by omega) (by omega)
    have hrow9 := hrow7.only o9' (by omega) (by omega)
    have hz9 := o9'.size
    clear hr70 hp70 hres70 bel70 hrow7 o9 o9' hr8
    go_wp2_with fail
    refine (HZ.out _).mono ?_
    rintro x w10 ⟨rfl, rfl⟩
    obtain ⟨f0, f1, f2, f3, f4⟩ := hres9.open5
    obtain ⟨d0, d1, d2, d3, d4⟩ := hres9.cells5
    obtain ⟨g0, g1, g2, g3, g4⟩ := hp9.cells5
    cases zb
    · go_wp2
      have hq := hres9.set5 (.int .u32 0) (.int .u64 0) (.int .i64 0) (.string ⟨#[]⟩) (.slice none 0 0)
      have bq := below_set5 bel9 (b := w.heap.size) (Nat.le_refl _) (.int .u32 0) (.int .u64 0) (.int .i64 0) (.string ⟨#[]⟩) (.slice none 0 0)
      obtain ⟨WX, HWX⟩ : ∃ WX, Hid (WX = store5 w10 w.heap.size (.int .u32 0) (.int .u64 0) (.int .i64 0) (.string ⟨#[]⟩) (.slice none 0 0)) := ⟨_, rfl⟩
      rw [← HWX.out] at hq bq
      obtain ⟨r0, r1, r2, r3, r4⟩ := hq.cells5
      rw [show (((((w10.setCell ⟨w.heap.size, 0, none⟩ (.int .u32 0)).setCell ⟨w.heap.size, 1, none⟩ (.int .u64 0)).setCell ⟨w.heap.size, 2, none⟩ (.int .i64 0)).setCell ⟨w.heap.size, 3, none⟩ (.string ⟨#[]⟩)).setCell ⟨w.heap.size, 4, none⟩ (.slice none 0 0)) = WX from HWX.out.symm]
      refine bodyPost_ret (v := .tuple #[.agg #[.int .u32 0, .int .u64 0, .int .i64 0, .string ⟨#[]⟩, .slice none 0 0], .int .i64 6]) (by simp [results, Tryz.results65, go_sem, r0, r1, r2, r3, r4]) rfl ?_
      refine ⟨?_, fun h => ?_, fun _ => rfl⟩
      · exact bq
      · rw [Hq.out, Hzb.out] at h; exact absurd h.2 (by simp)
    · go_wp2
      have hq := hres9.set5 (.int .u32 num) (.int .u64 lsn) (.int .i64 kind) (.string hd) (.slice (some ⟨bs, 0, none⟩) L.length c7)
      have bq := below_set5 bel9 (b := w.heap.size) (Nat.le_refl _) (.int .u32 num) (.int .u64 lsn) (.int .i64 kind) (.string hd) (.slice (some ⟨bs, 0, none⟩) L.length c7)
      obtain ⟨WX, HWX⟩ : ∃ WX, Hid (WX = store5 w10 w.heap.size (.int .u32 num) (.int .u64 lsn) (.int .i64 kind) (.string hd) (.slice (some ⟨bs, 0, none⟩) L.length c7)) := ⟨_, rfl⟩
      rw [← HWX.out] at hq bq
      obtain ⟨r0, r1, r2, r3, r4⟩ := hq.cells5
      rw [show (((((w10.setCell ⟨w.heap.size, 0, none⟩ (.int .u32 num)).setCell ⟨w.heap.size, 1, none⟩ (.int .u64 lsn)).setCell ⟨w.heap.size, 2, none⟩ (.int .i64 kind)).setCell ⟨w.heap.size, 3, none⟩ (.string hd)).setCell ⟨w.heap.size, 4, none⟩ (.slice (some ⟨bs, 0, none⟩) L.length c7)) = WX from HWX.out.symm]
      have hrX := hrow9.set5_other (b := w.heap.size) (by omega) (.int .u32 num) (.int .u64 lsn) (.int .i64 kind) (.string hd) (.slice (some ⟨bs, 0, none⟩) L.length c7)
      have hzX := store5_size w10 w.heap.size (.int .u32 num) (.int .u64 lsn) (.int .i64 kind) (.string hd) (.slice (some ⟨bs, 0, none⟩) L.length c7)
      rw [← HWX.out] at hrX hzX
      refine bodyPost_ret (v := .tuple #[.agg #[.int .u32 num, .int .u64 lsn, .int .i64 kind, .string hd, .slice (some ⟨bs, 0, none⟩) L.length c7], .int .i64 0]) (by simp [results, Tryz.results65, go_sem, r0, r1, r2, r3, r4]) rfl ?_
      refine ⟨?_, fun h => ⟨_, _, rfl, ?_⟩, fun h => ?_⟩
      · exact bq
      · exact hrX.strsFrom (by omega) (by omega)
      · rw [Hq.out, Hzb.out] at h; exact absurd ⟨hf, rfl⟩ h
  · have hne := hnot hf
    have hne' : (e7 != 0) = true := by rw [bne_iff_ne]; exact hne
    clear HW7 h7 hp7 hres7 bel7 hnot hfit
    obtain ⟨f0, f1, f2, f3, f4⟩ := hres70.open5
    obtain ⟨d0, d1, d2, d3, d4⟩ := hres70.cells5
    go_wp2_with fail
    refine (err_any hr70).mono ?_
    rintro x w8 ⟨rfl, rfl⟩
    go_wp2
    have hq := hres70.set5 (.int .u32 0) (.int .u64 0) (.int .i64 0) (.string ⟨#[]⟩) (.slice none 0 0)
    have bq := below_set5 bel70 (b := w.heap.size) (Nat.le_refl _) (.int .u32 0) (.int .u64 0) (.int .i64 0) (.string ⟨#[]⟩) (.slice none 0 0)
    obtain ⟨WX, HWX⟩ : ∃ WX, Hid (WX = store5 w8 w.heap.size (.int .u32 0) (.int .u64 0) (.int .i64 0) (.string ⟨#[]⟩) (.slice none 0 0)) := ⟨_, rfl⟩
    rw [← HWX.out] at hq bq
    obtain ⟨r0, r1, r2, r3, r4⟩ := hq.cells5
    rw [show (((((w8.setCell ⟨w.heap.size, 0, none⟩ (.int .u32 0)).setCell ⟨w.heap.size, 1, none⟩ (.int .u64 0)).setCell ⟨w.heap.size, 2, none⟩ (.int .i64 0)).setCell ⟨w.heap.size, 3, none⟩ (.string ⟨#[]⟩)).setCell ⟨w.heap.size, 4, none⟩ (.slice none 0 0)) = WX from HWX.out.symm]
    refine bodyPost_ret (v := .tuple #[.agg #[.int .u32 0, .int .u64 0, .int .i64 0, .string ⟨#[]⟩, .slice none 0 0], .int .i64 6]) (by simp [results, Tryz.results65, go_sem, r0, r1, r2, r3, r4]) rfl ?_
    exact ⟨bq, fun h => absurd h.1 hf, fun _ => rfl⟩

end Go.Proofs.YtgmfgkdecpldeaaGreat
