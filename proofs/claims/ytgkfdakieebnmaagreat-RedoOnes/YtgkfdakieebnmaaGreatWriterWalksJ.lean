/-
  The walks of raw.Writer's methods, over a writer that lies in memory: the bytes that it has are those that were put.
-/
import Derived.Test.YtgkfdakieebnmaaGreatCloneJ
import Derived.Lib.AppendStr
import Derived.Test.YtgkfdakieebnmaaGreatPageMemJ
set_option linter.unusedVariables false
set_option linter.unusedSimpArgs false
namespace Go.Proofs.YtgkfdakieebnmaaGreat
open Go.RowKit

def cellsOf (l : List UInt8) : List Value := l.map fun c => .int .u8 (c.toNat : Int)

structure IsWriter (w : World) (b : Nat) (l : List UInt8) (a : Option Addr) (c : Nat) : Prop where
  c0 : w.cell? ⟨b, 0, none⟩ = some (.slice a l.length c)
  f0 : w.frozen? ⟨b, 0, none⟩ = false
  own : w.ownsRow (b + 1) 5 1 (.slice a l.length c) l.length (cellsOf l)
  lt : b < w.heap.size

theorem strCells_eq (s : ByteArray) : Lib.strCells s = cellsOf s.data.toList := by
  unfold Lib.strCells cellsOf
  rfl

theorem i5 : (Tryz.prog.info? 5).map (fun i => (i.zero, i.size, i.bytes)) = some (some (.int .u8 0), 1, 1) := info5

section
variable {w : World} {b : Nat} {l : List UInt8} {a : Option Addr} {c : Nat}

set_option maxHeartbeats 800000 in
set_option maxRecDepth 60000 in
theorem wbytes_any (h : IsWriter w b l a c) (s : ByteArray) (hl : l.length + s.size ≤ 140737488355328) :
    Calls Tryz.prog 108 #[.pointer (some ⟨b, 0, none⟩), .string s] w fun x w' =>
      x = .returned (.tuple #[]) ∧ (∃ a' c', IsWriter w' b (l ++ s.data.toList) a' c') ∧ Below b w w' := by
  obtain ⟨i0, hi, hz0, hz1, hz2⟩ := info_parts i5
  have hc0 := h.c0
  have hf0 := h.f0
  have hown := h.own
  have hlt := h.lt
  go_enter Tryz.func108, Tryz.ntmps108
  go_wp2_with (at_builtin; refine Lib.wpList_append_own_string _ rfl _ _ 90 9 rfl (b + 1) 5 i0 Tryz.underlying90 Tryz.underlying9 hi hz0 hz1 hz2 (.slice a l.length c) l.length (cellsOf l) rfl hown s rfl (by unfold maxLen; omega) hl (by omega) ?_)
  intro v' w1 hown' hgrow _
  have hne : some b ≠ (Value.slice a l.length c).ownBlock := fun e => by have := hown.lt b e.symm; omega
  have hbk := hgrow.block b hlt hne
  have hc1 := (World.cell?_of_block (w := w) (a := ⟨b, 0, none⟩) hbk).trans hc0
  have hf1 := (World.frozen?_of_block (w := w) (a := ⟨b, 0, none⟩) hbk).trans hf0
  have hz1 : b < w1.heap.size := Nat.lt_of_lt_of_le hlt hgrow.size
  have hbel : Below b w w1 := (Below.refl b w).grown hgrow (by omega) (fun k hk => by have := hown.lt k hk; omega)
  obtain ⟨a', c', hv⟩ : ∃ a' c', v' = .slice a' (l.length + s.size) c' := by
    rcases hown'.2 with ⟨e1, e2⟩ | ⟨g, cap, cur, e1, _⟩
    · exact ⟨none, 0, by rw [e1, e2]⟩
    · exact ⟨_, _, e1⟩
  subst hv
  rw [strCells_eq] at hown'
  have HO : Hid (w1.ownsRow (b + 1) 5 1 (.slice a' (l.length + s.size) c') (l.length + s.size) (cellsOf l ++ cellsOf s.data.toList)) := hown'
  clear hown' hown hgrow hne hbk h hc0 hf0
  go_wp2
  go_end0
  have hlen : (l ++ s.data.toList).length = l.length + s.size := by simp
  refine ⟨rfl, ⟨a', c', ?_, ?_, ?_, ?_⟩, hbel.setCell (p := ⟨b, 0, none⟩) (Nat.le_refl _) _⟩
  · rw [hlen]; exact World.cell?_setCell_same _ _ _ hc1
  · rw [World.frozen?_setCell]; exact hf1
  · rw [hlen, show cellsOf (l ++ s.data.toList) = cellsOf l ++ cellsOf s.data.toList from by simp [cellsOf]]
    exact ownsRow_setCell_below HO.out (a := ⟨b, 0, none⟩) (by show b < b + 1; omega) _
  · simpa using hz1

theorem IsWriter.below (h : IsWriter w b l a c) {w' : World} (k : Below w.heap.size w w') : IsWriter w' b l a c :=
  ⟨(k.cell (p := ⟨b, 0, none⟩) h.lt).trans h.c0, (k.frozen (p := ⟨b, 0, none⟩) h.lt).trans h.f0,
    h.own.kept (row := none) ⟨k.os, k.tape, k.output, k.size, fun i hi _ => k.block i hi⟩ (by cases h2 : (Value.slice a l.length c).ownBlock <;> simp), Nat.lt_of_lt_of_le h.lt k.size⟩

theorem below_lower {w1 w2 : World} (h : Below w.heap.size w w1) (k : Below b w1 w2) (hb : b ≤ w.heap.size) : Below b w w2 := (h.mono hb).trans k

set_option maxHeartbeats 400000 in
set_option maxRecDepth 60000 in
theorem wnumber_any (h : IsWriter w b l a c) (n : Nat) (x : Int) (hn : n < 18446744073709551616) (hl : l.length + 8 ≤ 140737488355328) :
    Calls Tryz.prog 107 #[.pointer (some ⟨b, 0, none⟩), .int .u64 n, .int .i64 x] w fun y w' =>
      y = .returned (.tuple #[]) ∧ (∃ a' c', IsWriter w' b (l ++ putL n (longOf x)) a' c') ∧ Below b w w' := by
  have hlt := h.lt
  have hlen : (ByteArray.mk (putL n (longOf x)).toArray).size ≤ 8 := by rw [bytes_size, putL_length]; unfold longOf; omega
  go_enter Tryz.func107, Tryz.ntmps107
  go_wp2_with fail
  refine (put_any n x _ hn).mono ?_
  rintro y w1 ⟨rfl, b1⟩
  go_wp2_with fail
  refine (wbytes_any (h.below b1) _ (by omega)).mono ?_
  rintro y w2 ⟨rfl, ⟨a', c', h2⟩, b2⟩
  go_wp2
  go_end0
  refine ⟨rfl, ⟨a', c', ?_⟩, below_lower b1 b2 (by omega)⟩
  simpa using h2

def textE (s : ByteArray) : Int := if s.size ≤ 65535 then 0 else 5

def textB (s : ByteArray) : List UInt8 := if s.size ≤ 65535 then putL s.size 2 ++ s.data.toList else []

theorem IsWriter.toString (h : IsWriter w b l a c) : (convert 90 9 (.slice a l.length c)).run Tryz.prog w = .ok (.string ⟨l.toArray⟩) w := by
  rcases h.own.2 with ⟨e1, e2⟩ | ⟨g, cap, cur, e1, _⟩
  · have hl : l = [] := List.eq_nil_of_length_eq_zero e2
    rw [e1, hl]
    exact run_convert_bytes_nil w 90 5 Tryz.underlying90 Tryz.underlying5 0 0 9 Tryz.underlying9
  · have ho := h.own
    rw [e1] at ho ⊢
    exact run_convert_bytes_back w 90 9 5 ⟨g, 0, none⟩ cap l Tryz.underlying90 Tryz.underlying5 Tryz.underlying9 (fun j hj => ho.cells rfl j _ (by simp [cellsOf, hj]))

set_option maxHeartbeats 400000 in
set_option maxRecDepth 60000 in
theorem wall_any (h : IsWriter w b l a c) :
    Calls Tryz.prog 111 #[.pointer (some ⟨b, 0, none⟩)] w fun y w' => y = .returned (.string ⟨l.toArray⟩) ∧ w' = w := by
  have hc0 := h.c0
  have hcv := h.toString
  go_enter Tryz.func111, Tryz.ntmps111
  go_wp2
  go_ret
  exact ⟨rfl, rfl⟩

end

set_option maxHeartbeats 400000 in
set_option maxRecDepth 60000 in
theorem new_writer (w : World) :
    Calls Tryz.prog 106 #[] w fun y w' => y = .returned (.pointer (some ⟨w.heap.size, 0, none⟩)) ∧ IsWriter w' w.heap.size [] none 0 ∧ Below w.heap.size w w' := by
  go_enter Tryz.func106, Tryz.ntmps106
  go_wp2
  go_ret
  exact ⟨rfl, ⟨by simp, by simp, World.ownsRow_nil _ _ _ _, by simp⟩, (Below.refl _ _).alloc (Nat.le_refl _) _⟩

end Go.Proofs.YtgkfdakieebnmaaGreat

namespace Go.Proofs.YtgkfdakieebnmaaGreat
open Go.RowKit

set_option maxHeartbeats 400000 in
set_option maxRecDepth 60000 in
theorem new_reader (s : ByteArray) (w : World) :
    Calls Tryz.prog 58 #[.string s] w fun x w' => x = .returned (.pointer (some ⟨w.heap.size, 0, none⟩)) ∧ w' = w.alloc (.cells #[.string s, .int .i64 0, .int .i64 0] 202) := by
  go_enter Tryz.func58, Tryz.ntmps58
  go_wp2
  go_ret
  exact ⟨rfl, rfl⟩

theorem reader_new {s : ByteArray} {w w1 : World} {t : TypeId} (hs : s.size ≤ 281474976710656) (hb : Below (w.alloc (.cells #[.string s, .int .i64 0, .int .i64 0] t)).heap.size (w.alloc (.cells #[.string s, .int .i64 0, .int .i64 0] t)) w1) :
    IsReader w1 w.heap.size s 0 0 := by
  have h : IsReader (w.alloc (.cells #[.string s, .int .i64 0, .int .i64 0] t)) w.heap.size s 0 0 := ⟨by simp, by simp, by simp, by simp, by simp, by omega, hs, by simp⟩
  exact h.below hb

end Go.Proofs.YtgkfdakieebnmaaGreat
