/-
  The walk of 'one': something is taken of a reader and of the document's reader, and both say the same.
-/
import Derived.Test.YtjfjijgdjlkhkaaRefMore
namespace Go.Proofs.Ytjfjijgdjlkhkaa
open Go.RowKit
set_option linter.unusedVariables false
set_option linter.unusedSimpArgs false

/-- Where both stand behind one act. -/
def stepF (s : ByteArray) (p : Nat) (e kind n : Int) : Nat × Int :=
  if kind = 0 then ((numF s p e n).1, (numF s p e n).2.1) else if kind = 1 then ((bytesF s p e n).1, (bytesF s p e n).2.1) else
    if kind = 2 then ((textF s p e n).1, (textF s p e n).2.1) else if kind = 3 then ((boolF s p e).1, (boolF s p e).2.1) else
      if kind = 4 then (p, failE e n) else (p, endE s p e)

theorem Row3.only {W w1 : World} {c b : Nat} {v0 v1 v2 : Value} (h : Row3 W c v0 v1 v2) (k : Only b W w1) (hc : c < W.heap.size) (hb : c ≠ b) : Row3 w1 c v0 v1 v2 := by
  have e := k.block c hc hb
  exact ⟨(World.cell?_of_block (w := W) (a := ⟨c, 0, none⟩) e).trans h.c0, (World.cell?_of_block (w := W) (a := ⟨c, 1, none⟩) e).trans h.c1, (World.cell?_of_block (w := W) (a := ⟨c, 2, none⟩) e).trans h.c2,
    (World.frozen?_of_block (w := W) (a := ⟨c, 0, none⟩) e).trans h.f0, (World.frozen?_of_block (w := W) (a := ⟨c, 1, none⟩) e).trans h.f1, (World.frozen?_of_block (w := W) (a := ⟨c, 2, none⟩) e).trans h.f2⟩

theorem Only.setNew {b c : Nat} {w W : World} (h : Only b w W) (hc : w.heap.size ≤ c) (i : Nat) (v : Value) : Only b w (W.setCell ⟨c, i, none⟩ v) :=
  ⟨h.os, h.tape, h.output, by simpa using h.size, fun k hk hb => (Below.heap_setCell _ _ _ _ (by show k ≠ c; omega)).trans (h.block k hk hb)⟩

theorem Only.set3 {b c : Nat} {w W : World} (h : Only b w W) (hc : w.heap.size ≤ c) (u0 u1 u2 : Value) : Only b w (((W.setCell ⟨c, 0, none⟩ u0).setCell ⟨c, 1, none⟩ u1).setCell ⟨c, 2, none⟩ u2) :=
  ((h.setNew hc _ _).setNew hc _ _).setNew hc _ _

theorem Only.alloc {b : Nat} {w W : World} (h : Only b w W) (o : Obj) : Only b w (W.alloc o) :=
  h.trans (Only.of_below ((Below.refl _ _).alloc (Nat.le_refl _) o))

theorem IsReader.setFar {w : World} {b : Nat} {s : ByteArray} {p : Nat} {e : Int} (h : IsReader w b s p e) {c : Nat} (hc : c ≠ b) (i : Nat) (v : Value) : IsReader (w.setCell ⟨c, i, none⟩ v) b s p e := by
  have q : ∀ j, (w.setCell ⟨c, i, none⟩ v).cell? ⟨b, j, none⟩ = w.cell? ⟨b, j, none⟩ := fun j => World.cell?_setCell_other _ _ _ _ (by intro x; exact hc (by simpa using congrArg Addr.block x))
  exact ⟨(q 0).trans h.c0, (q 1).trans h.c1, (q 2).trans h.c2, by rw [World.frozen?_setCell]; exact h.f1, by rw [World.frozen?_setCell]; exact h.f2, h.le, h.sz, by simpa using h.lt⟩

theorem IsReader.far3 {w : World} {b : Nat} {s : ByteArray} {p : Nat} {e : Int} (h : IsReader w b s p e) {c : Nat} (hc : c ≠ b) (u0 u1 u2 : Value) : IsReader (((w.setCell ⟨c, 0, none⟩ u0).setCell ⟨c, 1, none⟩ u1).setCell ⟨c, 2, none⟩ u2) b s p e :=
  ((h.setFar hc _ _).setFar hc _ _).setFar hc _ _

theorem IsReader.alloc {w : World} {b : Nat} {s : ByteArray} {p : Nat} {e : Int} (h : IsReader w b s p e) (o : Obj) : IsReader (w.alloc o) b s p e :=
  h.below ((Below.refl _ _).alloc (Nat.le_refl _) o)

/-- The world in which 'one' begins: the model's reader, the act, the answer. -/
def W3 (w : World) (s : ByteArray) (p : Nat) (e kind n : Int) (x : Nat) (S : ByteArray) : World :=
  ((w.alloc (.cells #[.string s, .int .i64 p, .int .i64 e] 41)).alloc (.cells #[.int .i64 kind, .int .i64 n, .int .u64 x, .string S] 45)).alloc (.cells #[.string ⟨#[]⟩, .int .i64 0, .int .i64 0] 41)

theorem W3_size (w : World) (s : ByteArray) (p : Nat) (e kind n : Int) (x : Nat) (S : ByteArray) : (W3 w s p e kind n x S).heap.size = w.heap.size + 3 := by simp [W3]

theorem W3_only (b : Nat) (w : World) (s : ByteArray) (p : Nat) (e kind n : Int) (x : Nat) (S : ByteArray) : Only b w (W3 w s p e kind n x S) := (((Only.refl b w).alloc _).alloc _).alloc _

theorem W3_reader {w : World} {b : Nat} {s : ByteArray} {p : Nat} {e : Int} (h : IsReader w b s p e) (kind n : Int) (x : Nat) (S : ByteArray) : IsReader (W3 w s p e kind n x S) b s p e := ((h.alloc _).alloc _).alloc _

theorem W3_m (w : World) (s : ByteArray) (p : Nat) (e kind n : Int) (x : Nat) (S : ByteArray) : Row3 (W3 w s p e kind n x S) w.heap.size (.string s) (.int .i64 p) (.int .i64 e) := by
  have k : Below (w.heap.size + 1) (w.alloc (.cells #[.string s, .int .i64 p, .int .i64 e] 41)) (W3 w s p e kind n x S) := ((Below.refl _ _).alloc (by simp) _).alloc (by simp) _
  exact (Row3.new w _ _ _ _).below k (by omega)

theorem W3_a (w : World) (s : ByteArray) (p : Nat) (e kind n : Int) (x : Nat) (S : ByteArray) : (W3 w s p e kind n x S).cell? ⟨w.heap.size + 1, 1, none⟩ = some (.int .i64 n) := by
  have k : Below (w.heap.size + 2) ((w.alloc (.cells #[.string s, .int .i64 p, .int .i64 e] 41)).alloc (.cells #[.int .i64 kind, .int .i64 n, .int .u64 x, .string S] 45)) (W3 w s p e kind n x S) := (Below.refl _ _).alloc (by simp) _
  rw [k.cell (p := ⟨w.heap.size + 1, 1, none⟩) (by show w.heap.size + 1 < _; omega)]
  rw [World.cell?_alloc_at _ _ _ _ (by simp)]
  rfl

theorem W3_k (w : World) (s : ByteArray) (p : Nat) (e kind n : Int) (x : Nat) (S : ByteArray) : Row3 (W3 w s p e kind n x S) (w.heap.size + 2) (.string ⟨#[]⟩) (.int .i64 0) (.int .i64 0) := by
  have r := Row3.new ((w.alloc (.cells #[.string s, .int .i64 p, .int .i64 e] 41)).alloc (.cells #[.int .i64 kind, .int .i64 n, .int .u64 x, .string S] 45)) (.string ⟨#[]⟩) (.int .i64 0) (.int .i64 0) 41
  simp only [World.size_alloc] at r
  exact r

section
variable {w : World} {b : Nat} {s : ByteArray} {p : Nat} {e : Int}

set_option maxHeartbeats 1600000 in
theorem one_0 (h : IsReader w b s p e) (n : Int) (x : Nat) (S : ByteArray) (hi : n ≤ 9223372036854775807) :
    Calls Try.prog 19 #[.pointer (some ⟨b, 0, none⟩), .agg #[.string s, .int .i64 p, .int .i64 e], .agg #[.int .i64 0, .int .i64 n, .int .u64 x, .string S]] w fun y w' =>
      y = .returned (.tuple #[.agg #[.string s, .int .i64 (numF s p e n).1, .int .i64 (numF s p e n).2.1], .bool true]) ∧ IsReader w' b s (numF s p e n).1 (numF s p e n).2.1 ∧ Only b w w' := by
  have hsz := h.sz
  have hle := h.le
  have hlt := h.lt
  have h3 := W3_reader h 0 n x S
  have o3 := W3_only b w s p e 0 n x S
  have m3 := W3_m w s p e 0 n x S
  have a3 := W3_a w s p e 0 n x S
  have k3 := W3_k w s p e 0 n x S
  have z3 := W3_size w s p e 0 n x S
  go_enter Try.func19, Try.ntmps19
  go_wp2_with fail
  rw [show ((w.alloc (.cells #[.string s, .int .i64 p, .int .i64 e] 41)).alloc (.cells #[.int .i64 0, .int .i64 n, .int .u64 x, .string S] 45)).alloc (.cells #[.string ⟨#[]⟩, .int .i64 0, .int .i64 0] 41) = W3 w s p e 0 n x S from rfl]
  generalize W3 w s p e 0 n x S = W at *
  refine (number_any h3 n).mono ?_
  rintro y w1 ⟨rfl, h1, o1⟩
  replace m3 := m3.only o1 (by omega) (by omega)
  replace k3 := k3.only o1 (by omega) (by omega)
  replace a3 := (o1.cell (p := ⟨w.heap.size + 1, 1, none⟩) (by show w.heap.size + 1 < _; omega) (by show w.heap.size + 1 ≠ b; omega)).trans a3
  have z1 : w.heap.size + 3 ≤ w1.heap.size := by have := o1.size; omega
  replace o3 := o3.trans o1
  clear o1 h3 z3
  obtain ⟨q0, q1, q2, g0, g1, g2⟩ := m3
  go_wp2_with fail
  refine (xnumber_any hsz hle n hi).mono ?_
  rintro y w2 ⟨rfl, b2⟩
  replace h1 := h1.below b2
  replace k3 := k3.below b2 (by omega)
  replace o3 := o3.trans (Only.of_below b2)
  have z2 : w.heap.size + 2 < w2.heap.size := by have := b2.size; omega
  clear q0 q1 q2 g0 g1 g2 a3 b2 z1
  obtain ⟨c0, c1, c2, f0, f1, f2⟩ := k3
  go_wp2
  refine bodyPost_ret (v := .tuple #[.agg #[.string s, .int .i64 (numF s p e n).1, .int .i64 (numF s p e n).2.1], .bool true]) (by simp [results, Try.results19, go_sem, c0, c1, c2, z2]) rfl ⟨rfl, ?_, ?_⟩
  · exact (h1.far3 (by omega) _ _ _).alloc _
  · exact (o3.set3 (by omega) _ _ _).alloc _

set_option maxHeartbeats 1600000 in
theorem one_1 (h : IsReader w b s p e) (n : Int) (x : Nat) (S : ByteArray) (hi : n ≤ 9223372036854775807) :
    Calls Try.prog 19 #[.pointer (some ⟨b, 0, none⟩), .agg #[.string s, .int .i64 p, .int .i64 e], .agg #[.int .i64 1, .int .i64 n, .int .u64 x, .string S]] w fun y w' =>
      y = .returned (.tuple #[.agg #[.string s, .int .i64 (bytesF s p e n).1, .int .i64 (bytesF s p e n).2.1], .bool true]) ∧ IsReader w' b s (bytesF s p e n).1 (bytesF s p e n).2.1 ∧ Only b w w' := by
  have hsz := h.sz
  have hle := h.le
  have hlt := h.lt
  have h3 := W3_reader h 1 n x S
  have o3 := W3_only b w s p e 1 n x S
  have m3 := W3_m w s p e 1 n x S
  have a3 := W3_a w s p e 1 n x S
  have k3 := W3_k w s p e 1 n x S
  have z3 := W3_size w s p e 1 n x S
  go_enter Try.func19, Try.ntmps19
  go_wp2_with fail
  rw [show ((w.alloc (.cells #[.string s, .int .i64 p, .int .i64 e] 41)).alloc (.cells #[.int .i64 1, .int .i64 n, .int .u64 x, .string S] 45)).alloc (.cells #[.string ⟨#[]⟩, .int .i64 0, .int .i64 0] 41) = W3 w s p e 1 n x S from rfl]
  generalize W3 w s p e 1 n x S = W at *
  refine (bytes_any h3 n hi).mono ?_
  rintro y w1 ⟨rfl, h1, o1⟩
  replace m3 := m3.only o1 (by omega) (by omega)
  replace k3 := k3.only o1 (by omega) (by omega)
  replace a3 := (o1.cell (p := ⟨w.heap.size + 1, 1, none⟩) (by show w.heap.size + 1 < _; omega) (by show w.heap.size + 1 ≠ b; omega)).trans a3
  have z1 : w.heap.size + 3 ≤ w1.heap.size := by have := o1.size; omega
  replace o3 := o3.trans o1
  clear o1 h3 z3
  obtain ⟨q0, q1, q2, g0, g1, g2⟩ := m3
  go_wp2_with fail
  refine (xtake_any hsz hle n hi).mono ?_
  rintro y w2 ⟨rfl, b2⟩
  replace h1 := h1.below b2
  replace k3 := k3.below b2 (by omega)
  replace o3 := o3.trans (Only.of_below b2)
  have z2 : w.heap.size + 2 < w2.heap.size := by have := b2.size; omega
  clear q0 q1 q2 g0 g1 g2 a3 b2 z1
  obtain ⟨c0, c1, c2, f0, f1, f2⟩ := k3
  go_wp2
  refine bodyPost_ret (v := .tuple #[.agg #[.string s, .int .i64 (bytesF s p e n).1, .int .i64 (bytesF s p e n).2.1], .bool true]) (by simp [results, Try.results19, go_sem, c0, c1, c2, z2]) rfl ⟨rfl, ?_, ?_⟩
  · exact (h1.far3 (by omega) _ _ _).alloc _
  · exact (o3.set3 (by omega) _ _ _).alloc _

set_option maxHeartbeats 1600000 in
theorem one_2 (h : IsReader w b s p e) (n : Int) (x : Nat) (S : ByteArray) (hi : n ≤ 9223372036854775807) :
    Calls Try.prog 19 #[.pointer (some ⟨b, 0, none⟩), .agg #[.string s, .int .i64 p, .int .i64 e], .agg #[.int .i64 2, .int .i64 n, .int .u64 x, .string S]] w fun y w' =>
      y = .returned (.tuple #[.agg #[.string s, .int .i64 (textF s p e n).1, .int .i64 (textF s p e n).2.1], .bool true]) ∧ IsReader w' b s (textF s p e n).1 (textF s p e n).2.1 ∧ Only b w w' := by
  have hsz := h.sz
  have hle := h.le
  have hlt := h.lt
  have h3 := W3_reader h 2 n x S
  have o3 := W3_only b w s p e 2 n x S
  have m3 := W3_m w s p e 2 n x S
  have a3 := W3_a w s p e 2 n x S
  have k3 := W3_k w s p e 2 n x S
  have z3 := W3_size w s p e 2 n x S
  go_enter Try.func19, Try.ntmps19
  go_wp2_with fail
  rw [show ((w.alloc (.cells #[.string s, .int .i64 p, .int .i64 e] 41)).alloc (.cells #[.int .i64 2, .int .i64 n, .int .u64 x, .string S] 45)).alloc (.cells #[.string ⟨#[]⟩, .int .i64 0, .int .i64 0] 41) = W3 w s p e 2 n x S from rfl]
  generalize W3 w s p e 2 n x S = W at *
  refine (rtext_any h3 n).mono ?_
  rintro y w1 ⟨rfl, h1, o1⟩
  replace m3 := m3.only o1 (by omega) (by omega)
  replace k3 := k3.only o1 (by omega) (by omega)
  replace a3 := (o1.cell (p := ⟨w.heap.size + 1, 1, none⟩) (by show w.heap.size + 1 < _; omega) (by show w.heap.size + 1 ≠ b; omega)).trans a3
  have z1 : w.heap.size + 3 ≤ w1.heap.size := by have := o1.size; omega
  replace o3 := o3.trans o1
  clear o1 h3 z3
  obtain ⟨q0, q1, q2, g0, g1, g2⟩ := m3
  go_wp2_with fail
  refine (xtext_any hsz hle n).mono ?_
  rintro y w2 ⟨rfl, b2⟩
  replace h1 := h1.below b2
  replace k3 := k3.below b2 (by omega)
  replace o3 := o3.trans (Only.of_below b2)
  have z2 : w.heap.size + 2 < w2.heap.size := by have := b2.size; omega
  clear q0 q1 q2 g0 g1 g2 a3 b2 z1
  obtain ⟨c0, c1, c2, f0, f1, f2⟩ := k3
  go_wp2
  refine bodyPost_ret (v := .tuple #[.agg #[.string s, .int .i64 (textF s p e n).1, .int .i64 (textF s p e n).2.1], .bool true]) (by simp [results, Try.results19, go_sem, c0, c1, c2, z2]) rfl ⟨rfl, ?_, ?_⟩
  · exact (h1.far3 (by omega) _ _ _).alloc _
  · exact (o3.set3 (by omega) _ _ _).alloc _

set_option maxHeartbeats 1600000 in
theorem one_3 (h : IsReader w b s p e) (n : Int) (x : Nat) (S : ByteArray) (hi : n ≤ 9223372036854775807) :
    Calls Try.prog 19 #[.pointer (some ⟨b, 0, none⟩), .agg #[.string s, .int .i64 p, .int .i64 e], .agg #[.int .i64 3, .int .i64 n, .int .u64 x, .string S]] w fun y w' =>
      y = .returned (.tuple #[.agg #[.string s, .int .i64 (boolF s p e).1, .int .i64 (boolF s p e).2.1], .bool true]) ∧ IsReader w' b s (boolF s p e).1 (boolF s p e).2.1 ∧ Only b w w' := by
  have hsz := h.sz
  have hle := h.le
  have hlt := h.lt
  have h3 := W3_reader h 3 n x S
  have o3 := W3_only b w s p e 3 n x S
  have m3 := W3_m w s p e 3 n x S
  have a3 := W3_a w s p e 3 n x S
  have k3 := W3_k w s p e 3 n x S
  have z3 := W3_size w s p e 3 n x S
  go_enter Try.func19, Try.ntmps19
  go_wp2_with fail
  rw [show ((w.alloc (.cells #[.string s, .int .i64 p, .int .i64 e] 41)).alloc (.cells #[.int .i64 3, .int .i64 n, .int .u64 x, .string S] 45)).alloc (.cells #[.string ⟨#[]⟩, .int .i64 0, .int .i64 0] 41) = W3 w s p e 3 n x S from rfl]
  generalize W3 w s p e 3 n x S = W at *
  refine (bool_any h3).mono ?_
  rintro y w1 ⟨rfl, h1, o1⟩
  replace m3 := m3.only o1 (by omega) (by omega)
  replace k3 := k3.only o1 (by omega) (by omega)
  replace a3 := (o1.cell (p := ⟨w.heap.size + 1, 1, none⟩) (by show w.heap.size + 1 < _; omega) (by show w.heap.size + 1 ≠ b; omega)).trans a3
  have z1 : w.heap.size + 3 ≤ w1.heap.size := by have := o1.size; omega
  replace o3 := o3.trans o1
  clear o1 h3 z3
  obtain ⟨q0, q1, q2, g0, g1, g2⟩ := m3
  go_wp2_with fail
  refine (xbool_any hsz hle).mono ?_
  rintro y w2 ⟨rfl, b2⟩
  replace h1 := h1.below b2
  replace k3 := k3.below b2 (by omega)
  replace o3 := o3.trans (Only.of_below b2)
  have z2 : w.heap.size + 2 < w2.heap.size := by have := b2.size; omega
  clear q0 q1 q2 g0 g1 g2 a3 b2 z1
  obtain ⟨c0, c1, c2, f0, f1, f2⟩ := k3
  go_wp2
  refine bodyPost_ret (v := .tuple #[.agg #[.string s, .int .i64 (boolF s p e).1, .int .i64 (boolF s p e).2.1], .bool true]) (by simp [results, Try.results19, go_sem, c0, c1, c2, z2]) rfl ⟨rfl, ?_, ?_⟩
  · exact (h1.far3 (by omega) _ _ _).alloc _
  · exact (o3.set3 (by omega) _ _ _).alloc _

set_option maxHeartbeats 1600000 in
theorem one_4 (h : IsReader w b s p e) (n : Int) (x : Nat) (S : ByteArray) (hi : n ≤ 9223372036854775807) :
    Calls Try.prog 19 #[.pointer (some ⟨b, 0, none⟩), .agg #[.string s, .int .i64 p, .int .i64 e], .agg #[.int .i64 4, .int .i64 n, .int .u64 x, .string S]] w fun y w' =>
      y = .returned (.tuple #[.agg #[.string s, .int .i64 p, .int .i64 (failE e n)], .bool true]) ∧ IsReader w' b s p (failE e n) ∧ Only b w w' := by
  have hsz := h.sz
  have hle := h.le
  have hlt := h.lt
  have h3 := W3_reader h 4 n x S
  have o3 := W3_only b w s p e 4 n x S
  have m3 := W3_m w s p e 4 n x S
  have a3 := W3_a w s p e 4 n x S
  have k3 := W3_k w s p e 4 n x S
  have z3 := W3_size w s p e 4 n x S
  by_cases he : e = 0
  · subst he
    rw [show failE 0 n = n from by simp [failE]] at *
    go_enter Try.func19, Try.ntmps19
    go_wp2_with fail
    rw [show ((w.alloc (.cells #[.string s, .int .i64 p, .int .i64 0] 41)).alloc (.cells #[.int .i64 4, .int .i64 n, .int .u64 x, .string S] 45)).alloc (.cells #[.string ⟨#[]⟩, .int .i64 0, .int .i64 0] 41) = W3 w s p 0 4 n x S from rfl]
    generalize W3 w s p 0 4 n x S = W at *
    refine (fail_any h3 n).mono ?_
    rintro y w1 ⟨rfl, h1, o1⟩
    replace m3 := m3.only o1 (by omega) (by omega)
    replace k3 := k3.only o1 (by omega) (by omega)
    replace a3 := (o1.cell (p := ⟨w.heap.size + 1, 1, none⟩) (by show w.heap.size + 1 < _; omega) (by show w.heap.size + 1 ≠ b; omega)).trans a3
    have z1 : w.heap.size + 3 ≤ w1.heap.size := by have := o1.size; omega
    replace o3 := o3.trans o1
    clear o1 h3 z3
    obtain ⟨q0, q1, q2, g0, g1, g2⟩ := m3
    obtain ⟨c0, c1, c2, f0, f1, f2⟩ := k3
    rw [show failE 0 n = n from by simp [failE]] at h1
    go_wp2
    refine bodyPost_ret (v := .tuple #[.agg #[.string s, .int .i64 p, .int .i64 n], .bool true]) (by simp [results, Try.results19, go_sem, c0, c1, c2, q0, q1, q2]) rfl ⟨rfl, ?_, ?_⟩
    · exact (h1.setFar (c := w.heap.size) (by omega) 2 _).far3 (by omega) _ _ _
    · exact (o3.setNew (c := w.heap.size) (Nat.le_refl _) 2 _).set3 (by omega) _ _ _
  · have hf : failE e n = e := by simp [failE, he]
    have h1 : (e == 0) = false := by rw [beq_eq_false_iff_ne]; exact he
    rw [hf]
    go_enter Try.func19, Try.ntmps19
    go_wp2_with fail
    rw [show ((w.alloc (.cells #[.string s, .int .i64 p, .int .i64 e] 41)).alloc (.cells #[.int .i64 4, .int .i64 n, .int .u64 x, .string S] 45)).alloc (.cells #[.string ⟨#[]⟩, .int .i64 0, .int .i64 0] 41) = W3 w s p e 4 n x S from rfl]
    generalize W3 w s p e 4 n x S = W at *
    refine (fail_any h3 n).mono ?_
    rintro y w1 ⟨rfl, h1, o1⟩
    replace m3 := m3.only o1 (by omega) (by omega)
    replace k3 := k3.only o1 (by omega) (by omega)
    replace a3 := (o1.cell (p := ⟨w.heap.size + 1, 1, none⟩) (by show w.heap.size + 1 < _; omega) (by show w.heap.size + 1 ≠ b; omega)).trans a3
    have z1 : w.heap.size + 3 ≤ w1.heap.size := by have := o1.size; omega
    replace o3 := o3.trans o1
    clear o1 h3 z3
    obtain ⟨q0, q1, q2, g0, g1, g2⟩ := m3
    obtain ⟨c0, c1, c2, f0, f1, f2⟩ := k3
    rw [hf] at h1
    go_wp2
    refine bodyPost_ret (v := .tuple #[.agg #[.string s, .int .i64 p, .int .i64 e], .bool true]) (by simp [results, Try.results19, go_sem, c0, c1, c2, q0, q1, q2]) rfl ⟨rfl, ?_, ?_⟩
    · exact h1.far3 (by omega) _ _ _
    · exact o3.set3 (by omega) _ _ _

set_option maxHeartbeats 1600000 in
theorem one_5 (h : IsReader w b s p e) (kind : Int) (hk0 : (kind == 0) = false) (hk1 : (kind == 1) = false) (hk2 : (kind == 2) = false) (hk3 : (kind == 3) = false) (hk4 : (kind == 4) = false) (n : Int) (x : Nat) (S : ByteArray) (hi : n ≤ 9223372036854775807) :
    Calls Try.prog 19 #[.pointer (some ⟨b, 0, none⟩), .agg #[.string s, .int .i64 p, .int .i64 e], .agg #[.int .i64 kind, .int .i64 n, .int .u64 x, .string S]] w fun y w' =>
      y = .returned (.tuple #[.agg #[.string s, .int .i64 p, .int .i64 (endE s p e)], .bool true]) ∧ IsReader w' b s p (endE s p e) ∧ Only b w w' := by
  have hsz := h.sz
  have hle := h.le
  have hlt := h.lt
  have h3 := W3_reader h kind n x S
  have o3 := W3_only b w s p e kind n x S
  have m3 := W3_m w s p e kind n x S
  have a3 := W3_a w s p e kind n x S
  have k3 := W3_k w s p e kind n x S
  have z3 := W3_size w s p e kind n x S
  by_cases he : e = 0
  · subst he
    by_cases hp : p < s.size
    · have hf : endE s p 0 = 5 := by simp [endE, hp]
      rw [hf]
      go_enter Try.func19, Try.ntmps19
      go_wp2_with fail
      rw [show ((w.alloc (.cells #[.string s, .int .i64 p, .int .i64 0] 41)).alloc (.cells #[.int .i64 kind, .int .i64 n, .int .u64 x, .string S] 45)).alloc (.cells #[.string ⟨#[]⟩, .int .i64 0, .int .i64 0] 41) = W3 w s p 0 kind n x S from rfl]
      generalize W3 w s p 0 kind n x S = W at *
      refine (end_any h3).mono ?_
      rintro y w1 ⟨rfl, h1, o1⟩
      replace m3 := m3.only o1 (by omega) (by omega)
      replace k3 := k3.only o1 (by omega) (by omega)
      have z1 : w.heap.size + 3 ≤ w1.heap.size := by have := o1.size; omega
      replace o3 := o3.trans o1
      clear o1 h3 z3 a3
      obtain ⟨q0, q1, q2, g0, g1, g2⟩ := m3
      obtain ⟨c0, c1, c2, f0, f1, f2⟩ := k3
      rw [hf] at h1
      rw [hf]
      have k6 : (w1.setCell ⟨w.heap.size, 2, none⟩ (.int .i64 5)).cell? ⟨w.heap.size, 2, none⟩ = some (.int .i64 5) := World.cell?_setCell_same _ _ _ q2
      go_wp2_with fail
      go_region
      all_goals go_wp2
      refine bodyPost_ret (v := .tuple #[.agg #[.string s, .int .i64 p, .int .i64 5], .bool true]) (by simp [results, Try.results19, go_sem, c0, c1, c2, q0, q1, q2]) rfl ⟨rfl, ?_, ?_⟩
      · exact ((h1.setFar (c := w.heap.size) (by omega) 2 _).far3 (by omega) _ _ _).drewN 1
      · exact ((o3.setNew (c := w.heap.size) (Nat.le_refl _) 2 _).set3 (by omega) _ _ _).drewN 1
    · have hf : endE s p 0 = 0 := by simp [endE, hp]
      rw [hf]
      go_enter Try.func19, Try.ntmps19
      go_wp2_with fail
      rw [show ((w.alloc (.cells #[.string s, .int .i64 p, .int .i64 0] 41)).alloc (.cells #[.int .i64 kind, .int .i64 n, .int .u64 x, .string S] 45)).alloc (.cells #[.string ⟨#[]⟩, .int .i64 0, .int .i64 0] 41) = W3 w s p 0 kind n x S from rfl]
      generalize W3 w s p 0 kind n x S = W at *
      refine (end_any h3).mono ?_
      rintro y w1 ⟨rfl, h1, o1⟩
      replace m3 := m3.only o1 (by omega) (by omega)
      replace k3 := k3.only o1 (by omega) (by omega)
      have z1 : w.heap.size + 3 ≤ w1.heap.size := by have := o1.size; omega
      replace o3 := o3.trans o1
      clear o1 h3 z3 a3
      obtain ⟨q0, q1, q2, g0, g1, g2⟩ := m3
      obtain ⟨c0, c1, c2, f0, f1, f2⟩ := k3
      rw [hf] at h1
      rw [hf]
      go_wp2_with fail
      go_region
      all_goals go_wp2
      refine bodyPost_ret (v := .tuple #[.agg #[.string s, .int .i64 p, .int .i64 0], .bool true]) (by simp [results, Try.results19, go_sem, c0, c1, c2, q0, q1, q2]) rfl ⟨rfl, ?_, ?_⟩
      · exact (h1.far3 (by omega) _ _ _).drewN 1
      · exact (o3.set3 (by omega) _ _ _).drewN 1
  · have hf : endE s p e = e := by simp [endE, he]
    have he1 : (e == 0) = false := by rw [beq_eq_false_iff_ne]; exact he
    rw [hf]
    go_enter Try.func19, Try.ntmps19
    go_wp2_with fail
    rw [show ((w.alloc (.cells #[.string s, .int .i64 p, .int .i64 e] 41)).alloc (.cells #[.int .i64 kind, .int .i64 n, .int .u64 x, .string S] 45)).alloc (.cells #[.string ⟨#[]⟩, .int .i64 0, .int .i64 0] 41) = W3 w s p e kind n x S from rfl]
    generalize W3 w s p e kind n x S = W at *
    refine (end_any h3).mono ?_
    rintro y w1 ⟨rfl, h1, o1⟩
    replace m3 := m3.only o1 (by omega) (by omega)
    replace k3 := k3.only o1 (by omega) (by omega)
    have z1 : w.heap.size + 3 ≤ w1.heap.size := by have := o1.size; omega
    replace o3 := o3.trans o1
    clear o1 h3 z3 a3
    obtain ⟨q0, q1, q2, g0, g1, g2⟩ := m3
    obtain ⟨c0, c1, c2, f0, f1, f2⟩ := k3
    rw [hf] at h1
    rw [hf]
    go_wp2_with fail
    go_region
    all_goals go_wp2
    refine bodyPost_ret (v := .tuple #[.agg #[.string s, .int .i64 p, .int .i64 e], .bool true]) (by simp [results, Try.results19, go_sem, c0, c1, c2, q0, q1, q2]) rfl ⟨rfl, ?_, ?_⟩
    · exact (h1.far3 (by omega) _ _ _).drewN 1
    · exact (o3.set3 (by omega) _ _ _).drewN 1


theorem one_any (h : IsReader w b s p e) (kind n : Int) (x : Nat) (S : ByteArray) (hi : n ≤ 9223372036854775807) :
    Calls Try.prog 19 #[.pointer (some ⟨b, 0, none⟩), .agg #[.string s, .int .i64 p, .int .i64 e], .agg #[.int .i64 kind, .int .i64 n, .int .u64 x, .string S]] w fun y w' =>
      y = .returned (.tuple #[.agg #[.string s, .int .i64 (stepF s p e kind n).1, .int .i64 (stepF s p e kind n).2], .bool true]) ∧ IsReader w' b s (stepF s p e kind n).1 (stepF s p e kind n).2 ∧ Only b w w' := by
  unfold stepF
  by_cases h0 : kind = 0
  · subst h0; rw [if_pos rfl]; exact one_0 h n x S hi
  rw [if_neg h0]
  by_cases h1 : kind = 1
  · subst h1; rw [if_pos rfl]; exact one_1 h n x S hi
  rw [if_neg h1]
  by_cases h2 : kind = 2
  · subst h2; rw [if_pos rfl]; exact one_2 h n x S hi
  rw [if_neg h2]
  by_cases h3 : kind = 3
  · subst h3; rw [if_pos rfl]; exact one_3 h n x S hi
  rw [if_neg h3]
  by_cases h4 : kind = 4
  · subst h4; rw [if_pos rfl]; exact one_4 h n x S hi
  rw [if_neg h4]
  exact one_5 h kind (by rw [beq_eq_false_iff_ne]; exact h0) (by rw [beq_eq_false_iff_ne]; exact h1) (by rw [beq_eq_false_iff_ne]; exact h2) (by rw [beq_eq_false_iff_ne]; exact h3) (by rw [beq_eq_false_iff_ne]; exact h4) n x S hi

end
end Go.Proofs.Ytjfjijgdjlkhkaa
