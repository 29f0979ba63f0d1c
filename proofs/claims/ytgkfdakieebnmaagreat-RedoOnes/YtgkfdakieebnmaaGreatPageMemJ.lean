/-
  Texts in memory, pages as plain data, and the walks of page.Room, page.Blank, page.zeros.
-/
import Derived.Test.YtgkfdakieebnmaaGreatCloneJ
import Derived.SliceStrings
import Derived.BigQuiet
import Derived.Deep.QuietTactic
set_option linter.unusedVariables false
set_option linter.unusedSimpArgs false
namespace Go.Proofs.YtgkfdakieebnmaaGreat
open Go.RowKit

def StrsAt (w : World) (a : Option Addr) (L : List ByteArray) : Prop :=
  L = [] ∨ ∃ b o, a = some ⟨b, o, none⟩ ∧ b < w.heap.size ∧ ∀ i (hi : i < L.length), w.cell? ⟨b, o + i, none⟩ = some (.string L[i])

theorem StrsAt.nil (w : World) (a : Option Addr) : StrsAt w a [] := .inl rfl

theorem StrsAt.below {w w' : World} {a : Option Addr} {L : List ByteArray} (h : StrsAt w a L) (k : Below w.heap.size w w') : StrsAt w' a L := by
  rcases h with h | ⟨b, o, e, hb, hc⟩
  · exact .inl h
  · exact .inr ⟨b, o, e, Nat.lt_of_lt_of_le hb k.size, fun i hi => (k.cell (p := ⟨b, o + i, none⟩) hb).trans (hc i hi)⟩

structure SheetV where
  num : Nat
  lsn : Nat
  kind : Int
  head : ByteArray
  slots : List ByteArray

def SheetV.val (p : SheetV) (a : Option Addr) (c : Nat) : Value := .agg #[.int .u32 p.num, .int .u64 p.lsn, .int .i64 p.kind, .string p.head, .slice a p.slots.length c]

def slotSum : List ByteArray → Nat
  | [] => 0
  | s :: L => 2 + s.size + slotSum L

theorem slotSum_append (L M : List ByteArray) : slotSum (L ++ M) = slotSum L + slotSum M := by
  induction L with
  | nil => simp [slotSum]
  | cons s L ih => simp only [List.cons_append, slotSum, ih]; omega

theorem slotSum_snoc (L : List ByteArray) (k : Nat) (h : k < L.length) : slotSum (L.take (k + 1)) = slotSum (L.take k) + (2 + L[k].size) := by
  rw [List.take_succ_eq_append_getElem h, slotSum_append]; simp [slotSum]

def roomF (p : SheetV) : Int := IntKind.i64.wrap (485 - (p.head.size : Int) - (slotSum p.slots : Int))

theorem wrap_small {x : Int} (h1 : -9223372036854775808 ≤ x) (h2 : x ≤ 9223372036854775807) : IntKind.i64.wrap x = x := by
  rw [IntKind.wrap_i64]; omega

set_option maxHeartbeats 400000 in
set_option maxRecDepth 60000 in
theorem room_any (p : SheetV) (a : Option Addr) (c : Nat) (w : World) (hl : p.slots.length ≤ maxLen) (hs : ∀ s ∈ p.slots, s.size ≤ maxLen) (hh : p.head.size ≤ maxLen) (hm : StrsAt w a p.slots) :
    Calls Tryz.prog 105 #[p.val a c] w fun e w' => e = .returned (.int .i64 (roomF p)) ∧ Below w.heap.size w w' := by
  obtain ⟨num, lsn, kind, head, L⟩ := p
  unfold SheetV.val
  simp only at hl hs hh hm ⊢
  unfold maxLen at hl hs hh
  go_enter Tryz.func105, Tryz.ntmps105
  go_wp2
  go_loop [3, 13] (fun t i => ∃ k : Nat, k ≤ L.length ∧ i = .int .i64 k ∧ t = .int .i64 (IntKind.i64.wrap (485 - (head.size : Int) - (slotSum (L.take k) : Int)))) (fun _ i => L.length - (intOf i).toNat)
  case atStart => exact ⟨0, Nat.zero_le _, rfl, by simp [slotSum]; rw [IntKind.wrap_i64]; omega⟩
  case round =>
    obtain ⟨k, hk, rfl, rfl⟩ := hrel
    by_cases hlt : k < L.length
    · have hsz := hs L[k] (List.getElem_mem _)
      have hsn : Hid (slotSum (L.take (k + 1)) = slotSum (L.take k) + (2 + L[k].size)) := slotSum_snoc L k hlt
      rcases hm with hm | ⟨b, o, rfl, hb, hc⟩
      · rw [hm] at hlt; simp at hlt
      have hck := hc k hlt
      clear hc
      generalize L[k] = s at *
      generalize slotSum (L.take k) = S at *
      go_wp2
      go_round
      case rel => exact ⟨k + 1, by omega, by go_num, by rw [hsn.out]; simp only [IntKind.wrap_i64, wrap64]; congr 1; omega⟩
      case measure => simp [intOf]; omega
    · obtain rfl : k = L.length := by omega
      go_wp2
      go_ret
      exact ⟨rfl, (Below.refl _ _).alloc (Nat.le_refl _) _⟩

end Go.Proofs.YtgkfdakieebnmaaGreat

namespace Go.Proofs.YtgkfdakieebnmaaGreat
open Go.RowKit

structure Only (b : Nat) (w w' : World) : Prop where
  os : w'.os = w.os
  tape : w'.tape = w.tape
  output : w'.output = w.output
  size : w.heap.size ≤ w'.heap.size
  block : ∀ k, k < w.heap.size → k ≠ b → w'.heap[k]? = w.heap[k]?

theorem Only.refl (b : Nat) (w : World) : Only b w w := ⟨rfl, rfl, rfl, Nat.le_refl _, fun _ _ _ => rfl⟩

theorem Only.trans {b : Nat} {u v w : World} (h : Only b u v) (k : Only b v w) : Only b u w :=
  ⟨k.os.trans h.os, k.tape.trans h.tape, k.output.trans h.output, Nat.le_trans h.size k.size, fun i hi hb => (k.block i (Nat.lt_of_lt_of_le hi h.size) hb).trans (h.block i hi hb)⟩

theorem Only.of_below {b : Nat} {w w' : World} (h : Below w.heap.size w w') : Only b w w' := ⟨h.os, h.tape, h.output, h.size, fun k hk _ => h.block k hk⟩

theorem Only.drewN {b : Nat} {w w' : World} (h : Only b w w') (n : Nat) : Only b w (w'.drewN n) := ⟨h.os, h.tape, h.output, h.size, h.block⟩

theorem Only.setCell {b : Nat} {w w' : World} (h : Only b w w') (i : Nat) (v : Value) : Only b w (w'.setCell ⟨b, i, none⟩ v) :=
  h.trans ⟨rfl, rfl, rfl, by simp, fun k _ hk => Below.heap_setCell _ _ _ _ hk⟩

theorem Only.below {b B : Nat} {w u v : World} (h : Only b u v) (k : Below B w u) (hB : B ≤ b) (hw : B ≤ w.heap.size) : Below B w v :=
  ⟨h.os.trans k.os, h.tape.trans k.tape, h.output.trans k.output, Nat.le_trans k.size h.size, fun i hi => (h.block i (Nat.lt_of_lt_of_le hi (Nat.le_trans hw k.size)) (by omega)).trans (k.block i hi)⟩

theorem Only.cell {b : Nat} {w w' : World} (h : Only b w w') {p : Addr} (hp : p.block < w.heap.size) (hb : p.block ≠ b) : w'.cell? p = w.cell? p := World.cell?_of_block (w := w) (h.block p.block hp hb)

structure IsReader (w : World) (b : Nat) (s : ByteArray) (p : Nat) (e : Int) : Prop where
  c0 : w.cell? ⟨b, 0, none⟩ = some (.string s)
  c1 : w.cell? ⟨b, 1, none⟩ = some (.int .i64 p)
  c2 : w.cell? ⟨b, 2, none⟩ = some (.int .i64 e)
  f1 : w.frozen? ⟨b, 1, none⟩ = false
  f2 : w.frozen? ⟨b, 2, none⟩ = false
  le : p ≤ s.size
  sz : s.size ≤ 281474976710656
  lt : b < w.heap.size

theorem IsReader.drewN {w : World} {b : Nat} {s : ByteArray} {p : Nat} {e : Int} (h : IsReader w b s p e) (n : Nat) : IsReader (w.drewN n) b s p e :=
  ⟨by simpa using h.c0, by simpa using h.c1, by simpa using h.c2, by simpa using h.f1, by simpa using h.f2, h.le, h.sz, h.lt⟩

theorem IsReader.below {w w' : World} {b : Nat} {s : ByteArray} {p : Nat} {e : Int} (h : IsReader w b s p e) (k : Below w.heap.size w w') : IsReader w' b s p e :=
  ⟨(k.cell (p := ⟨b, 0, none⟩) h.lt).trans h.c0, (k.cell (p := ⟨b, 1, none⟩) h.lt).trans h.c1, (k.cell (p := ⟨b, 2, none⟩) h.lt).trans h.c2,
    (k.frozen (p := ⟨b, 1, none⟩) h.lt).trans h.f1, (k.frozen (p := ⟨b, 2, none⟩) h.lt).trans h.f2, h.le, h.sz, Nat.lt_of_lt_of_le h.lt k.size⟩

theorem IsReader.setErr {w : World} {b : Nat} {s : ByteArray} {p : Nat} {e : Int} (h : IsReader w b s p e) (e' : Int) : IsReader (w.setCell ⟨b, 2, none⟩ (.int .i64 e')) b s p e' :=
  ⟨by rw [World.cell?_setCell_other _ _ _ _ (by simp)]; exact h.c0, by rw [World.cell?_setCell_other _ _ _ _ (by simp)]; exact h.c1, World.cell?_setCell_same _ _ _ h.c2,
    by rw [World.frozen?_setCell]; exact h.f1, by rw [World.frozen?_setCell]; exact h.f2, h.le, h.sz, by simpa using h.lt⟩

theorem IsReader.setAt {w : World} {b : Nat} {s : ByteArray} {p : Nat} {e : Int} (h : IsReader w b s p e) (p' : Nat) (hp : p' ≤ s.size) : IsReader (w.setCell ⟨b, 1, none⟩ (.int .i64 p')) b s p' e :=
  ⟨by rw [World.cell?_setCell_other _ _ _ _ (by simp)]; exact h.c0, World.cell?_setCell_same _ _ _ h.c1, by rw [World.cell?_setCell_other _ _ _ _ (by simp)]; exact h.c2,
    by rw [World.frozen?_setCell]; exact h.f1, by rw [World.frozen?_setCell]; exact h.f2, hp, h.sz, by simpa using h.lt⟩

section
variable {w : World} {b : Nat} {s : ByteArray} {p : Nat} {e : Int}

set_option maxHeartbeats 400000 in
set_option maxRecDepth 60000 in
theorem err_any (h : IsReader w b s p e) :
    Calls Tryz.prog 129 #[.pointer (some ⟨b, 0, none⟩)] w fun x w' => x = .returned (.int .i64 e) ∧ w' = w := by
  have c2 := h.c2
  go_enter Tryz.func129, Tryz.ntmps129
  go_wp2
  go_ret
  exact ⟨rfl, rfl⟩

set_option maxHeartbeats 400000 in
set_option maxRecDepth 60000 in
theorem left_any (h : IsReader w b s p e) :
    Calls Tryz.prog 128 #[.pointer (some ⟨b, 0, none⟩)] w fun x w' => x = .returned (.int .i64 ((s.size : Int) - (p : Int))) ∧ ∃ n, w' = w.drewN n := by
  have c0 := h.c0
  have c1 := h.c1
  have hsz := h.sz
  have hle := h.le
  go_enter Tryz.func128, Tryz.ntmps128
  go_wp2
  go_quiet (fail)
  go_wp2
  go_ret
  exact ⟨rfl, _, rfl⟩

set_option maxHeartbeats 400000 in
set_option maxRecDepth 60000 in
theorem stopped_any (h : IsReader w b s p e) :
    Calls Tryz.prog 122 #[.pointer (some ⟨b, 0, none⟩)] w fun x w' => x = .returned (.bool (e != 0)) ∧ w' = w := by
  go_enter Tryz.func122, Tryz.ntmps122
  go_wp2_with fail
  refine (err_any h).mono ?_
  rintro x w1 ⟨rfl, rfl⟩
  go_wp2
  go_ret
  exact ⟨rfl, rfl⟩

def failE (e n : Int) : Int := if e = 0 then n else e

set_option maxHeartbeats 400000 in
set_option maxRecDepth 60000 in
theorem fail_any (h : IsReader w b s p e) (n : Int) :
    Calls Tryz.prog 124 #[.pointer (some ⟨b, 0, none⟩), .int .i64 n] w fun x w' => x = .returned (.tuple #[]) ∧ IsReader w' b s p (failE e n) ∧ Only b w w' := by
  have c2 := h.c2
  have f2 := h.f2
  by_cases h0 : e = 0
  · subst h0
    go_enter Tryz.func124, Tryz.ntmps124
    go_wp2
    go_end0
    exact ⟨rfl, h.setErr n, (Only.refl _ _).setCell _ _⟩
  · have h1 : (e != 0) = true := by rw [bne_iff_ne]; exact h0
    go_enter Tryz.func124, Tryz.ntmps124
    go_wp2
    refine bodyPost_ret (results_none rfl _ _ _) rfl ?_
    exact ⟨rfl, by unfold failE; rw [if_neg h0]; exact h, Only.refl _ _⟩

end
end Go.Proofs.YtgkfdakieebnmaaGreat
