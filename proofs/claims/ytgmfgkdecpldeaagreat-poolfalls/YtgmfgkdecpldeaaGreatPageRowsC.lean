/-
  Rows of values that may be written; the walks of page.zeros and page.takeCount.
-/
import Derived.Test.YtgmfgkdecpldeaaGreatPageEncodeC
import Derived.Test.YtgmfgkdecpldeaaGreatReaderMoreC
import Derived.Test.YtgmfgkdecpldeaaGreatNewReaderC
namespace Go.Proofs.YtgmfgkdecpldeaaGreat
open Go.RowKit
set_option linter.unusedVariables false

/-- A row of N values that may be written: cell j holds f j. -/
def RowV (w : World) (b N : Nat) (f : Nat → Value) : Prop :=
  ∀ j, j < N → w.cell? ⟨b, j, none⟩ = some (f j) ∧ w.frozen? ⟨b, j, none⟩ = false

theorem RowV.congr {w : World} {b N : Nat} {f g : Nat → Value} (h : RowV w b N f) (e : ∀ j, j < N → f j = g j) : RowV w b N g :=
  fun j hj => by rw [← e j hj]; exact h j hj

theorem RowV.set {w : World} {b N : Nat} {f : Nat → Value} (h : RowV w b N f) {k : Nat} (hk : k < N) (v : Value) :
    RowV (w.setCell ⟨b, k, none⟩ v) b N (fun j => if j = k then v else f j) := by
  intro j hj
  refine ⟨?_, by rw [World.frozen?_setCell]; exact (h j hj).2⟩
  by_cases e : j = k
  · subst e; simp only [if_pos]; exact World.cell?_setCell_same _ _ _ (h j hj).1
  · simp only [if_neg e]; rw [World.cell?_setCell_other _ _ _ _ (by intro q; exact e (by simpa using q.symm))]; exact (h j hj).1

theorem RowV.set_other {w : World} {b N : Nat} {f : Nat → Value} (h : RowV w b N f) {b' k : Nat} (hk : b' ≠ b) (v : Value) : RowV (w.setCell ⟨b', k, none⟩ v) b N f := by
  intro j hj
  refine ⟨?_, by rw [World.frozen?_setCell]; exact (h j hj).2⟩
  rw [World.cell?_setCell_other _ _ _ _ (by intro q; exact hk (by simpa using congrArg Addr.block q))]; exact (h j hj).1

theorem RowV.made (w : World) (N : Nat) (z : Value) (hz : z.cells = #[z]) (t : TypeId) : RowV (w.alloc (.cells (madeCells #[z] N) t)) w.heap.size N (fun _ => z) := by
  intro j hj
  refine ⟨?_, by simp⟩
  rw [World.cell?_alloc_new]
  have h : (madeCells #[z] N).toList[j]? = some z := by
    rw [toList_madeCells_one]; simp [hj]
  simpa using h

theorem RowV.below {w w' : World} {b N : Nat} {f : Nat → Value} (h : RowV w b N f) {B : Nat} (k : Below B w w') (hb : b < B) : RowV w' b N f :=
  fun j hj => ⟨(k.cell (p := ⟨b, j, none⟩) hb).trans (h j hj).1, (k.frozen (p := ⟨b, j, none⟩) hb).trans (h j hj).2⟩

theorem Only.frozen {b : Nat} {w w' : World} (h : Only b w w') {p : Addr} (hp : p.block < w.heap.size) (hb : p.block ≠ b) : w'.frozen? p = w.frozen? p := World.frozen?_of_block (w := w) (h.block p.block hp hb)

theorem RowV.only {w w' : World} {b N : Nat} {f : Nat → Value} (h : RowV w b N f) {r : Nat} (k : Only r w w') (hb : b < w.heap.size) (hr : b ≠ r) : RowV w' b N f :=
  fun j hj => ⟨(k.cell (p := ⟨b, j, none⟩) hb hr).trans (h j hj).1, (k.frozen (p := ⟨b, j, none⟩) hb hr).trans (h j hj).2⟩

theorem Only.setNew {b : Nat} {w w' : World} (h : Only b w w') {k : Nat} (hk : w.heap.size ≤ k) (i : Nat) (v : Value) : Only b w (w'.setCell ⟨k, i, none⟩ v) :=
  ⟨h.os, h.tape, h.output, by simpa using h.size, fun j hj hb => (Below.heap_setCell _ _ _ _ (by simp; omega)).trans (h.block j hj hb)⟩

theorem IsReader.setOther {w : World} {b : Nat} {s : ByteArray} {p : Nat} {e : Int} (h : IsReader w b s p e) {k i : Nat} (hk : k ≠ b) (v : Value) : IsReader (w.setCell ⟨k, i, none⟩ v) b s p e := by
  have ne : ∀ o, (⟨k, i, none⟩ : Addr) ≠ ⟨b, o, none⟩ := fun o q => hk (congrArg Addr.block q)
  exact ⟨by rw [World.cell?_setCell_other _ _ _ _ (ne 0)]; exact h.c0, by rw [World.cell?_setCell_other _ _ _ _ (ne 1)]; exact h.c1, by rw [World.cell?_setCell_other _ _ _ _ (ne 2)]; exact h.c2,
    by rw [World.frozen?_setCell]; exact h.f1, by rw [World.frozen?_setCell]; exact h.f2, h.le, h.sz, by simpa using h.lt⟩

theorem infoInt : (Tryz.prog.info? 3).map (fun i => (i.zero, i.size, i.bytes)) = some (some (.int .i64 0), 1, 8) := by kernel_rfl
theorem infoStr : (Tryz.prog.info? 9).map (fun i => (i.zero, i.size, i.bytes)) = some (some (.string ⟨#[]⟩), 1, 16) := by kernel_rfl

/-- Are all bytes zeros? -/
def zerosB (l : List UInt8) : Bool := l.all fun x => x == 0

theorem zerosB_iff (l : List UInt8) : zerosB l = true ↔ l = List.replicate l.length 0 := by
  unfold zerosB
  induction l with
  | nil => simp
  | cons x l ih => simp only [List.all_cons, List.length_cons, List.replicate_succ, Bool.and_eq_true, beq_iff_eq, List.cons.injEq, ih]

set_option maxHeartbeats 400000 in
set_option maxRecDepth 60000 in
theorem zeros_any (s : ByteArray) (w : World) (hs : s.size ≤ maxLen) :
    Calls Tryz.prog 61 #[.string s] w fun e w' => e = .returned (.bool (zerosB s.data.toList)) ∧ w' = w := by
  unfold maxLen at hs
  go_enter Tryz.func61, Tryz.ntmps61
  go_wp2
  go_loop [6] (fun i => ∃ k : Nat, k ≤ s.size ∧ i = .int .i64 k ∧ zerosB (s.data.toList.take k) = true) (fun i => s.size - (intOf i).toNat)
  case atStart => exact ⟨0, Nat.zero_le _, rfl, rfl⟩
  case round =>
    obtain ⟨k, hk, rfl, hz⟩ := hrel
    have HZ : Hid (zerosB (s.data.toList.take k) = true) := hz
    clear hz
    by_cases hlt : k < s.size
    · have hts : Hid (zerosB (s.data.toList.take (k + 1)) = (zerosB (s.data.toList.take k) && (s[k] == 0))) := by
        show _ = _; rw [take_snoc s k hlt]; simp [zerosB]
      have hall : Hid (s[k] ≠ 0 → zerosB s.data.toList = false) := by
        intro h0
        unfold zerosB
        rw [List.all_eq_false]
        exact ⟨s[k], by simp [ByteArray.getElem_eq_getElem_data], by simpa using h0⟩
      by_cases h0 : s[k] = 0
      · have h0' : ((s[k].toNat : Nat) : Int) = 0 := by rw [h0]; rfl
        go_wp2
        go_round
        case rel => exact ⟨k + 1, by omega, by go_num, by rw [hts.out, HZ.out, h0]; rfl⟩
        case measure => simp [intOf]; omega
      · have h0' : ¬ ((s[k].toNat : Nat) : Int) = 0 := fun q => h0 (UInt8.toNat_inj.1 (by simpa using q))
        go_wp2
        go_ret
        exact ⟨by rw [hall.out h0]; rfl, rfl⟩
    · obtain rfl : k = s.size := by omega
      have hf : Hid (zerosB s.data.toList = true) := by
        have := HZ.out; rw [List.take_of_length_le (by simp)] at this; exact this
      go_wp2
      go_ret
      exact ⟨by rw [hf.out]; rfl, rfl⟩

section
variable {w : World} {b : Nat} {s : ByteArray} {p : Nat} {e : Int}

theorem number_err (h : IsReader w b s p e) (he : e ≠ 0) (n : Int) :
    Calls Tryz.prog 96 #[.pointer (some ⟨b, 0, none⟩), .int .i64 n] w fun x w' => x = .returned (.int .u64 0) ∧ IsReader w' b s p e ∧ Only b w w' := by
  have hn := number_any h n
  rw [numF_err he] at hn
  exact hn

theorem number_ok (h : IsReader w b s p 0) (n : Nat) (hn : n ≤ 8) (hc : p + n ≤ s.size) :
    Calls Tryz.prog 96 #[.pointer (some ⟨b, 0, none⟩), .int .i64 n] w fun x w' => x = .returned (.int .u64 (le (part s p n))) ∧ IsReader w' b s (p + n) 0 ∧ Only b w w' := by
  have hx := number_any h n
  rw [numF_ok n hn hc] at hx
  exact hx

theorem bytes_err (h : IsReader w b s p e) (he : e ≠ 0) (n : Nat) (hi : n ≤ 9223372036854775807) :
    Calls Tryz.prog 97 #[.pointer (some ⟨b, 0, none⟩), .int .i64 n] w fun x w' => x = .returned (.string ⟨#[]⟩) ∧ IsReader w' b s p e ∧ Only b w w' := by
  have hn := bytes_any h n (by omega)
  rw [bytesF_err he] at hn
  exact hn

theorem bytes_cut (h : IsReader w b s p 0) (n : Nat) (hi : n ≤ 9223372036854775807) (hc : s.size < p + n) :
    Calls Tryz.prog 97 #[.pointer (some ⟨b, 0, none⟩), .int .i64 n] w fun x w' => x = .returned (.string ⟨#[]⟩) ∧ IsReader w' b s p 4 ∧ Only b w w' := by
  have hn := bytes_any h n (by omega)
  rw [bytesF_cut n hc] at hn
  exact hn

theorem bytes_ok (h : IsReader w b s p 0) (n : Nat) (hc : p + n ≤ s.size) :
    Calls Tryz.prog 97 #[.pointer (some ⟨b, 0, none⟩), .int .i64 n] w fun x w' => x = .returned (.string ⟨(part s p n).toArray⟩) ∧ IsReader w' b s (p + n) 0 ∧ Only b w w' := by
  have hn := bytes_any h n (by have := h.sz; omega)
  rw [bytesF_ok n hc] at hn
  exact hn

set_option maxHeartbeats 400000 in
set_option maxRecDepth 60000 in
theorem takeCount_err (h : IsReader w b s p e) (he : e ≠ 0) (m : Nat) :
    Calls Tryz.prog 98 #[.pointer (some ⟨b, 0, none⟩), .int .i64 1, .int .i64 m] w fun x w' => x = .returned (.int .i64 0) ∧ IsReader w' b s p e ∧ Only b w w' := by
  go_enter Tryz.func98, Tryz.ntmps98
  go_wp2_with fail
  refine (number_err h he 1).mono ?_
  rintro x w1 ⟨rfl, h1, o1⟩
  go_wp2
  go_ret
  exact ⟨rfl, h1, o1⟩

set_option maxHeartbeats 400000 in
set_option maxRecDepth 60000 in
theorem takeCount_many (h : IsReader w b s p 0) (hc : p + 1 ≤ s.size) (m : Nat) (hm : m < le (part s p 1)) :
    Calls Tryz.prog 98 #[.pointer (some ⟨b, 0, none⟩), .int .i64 1, .int .i64 m] w fun x w' => x = .returned (.int .i64 0) ∧ IsReader w' b s (p + 1) 6 ∧ Only b w w' := by
  have hL := le_lt_of (l := part s p 1) (n := 1) (by rw [part_length (by omega)]; omega)
  have HN : Hid (Calls Tryz.prog 96 #[.pointer (some ⟨b, 0, none⟩), .int .i64 1] w fun x w' => x = .returned (.int .u64 (le (part s p 1))) ∧ IsReader w' b s (p + 1) 0 ∧ Only b w w') := number_ok h 1 (by omega) hc
  generalize le (part s p 1) = N at *
  go_enter Tryz.func98, Tryz.ntmps98
  go_wp2_with fail
  refine HN.out.mono ?_
  rintro x w1 ⟨rfl, h1, o1⟩
  go_wp2_with fail
  refine (fail_any h1 6).mono ?_
  rintro x w2 ⟨rfl, h2, o2⟩
  go_wp2
  go_ret
  exact ⟨rfl, h2, o1.trans o2⟩

set_option maxHeartbeats 400000 in
set_option maxRecDepth 60000 in
theorem takeCount_ok (h : IsReader w b s p 0) (hc : p + 1 ≤ s.size) (m : Nat) (hm : le (part s p 1) ≤ m) :
    Calls Tryz.prog 98 #[.pointer (some ⟨b, 0, none⟩), .int .i64 1, .int .i64 m] w fun x w' => x = .returned (.int .i64 (le (part s p 1))) ∧ IsReader w' b s (p + 1) 0 ∧ Only b w w' := by
  have hL := le_lt_of (l := part s p 1) (n := 1) (by rw [part_length (by omega)]; omega)
  have HN : Hid (Calls Tryz.prog 96 #[.pointer (some ⟨b, 0, none⟩), .int .i64 1] w fun x w' => x = .returned (.int .u64 (le (part s p 1))) ∧ IsReader w' b s (p + 1) 0 ∧ Only b w w') := number_ok h 1 (by omega) hc
  generalize le (part s p 1) = N at *
  go_enter Tryz.func98, Tryz.ntmps98
  go_wp2_with fail
  refine HN.out.mono ?_
  rintro x w1 ⟨rfl, h1, o1⟩
  go_wp2
  go_ret
  exact ⟨rfl, h1, o1⟩

end
end Go.Proofs.YtgmfgkdecpldeaaGreat
