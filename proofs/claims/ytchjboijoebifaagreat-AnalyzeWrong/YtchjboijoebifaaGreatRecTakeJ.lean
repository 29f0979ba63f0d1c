/-
  The walks of rec.takeCount, takeChange, takeKey.
-/
import Derived.Test.YtchjboijoebifaaGreatRecDec0C
set_option linter.unusedVariables false
set_option linter.unusedSimpArgs false
namespace Go.Proofs.YtchjboijoebifaaGreat
open Go.RowKit Go.Sort

def countF (s : ByteArray) (p : Nat) (e : Int) (m : Nat) : Nat × Int × Nat :=
  if m < (numF s p e 2).2.2 then ((numF s p e 2).1, failE (numF s p e 2).2.1 3, 0) else numF s p e 2

theorem numF_lt (s : ByteArray) (p : Nat) (e : Int) (n : Nat) : (numF s p e (n : Int)).2.2 < 2 ^ (8 * n) := by
  have h0 : 0 < 2 ^ (8 * n) := Nat.two_pow_pos _
  unfold numF
  repeat' split
  all_goals first
    | exact h0
    | (simp only [Int.toNat_natCast]
       exact le_lt_of (l := part s p n) (n := n) (by unfold part; rw [List.length_take]; omega))

set_option maxHeartbeats 400000 in
set_option maxRecDepth 60000 in
theorem rcount_any {w : World} {b : Nat} {s : ByteArray} {p : Nat} {e : Int} (h : IsReader w b s p e) (m : Nat) :
    Calls Tryz.prog 80 #[.pointer (some ⟨b, 0, none⟩), .int .i64 m] w fun x w' => x = .returned (.int .i64 (countF s p e m).2.2) ∧ IsReader w' b s (countF s p e m).1 (countF s p e m).2.1 ∧ Only b w w' := by
  have hN := numF_lt s p e 2
  have HN := hidr (number_any h 2)
  have HC : Hid (countF s p e m = if m < (numF s p e 2).2.2 then ((numF s p e 2).1, failE (numF s p e 2).2.1 3, 0) else numF s p e 2) := rfl
  rw [show ((2 : Nat) : Int) = 2 from rfl] at hN
  generalize numF s p e 2 = N at *
  obtain ⟨p1, e1, n⟩ := N
  simp only at hN HN HC
  have hn : n < 65536 := hN
  have q0 : IntKind.i64.wrap (n : Int) = (n : Int) := by rw [IntKind.wrap_i64]; omega
  clear hN
  rw [HC.out]
  clear HC
  by_cases hm : m < n
  · simp only [if_pos hm]
    have hmi : (m : Int) < (n : Int) := by omega
    go_enter Tryz.func80, Tryz.ntmps80
    go_wp2_with fail
    refine HN.out.mono ?_
    rintro x w1 ⟨rfl, h1, o1⟩
    go_wp2_with fail
    refine (fail_any h1 3).mono ?_
    rintro x w2 ⟨rfl, h2, o2⟩
    go_wp2
    go_ret
    exact ⟨rfl, h2, o1.trans o2⟩
  · simp only [if_neg hm]
    have hmi : ¬ (m : Int) < (n : Int) := by omega
    go_enter Tryz.func80, Tryz.ntmps80
    go_wp2_with fail
    refine HN.out.mono ?_
    rintro x w1 ⟨rfl, h1, o1⟩
    go_wp2
    go_ret
    exact ⟨rfl, h1, o1⟩

structure RTakeAt (w wr : World) (b r : Nat) (s : ByteArray) (p : Nat) (e : Int) (cs : Array Value) : Prop where
  os : wr.os = w.os
  tape : wr.tape = w.tape
  output : wr.output = w.output
  size : w.heap.size ≤ wr.heap.size
  block : ∀ k, k < w.heap.size → k ≠ b → k ≠ r → wr.heap[k]? = w.heap[k]?
  ne : b ≠ r
  rd : IsReader wr b s p e
  out : BlkR wr r cs 63

section
variable {w wr wx : World} {b r : Nat} {s : ByteArray} {p : Nat} {e : Int} {cs : Array Value}

theorem RTakeAt.only (h : RTakeAt w wr b r s p e cs) (o : Only b wr wx) {p' : Nat} {e' : Int} (hr : IsReader wx b s p' e') : RTakeAt w wx b r s p' e' cs :=
  ⟨o.os.trans h.os, o.tape.trans h.tape, o.output.trans h.output, Nat.le_trans h.size o.size, fun k hk hb hr => (o.block k (Nat.lt_of_lt_of_le hk h.size) hb).trans (h.block k hk hb hr), h.ne, hr, (o.block _ h.out.lt (fun q => h.ne q.symm)).trans h.out⟩

theorem RTakeAt.set (h : RTakeAt w wr b r s p e cs) (i : Nat) (v : Value) : RTakeAt w (wr.setCell ⟨r, i, none⟩ v) b r s p e (cs.setIfInBounds i v) :=
  ⟨h.os, h.tape, h.output, by simpa using h.size, fun k hk hb hr => (Below.heap_setCell _ _ _ _ hr).trans (h.block k hk hb hr), h.ne,
    h.rd.same (Below.heap_setCell _ _ _ _ h.ne) (by simp), h.out.set i v⟩

end

end Go.Proofs.YtchjboijoebifaaGreat

namespace Go.Proofs.YtchjboijoebifaaGreat
open Go.RowKit Go.Sort

set_option maxHeartbeats 1600000 in
set_option maxRecDepth 8000 in
theorem takeChange_any {w : World} {b r : Nat} {s : ByteArray} {p : Nat} {e : Int} (h : IsReader w b s p e) (R : RecV) (ta da : Option Addr) (tc dc : Nat) (hb : b ≠ r) (hr : BlkR w r (R.cells ta da tc dc) 63) {p0 : Nat} {e0 : Int} {n0 : Nat} (h0 : numF s p e 4 = (p0, e0, n0)) {p1 : Nat} {e1 : Int} {n1 : Nat} (h1 : numF s p0 e0 1 = (p1, e1, n1)) {p2 : Nat} {e2 : Int} {n2 : Nat} (h2 : numF s p1 e1 2 = (p2, e2, n2)) {p3 : Nat} {e3 : Int} {n3 : List UInt8} (h3 : textF s p2 e2 65535 = (p3, e3, n3)) {p4 : Nat} {e4 : Int} {n4 : List UInt8} (h4 : textF s p3 e3 65535 = (p4, e4, n4)) {p5 : Nat} {e5 : Int} {n5 : Nat} (h5 : numF s p4 e4 1 = (p5, e5, n5)) :
    Calls Tryz.prog 34 #[.pointer (some ⟨b, 0, none⟩), .pointer (some ⟨r, 0, none⟩)] w fun x w' => x = .returned (.tuple #[]) ∧ RTakeAt w w' b r s p5 e5 (({ R with page := n0, op := ⟨n1, n2, ⟨n3.toArray⟩, ⟨n4.toArray⟩⟩, undo := n5 } : RecV).cells ta da tc dc) := by
  have HS0 : Hid (RTakeAt w w b r s p e (R.cells ta da tc dc)) := ⟨rfl, rfl, rfl, Nat.le_refl _, fun _ _ _ _ => rfl, hb, h, hr⟩
  have hn0 : n0 < 4294967296 := by have := numF_lt s p e 4; rw [show (((4 : Nat) : Int)) = 4 from rfl, h0] at this; exact this
  have q0 : IntKind.u32.wrap (n0 : Int) = (n0 : Int) := by rw [IntKind.wrap_u32]; omega
  have N0 := hidr h0
  have hn1 : n1 < 256 := by have := numF_lt s p0 e0 1; rw [show (((1 : Nat) : Int)) = 1 from rfl, h1] at this; exact this
  have q1 : IntKind.i64.wrap (n1 : Int) = (n1 : Int) := by rw [IntKind.wrap_i64]; omega
  have N1 := hidr h1
  have hn2 : n2 < 65536 := by have := numF_lt s p1 e1 2; rw [show (((2 : Nat) : Int)) = 2 from rfl, h2] at this; exact this
  have q2 : IntKind.i64.wrap (n2 : Int) = (n2 : Int) := by rw [IntKind.wrap_i64]; omega
  have N2 := hidr h2
  have N3 := hidr h3
  have N4 := hidr h4
  have hn5 : n5 < 256 := by have := numF_lt s p4 e4 1; rw [show (((1 : Nat) : Int)) = 1 from rfl, h5] at this; exact this
  have q5 : IntKind.i64.wrap (n5 : Int) = (n5 : Int) := by rw [IntKind.wrap_i64]; omega
  have N5 := hidr h5
  clear h hb hr h0 h1 h2 h3 h4 h5
  go_enter Tryz.func34, Tryz.ntmps34
  have HR0 : Hid (Calls Tryz.prog 31 #[.pointer (some ⟨b, 0, none⟩), .int .i64 4] w fun y w' => y = .returned (.int .u64 (n0 : Nat)) ∧ IsReader w' b s p0 e0 ∧ Only b w w') := by
    have := number_any HS0.out.rd 4
    rw [N0.out] at this
    exact this
  go_wp2_with fail
  refine HR0.out.mono ?_
  rintro e w0 ⟨rfl, hr0, o0⟩
  have HX0 := hidr (HS0.out.only o0 hr0)
  clear HR0 HS0 hr0 o0
  have x0 := HX0.out.out.cell 4
  have f0 := HX0.out.out.frozen 4
  obtain ⟨W0, HW0⟩ : ∃ y, Hid (y = w0.setCell ⟨r, 4, none⟩ (.int .u32 (n0 : Int))) := ⟨_, rfl⟩
  have HS1 := hidr (HX0.out.set 4 (.int .u32 (n0 : Int)))
  rw [← HW0.out] at HS1
  go_upto_region 1 with fail
  rw [← HW0.out]
  clear HW0 HX0 x0 f0
  have HR1 : Hid (Calls Tryz.prog 31 #[.pointer (some ⟨b, 0, none⟩), .int .i64 1] W0 fun y w' => y = .returned (.int .u64 (n1 : Nat)) ∧ IsReader w' b s p1 e1 ∧ Only b W0 w') := by
    have := number_any HS1.out.rd 1
    rw [N1.out] at this
    exact this
  go_wp2_with fail
  refine HR1.out.mono ?_
  rintro e w1 ⟨rfl, hr1, o1⟩
  have HX1 := hidr (HS1.out.only o1 hr1)
  clear HR1 HS1 hr1 o1
  have x1 := HX1.out.out.cell 5
  have f1 := HX1.out.out.frozen 5
  obtain ⟨W1, HW1⟩ : ∃ y, Hid (y = w1.setCell ⟨r, 5, none⟩ (.int .i64 (n1 : Int))) := ⟨_, rfl⟩
  have HS2 := hidr (HX1.out.set 5 (.int .i64 (n1 : Int)))
  rw [← HW1.out] at HS2
  go_upto_region 2 with fail
  rw [← HW1.out]
  clear HW1 HX1 x1 f1
  have HR2 : Hid (Calls Tryz.prog 31 #[.pointer (some ⟨b, 0, none⟩), .int .i64 2] W1 fun y w' => y = .returned (.int .u64 (n2 : Nat)) ∧ IsReader w' b s p2 e2 ∧ Only b W1 w') := by
    have := number_any HS2.out.rd 2
    rw [N2.out] at this
    exact this
  go_wp2_with fail
  refine HR2.out.mono ?_
  rintro e w2 ⟨rfl, hr2, o2⟩
  have HX2 := hidr (HS2.out.only o2 hr2)
  clear HR2 HS2 hr2 o2
  have x2 := HX2.out.out.cell 6
  have f2 := HX2.out.out.frozen 6
  obtain ⟨W2, HW2⟩ : ∃ y, Hid (y = w2.setCell ⟨r, 6, none⟩ (.int .i64 (n2 : Int))) := ⟨_, rfl⟩
  have HS3 := hidr (HX2.out.set 6 (.int .i64 (n2 : Int)))
  rw [← HW2.out] at HS3
  go_upto_region 3 with fail
  rw [← HW2.out]
  clear HW2 HX2 x2 f2
  have HR3 : Hid (Calls Tryz.prog 78 #[.pointer (some ⟨b, 0, none⟩), .int .i64 65535] W2 fun y w' => y = .returned (.string ⟨n3.toArray⟩) ∧ IsReader w' b s p3 e3 ∧ Only b W2 w') := by
    have := rtext_any HS3.out.rd 65535
    rw [N3.out] at this
    exact this
  go_wp2_with fail
  refine HR3.out.mono ?_
  rintro e w3 ⟨rfl, hr3, o3⟩
  have HX3 := hidr (HS3.out.only o3 hr3)
  clear HR3 HS3 hr3 o3
  have x3 := HX3.out.out.cell 7
  have f3 := HX3.out.out.frozen 7
  obtain ⟨W3, HW3⟩ : ∃ y, Hid (y = w3.setCell ⟨r, 7, none⟩ (.string ⟨n3.toArray⟩)) := ⟨_, rfl⟩
  have HS4 := hidr (HX3.out.set 7 (.string ⟨n3.toArray⟩))
  rw [← HW3.out] at HS4
  go_upto_region 4 with fail
  rw [← HW3.out]
  clear HW3 HX3 x3 f3
  have HR4 : Hid (Calls Tryz.prog 78 #[.pointer (some ⟨b, 0, none⟩), .int .i64 65535] W3 fun y w' => y = .returned (.string ⟨n4.toArray⟩) ∧ IsReader w' b s p4 e4 ∧ Only b W3 w') := by
    have := rtext_any HS4.out.rd 65535
    rw [N4.out] at this
    exact this
  go_wp2_with fail
  refine HR4.out.mono ?_
  rintro e w4 ⟨rfl, hr4, o4⟩
  have HX4 := hidr (HS4.out.only o4 hr4)
  clear HR4 HS4 hr4 o4
  have x4 := HX4.out.out.cell 8
  have f4 := HX4.out.out.frozen 8
  obtain ⟨W4, HW4⟩ : ∃ y, Hid (y = w4.setCell ⟨r, 8, none⟩ (.string ⟨n4.toArray⟩)) := ⟨_, rfl⟩
  have HS5 := hidr (HX4.out.set 8 (.string ⟨n4.toArray⟩))
  rw [← HW4.out] at HS5
  go_upto_region 5 with fail
  rw [← HW4.out]
  clear HW4 HX4 x4 f4
  have HR5 : Hid (Calls Tryz.prog 31 #[.pointer (some ⟨b, 0, none⟩), .int .i64 1] W4 fun y w' => y = .returned (.int .u64 (n5 : Nat)) ∧ IsReader w' b s p5 e5 ∧ Only b W4 w') := by
    have := number_any HS5.out.rd 1
    rw [N5.out] at this
    exact this
  go_wp2_with fail
  refine HR5.out.mono ?_
  rintro e w5 ⟨rfl, hr5, o5⟩
  have HX5 := hidr (HS5.out.only o5 hr5)
  clear HR5 HS5 hr5 o5
  have x5 := HX5.out.out.cell 9
  have f5 := HX5.out.out.frozen 9
  obtain ⟨W5, HW5⟩ : ∃ y, Hid (y = w5.setCell ⟨r, 9, none⟩ (.int .i64 (n5 : Int))) := ⟨_, rfl⟩
  have HS6 := hidr (HX5.out.set 9 (.int .i64 (n5 : Int)))
  rw [← HW5.out] at HS6
  go_wp2_with fail
  rw [← HW5.out]
  go_end0
  exact ⟨rfl, HS6.out⟩

set_option maxHeartbeats 1600000 in
set_option maxRecDepth 8000 in
theorem takeKey_any {w : World} {b r : Nat} {s : ByteArray} {p : Nat} {e : Int} (h : IsReader w b s p e) (R : RecV) (ta da : Option Addr) (tc dc : Nat) (hb : b ≠ r) (hr : BlkR w r (R.cells ta da tc dc) 63) {p0 : Nat} {e0 : Int} {n0 : Nat} (h0 : numF s p e 2 = (p0, e0, n0)) {p1 : Nat} {e1 : Int} {n1 : List UInt8} (h1 : textF s p0 e0 64 = (p1, e1, n1)) {p2 : Nat} {e2 : Int} {n2 : Nat} (h2 : numF s p1 e1 4 = (p2, e2, n2)) {p3 : Nat} {e3 : Int} {n3 : Nat} (h3 : numF s p2 e2 2 = (p3, e3, n3)) {p4 : Nat} {e4 : Int} {n4 : Bool} (h4 : boolF s p3 e3 = (p4, e4, n4)) :
    Calls Tryz.prog 36 #[.pointer (some ⟨b, 0, none⟩), .pointer (some ⟨r, 0, none⟩)] w fun x w' => x = .returned (.tuple #[]) ∧ RTakeAt w w' b r s p4 e4 (({ R with index := n0, key := ⟨n1.toArray⟩, rpage := n2, rslot := n3, live := n4 } : RecV).cells ta da tc dc) := by
  have HS0 : Hid (RTakeAt w w b r s p e (R.cells ta da tc dc)) := ⟨rfl, rfl, rfl, Nat.le_refl _, fun _ _ _ _ => rfl, hb, h, hr⟩
  have hn0 : n0 < 65536 := by have := numF_lt s p e 2; rw [show (((2 : Nat) : Int)) = 2 from rfl, h0] at this; exact this
  have q0 : IntKind.i64.wrap (n0 : Int) = (n0 : Int) := by rw [IntKind.wrap_i64]; omega
  have N0 := hidr h0
  have N1 := hidr h1
  have hn2 : n2 < 4294967296 := by have := numF_lt s p1 e1 4; rw [show (((4 : Nat) : Int)) = 4 from rfl, h2] at this; exact this
  have q2 : IntKind.u32.wrap (n2 : Int) = (n2 : Int) := by rw [IntKind.wrap_u32]; omega
  have N2 := hidr h2
  have hn3 : n3 < 65536 := by have := numF_lt s p2 e2 2; rw [show (((2 : Nat) : Int)) = 2 from rfl, h3] at this; exact this
  have q3 : IntKind.i64.wrap (n3 : Int) = (n3 : Int) := by rw [IntKind.wrap_i64]; omega
  have N3 := hidr h3
  have N4 := hidr h4
  clear h hb hr h0 h1 h2 h3 h4
  go_enter Tryz.func36, Tryz.ntmps36
  have HR0 : Hid (Calls Tryz.prog 31 #[.pointer (some ⟨b, 0, none⟩), .int .i64 2] w fun y w' => y = .returned (.int .u64 (n0 : Nat)) ∧ IsReader w' b s p0 e0 ∧ Only b w w') := by
    have := number_any HS0.out.rd 2
    rw [N0.out] at this
    exact this
  go_wp2_with fail
  refine HR0.out.mono ?_
  rintro e w0 ⟨rfl, hr0, o0⟩
  have HX0 := hidr (HS0.out.only o0 hr0)
  clear HR0 HS0 hr0 o0
  have x0 := HX0.out.out.cell 10
  have f0 := HX0.out.out.frozen 10
  obtain ⟨W0, HW0⟩ : ∃ y, Hid (y = w0.setCell ⟨r, 10, none⟩ (.int .i64 (n0 : Int))) := ⟨_, rfl⟩
  have HS1 := hidr (HX0.out.set 10 (.int .i64 (n0 : Int)))
  rw [← HW0.out] at HS1
  go_upto_region 1 with fail
  rw [← HW0.out]
  clear HW0 HX0 x0 f0
  have HR1 : Hid (Calls Tryz.prog 78 #[.pointer (some ⟨b, 0, none⟩), .int .i64 64] W0 fun y w' => y = .returned (.string ⟨n1.toArray⟩) ∧ IsReader w' b s p1 e1 ∧ Only b W0 w') := by
    have := rtext_any HS1.out.rd 64
    rw [N1.out] at this
    exact this
  go_wp2_with fail
  refine HR1.out.mono ?_
  rintro e w1 ⟨rfl, hr1, o1⟩
  have HX1 := hidr (HS1.out.only o1 hr1)
  clear HR1 HS1 hr1 o1
  have x1 := HX1.out.out.cell 11
  have f1 := HX1.out.out.frozen 11
  obtain ⟨W1, HW1⟩ : ∃ y, Hid (y = w1.setCell ⟨r, 11, none⟩ (.string ⟨n1.toArray⟩)) := ⟨_, rfl⟩
  have HS2 := hidr (HX1.out.set 11 (.string ⟨n1.toArray⟩))
  rw [← HW1.out] at HS2
  go_upto_region 2 with fail
  rw [← HW1.out]
  clear HW1 HX1 x1 f1
  have HR2 : Hid (Calls Tryz.prog 31 #[.pointer (some ⟨b, 0, none⟩), .int .i64 4] W1 fun y w' => y = .returned (.int .u64 (n2 : Nat)) ∧ IsReader w' b s p2 e2 ∧ Only b W1 w') := by
    have := number_any HS2.out.rd 4
    rw [N2.out] at this
    exact this
  go_wp2_with fail
  refine HR2.out.mono ?_
  rintro e w2 ⟨rfl, hr2, o2⟩
  have HX2 := hidr (HS2.out.only o2 hr2)
  clear HR2 HS2 hr2 o2
  have x2 := HX2.out.out.cell 12
  have f2 := HX2.out.out.frozen 12
  obtain ⟨W2, HW2⟩ : ∃ y, Hid (y = w2.setCell ⟨r, 12, none⟩ (.int .u32 (n2 : Int))) := ⟨_, rfl⟩
  have HS3 := hidr (HX2.out.set 12 (.int .u32 (n2 : Int)))
  rw [← HW2.out] at HS3
  go_upto_region 3 with fail
  rw [← HW2.out]
  clear HW2 HX2 x2 f2
  have HR3 : Hid (Calls Tryz.prog 31 #[.pointer (some ⟨b, 0, none⟩), .int .i64 2] W2 fun y w' => y = .returned (.int .u64 (n3 : Nat)) ∧ IsReader w' b s p3 e3 ∧ Only b W2 w') := by
    have := number_any HS3.out.rd 2
    rw [N3.out] at this
    exact this
  go_wp2_with fail
  refine HR3.out.mono ?_
  rintro e w3 ⟨rfl, hr3, o3⟩
  have HX3 := hidr (HS3.out.only o3 hr3)
  clear HR3 HS3 hr3 o3
  have x3 := HX3.out.out.cell 13
  have f3 := HX3.out.out.frozen 13
  obtain ⟨W3, HW3⟩ : ∃ y, Hid (y = w3.setCell ⟨r, 13, none⟩ (.int .i64 (n3 : Int))) := ⟨_, rfl⟩
  have HS4 := hidr (HX3.out.set 13 (.int .i64 (n3 : Int)))
  rw [← HW3.out] at HS4
  go_upto_region 4 with fail
  rw [← HW3.out]
  clear HW3 HX3 x3 f3
  have HR4 : Hid (Calls Tryz.prog 79 #[.pointer (some ⟨b, 0, none⟩)] W3 fun y w' => y = .returned (.bool n4) ∧ IsReader w' b s p4 e4 ∧ Only b W3 w') := by
    have := bool_any HS4.out.rd
    rw [N4.out] at this
    exact this
  go_wp2_with fail
  refine HR4.out.mono ?_
  rintro e w4 ⟨rfl, hr4, o4⟩
  have HX4 := hidr (HS4.out.only o4 hr4)
  clear HR4 HS4 hr4 o4
  have x4 := HX4.out.out.cell 14
  have f4 := HX4.out.out.frozen 14
  obtain ⟨W4, HW4⟩ : ∃ y, Hid (y = w4.setCell ⟨r, 14, none⟩ (.bool n4)) := ⟨_, rfl⟩
  have HS5 := hidr (HX4.out.set 14 (.bool n4))
  rw [← HW4.out] at HS5
  go_wp2_with fail
  rw [← HW4.out]
  go_end0
  exact ⟨rfl, HS5.out⟩

end Go.Proofs.YtchjboijoebifaaGreat
