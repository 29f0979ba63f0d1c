/-
  The walk of rec.Decode of thirteen bytes whose kind names neither a next place, nor a change, nor lists; girderlaw04.awake.
-/
import Derived.Test.YtgkfdakieebnmaaGreatRecCheck0J
import Derived.Test.YtgkfdakieebnmaaGreatWriterWalksJ
import Derived.Test.YtgkfdakieebnmaaGreatReaderMoreC
set_option linter.unusedVariables false
set_option linter.unusedSimpArgs false
namespace Go.Proofs.YtgkfdakieebnmaaGreat
open Go.RowKit Go.Sort

theorem IsReader.same {w w' : World} {b : Nat} {s : ByteArray} {p : Nat} {e : Int} (h : IsReader w b s p e) (k : w'.heap[b]? = w.heap[b]?) (hz : w.heap.size ≤ w'.heap.size) : IsReader w' b s p e :=
  ⟨(World.cell?_of_block (a := ⟨b, 0, none⟩) k).trans h.c0, (World.cell?_of_block (a := ⟨b, 1, none⟩) k).trans h.c1, (World.cell?_of_block (a := ⟨b, 2, none⟩) k).trans h.c2,
    (World.frozen?_of_block (a := ⟨b, 1, none⟩) k).trans h.f1, (World.frozen?_of_block (a := ⟨b, 2, none⟩) k).trans h.f2, h.le, h.sz, Nat.lt_of_lt_of_le h.lt hz⟩

structure DecAt (w wr : World) (s : ByteArray) (p : Nat) (e : Int) (cs : Array Value) : Prop where
  bel : Below w.heap.size w wr
  res : BlkR wr w.heap.size zeroCellsR 64
  rd : IsReader wr (w.heap.size + 1) s p e
  out : BlkR wr (w.heap.size + 1 + 1) cs 64

section
variable {w wr wx : World} {s : ByteArray} {p : Nat} {e : Int} {cs : Array Value}

theorem DecAt.only (h : DecAt w wr s p e cs) (o : Only (w.heap.size + 1) wr wx) {p' : Nat} {e' : Int} (hr : IsReader wx (w.heap.size + 1) s p' e') : DecAt w wx s p' e' cs :=
  ⟨o.below h.bel (by omega) (Nat.le_refl _), (o.block _ h.res.lt (by omega)).trans h.res, hr, (o.block _ h.out.lt (by omega)).trans h.out⟩

theorem DecAt.below (h : DecAt w wr s p e cs) (b : Below wr.heap.size wr wx) : DecAt w wx s p e cs :=
  ⟨below_chain h.bel b, (b.block _ h.res.lt).trans h.res, h.rd.below b, (b.block _ h.out.lt).trans h.out⟩

theorem DecAt.set (h : DecAt w wr s p e cs) (i : Nat) (v : Value) : DecAt w (wr.setCell ⟨w.heap.size + 1 + 1, i, none⟩ v) s p e (cs.setIfInBounds i v) :=
  ⟨h.bel.setCell (p := ⟨w.heap.size + 1 + 1, i, none⟩) (by show w.heap.size ≤ w.heap.size + 1 + 1; omega) _, (Below.heap_setCell _ _ _ _ (by show w.heap.size ≠ w.heap.size + 1 + 1; omega)).trans h.res,
    h.rd.same (Below.heap_setCell _ _ _ _ (by show w.heap.size + 1 ≠ w.heap.size + 1 + 1; omega)) (by simp), h.out.set i v⟩

theorem DecAt.start (w : World) (s : ByteArray) (hs : s.size ≤ 281474976710656) : DecAt w (((w.alloc (.cells zeroCellsR 64)).alloc (.cells #[.string s, .int .i64 0, .int .i64 0] 202)).alloc (.cells zeroCellsR 64)) s 0 0 zeroCellsR := by
  refine ⟨(((Below.refl _ _).alloc (Nat.le_refl _) _).alloc (by simp) _).alloc (by simp; omega) _, ?_, ?_, ?_⟩
  · exact (Below.heap_alloc _ _ _ (by simp; omega)).trans ((Below.heap_alloc _ _ _ (by simp)).trans (heap_alloc_new w _))
  · have := reader_new (w := w.alloc (.cells zeroCellsR 64)) (t := 202) hs ((Below.refl _ _).alloc (Nat.le_refl _) (.cells zeroCellsR 64))
    rw [show (w.alloc (.cells zeroCellsR 64)).heap.size = w.heap.size + 1 by simp] at this
    exact this
  · have e : ((w.alloc (.cells zeroCellsR 64)).alloc (.cells #[.string s, .int .i64 0, .int .i64 0] 202)).heap.size = w.heap.size + 1 + 1 := by simp
    have := heap_alloc_new ((w.alloc (.cells zeroCellsR 64)).alloc (.cells #[.string s, .int .i64 0, .int .i64 0] 202)) (.cells zeroCellsR 64)
    rw [e] at this
    exact this

end

def plainV (k x q : Nat) : RecV := ⟨k, x, q, 0, 0, ⟨0, 0, ⟨#[]⟩, ⟨#[]⟩⟩, 0, 0, ⟨#[]⟩, 0, 0, false, [], []⟩

end Go.Proofs.YtgkfdakieebnmaaGreat

namespace Go.Proofs.YtgkfdakieebnmaaGreat
open Go.RowKit Go.Sort

def countF (s : ByteArray) (p : Nat) (e : Int) (m : Nat) : Nat × Int × Nat :=
  if m < (numF s p e 2).2.2 then ((numF s p e 2).1, failE (numF s p e 2).2.1 3, 0) else numF s p e 2

theorem numF_lt (s : ByteArray) (p : Nat) (e : Int) (n : Nat) : (numF s p e (n : Int)).2.2 < 2 ^ (8 * n) := by
  have h0 : 0 < 2 ^ (8 * n) := Nat.two_pow_pos _
  unfold numF
  repeat' split
  all_goals first
    | exact h0
    | (simp only [Int.toNat_natCast]
       exact le_lt_of (l := part s p n) (n := n) (by unfold part; rw [List.length_take]; omega))

set_option maxHeartbeats 400000 in
set_option maxRecDepth 60000 in
theorem rcount_any {w : World} {b : Nat} {s : ByteArray} {p : Nat} {e : Int} (h : IsReader w b s p e) (m : Nat) :
    Calls Tryz.prog 127 #[.pointer (some ⟨b, 0, none⟩), .int .i64 m] w fun x w' => x = .returned (.int .i64 (countF s p e m).2.2) ∧ IsReader w' b s (countF s p e m).1 (countF s p e m).2.1 ∧ Only b w w' := by
  have hN := numF_lt s p e 2
  have HN := hidr (number_any h 2)
  have HC : Hid (countF s p e m = if m < (numF s p e 2).2.2 then ((numF s p e 2).1, failE (numF s p e 2).2.1 3, 0) else numF s p e 2) := rfl
  rw [show ((2 : Nat) : Int) = 2 from rfl] at hN
  generalize numF s p e 2 = N at *
  obtain ⟨p1, e1, n⟩ := N
  simp only at hN HN HC
  have hn : n < 65536 := hN
  have q0 : IntKind.i64.wrap (n : Int) = (n : Int) := by rw [IntKind.wrap_i64]; omega
  clear hN
  rw [HC.out]
  clear HC
  by_cases hm : m < n
  · simp only [if_pos hm]
    have hmi : (m : Int) < (n : Int) := by omega
    go_enter Tryz.func127, Tryz.ntmps127
    go_wp2_with fail
    refine HN.out.mono ?_
    rintro x w1 ⟨rfl, h1, o1⟩
    go_wp2_with fail
    refine (fail_any h1 3).mono ?_
    rintro x w2 ⟨rfl, h2, o2⟩
    go_wp2
    go_ret
    exact ⟨rfl, h2, o1.trans o2⟩
  · simp only [if_neg hm]
    have hmi : ¬ (m : Int) < (n : Int) := by omega
    go_enter Tryz.func127, Tryz.ntmps127
    go_wp2_with fail
    refine HN.out.mono ?_
    rintro x w1 ⟨rfl, h1, o1⟩
    go_wp2
    go_ret
    exact ⟨rfl, h1, o1⟩

structure RTakeAt (w wr : World) (b r : Nat) (s : ByteArray) (p : Nat) (e : Int) (cs : Array Value) : Prop where
  os : wr.os = w.os
  tape : wr.tape = w.tape
  output : wr.output = w.output
  size : w.heap.size ≤ wr.heap.size
  block : ∀ k, k < w.heap.size → k ≠ b → k ≠ r → wr.heap[k]? = w.heap[k]?
  ne : b ≠ r
  rd : IsReader wr b s p e
  out : BlkR wr r cs 64

section
variable {w wr wx : World} {b r : Nat} {s : ByteArray} {p : Nat} {e : Int} {cs : Array Value}

theorem RTakeAt.only (h : RTakeAt w wr b r s p e cs) (o : Only b wr wx) {p' : Nat} {e' : Int} (hr : IsReader wx b s p' e') : RTakeAt w wx b r s p' e' cs :=
  ⟨o.os.trans h.os, o.tape.trans h.tape, o.output.trans h.output, Nat.le_trans h.size o.size, fun k hk hb hr => (o.block k (Nat.lt_of_lt_of_le hk h.size) hb).trans (h.block k hk hb hr), h.ne, hr, (o.block _ h.out.lt (fun q => h.ne q.symm)).trans h.out⟩

theorem RTakeAt.set (h : RTakeAt w wr b r s p e cs) (i : Nat) (v : Value) : RTakeAt w (wr.setCell ⟨r, i, none⟩ v) b r s p e (cs.setIfInBounds i v) :=
  ⟨h.os, h.tape, h.output, by simpa using h.size, fun k hk hb hr => (Below.heap_setCell _ _ _ _ hr).trans (h.block k hk hb hr), h.ne,
    h.rd.same (Below.heap_setCell _ _ _ _ h.ne) (by simp), h.out.set i v⟩

end

end Go.Proofs.YtgkfdakieebnmaaGreat

namespace Go.Proofs.YtgkfdakieebnmaaGreat
open Go.RowKit Go.Sort

set_option maxHeartbeats 1600000 in
set_option maxRecDepth 8000 in
theorem takeChange_any {w : World} {b r : Nat} {s : ByteArray} {p : Nat} {e : Int} (h : IsReader w b s p e) (R : RecV) (ta da : Option Addr) (tc dc : Nat) (hb : b ≠ r) (hr : BlkR w r (R.cells ta da tc dc) 64) {p0 : Nat} {e0 : Int} {n0 : Nat} (h0 : numF s p e 4 = (p0, e0, n0)) {p1 : Nat} {e1 : Int} {n1 : Nat} (h1 : numF s p0 e0 1 = (p1, e1, n1)) {p2 : Nat} {e2 : Int} {n2 : Nat} (h2 : numF s p1 e1 2 = (p2, e2, n2)) {p3 : Nat} {e3 : Int} {n3 : List UInt8} (h3 : textF s p2 e2 65535 = (p3, e3, n3)) {p4 : Nat} {e4 : Int} {n4 : List UInt8} (h4 : textF s p3 e3 65535 = (p4, e4, n4)) {p5 : Nat} {e5 : Int} {n5 : Nat} (h5 : numF s p4 e4 1 = (p5, e5, n5)) :
    Calls Tryz.prog 62 #[.pointer (some ⟨b, 0, none⟩), .pointer (some ⟨r, 0, none⟩)] w fun x w' => x = .returned (.tuple #[]) ∧ RTakeAt w w' b r s p5 e5 (({ R with page := n0, op := ⟨n1, n2, ⟨n3.toArray⟩, ⟨n4.toArray⟩⟩, undo := n5 } : RecV).cells ta da tc dc) := by
  have HS0 : Hid (RTakeAt w w b r s p e (R.cells ta da tc dc)) := ⟨rfl, rfl, rfl, Nat.le_refl _, fun _ _ _ _ => rfl, hb, h, hr⟩
  have hn0 : n0 < 4294967296 := by have := numF_lt s p e 4; rw [show (((4 : Nat) : Int)) = 4 from rfl, h0] at this; exact this
  have q0 : IntKind.u32.wrap (n0 : Int) = (n0 : Int) := by rw [IntKind.wrap_u32]; omega
  have N0 := hidr h0
  have hn1 : n1 < 256 := by have := numF_lt s p0 e0 1; rw [show (((1 : Nat) : Int)) = 1 from rfl, h1] at this; exact this
  have q1 : IntKind.i64.wrap (n1 : Int) = (n1 : Int) := by rw [IntKind.wrap_i64]; omega
  have N1 := hidr h1
  have hn2 : n2 < 65536 := by have := numF_lt s p1 e1 2; rw [show (((2 : Nat) : Int)) = 2 from rfl, h2] at this; exact this
  have q2 : IntKind.i64.wrap (n2 : Int) = (n2 : Int) := by rw [IntKind.wrap_i64]; omega
  have N2 := hidr h2
  have N3 := hidr h3
  have N4 := hidr h4
  have hn5 : n5 < 256 := by have := numF_lt s p4 e4 1; rw [show (((1 : Nat) : Int)) = 1 from rfl, h5] at this; exact this
  have q5 : IntKind.i64.wrap (n5 : Int) = (n5 : Int) := by rw [IntKind.wrap_i64]; omega
  have N5 := hidr h5
  clear h hb hr h0 h1 h2 h3 h4 h5
  go_enter Tryz.func62, Tryz.ntmps62
  have HR0 : Hid (Calls Tryz.prog 59 #[.pointer (some ⟨b, 0, none⟩), .int .i64 4] w fun y w' => y = .returned (.int .u64 (n0 : Nat)) ∧ IsReader w' b s p0 e0 ∧ Only b w w') := by
    have := number_any HS0.out.rd 4
    rw [N0.out] at this
    exact this
  go_wp2_with fail
  refine HR0.out.mono ?_
  rintro e w0 ⟨rfl, hr0, o0⟩
  have HX0 := hidr (HS0.out.only o0 hr0)
  clear HR0 HS0 hr0 o0
  have x0 := HX0.out.out.cell 4
  have f0 := HX0.out.out.frozen 4
  obtain ⟨W0, HW0⟩ : ∃ y, Hid (y = w0.setCell ⟨r, 4, none⟩ (.int .u32 (n0 : Int))) := ⟨_, rfl⟩
  have HS1 := hidr (HX0.out.set 4 (.int .u32 (n0 : Int)))
  rw [← HW0.out] at HS1
  go_upto_region 1 with fail
  rw [← HW0.out]
  clear HW0 HX0 x0 f0
  have HR1 : Hid (Calls Tryz.prog 59 #[.pointer (some ⟨b, 0, none⟩), .int .i64 1] W0 fun y w' => y = .returned (.int .u64 (n1 : Nat)) ∧ IsReader w' b s p1 e1 ∧ Only b W0 w') := by
    have := number_any HS1.out.rd 1
    rw [N1.out] at this
    exact this
  go_wp2_with fail
  refine HR1.out.mono ?_
  rintro e w1 ⟨rfl, hr1, o1⟩
  have HX1 := hidr (HS1.out.only o1 hr1)
  clear HR1 HS1 hr1 o1
  have x1 := HX1.out.out.cell 5
  have f1 := HX1.out.out.frozen 5
  obtain ⟨W1, HW1⟩ : ∃ y, Hid (y = w1.setCell ⟨r, 5, none⟩ (.int .i64 (n1 : Int))) := ⟨_, rfl⟩
  have HS2 := hidr (HX1.out.set 5 (.int .i64 (n1 : Int)))
  rw [← HW1.out] at HS2
  go_upto_region 2 with fail
  rw [← HW1.out]
  clear HW1 HX1 x1 f1
  have HR2 : Hid (Calls Tryz.prog 59 #[.pointer (some ⟨b, 0, none⟩), .int .i64 2] W1 fun y w' => y = .returned (.int .u64 (n2 : Nat)) ∧ IsReader w' b s p2 e2 ∧ Only b W1 w') := by
    have := number_any HS2.out.rd 2
    rw [N2.out] at this
    exact this
  go_wp2_with fail
  refine HR2.out.mono ?_
  rintro e w2 ⟨rfl, hr2, o2⟩
  have HX2 := hidr (HS2.out.only o2 hr2)
  clear HR2 HS2 hr2 o2
  have x2 := HX2.out.out.cell 6
  have f2 := HX2.out.out.frozen 6
  obtain ⟨W2, HW2⟩ : ∃ y, Hid (y = w2.setCell ⟨r, 6, none⟩ (.int .i64 (n2 : Int))) := ⟨_, rfl⟩
  have HS3 := hidr (HX2.out.set 6 (.int .i64 (n2 : Int)))
  rw [← HW2.out] at HS3
  go_upto_region 3 with fail
  rw [← HW2.out]
  clear HW2 HX2 x2 f2
  have HR3 : Hid (Calls Tryz.prog 125 #[.pointer (some ⟨b, 0, none⟩), .int .i64 65535] W2 fun y w' => y = .returned (.string ⟨n3.toArray⟩) ∧ IsReader w' b s p3 e3 ∧ Only b W2 w') := by
    have := rtext_any HS3.out.rd 65535
    rw [N3.out] at this
    exact this
  go_wp2_with fail
  refine HR3.out.mono ?_
  rintro e w3 ⟨rfl, hr3, o3⟩
  have HX3 := hidr (HS3.out.only o3 hr3)
  clear HR3 HS3 hr3 o3
  have x3 := HX3.out.out.cell 7
  have f3 := HX3.out.out.frozen 7
  obtain ⟨W3, HW3⟩ : ∃ y, Hid (y = w3.setCell ⟨r, 7, none⟩ (.string ⟨n3.toArray⟩)) := ⟨_, rfl⟩
  have HS4 := hidr (HX3.out.set 7 (.string ⟨n3.toArray⟩))
  rw [← HW3.out] at HS4
  go_upto_region 4 with fail
  rw [← HW3.out]
  clear HW3 HX3 x3 f3
  have HR4 : Hid (Calls Tryz.prog 125 #[.pointer (some ⟨b, 0, none⟩), .int .i64 65535] W3 fun y w' => y = .returned (.string ⟨n4.toArray⟩) ∧ IsReader w' b s p4 e4 ∧ Only b W3 w') := by
    have := rtext_any HS4.out.rd 65535
    rw [N4.out] at this
    exact this
  go_wp2_with fail
  refine HR4.out.mono ?_
  rintro e w4 ⟨rfl, hr4, o4⟩
  have HX4 := hidr (HS4.out.only o4 hr4)
  clear HR4 HS4 hr4 o4
  have x4 := HX4.out.out.cell 8
  have f4 := HX4.out.out.frozen 8
  obtain ⟨W4, HW4⟩ : ∃ y, Hid (y = w4.setCell ⟨r, 8, none⟩ (.string ⟨n4.toArray⟩)) := ⟨_, rfl⟩
  have HS5 := hidr (HX4.out.set 8 (.string ⟨n4.toArray⟩))
  rw [← HW4.out] at HS5
  go_upto_region 5 with fail
  rw [← HW4.out]
  clear HW4 HX4 x4 f4
  have HR5 : Hid (Calls Tryz.prog 59 #[.pointer (some ⟨b, 0, none⟩), .int .i64 1] W4 fun y w' => y = .returned (.int .u64 (n5 : Nat)) ∧ IsReader w' b s p5 e5 ∧ Only b W4 w') := by
    have := number_any HS5.out.rd 1
    rw [N5.out] at this
    exact this
  go_wp2_with fail
  refine HR5.out.mono ?_
  rintro e w5 ⟨rfl, hr5, o5⟩
  have HX5 := hidr (HS5.out.only o5 hr5)
  clear HR5 HS5 hr5 o5
  have x5 := HX5.out.out.cell 9
  have f5 := HX5.out.out.frozen 9
  obtain ⟨W5, HW5⟩ : ∃ y, Hid (y = w5.setCell ⟨r, 9, none⟩ (.int .i64 (n5 : Int))) := ⟨_, rfl⟩
  have HS6 := hidr (HX5.out.set 9 (.int .i64 (n5 : Int)))
  rw [← HW5.out] at HS6
  go_wp2_with fail
  rw [← HW5.out]
  go_end0
  exact ⟨rfl, HS6.out⟩

set_option maxHeartbeats 1600000 in
set_option maxRecDepth 8000 in
theorem takeKey_any {w : World} {b r : Nat} {s : ByteArray} {p : Nat} {e : Int} (h : IsReader w b s p e) (R : RecV) (ta da : Option Addr) (tc dc : Nat) (hb : b ≠ r) (hr : BlkR w r (R.cells ta da tc dc) 64) {p0 : Nat} {e0 : Int} {n0 : Nat} (h0 : numF s p e 2 = (p0, e0, n0)) {p1 : Nat} {e1 : Int} {n1 : List UInt8} (h1 : textF s p0 e0 64 = (p1, e1, n1)) {p2 : Nat} {e2 : Int} {n2 : Nat} (h2 : numF s p1 e1 4 = (p2, e2, n2)) {p3 : Nat} {e3 : Int} {n3 : Nat} (h3 : numF s p2 e2 2 = (p3, e3, n3)) {p4 : Nat} {e4 : Int} {n4 : Bool} (h4 : boolF s p3 e3 = (p4, e4, n4)) :
    Calls Tryz.prog 64 #[.pointer (some ⟨b, 0, none⟩), .pointer (some ⟨r, 0, none⟩)] w fun x w' => x = .returned (.tuple #[]) ∧ RTakeAt w w' b r s p4 e4 (({ R with index := n0, key := ⟨n1.toArray⟩, rpage := n2, rslot := n3, live := n4 } : RecV).cells ta da tc dc) := by
  have HS0 : Hid (RTakeAt w w b r s p e (R.cells ta da tc dc)) := ⟨rfl, rfl, rfl, Nat.le_refl _, fun _ _ _ _ => rfl, hb, h, hr⟩
  have hn0 : n0 < 65536 := by have := numF_lt s p e 2; rw [show (((2 : Nat) : Int)) = 2 from rfl, h0] at this; exact this
  have q0 : IntKind.i64.wrap (n0 : Int) = (n0 : Int) := by rw [IntKind.wrap_i64]; omega
  have N0 := hidr h0
  have N1 := hidr h1
  have hn2 : n2 < 4294967296 := by have := numF_lt s p1 e1 4; rw [show (((4 : Nat) : Int)) = 4 from rfl, h2] at this; exact this
  have q2 : IntKind.u32.wrap (n2 : Int) = (n2 : Int) := by rw [IntKind.wrap_u32]; omega
  have N2 := hidr h2
  have hn3 : n3 < 65536 := by have := numF_lt s p2 e2 2; rw [show (((2 : Nat) : Int)) = 2 from rfl, h3] at this; exact this
  have q3 : IntKind.i64.wrap (n3 : Int) = (n3 : Int) := by rw [IntKind.wrap_i64]; omega
  have N3 := hidr h3
  have N4 := hidr h4
  clear h hb hr h0 h1 h2 h3 h4
  go_enter Tryz.func64, Tryz.ntmps64
  have HR0 : Hid (Calls Tryz.prog 59 #[.pointer (some ⟨b, 0, none⟩), .int .i64 2] w fun y w' => y = .returned (.int .u64 (n0 : Nat)) ∧ IsReader w' b s p0 e0 ∧ Only b w w') := by
    have := number_any HS0.out.rd 2
    rw [N0.out] at this
    exact this
  go_wp2_with fail
  refine HR0.out.mono ?_
  rintro e w0 ⟨rfl, hr0, o0⟩
  have HX0 := hidr (HS0.out.only o0 hr0)
  clear HR0 HS0 hr0 o0
  have x0 := HX0.out.out.cell 10
  have f0 := HX0.out.out.frozen 10
  obtain ⟨W0, HW0⟩ : ∃ y, Hid (y = w0.setCell ⟨r, 10, none⟩ (.int .i64 (n0 : Int))) := ⟨_, rfl⟩
  have HS1 := hidr (HX0.out.set 10 (.int .i64 (n0 : Int)))
  rw [← HW0.out] at HS1
  go_upto_region 1 with fail
  rw [← HW0.out]
  clear HW0 HX0 x0 f0
  have HR1 : Hid (Calls Tryz.prog 125 #[.pointer (some ⟨b, 0, none⟩), .int .i64 64] W0 fun y w' => y = .returned (.string ⟨n1.toArray⟩) ∧ IsReader w' b s p1 e1 ∧ Only b W0 w') := by
    have := rtext_any HS1.out.rd 64
    rw [N1.out] at this
    exact this
  go_wp2_with fail
  refine HR1.out.mono ?_
  rintro e w1 ⟨rfl, hr1, o1⟩
  have HX1 := hidr (HS1.out.only o1 hr1)
  clear HR1 HS1 hr1 o1
  have x1 := HX1.out.out.cell 11
  have f1 := HX1.out.out.frozen 11
  obtain ⟨W1, HW1⟩ : ∃ y, Hid (y = w1.setCell ⟨r, 11, none⟩ (.string ⟨n1.toArray⟩)) := ⟨_, rfl⟩
  have HS2 := hidr (HX1.out.set 11 (.string ⟨n1.toArray⟩))
  rw [← HW1.out] at HS2
  go_upto_region 2 with fail
  rw [← HW1.out]
  clear HW1 HX1 x1 f1
  have HR2 : Hid (Calls Tryz.prog 59 #[.pointer (some ⟨b, 0, none⟩), .int .i64 4] W1 fun y w' => y = .returned (.int .u64 (n2 : Nat)) ∧ IsReader w' b s p2 e2 ∧ Only b W1 w') := by
    have := number_any HS2.out.rd 4
    rw [N2.out] at this
    exact this
  go_wp2_with fail
  refine HR2.out.mono ?_
  rintro e w2 ⟨rfl, hr2, o2⟩
  have HX2 := hidr (HS2.out.only o2 hr2)
  clear HR2 HS2 hr2 o2
  have x2 := HX2.out.out.cell 12
  have f2 := HX2.out.out.frozen 12
  obtain ⟨W2, HW2⟩ : ∃ y, Hid (y = w2.setCell ⟨r, 12, none⟩ (.int .u32 (n2 : Int))) := ⟨_, rfl⟩
  have HS3 := hidr (HX2.out.set 12 (.int .u32 (n2 : Int)))
  rw [← HW2.out] at HS3
  go_upto_region 3 with fail
  rw [← HW2.out]
  clear HW2 HX2 x2 f2
  have HR3 : Hid (Calls Tryz.prog 59 #[.pointer (some ⟨b, 0, none⟩), .int .i64 2] W2 fun y w' => y = .returned (.int .u64 (n3 : Nat)) ∧ IsReader w' b s p3 e3 ∧ Only b W2 w') := by
    have := number_any HS3.out.rd 2
    rw [N3.out] at this
    exact this
  go_wp2_with fail
  refine HR3.out.mono ?_
  rintro e w3 ⟨rfl, hr3, o3⟩
  have HX3 := hidr (HS3.out.only o3 hr3)
  clear HR3 HS3 hr3 o3
  have x3 := HX3.out.out.cell 13
  have f3 := HX3.out.out.frozen 13
  obtain ⟨W3, HW3⟩ : ∃ y, Hid (y = w3.setCell ⟨r, 13, none⟩ (.int .i64 (n3 : Int))) := ⟨_, rfl⟩
  have HS4 := hidr (HX3.out.set 13 (.int .i64 (n3 : Int)))
  rw [← HW3.out] at HS4
  go_upto_region 4 with fail
  rw [← HW3.out]
  clear HW3 HX3 x3 f3
  have HR4 : Hid (Calls Tryz.prog 126 #[.pointer (some ⟨b, 0, none⟩)] W3 fun y w' => y = .returned (.bool n4) ∧ IsReader w' b s p4 e4 ∧ Only b W3 w') := by
    have := bool_any HS4.out.rd
    rw [N4.out] at this
    exact this
  go_wp2_with fail
  refine HR4.out.mono ?_
  rintro e w4 ⟨rfl, hr4, o4⟩
  have HX4 := hidr (HS4.out.only o4 hr4)
  clear HR4 HS4 hr4 o4
  have x4 := HX4.out.out.cell 14
  have f4 := HX4.out.out.frozen 14
  obtain ⟨W4, HW4⟩ : ∃ y, Hid (y = w4.setCell ⟨r, 14, none⟩ (.bool n4)) := ⟨_, rfl⟩
  have HS5 := hidr (HX4.out.set 14 (.bool n4))
  rw [← HW4.out] at HS5
  go_wp2_with fail
  rw [← HW4.out]
  go_end0
  exact ⟨rfl, HS5.out⟩

end Go.Proofs.YtgkfdakieebnmaaGreat

namespace Go.Proofs.YtgkfdakieebnmaaGreat
open Go.RowKit Go.Sort

theorem infoDiA : (Tryz.prog.info? 166).map (fun i => (i.zero, i.size, i.bytes)) = some (some (.agg #[.int .u32 0, .int .u64 0]), 2, 16) := by kernel_rfl

theorem make_rows {P : Program} (t e : TypeId) (cs : Array Value) (size bytes : Nat) (ht : P.underlying t = some (.slice e)) (hinfo : (P.info? e).map (fun i => (i.zero, i.size, i.bytes)) = some (some (.agg cs), size, bytes))
    (kl kc : IntKind) (n : Nat) (hbytes : bytes * n ≤ 281474976710656) (h63 : n ≤ 9223372036854775807) (w : World) :
    (Instr.makeSlice t (.int kl (n : Int)) (.int kc (n : Int))).run P w = .ok (.slice (some ⟨w.heap.size, 0, none⟩) n n) (w.alloc (.cells (madeCells cs (n * size)) e)) := by
  obtain ⟨i, hi, hzz⟩ := Option.map_eq_some_iff.1 hinfo
  simp only [Prod.mk.injEq] at hzz
  obtain ⟨hz, hs, hb⟩ := hzz
  have hb' : (i.bytes : Int) * (n : Int) ≤ 281474976710656 := by
    have h : ((i.bytes * n : Nat) : Int) ≤ 281474976710656 := by rw [hb]; omega
    rwa [Int.natCast_mul] at h
  have hr := run_make (P := P) w t e i (.agg cs) ht hi hz kl kc n n (by omega) (Int.le_refl _) hb' (by omega)
  simp only [Int.toNat_natCast, hs] at hr
  exact hr

theorem rowV_made2 (w : World) (z : Array Value) (hz : 0 < z.size) (N : Nat) (t : TypeId) : RowV (w.alloc (.cells (madeCells z N) t)) w.heap.size N (fun j => z[j % z.size]!) := by
  intro j hj
  have hb : BlkR (w.alloc (.cells (madeCells z N) t)) w.heap.size (madeCells z N) t := heap_alloc_new w _
  refine ⟨?_, hb.frozen j⟩
  rw [hb.cell j]
  simp [madeCells, hj]

def dirK (s : ByteArray) (p : Nat) (e : Int) : Nat → Nat × Int × List DiV
  | 0 => (p, e, [])
  | k + 1 =>
    ((numF s (numF s (dirK s p e k).1 (dirK s p e k).2.1 4).1 (numF s (dirK s p e k).1 (dirK s p e k).2.1 4).2.1 8).1,
     (numF s (numF s (dirK s p e k).1 (dirK s p e k).2.1 4).1 (numF s (dirK s p e k).1 (dirK s p e k).2.1 4).2.1 8).2.1,
     (dirK s p e k).2.2 ++ [((numF s (dirK s p e k).1 (dirK s p e k).2.1 4).2.2, (numF s (numF s (dirK s p e k).1 (dirK s p e k).2.1 4).1 (numF s (dirK s p e k).1 (dirK s p e k).2.1 4).2.1 8).2.2)])

theorem dirK_length (s : ByteArray) (p : Nat) (e : Int) : ∀ k, (dirK s p e k).2.2.length = k
  | 0 => rfl
  | k + 1 => by simp [dirK, dirK_length s p e k]

def cellD (L : List DiV) (j : Nat) : Value := if j % 2 = 0 then .int .u32 ((L[j / 2]?.getD (0, 0)).1 : Nat) else .int .u64 ((L[j / 2]?.getD (0, 0)).2 : Nat)

theorem cellD_nil (j : Nat) : cellD [] j = #[Value.int .u32 0, .int .u64 0][j % 2]! := by
  unfold cellD
  have : j % 2 = 0 ∨ j % 2 = 1 := by omega
  rcases this with h | h <;> simp [h]

theorem cellD_snoc (L : List DiV) (x y : Nat) (j : Nat) : cellD (L ++ [(x, y)]) j = if j = L.length * 2 + 1 then .int .u64 y else if j = L.length * 2 then .int .u32 x else cellD L j := by
  unfold cellD
  by_cases h1 : j = L.length * 2 + 1
  · subst h1
    rw [if_pos rfl, if_neg (by omega), show (L.length * 2 + 1) / 2 = L.length by omega]; simp
  · rw [if_neg h1]
    by_cases h2 : j = L.length * 2
    · subst h2
      rw [if_pos rfl, if_pos (by omega), show (L.length * 2) / 2 = L.length by omega]; simp
    · rw [if_neg h2]
      have h3 : j / 2 ≠ L.length := by omega
      rw [show (L ++ [(x, y)])[j / 2]? = L[j / 2]? by
        by_cases h4 : j / 2 < L.length
        · rw [List.getElem?_append_left h4]
        · rw [List.getElem?_eq_none (by simp; omega), List.getElem?_eq_none (by omega)]]

set_option maxHeartbeats 1600000 in
set_option maxRecDepth 8000 in
theorem takeDirty_any {w : World} {b : Nat} {s : ByteArray} {p : Nat} {e : Int} (h : IsReader w b s p e) {p0 n : Nat} {e0 : Int} (h0 : countF s p e 256 = (p0, e0, n)) (hn : n ≤ 256) :
    Calls Tryz.prog 67 #[.pointer (some ⟨b, 0, none⟩)] w fun x w' => ∃ bs, x = .returned (.slice (some ⟨bs, 0, none⟩) n n) ∧ w.heap.size ≤ bs ∧ bs < w'.heap.size ∧ RowV w' bs (n * 2) (cellD (dirK s p0 e0 n).2.2) ∧ IsReader w' b s (dirK s p0 e0 n).1 (dirK s p0 e0 n).2.1 ∧ Only b w w' := by
  have HC : Hid (Calls Tryz.prog 127 #[.pointer (some ⟨b, 0, none⟩), .int .i64 256] w fun x w' => x = .returned (.int .i64 n) ∧ IsReader w' b s p0 e0 ∧ Only b w w') := by
    have := rcount_any h 256
    rw [h0] at this
    exact this
  have hlt := h.lt
  clear h h0
  have hmk := make_rows (P := Tryz.prog) 40 166 #[.int .u32 0, .int .u64 0] 2 16 Tryz.underlying40 infoDiA .i64 .i64 n (by omega) (by omega)
  go_enter Tryz.func67, Tryz.ntmps67
  go_wp2_with fail
  refine HC.out.mono ?_
  rintro x w1 ⟨rfl, h1, o1⟩
  have z1 := o1.size
  go_wp2_with fail
  go_loopw [10] (fun i wr => ∃ k : Nat, k ≤ n ∧ i = .int .i64 k ∧ Hid (IsReader wr b s (dirK s p0 e0 k).1 (dirK s p0 e0 k).2.1) ∧ Hid (RowV wr w1.heap.size (n * 2) (cellD (dirK s p0 e0 k).2.2)) ∧ Hid (Only b w wr) ∧ w1.heap.size < wr.heap.size) (fun i _ => n - (intOf i).toNat)
  case atStart =>
    exact ⟨0, by omega, rfl, h1.alloc _, (rowV_made2 w1 #[.int .u32 0, .int .u64 0] (by simp) (n * 2) _).congr (fun j _ => (cellD_nil j).symm), o1.trans (Only.of_below ((Below.refl _ _).alloc (Nat.le_refl _) _)), by simp⟩
  case round =>
    obtain ⟨k, hk, rfl, HR, HROW, HO, hz⟩ := hrel
    by_cases hlt' : k < n
    · have hlen := dirK_length s p0 e0 k
      obtain ⟨D, HD⟩ : ∃ D, Hid (D = dirK s p0 e0 k) := ⟨_, rfl⟩
      have HD1 : Hid (dirK s p0 e0 (k + 1) = ((numF s (numF s D.1 D.2.1 4).1 (numF s D.1 D.2.1 4).2.1 8).1, (numF s (numF s D.1 D.2.1 4).1 (numF s D.1 D.2.1 4).2.1 8).2.1, D.2.2 ++ [((numF s D.1 D.2.1 4).2.2, (numF s (numF s D.1 D.2.1 4).1 (numF s D.1 D.2.1 4).2.1 8).2.2)])) := by show _ = _; rw [HD.out]; rfl
      rw [← HD.out] at HR HROW hlen
      clear HD
      obtain ⟨q, f, L⟩ := D
      simp only at HR HROW hlen HD1
      obtain ⟨⟨q1, f1, x1⟩, HA⟩ : ∃ X, Hid (numF s q f 4 = X) := ⟨_, rfl⟩
      rw [HA.out] at HD1
      simp only at HD1
      obtain ⟨⟨q2, f2, x2⟩, HB⟩ : ∃ X, Hid (numF s q1 f1 8 = X) := ⟨_, rfl⟩
      rw [HB.out] at HD1
      simp only at HD1
      have hx1 : x1 < 4294967296 := by have := numF_lt s q f 4; rw [show (((4 : Nat) : Int)) = 4 from rfl, HA.out] at this; exact this
      have w1q : IntKind.u32.wrap (x1 : Int) = (x1 : Int) := by rw [IntKind.wrap_u32]; omega
      have HN : Hid (Calls Tryz.prog 59 #[.pointer (some ⟨b, 0, none⟩), .int .i64 4] wr fun x w' => x = .returned (.int .u64 x1) ∧ IsReader w' b s q1 f1 ∧ Only b wr w') := by
        have := number_any HR.out 4
        rw [HA.out] at this
        exact this
      go_wp2_with fail
      refine HN.out.mono ?_
      rintro x w2 ⟨rfl, h2, o2⟩
      have HROW2 := hidr (HROW.out.only o2 hz (by omega))
      have hck := (HROW2.out (k * 2) (by omega)).1
      have hfk := (HROW2.out (k * 2) (by omega)).2
      obtain ⟨w3, HW3⟩ : ∃ y, Hid (y = w2.setCell ⟨w1.heap.size, k * 2, none⟩ (.int .u32 (x1 : Int))) := ⟨_, rfl⟩
      have HR3 : Hid (IsReader w3 b s q1 f1) := by show IsReader _ _ _ _ _; rw [HW3.out]; exact h2.setOther (by omega) _
      have HROW3 : Hid (RowV w3 w1.heap.size (n * 2) (fun j => if j = k * 2 then .int .u32 (x1 : Int) else cellD L j)) := by show RowV _ _ _ _; rw [HW3.out]; exact HROW2.out.set (by omega) _
      have HO3 : Hid (Only b w w3) := by show Only _ _ _; rw [HW3.out]; exact (HO.out.trans o2).setNew (by omega) _ _
      have hz3 : w1.heap.size < w3.heap.size := by rw [HW3.out]; have := o2.size; simp; omega
      have HN2 : Hid (Calls Tryz.prog 59 #[.pointer (some ⟨b, 0, none⟩), .int .i64 8] w3 fun x w' => x = .returned (.int .u64 x2) ∧ IsReader w' b s q2 f2 ∧ Only b w3 w') := by
        have := number_any HR3.out 8
        rw [HB.out] at this
        exact this
      go_wp2_with fail
      rw [← HW3.out]
      clear HW3 hck hfk HROW2 h2 o2 HROW HR HO HN hz
      refine HN2.out.mono ?_
      rintro x w4 ⟨rfl, h4, o4⟩
      have HROW4 := hidr (HROW3.out.only o4 hz3 (by omega))
      have hck := (HROW4.out (k * 2 + 1) (by omega)).1
      have hfk := (HROW4.out (k * 2 + 1) (by omega)).2
      have HO4 := hidr (HO3.out.trans o4)
      have hz4 : w1.heap.size < w4.heap.size := by have := o4.size; omega
      have hck : w4.cell? ⟨w1.heap.size, k * 2 + 1, none⟩ = some (cellD L (k * 2 + 1)) := by rw [hck]; show some (if k * 2 + 1 = k * 2 then _ else _) = _; rw [if_neg (by omega)]
      clear HN2 HROW3 HO3 HR3
      go_wp2_with fail
      go_roundw
      case rel =>
        refine ⟨k + 1, by omega, by go_num, ?_, ?_, HO4.out.setNew (by omega) _ _, by simp; omega⟩
        · show IsReader _ _ _ _ _
          rw [HD1.out]
          exact h4.setOther (by omega) _
        · show RowV _ _ _ _
          rw [HD1.out]
          refine (HROW4.out.set (k := k * 2 + 1) (by omega) _).congr (fun j hj => ?_)
          rw [cellD_snoc, hlen]
      case measure => simp [intOf]; omega
    · obtain rfl : k = n := by omega
      go_wp2_with fail
      go_ret
      exact ⟨w1.heap.size, rfl, z1, hz, HROW.out, HR.out, HO.out⟩

end Go.Proofs.YtgkfdakieebnmaaGreat

namespace Go.Proofs.YtgkfdakieebnmaaGreat
open Go.RowKit Go.Sort

theorem infoTxA : (Tryz.prog.info? 161).map (fun i => (i.zero, i.size, i.bytes)) = some (some (.agg #[.int .i64 0, .int .i64 0, .int .u64 0, .int .u64 0]), 4, 32) := by kernel_rfl

def txOne (s : ByteArray) (D : Nat × Int × List TxV) : Nat × Int × List TxV :=
  let a := numF s D.1 D.2.1 4
  let b := numF s a.1 a.2.1 1
  let c := numF s b.1 b.2.1 8
  let d := numF s c.1 c.2.1 8
  (d.1, d.2.1, D.2.2 ++ [((a.2.2 : Int), (b.2.2 : Int), c.2.2, d.2.2)])

def txK (s : ByteArray) (p : Nat) (e : Int) : Nat → Nat × Int × List TxV
  | 0 => (p, e, [])
  | k + 1 => txOne s (txK s p e k)

theorem txK_length (s : ByteArray) (p : Nat) (e : Int) : ∀ k, (txK s p e k).2.2.length = k
  | 0 => rfl
  | k + 1 => by simp [txK, txOne, txK_length s p e k]

def cellT (L : List TxV) (j : Nat) : Value :=
  if j % 4 = 0 then .int .i64 (L[j / 4]?.getD (0, 0, 0, 0)).1 else if j % 4 = 1 then .int .i64 (L[j / 4]?.getD (0, 0, 0, 0)).2.1 else
  if j % 4 = 2 then .int .u64 ((L[j / 4]?.getD (0, 0, 0, 0)).2.2.1 : Nat) else .int .u64 ((L[j / 4]?.getD (0, 0, 0, 0)).2.2.2 : Nat)

theorem cellT_nil (j : Nat) : cellT [] j = #[Value.int .i64 0, .int .i64 0, .int .u64 0, .int .u64 0][j % 4]! := by
  unfold cellT
  have : j % 4 = 0 ∨ j % 4 = 1 ∨ j % 4 = 2 ∨ j % 4 = 3 := by omega
  rcases this with h | h | h | h <;> simp [h]

theorem cellT_snoc (L : List TxV) (x y : Int) (z u : Nat) (j : Nat) : cellT (L ++ [(x, y, z, u)]) j = if j = L.length * 4 + 3 then .int .u64 u else if j = L.length * 4 + 2 then .int .u64 z else if j = L.length * 4 + 1 then .int .i64 y else if j = L.length * 4 then .int .i64 x else cellT L j := by
  unfold cellT
  by_cases h0 : j / 4 = L.length
  · rw [h0]
    have hq : j = L.length * 4 ∨ j = L.length * 4 + 1 ∨ j = L.length * 4 + 2 ∨ j = L.length * 4 + 3 := by omega
    rcases hq with h | h | h | h
    · rw [if_pos (show j % 4 = 0 by omega), if_neg (by omega), if_neg (by omega), if_neg (by omega), if_pos h]; simp
    · rw [if_neg (by omega), if_pos (show j % 4 = 1 by omega), if_neg (by omega), if_neg (by omega), if_pos h]; simp
    · rw [if_neg (by omega), if_neg (by omega), if_pos (show j % 4 = 2 by omega), if_neg (by omega), if_pos h]; simp
    · rw [if_neg (by omega), if_neg (by omega), if_neg (by omega), if_pos h]; simp
  · rw [if_neg (by omega : ¬ j = L.length * 4 + 3), if_neg (by omega : ¬ j = L.length * 4 + 2), if_neg (by omega : ¬ j = L.length * 4 + 1), if_neg (by omega : ¬ j = L.length * 4)]
    rw [show (L ++ [(x, y, z, u)])[j / 4]? = L[j / 4]? by
        by_cases h4 : j / 4 < L.length
        · rw [List.getElem?_append_left h4]
        · rw [List.getElem?_eq_none (by simp; omega), List.getElem?_eq_none (by omega)]]

set_option maxHeartbeats 1600000 in
set_option maxRecDepth 8000 in
theorem takeTxs_any {w : World} {b : Nat} {s : ByteArray} {p : Nat} {e : Int} (h : IsReader w b s p e) {p0 n : Nat} {e0 : Int} (h0 : countF s p e 64 = (p0, e0, n)) (hn : n ≤ 64) :
    Calls Tryz.prog 66 #[.pointer (some ⟨b, 0, none⟩)] w fun x w' => ∃ bs, x = .returned (.slice (some ⟨bs, 0, none⟩) n n) ∧ w.heap.size ≤ bs ∧ bs < w'.heap.size ∧ RowV w' bs (n * 4) (cellT (txK s p0 e0 n).2.2) ∧ IsReader w' b s (txK s p0 e0 n).1 (txK s p0 e0 n).2.1 ∧ Only b w w' := by
  have HC : Hid (Calls Tryz.prog 127 #[.pointer (some ⟨b, 0, none⟩), .int .i64 64] w fun x w' => x = .returned (.int .i64 n) ∧ IsReader w' b s p0 e0 ∧ Only b w w') := by
    have := rcount_any h 64
    rw [h0] at this
    exact this
  have hlt := h.lt
  clear h h0
  have hmk := make_rows (P := Tryz.prog) 39 161 #[.int .i64 0, .int .i64 0, .int .u64 0, .int .u64 0] 4 32 Tryz.underlying39 infoTxA .i64 .i64 n (by omega) (by omega)
  go_enter Tryz.func66, Tryz.ntmps66
  go_wp2_with fail
  refine HC.out.mono ?_
  rintro x w1 ⟨rfl, h1, o1⟩
  have z1 := o1.size
  go_wp2_with fail
  go_loopw [10] (fun i wr => ∃ k : Nat, k ≤ n ∧ i = .int .i64 k ∧ Hid (IsReader wr b s (txK s p0 e0 k).1 (txK s p0 e0 k).2.1) ∧ Hid (RowV wr w1.heap.size (n * 4) (cellT (txK s p0 e0 k).2.2)) ∧ Hid (Only b w wr) ∧ w1.heap.size < wr.heap.size) (fun i _ => n - (intOf i).toNat)
  case atStart =>
    exact ⟨0, by omega, rfl, h1.alloc _, (rowV_made2 w1 #[.int .i64 0, .int .i64 0, .int .u64 0, .int .u64 0] (by simp) (n * 4) _).congr (fun j _ => (cellT_nil j).symm), o1.trans (Only.of_below ((Below.refl _ _).alloc (Nat.le_refl _) _)), by simp⟩
  case round =>
    obtain ⟨k, hk, rfl, HR0, HROW0, HO0, hz0⟩ := hrel
    by_cases hlt' : k < n
    · have hlen := txK_length s p0 e0 k
      obtain ⟨D, HD⟩ : ∃ D, Hid (D = txK s p0 e0 k) := ⟨_, rfl⟩
      have HD1 : Hid (txK s p0 e0 (k + 1) = txOne s D) := by show _ = _; rw [HD.out]; rfl
      rw [← HD.out] at HR0 HROW0 hlen
      clear HD
      obtain ⟨q0, f0, L⟩ := D
      simp only [txOne] at HR0 HROW0 hlen HD1
      obtain ⟨⟨q1, f1, x0⟩, HA0⟩ : ∃ X, Hid (numF s q0 f0 4 = X) := ⟨_, rfl⟩
      rw [HA0.out] at HD1
      simp only at HD1
      have hx0 : x0 < 4294967296 := by have := numF_lt s q0 f0 4; rw [show (((4 : Nat) : Int)) = 4 from rfl, HA0.out] at this; exact this
      have wq0 : IntKind.i64.wrap (x0 : Int) = (x0 : Int) := by rw [IntKind.wrap_i64]; omega
      obtain ⟨⟨q2, f2, x1⟩, HA1⟩ : ∃ X, Hid (numF s q1 f1 1 = X) := ⟨_, rfl⟩
      rw [HA1.out] at HD1
      simp only at HD1
      have hx1 : x1 < 256 := by have := numF_lt s q1 f1 1; rw [show (((1 : Nat) : Int)) = 1 from rfl, HA1.out] at this; exact this
      have wq1 : IntKind.i64.wrap (x1 : Int) = (x1 : Int) := by rw [IntKind.wrap_i64]; omega
      obtain ⟨⟨q3, f3, x2⟩, HA2⟩ : ∃ X, Hid (numF s q2 f2 8 = X) := ⟨_, rfl⟩
      rw [HA2.out] at HD1
      simp only at HD1
      have hx2 : x2 < 18446744073709551616 := by have := numF_lt s q2 f2 8; rw [show (((8 : Nat) : Int)) = 8 from rfl, HA2.out] at this; exact this
      obtain ⟨⟨q4, f4, x3⟩, HA3⟩ : ∃ X, Hid (numF s q3 f3 8 = X) := ⟨_, rfl⟩
      rw [HA3.out] at HD1
      simp only at HD1
      have hx3 : x3 < 18446744073709551616 := by have := numF_lt s q3 f3 8; rw [show (((8 : Nat) : Int)) = 8 from rfl, HA3.out] at this; exact this
      have HN0 : Hid (Calls Tryz.prog 59 #[.pointer (some ⟨b, 0, none⟩), .int .i64 4] wr fun x w' => x = .returned (.int .u64 x0) ∧ IsReader w' b s q1 f1 ∧ Only b wr w') := by
        have := number_any HR0.out 4
        rw [HA0.out] at this
        exact this
      go_wp2_with fail
      refine HN0.out.mono ?_
      rintro x wa0 ⟨rfl, ha0, oa0⟩
      have HROWa0 := hidr (HROW0.out.only oa0 hz0 (by omega))
      have hck0 := (HROWa0.out (k * 4) (by omega)).1
      have hfk0 := (HROWa0.out (k * 4) (by omega)).2
      obtain ⟨wb0, HW1⟩ : ∃ y, Hid (y = wa0.setCell ⟨w1.heap.size, k * 4, none⟩ (.int .i64 (x0 : Int))) := ⟨_, rfl⟩
      have HR1 : Hid (IsReader wb0 b s q1 f1) := by show IsReader _ _ _ _ _; rw [HW1.out]; exact ha0.setOther (by omega) _
      have HROW1 : Hid (RowV wb0 w1.heap.size (n * 4) (fun j => if j = k * 4 then .int .i64 (x0 : Int) else cellT L j)) := by show RowV _ _ _ _; rw [HW1.out]; exact HROWa0.out.set (by omega) _
      have HO1 : Hid (Only b w wb0) := by show Only _ _ _; rw [HW1.out]; exact (HO0.out.trans oa0).setNew (by omega) _ _
      have hz1 : w1.heap.size < wb0.heap.size := by rw [HW1.out]; have := oa0.size; simp; omega
      have HN1 : Hid (Calls Tryz.prog 59 #[.pointer (some ⟨b, 0, none⟩), .int .i64 1] wb0 fun x w' => x = .returned (.int .u64 x1) ∧ IsReader w' b s q2 f2 ∧ Only b wb0 w') := by
        have := number_any HR1.out 1
        rw [HA1.out] at this
        exact this
      go_wp2_with fail
      rw [← HW1.out]
      clear HW1 hck0 hfk0 HROWa0 ha0 oa0 HROW0 HR0 HO0 HN0 hz0
      refine HN1.out.mono ?_
      rintro x wa1 ⟨rfl, ha1, oa1⟩
      have HROWa1 := hidr (HROW1.out.only oa1 hz1 (by omega))
      have hck1 := (HROWa1.out (k * 4 + 1) (by omega)).1
      have hfk1 := (HROWa1.out (k * 4 + 1) (by omega)).2
      obtain ⟨wb1, HW2⟩ : ∃ y, Hid (y = wa1.setCell ⟨w1.heap.size, k * 4 + 1, none⟩ (.int .i64 (x1 : Int))) := ⟨_, rfl⟩
      have HR2 : Hid (IsReader wb1 b s q2 f2) := by show IsReader _ _ _ _ _; rw [HW2.out]; exact ha1.setOther (by omega) _
      have HROW2 : Hid (RowV wb1 w1.heap.size (n * 4) (fun j => if j = k * 4 + 1 then .int .i64 (x1 : Int) else if j = k * 4 then .int .i64 (x0 : Int) else cellT L j)) := by show RowV _ _ _ _; rw [HW2.out]; exact HROWa1.out.set (by omega) _
      have HO2 : Hid (Only b w wb1) := by show Only _ _ _; rw [HW2.out]; exact (HO1.out.trans oa1).setNew (by omega) _ _
      have hz2 : w1.heap.size < wb1.heap.size := by rw [HW2.out]; have := oa1.size; simp; omega
      have HN2 : Hid (Calls Tryz.prog 59 #[.pointer (some ⟨b, 0, none⟩), .int .i64 8] wb1 fun x w' => x = .returned (.int .u64 x2) ∧ IsReader w' b s q3 f3 ∧ Only b wb1 w') := by
        have := number_any HR2.out 8
        rw [HA2.out] at this
        exact this
      go_wp2_with fail
      rw [← HW2.out]
      clear HW2 hck1 hfk1 HROWa1 ha1 oa1 HROW1 HR1 HO1 HN1 hz1
      refine HN2.out.mono ?_
      rintro x wa2 ⟨rfl, ha2, oa2⟩
      have HROWa2 := hidr (HROW2.out.only oa2 hz2 (by omega))
      have hck2 := (HROWa2.out (k * 4 + 2) (by omega)).1
      have hfk2 := (HROWa2.out (k * 4 + 2) (by omega)).2
      obtain ⟨wb2, HW3⟩ : ∃ y, Hid (y = wa2.setCell ⟨w1.heap.size, k * 4 + 2, none⟩ (.int .u64 (x2 : Int))) := ⟨_, rfl⟩
      have HR3 : Hid (IsReader wb2 b s q3 f3) := by show IsReader _ _ _ _ _; rw [HW3.out]; exact ha2.setOther (by omega) _
      have HROW3 : Hid (RowV wb2 w1.heap.size (n * 4) (fun j => if j = k * 4 + 2 then .int .u64 (x2 : Int) else if j = k * 4 + 1 then .int .i64 (x1 : Int) else if j = k * 4 then .int .i64 (x0 : Int) else cellT L j)) := by show RowV _ _ _ _; rw [HW3.out]; exact HROWa2.out.set (by omega) _
      have HO3 : Hid (Only b w wb2) := by show Only _ _ _; rw [HW3.out]; exact (HO2.out.trans oa2).setNew (by omega) _ _
      have hz3 : w1.heap.size < wb2.heap.size := by rw [HW3.out]; have := oa2.size; simp; omega
      have HN3 : Hid (Calls Tryz.prog 59 #[.pointer (some ⟨b, 0, none⟩), .int .i64 8] wb2 fun x w' => x = .returned (.int .u64 x3) ∧ IsReader w' b s q4 f4 ∧ Only b wb2 w') := by
        have := number_any HR3.out 8
        rw [HA3.out] at this
        exact this
      go_wp2_with fail
      rw [← HW3.out]
      clear HW3 hck2 hfk2 HROWa2 ha2 oa2 HROW2 HR2 HO2 HN2 hz2
      refine HN3.out.mono ?_
      rintro x wa3 ⟨rfl, ha3, oa3⟩
      have HROWa3 := hidr (HROW3.out.only oa3 hz3 (by omega))
      have hck3 := (HROWa3.out (k * 4 + 3) (by omega)).1
      have hfk3 := (HROWa3.out (k * 4 + 3) (by omega)).2
      have HO4 := hidr (HO3.out.trans oa3)
      have hz4 : w1.heap.size < wa3.heap.size := by have := oa3.size; omega
      clear HN3 HROW3 HO3 HR3
      go_wp2_with fail
      go_roundw
      case rel =>
        refine ⟨k + 1, by omega, by go_num, ?_, ?_, HO4.out.setNew (by omega) _ _, by simp; omega⟩
        · show IsReader _ _ _ _ _
          rw [HD1.out]
          exact ha3.setOther (by omega) _
        · show RowV _ _ _ _
          rw [HD1.out]
          refine (HROWa3.out.set (k := k * 4 + 3) (by omega) _).congr (fun j hj => ?_)
          rw [cellT_snoc, hlen]
      case measure => simp [intOf]; omega
    · obtain rfl : k = n := by omega
      go_wp2_with fail
      go_ret
      exact ⟨w1.heap.size, rfl, z1, hz0, HROW0.out, HR0.out, HO0.out⟩

end Go.Proofs.YtgkfdakieebnmaaGreat
