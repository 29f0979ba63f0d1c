/-
  The walks of rec.takeCount, takeChange, takeKey.
-/
import Derived.Test.YtndfjjcflbpdnaaRecDec0C
namespace Go.Proofs.Ytndfjjcflbpdnaa
open Go.RowKit Go.Sort
set_option linter.unusedVariables false
set_option linter.unusedSimpArgs false

/-- What takeCount does. -/
def countF (s : ByteArray) (p : Nat) (e : Int) (m : Nat) : Nat × Int × Nat :=
  if m < (numF s p e 2).2.2 then ((numF s p e 2).1, failE (numF s p e 2).2.1 3, 0) else numF s p e 2

theorem numF_lt (s : ByteArray) (p : Nat) (e : Int) (n : Nat) : (numF s p e (n : Int)).2.2 < 2 ^ (8 * n) := by
  have h0 : 0 < 2 ^ (8 * n) := Nat.two_pow_pos _
  unfold numF
  repeat' split
  all_goals first
    | exact h0
    | (simp only [Int.toNat_natCast]
       exact le_lt_of (l := part s p n) (n := n) (by unfold part; rw [List.length_take]; omega))

set_option maxHeartbeats 400000 in
set_option maxRecDepth 60000 in
theorem rcount_any {w : World} {b : Nat} {s : ByteArray} {p : Nat} {e : Int} (h : IsReader w b s p e) (m : Nat) :
    Calls Try.prog 39 #[.pointer (some ⟨b, 0, none⟩), .int .i64 m] w fun x w' => x = .returned (.int .i64 (countF s p e m).2.2) ∧ IsReader w' b s (countF s p e m).1 (countF s p e m).2.1 ∧ Only b w w' := by
  have hN := numF_lt s p e 2
  have HN := hidr (number_any h 2)
  have HC : Hid (countF s p e m = if m < (numF s p e 2).2.2 then ((numF s p e 2).1, failE (numF s p e 2).2.1 3, 0) else numF s p e 2) := rfl
  rw [show ((2 : Nat) : Int) = 2 from rfl] at hN
  generalize numF s p e 2 = N at *
  obtain ⟨p1, e1, n⟩ := N
  simp only at hN HN HC
  have hn : n < 65536 := hN
  have q0 : IntKind.i64.wrap (n : Int) = (n : Int) := by rw [IntKind.wrap_i64]; omega
  clear hN
  rw [HC.out]
  clear HC
  by_cases hm : m < n
  · simp only [if_pos hm]
    have hmi : (m : Int) < (n : Int) := by omega
    go_enter Try.func39, Try.ntmps39
    go_wp2_with fail
    refine HN.out.mono ?_
    rintro x w1 ⟨rfl, h1, o1⟩
    go_wp2_with fail
    refine (fail_any h1 3).mono ?_
    rintro x w2 ⟨rfl, h2, o2⟩
    go_wp2
    go_ret
    exact ⟨rfl, h2, o1.trans o2⟩
  · simp only [if_neg hm]
    have hmi : ¬ (m : Int) < (n : Int) := by omega
    go_enter Try.func39, Try.ntmps39
    go_wp2_with fail
    refine HN.out.mono ?_
    rintro x w1 ⟨rfl, h1, o1⟩
    go_wp2
    go_ret
    exact ⟨rfl, h1, o1⟩

/-- Where a taker stands: the reader b, the record r. -/
structure TakeAt (w wr : World) (b r : Nat) (s : ByteArray) (p : Nat) (e : Int) (cs : Array Value) : Prop where
  os : wr.os = w.os
  tape : wr.tape = w.tape
  output : wr.output = w.output
  size : w.heap.size ≤ wr.heap.size
  block : ∀ k, k < w.heap.size → k ≠ b → k ≠ r → wr.heap[k]? = w.heap[k]?
  ne : b ≠ r
  rd : IsReader wr b s p e
  out : BlkR wr r cs 35

section
variable {w wr wx : World} {b r : Nat} {s : ByteArray} {p : Nat} {e : Int} {cs : Array Value}

theorem TakeAt.only (h : TakeAt w wr b r s p e cs) (o : Only b wr wx) {p' : Nat} {e' : Int} (hr : IsReader wx b s p' e') : TakeAt w wx b r s p' e' cs :=
  ⟨o.os.trans h.os, o.tape.trans h.tape, o.output.trans h.output, Nat.le_trans h.size o.size, fun k hk hb hr => (o.block k (Nat.lt_of_lt_of_le hk h.size) hb).trans (h.block k hk hb hr), h.ne, hr, (o.block _ h.out.lt (fun q => h.ne q.symm)).trans h.out⟩

theorem TakeAt.set (h : TakeAt w wr b r s p e cs) (i : Nat) (v : Value) : TakeAt w (wr.setCell ⟨r, i, none⟩ v) b r s p e (cs.setIfInBounds i v) :=
  ⟨h.os, h.tape, h.output, by simpa using h.size, fun k hk hb hr => (Below.heap_setCell _ _ _ _ hr).trans (h.block k hk hb hr), h.ne,
    h.rd.same (Below.heap_setCell _ _ _ _ h.ne) (by simp), h.out.set i v⟩

end

end Go.Proofs.Ytndfjjcflbpdnaa
