/-
  Records as plain data; lists of transactions and of dirty pages in memory; slices.Equal of two such lists.
-/
import Derived.Test.YtgkfdakieebnmaaGreatPageOpsC
import Derived.Deep.RegionHeld3
set_option linter.unusedVariables false
set_option linter.unusedSimpArgs false
namespace Go.Proofs.YtgkfdakieebnmaaGreat
open Go.RowKit Go.Sort

abbrev TxV := Int × Int × Nat × Nat

abbrev DiV := Nat × Nat

structure TxAt (w : World) (b o : Nat) (t : TxV) : Prop where
  c0 : w.cell? ⟨b, o, none⟩ = some (.int .i64 t.1)
  c1 : w.cell? ⟨b, o + 1, none⟩ = some (.int .i64 t.2.1)
  c2 : w.cell? ⟨b, o + 2, none⟩ = some (.int .u64 t.2.2.1)
  c3 : w.cell? ⟨b, o + 3, none⟩ = some (.int .u64 t.2.2.2)

structure DiAt (w : World) (b o : Nat) (t : DiV) : Prop where
  c0 : w.cell? ⟨b, o, none⟩ = some (.int .u32 t.1)
  c1 : w.cell? ⟨b, o + 1, none⟩ = some (.int .u64 t.2)

def TxsAt (w : World) (a : Option Addr) (L : List TxV) : Prop :=
  L = [] ∨ ∃ b o, a = some ⟨b, o, none⟩ ∧ b < w.heap.size ∧ ∀ i (hi : i < L.length), TxAt w b (o + i * 4) L[i]

def DisAt (w : World) (a : Option Addr) (L : List DiV) : Prop :=
  L = [] ∨ ∃ b o, a = some ⟨b, o, none⟩ ∧ b < w.heap.size ∧ ∀ i (hi : i < L.length), DiAt w b (o + i * 2) L[i]

theorem TxAt.same {w w' : World} {b o : Nat} {t : TxV} (h : TxAt w b o t) (e : w'.heap[b]? = w.heap[b]?) : TxAt w' b o t :=
  ⟨(World.cell?_of_block (w := w) (a := ⟨b, o, none⟩) e).trans h.c0, (World.cell?_of_block (w := w) (a := ⟨b, o + 1, none⟩) e).trans h.c1, (World.cell?_of_block (w := w) (a := ⟨b, o + 2, none⟩) e).trans h.c2, (World.cell?_of_block (w := w) (a := ⟨b, o + 3, none⟩) e).trans h.c3⟩
theorem DiAt.same {w w' : World} {b o : Nat} {t : DiV} (h : DiAt w b o t) (e : w'.heap[b]? = w.heap[b]?) : DiAt w' b o t :=
  ⟨(World.cell?_of_block (w := w) (a := ⟨b, o, none⟩) e).trans h.c0, (World.cell?_of_block (w := w) (a := ⟨b, o + 1, none⟩) e).trans h.c1⟩

theorem TxsAt.below {w w' : World} {a : Option Addr} {L : List TxV} (h : TxsAt w a L) (k : Below w.heap.size w w') : TxsAt w' a L := by
  rcases h with h | ⟨b, o, e, hb, hc⟩
  · exact .inl h
  · exact .inr ⟨b, o, e, Nat.lt_of_lt_of_le hb k.size, fun i hi => (hc i hi).same (k.block b hb)⟩
theorem DisAt.below {w w' : World} {a : Option Addr} {L : List DiV} (h : DisAt w a L) (k : Below w.heap.size w w') : DisAt w' a L := by
  rcases h with h | ⟨b, o, e, hb, hc⟩
  · exact .inl h
  · exact .inr ⟨b, o, e, Nat.lt_of_lt_of_le hb k.size, fun i hi => (hc i hi).same (k.block b hb)⟩

theorem take_one {α : Type} {L M : List α} {k : Nat} (h : L.take k = M.take k) (h1 : k < L.length) (h2 : k < M.length) (e : L[k] = M[k]) : L.take (k + 1) = M.take (k + 1) := by
  rw [List.take_succ_eq_append_getElem h1, List.take_succ_eq_append_getElem h2, h, e]

set_option maxHeartbeats 3200000 in
set_option maxRecDepth 60000 in
theorem equalTx (a1 a2 : Option Addr) (c d : Nat) (L M : List TxV) (w : World) (hL : TxsAt w a1 L) (hM : TxsAt w a2 M) (h1 : L.length ≤ 9223372036854775807) (h2 : M.length ≤ 9223372036854775807) :
    Calls Tryz.prog 171 #[.slice a1 L.length c, .slice a2 M.length d] w fun e w' => e = .returned (.bool (decide (L = M))) ∧ Below w.heap.size w w' := by
  obtain ⟨R, HR⟩ : ∃ R, Hid (decide (L = M) = R) := ⟨_, rfl⟩
  rw [HR.out]
  by_cases hl : L.length = M.length
  · have HL : Hid (L.length = M.length) := hl
    clear hl
    have hlb : ((L.length : Int) != (M.length : Int)) = false := by have := HL.out; simp; omega
    go_enter Tryz.func171, Tryz.ntmps171
    go_wp2_with fail
    go_loopw [13] (fun i wr => ∃ k q : Nat, k ≤ L.length ∧ i = .int .i64 k ∧ wr = w.drewN q ∧ Hid (L.take k = M.take k)) (fun i _ => L.length - (intOf i).toNat)
    case atStart => exact ⟨0, 0, by omega, rfl, rfl, rfl⟩
    case round =>
      obtain ⟨k, q, hk, rfl, rfl, HT⟩ := hrel
      by_cases hlt : k < L.length
      · have hlt' : k < M.length := by have := HL.out; omega
        rcases hL with hL | ⟨b1, o1, rfl, hb1, g1⟩
        · rw [hL] at hlt; simp at hlt
        rcases hM with hM | ⟨b2, o2, rfl, hb2, g2⟩
        · rw [hM] at hlt'; simp at hlt'
        have g1 := g1 k hlt
        have g2 := g2 k hlt'
        have hi0 : (0 : Int) ≤ (k : Int) := by omega
        have hi1 : (k : Int) < (L.length : Int) := by omega
        have hi2 : (k : Int) < (M.length : Int) := by omega
        have HT1 : Hid (L[k] = M[k] → L.take (k + 1) = M.take (k + 1)) := take_one HT.out hlt hlt'
        have HT2 : Hid (L[k] ≠ M[k] → L ≠ M) := fun e e' => e (by subst e'; rfl)
        generalize L[k] = t1 at *
        generalize M[k] = t2 at *
        obtain ⟨x1, y1, u1, v1⟩ := t1
        obtain ⟨x2, y2, u2, v2⟩ := t2
        obtain ⟨p0, p1, p2, p3⟩ := g1
        obtain ⟨r0, r1, r2, r3⟩ := g2
        simp only at p0 r0 p1 r1 p2 r2 p3 r3
        by_cases e0 : x1 = x2
        rotate_left
        · have ne0 : (x1 == x2) = false := by rw [beq_eq_false_iff_ne]; omega
          have nf0 : (x1 != x2) = true := by rw [bne_iff_ne]; omega
          have HR' : Hid (R = false) := by rw [← HR.out]; exact decide_eq_false (HT2.out (by intro e; apply e0; exact congrArg (fun t : TxV => t.1) e))
          go_wp2_with fail
          go_quiet (fail)
          go_wp2
          go_ret
          exact ⟨by rw [HR'.out]; rfl, below_drewN (below_drewN (Below.refl _ _) q) nq⟩
        subst e0
        by_cases e1 : y1 = y2
        rotate_left
        · have ne1 : (y1 == y2) = false := by rw [beq_eq_false_iff_ne]; omega
          have nf1 : (y1 != y2) = true := by rw [bne_iff_ne]; omega
          have HR' : Hid (R = false) := by rw [← HR.out]; exact decide_eq_false (HT2.out (by intro e; apply e1; exact congrArg (fun t : TxV => t.2.1) e))
          go_wp2_with fail
          go_quiet (fail)
          go_wp2
          go_ret
          exact ⟨by rw [HR'.out]; rfl, below_drewN (below_drewN (Below.refl _ _) q) nq⟩
        subst e1
        by_cases e2 : u1 = u2
        rotate_left
        · have ne2 : ((u1 : Int) == (u2 : Int)) = false := by rw [beq_eq_false_iff_ne]; omega
          have nf2 : ((u1 : Int) != (u2 : Int)) = true := by rw [bne_iff_ne]; omega
          have HR' : Hid (R = false) := by rw [← HR.out]; exact decide_eq_false (HT2.out (by intro e; apply e2; exact congrArg (fun t : TxV => t.2.2.1) e))
          go_wp2_with fail
          go_quiet (fail)
          go_wp2
          go_ret
          exact ⟨by rw [HR'.out]; rfl, below_drewN (below_drewN (Below.refl _ _) q) nq⟩
        subst e2
        by_cases e3 : v1 = v2
        rotate_left
        · have ne3 : ((v1 : Int) == (v2 : Int)) = false := by rw [beq_eq_false_iff_ne]; omega
          have nf3 : ((v1 : Int) != (v2 : Int)) = true := by rw [bne_iff_ne]; omega
          have HR' : Hid (R = false) := by rw [← HR.out]; exact decide_eq_false (HT2.out (by intro e; apply e3; exact congrArg (fun t : TxV => t.2.2.2) e))
          go_wp2_with fail
          go_quiet (fail)
          go_wp2
          go_ret
          exact ⟨by rw [HR'.out]; rfl, below_drewN (below_drewN (Below.refl _ _) q) nq⟩
        subst e3
        go_wp2_with fail
        go_quiet (fail)
        go_wp2
        go_roundw
        case rel => exact ⟨k + 1, q + nq, by omega, by go_num, rfl, HT1.out (by first | trivial | rfl)⟩
        case measure => simp [intOf]; omega
      · obtain rfl : k = L.length := by omega
        have HR' : Hid (R = true) := by
          have := HT.out
          rw [List.take_length, HL.out, List.take_length] at this
          rw [← HR.out]
          exact decide_eq_true this
        go_wp2
        go_ret
        exact ⟨by rw [HR'.out]; rfl, below_drewN (Below.refl _ _) q⟩
  · have hne : decide (L = M) = false := decide_eq_false fun e => hl (by rw [e])
    have hR : R = false := by rw [← HR.out]; exact hne
    subst hR
    have hl' : ((L.length : Int) == (M.length : Int)) = false := by rw [beq_eq_false_iff_ne]; omega
    go_enter Tryz.func171, Tryz.ntmps171
    go_wp2
    go_ret
    exact ⟨rfl, Below.refl _ _⟩

set_option maxHeartbeats 3200000 in
set_option maxRecDepth 60000 in
theorem equalDi (a1 a2 : Option Addr) (c d : Nat) (L M : List DiV) (w : World) (hL : DisAt w a1 L) (hM : DisAt w a2 M) (h1 : L.length ≤ 9223372036854775807) (h2 : M.length ≤ 9223372036854775807) :
    Calls Tryz.prog 172 #[.slice a1 L.length c, .slice a2 M.length d] w fun e w' => e = .returned (.bool (decide (L = M))) ∧ Below w.heap.size w w' := by
  obtain ⟨R, HR⟩ : ∃ R, Hid (decide (L = M) = R) := ⟨_, rfl⟩
  rw [HR.out]
  by_cases hl : L.length = M.length
  · have HL : Hid (L.length = M.length) := hl
    clear hl
    have hlb : ((L.length : Int) != (M.length : Int)) = false := by have := HL.out; simp; omega
    go_enter Tryz.func172, Tryz.ntmps172
    go_wp2_with fail
    go_loopw [13] (fun i wr => ∃ k q : Nat, k ≤ L.length ∧ i = .int .i64 k ∧ wr = w.drewN q ∧ Hid (L.take k = M.take k)) (fun i _ => L.length - (intOf i).toNat)
    case atStart => exact ⟨0, 0, by omega, rfl, rfl, rfl⟩
    case round =>
      obtain ⟨k, q, hk, rfl, rfl, HT⟩ := hrel
      by_cases hlt : k < L.length
      · have hlt' : k < M.length := by have := HL.out; omega
        rcases hL with hL | ⟨b1, o1, rfl, hb1, g1⟩
        · rw [hL] at hlt; simp at hlt
        rcases hM with hM | ⟨b2, o2, rfl, hb2, g2⟩
        · rw [hM] at hlt'; simp at hlt'
        have g1 := g1 k hlt
        have g2 := g2 k hlt'
        have hi0 : (0 : Int) ≤ (k : Int) := by omega
        have hi1 : (k : Int) < (L.length : Int) := by omega
        have hi2 : (k : Int) < (M.length : Int) := by omega
        have HT1 : Hid (L[k] = M[k] → L.take (k + 1) = M.take (k + 1)) := take_one HT.out hlt hlt'
        have HT2 : Hid (L[k] ≠ M[k] → L ≠ M) := fun e e' => e (by subst e'; rfl)
        generalize L[k] = t1 at *
        generalize M[k] = t2 at *
        obtain ⟨x1, y1⟩ := t1
        obtain ⟨x2, y2⟩ := t2
        obtain ⟨p0, p1⟩ := g1
        obtain ⟨r0, r1⟩ := g2
        simp only at p0 r0 p1 r1
        by_cases e0 : x1 = x2
        rotate_left
        · have ne0 : ((x1 : Int) == (x2 : Int)) = false := by rw [beq_eq_false_iff_ne]; omega
          have nf0 : ((x1 : Int) != (x2 : Int)) = true := by rw [bne_iff_ne]; omega
          have HR' : Hid (R = false) := by rw [← HR.out]; exact decide_eq_false (HT2.out (by intro e; apply e0; exact congrArg (fun t : DiV => t.1) e))
          go_wp2_with fail
          go_quiet (fail)
          go_wp2
          go_ret
          exact ⟨by rw [HR'.out]; rfl, below_drewN (below_drewN (Below.refl _ _) q) nq⟩
        subst e0
        by_cases e1 : y1 = y2
        rotate_left
        · have ne1 : ((y1 : Int) == (y2 : Int)) = false := by rw [beq_eq_false_iff_ne]; omega
          have nf1 : ((y1 : Int) != (y2 : Int)) = true := by rw [bne_iff_ne]; omega
          have HR' : Hid (R = false) := by rw [← HR.out]; exact decide_eq_false (HT2.out (by intro e; apply e1; exact congrArg (fun t : DiV => t.2) e))
          go_wp2_with fail
          go_quiet (fail)
          go_wp2
          go_ret
          exact ⟨by rw [HR'.out]; rfl, below_drewN (below_drewN (Below.refl _ _) q) nq⟩
        subst e1
        go_wp2_with fail
        go_quiet (fail)
        go_wp2
        go_roundw
        case rel => exact ⟨k + 1, q + nq, by omega, by go_num, rfl, HT1.out (by first | trivial | rfl)⟩
        case measure => simp [intOf]; omega
      · obtain rfl : k = L.length := by omega
        have HR' : Hid (R = true) := by
          have := HT.out
          rw [List.take_length, HL.out, List.take_length] at this
          rw [← HR.out]
          exact decide_eq_true this
        go_wp2
        go_ret
        exact ⟨by rw [HR'.out]; rfl, below_drewN (Below.refl _ _) q⟩
  · have hne : decide (L = M) = false := decide_eq_false fun e => hl (by rw [e])
    have hR : R = false := by rw [← HR.out]; exact hne
    subst hR
    have hl' : ((L.length : Int) == (M.length : Int)) = false := by rw [beq_eq_false_iff_ne]; omega
    go_enter Tryz.func172, Tryz.ntmps172
    go_wp2
    go_ret
    exact ⟨rfl, Below.refl _ _⟩

end Go.Proofs.YtgkfdakieebnmaaGreat
