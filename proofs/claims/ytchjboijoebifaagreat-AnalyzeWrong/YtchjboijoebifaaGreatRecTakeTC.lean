/-
  The walk of rec.takeTxs.
-/
import Derived.Test.YtchjboijoebifaaGreatRecTakeDC
set_option linter.unusedVariables false
set_option linter.unusedSimpArgs false
namespace Go.Proofs.YtchjboijoebifaaGreat
open Go.RowKit Go.Sort

theorem infoTxA : (Tryz.prog.info? 44).map (fun i => (i.zero, i.size, i.bytes)) = some (some (.agg #[.int .i64 0, .int .i64 0, .int .u64 0, .int .u64 0]), 4, 32) := by kernel_rfl

def txOne (s : ByteArray) (D : Nat × Int × List TxV) : Nat × Int × List TxV :=
  let a := numF s D.1 D.2.1 4
  let b := numF s a.1 a.2.1 1
  let c := numF s b.1 b.2.1 8
  let d := numF s c.1 c.2.1 8
  (d.1, d.2.1, D.2.2 ++ [((a.2.2 : Int), (b.2.2 : Int), c.2.2, d.2.2)])

def txK (s : ByteArray) (p : Nat) (e : Int) : Nat → Nat × Int × List TxV
  | 0 => (p, e, [])
  | k + 1 => txOne s (txK s p e k)

theorem txK_length (s : ByteArray) (p : Nat) (e : Int) : ∀ k, (txK s p e k).2.2.length = k
  | 0 => rfl
  | k + 1 => by simp [txK, txOne, txK_length s p e k]

def cellT (L : List TxV) (j : Nat) : Value :=
  if j % 4 = 0 then .int .i64 (L[j / 4]?.getD (0, 0, 0, 0)).1 else if j % 4 = 1 then .int .i64 (L[j / 4]?.getD (0, 0, 0, 0)).2.1 else
  if j % 4 = 2 then .int .u64 ((L[j / 4]?.getD (0, 0, 0, 0)).2.2.1 : Nat) else .int .u64 ((L[j / 4]?.getD (0, 0, 0, 0)).2.2.2 : Nat)

theorem cellT_nil (j : Nat) : cellT [] j = #[Value.int .i64 0, .int .i64 0, .int .u64 0, .int .u64 0][j % 4]! := by
  unfold cellT
  have : j % 4 = 0 ∨ j % 4 = 1 ∨ j % 4 = 2 ∨ j % 4 = 3 := by omega
  rcases this with h | h | h | h <;> simp [h]

theorem cellT_snoc (L : List TxV) (x y : Int) (z u : Nat) (j : Nat) : cellT (L ++ [(x, y, z, u)]) j = if j = L.length * 4 + 3 then .int .u64 u else if j = L.length * 4 + 2 then .int .u64 z else if j = L.length * 4 + 1 then .int .i64 y else if j = L.length * 4 then .int .i64 x else cellT L j := by
  unfold cellT
  by_cases h0 : j / 4 = L.length
  · rw [h0]
    have hq : j = L.length * 4 ∨ j = L.length * 4 + 1 ∨ j = L.length * 4 + 2 ∨ j = L.length * 4 + 3 := by omega
    rcases hq with h | h | h | h
    · rw [if_pos (show j % 4 = 0 by omega), if_neg (by omega), if_neg (by omega), if_neg (by omega), if_pos h]; simp
    · rw [if_neg (by omega), if_pos (show j % 4 = 1 by omega), if_neg (by omega), if_neg (by omega), if_pos h]; simp
    · rw [if_neg (by omega), if_neg (by omega), if_pos (show j % 4 = 2 by omega), if_neg (by omega), if_pos h]; simp
    · rw [if_neg (by omega), if_neg (by omega), if_neg (by omega), if_pos h]; simp
  · rw [if_neg (by omega : ¬ j = L.length * 4 + 3), if_neg (by omega : ¬ j = L.length * 4 + 2), if_neg (by omega : ¬ j = L.length * 4 + 1), if_neg (by omega : ¬ j = L.length * 4)]
    rw [show (L ++ [(x, y, z, u)])[j / 4]? = L[j / 4]? by
        by_cases h4 : j / 4 < L.length
        · rw [List.getElem?_append_left h4]
        · rw [List.getElem?_eq_none (by simp; omega), List.getElem?_eq_none (by omega)]]

set_option maxHeartbeats 1600000 in
set_option maxRecDepth 8000 in
theorem takeTxs_any {w : World} {b : Nat} {s : ByteArray} {p : Nat} {e : Int} (h : IsReader w b s p e) {p0 n : Nat} {e0 : Int} (h0 : countF s p e 64 = (p0, e0, n)) (hn : n ≤ 64) :
    Calls Tryz.prog 38 #[.pointer (some ⟨b, 0, none⟩)] w fun x w' => ∃ bs, x = .returned (.slice (some ⟨bs, 0, none⟩) n n) ∧ w.heap.size ≤ bs ∧ bs < w'.heap.size ∧ RowV w' bs (n * 4) (cellT (txK s p0 e0 n).2.2) ∧ IsReader w' b s (txK s p0 e0 n).1 (txK s p0 e0 n).2.1 ∧ Only b w w' := by
  have HC : Hid (Calls Tryz.prog 80 #[.pointer (some ⟨b, 0, none⟩), .int .i64 64] w fun x w' => x = .returned (.int .i64 n) ∧ IsReader w' b s p0 e0 ∧ Only b w w') := by
    have := rcount_any h 64
    rw [h0] at this
    exact this
  have hlt := h.lt
  clear h h0
  have hmk := make_rows (P := Tryz.prog) 28 44 #[.int .i64 0, .int .i64 0, .int .u64 0, .int .u64 0] 4 32 Tryz.underlying28 infoTxA .i64 .i64 n (by omega) (by omega)
  go_enter Tryz.func38, Tryz.ntmps38
  go_wp2_with fail
  refine HC.out.mono ?_
  rintro x w1 ⟨rfl, h1, o1⟩
  have z1 := o1.size
  go_wp2_with fail
  go_loopw [10] (fun i wr => ∃ k : Nat, k ≤ n ∧ i = .int .i64 k ∧ Hid (IsReader wr b s (txK s p0 e0 k).1 (txK s p0 e0 k).2.1) ∧ Hid (RowV wr w1.heap.size (n * 4) (cellT (txK s p0 e0 k).2.2)) ∧ Hid (Only b w wr) ∧ w1.heap.size < wr.heap.size) (fun i _ => n - (intOf i).toNat)
  case atStart =>
    exact ⟨0, by omega, rfl, h1.alloc _, (rowV_made2 w1 #[.int .i64 0, .int .i64 0, .int .u64 0, .int .u64 0] (by simp) (n * 4) _).congr (fun j _ => (cellT_nil j).symm), o1.trans (Only.of_below ((Below.refl _ _).alloc (Nat.le_refl _) _)), by simp⟩
  case round =>
    obtain ⟨k, hk, rfl, HR0, HROW0, HO0, hz0⟩ := hrel
    by_cases hlt' : k < n
    · have hlen := txK_length s p0 e0 k
      obtain ⟨D, HD⟩ : ∃ D, Hid (D = txK s p0 e0 k) := ⟨_, rfl⟩
      have HD1 : Hid (txK s p0 e0 (k + 1) = txOne s D) := by show _ = _; rw [HD.out]; rfl
      rw [← HD.out] at HR0 HROW0 hlen
      clear HD
      obtain ⟨q0, f0, L⟩ := D
      simp only [txOne] at HR0 HROW0 hlen HD1
      obtain ⟨⟨q1, f1, x0⟩, HA0⟩ : ∃ X, Hid (numF s q0 f0 4 = X) := ⟨_, rfl⟩
      rw [HA0.out] at HD1
      simp only at HD1
      have hx0 : x0 < 4294967296 := by have := numF_lt s q0 f0 4; rw [show (((4 : Nat) : Int)) = 4 from rfl, HA0.out] at this; exact this
      have wq0 : IntKind.i64.wrap (x0 : Int) = (x0 : Int) := by rw [IntKind.wrap_i64]; omega
      obtain ⟨⟨q2, f2, x1⟩, HA1⟩ : ∃ X, Hid (numF s q1 f1 1 = X) := ⟨_, rfl⟩
      rw [HA1.out] at HD1
      simp only at HD1
      have hx1 : x1 < 256 := by have := numF_lt s q1 f1 1; rw [show (((1 : Nat) : Int)) = 1 from rfl, HA1.out] at this; exact this
      have wq1 : IntKind.i64.wrap (x1 : Int) = (x1 : Int) := by rw [IntKind.wrap_i64]; omega
      obtain ⟨⟨q3, f3, x2⟩, HA2⟩ : ∃ X, Hid (numF s q2 f2 8 = X) := ⟨_, rfl⟩
      rw [HA2.out] at HD1
      simp only at HD1
      have hx2 : x2 < 18446744073709551616 := by have := numF_lt s q2 f2 8; rw [show (((8 : Nat) : Int)) = 8 from rfl, HA2.out] at this; exact this
      obtain ⟨⟨q4, f4, x3⟩, HA3⟩ : ∃ X, Hid (numF s q3 f3 8 = X) := ⟨_, rfl⟩
      rw [HA3.out] at HD1
      simp only at HD1
      have hx3 : x3 < 18446744073709551616 := by have := numF_lt s q3 f3 8; rw [show (((8 : Nat) : Int)) = 8 from rfl, HA3.out] at this; exact this
      have HN0 : Hid (Calls Tryz.prog 31 #[.pointer (some ⟨b, 0, none⟩), .int .i64 4] wr fun x w' => x = .returned (.int .u64 x0) ∧ IsReader w' b s q1 f1 ∧ Only b wr w') := by
        have := number_any HR0.out 4
        rw [HA0.out] at this
        exact this
      go_wp2_with fail
      refine HN0.out.mono ?_
      rintro x wa0 ⟨rfl, ha0, oa0⟩
      have HROWa0 := hidr (HROW0.out.only oa0 hz0 (by omega))
      have hck0 := (HROWa0.out (k * 4) (by omega)).1
      have hfk0 := (HROWa0.out (k * 4) (by omega)).2
      obtain ⟨wb0, HW1⟩ : ∃ y, Hid (y = wa0.setCell ⟨w1.heap.size, k * 4, none⟩ (.int .i64 (x0 : Int))) := ⟨_, rfl⟩
      have HR1 : Hid (IsReader wb0 b s q1 f1) := by show IsReader _ _ _ _ _; rw [HW1.out]; exact ha0.setOther (by omega) _
      have HROW1 : Hid (RowV wb0 w1.heap.size (n * 4) (fun j => if j = k * 4 then .int .i64 (x0 : Int) else cellT L j)) := by show RowV _ _ _ _; rw [HW1.out]; exact HROWa0.out.set (by omega) _
      have HO1 : Hid (Only b w wb0) := by show Only _ _ _; rw [HW1.out]; exact (HO0.out.trans oa0).setNew (by omega) _ _
      have hz1 : w1.heap.size < wb0.heap.size := by rw [HW1.out]; have := oa0.size; simp; omega
      have HN1 : Hid (Calls Tryz.prog 31 #[.pointer (some ⟨b, 0, none⟩), .int .i64 1] wb0 fun x w' => x = .returned (.int .u64 x1) ∧ IsReader w' b s q2 f2 ∧ Only b wb0 w') := by
        have := number_any HR1.out 1
        rw [HA1.out] at this
        exact this
      go_wp2_with fail
      rw [← HW1.out]
      clear HW1 hck0 hfk0 HROWa0 ha0 oa0 HROW0 HR0 HO0 HN0 hz0
      refine HN1.out.mono ?_
      rintro x wa1 ⟨rfl, ha1, oa1⟩
      have HROWa1 := hidr (HROW1.out.only oa1 hz1 (by omega))
      have hck1 := (HROWa1.out (k * 4 + 1) (by omega)).1
      have hfk1 := (HROWa1.out (k * 4 + 1) (by omega)).2
      obtain ⟨wb1, HW2⟩ : ∃ y, Hid (y = wa1.setCell ⟨w1.heap.size, k * 4 + 1, none⟩ (.int .i64 (x1 : Int))) := ⟨_, rfl⟩
      have HR2 : Hid (IsReader wb1 b s q2 f2) := by show IsReader _ _ _ _ _; rw [HW2.out]; exact ha1.setOther (by omega) _
      have HROW2 : Hid (RowV wb1 w1.heap.size (n * 4) (fun j => if j = k * 4 + 1 then .int .i64 (x1 : Int) else if j = k * 4 then .int .i64 (x0 : Int) else cellT L j)) := by show RowV _ _ _ _; rw [HW2.out]; exact HROWa1.out.set (by omega) _
      have HO2 : Hid (Only b w wb1) := by show Only _ _ _; rw [HW2.out]; exact (HO1.out.trans oa1).setNew (by omega) _ _
      have hz2 : w1.heap.size < wb1.heap.size := by rw [HW2.out]; have := oa1.size; simp; omega
      have HN2 : Hid (Calls Tryz.prog 31 #[.pointer (some ⟨b, 0, none⟩), .int .i64 8] wb1 fun x w' => x = .returned (.int .u64 x2) ∧ IsReader w' b s q3 f3 ∧ Only b wb1 w') := by
        have := number_any HR2.out 8
        rw [HA2.out] at this
        exact this
      go_wp2_with fail
      rw [← HW2.out]
      clear HW2 hck1 hfk1 HROWa1 ha1 oa1 HROW1 HR1 HO1 HN1 hz1
      refine HN2.out.mono ?_
      rintro x wa2 ⟨rfl, ha2, oa2⟩
      have HROWa2 := hidr (HROW2.out.only oa2 hz2 (by omega))
      have hck2 := (HROWa2.out (k * 4 + 2) (by omega)).1
      have hfk2 := (HROWa2.out (k * 4 + 2) (by omega)).2
      obtain ⟨wb2, HW3⟩ : ∃ y, Hid (y = wa2.setCell ⟨w1.heap.size, k * 4 + 2, none⟩ (.int .u64 (x2 : Int))) := ⟨_, rfl⟩
      have HR3 : Hid (IsReader wb2 b s q3 f3) := by show IsReader _ _ _ _ _; rw [HW3.out]; exact ha2.setOther (by omega) _
      have HROW3 : Hid (RowV wb2 w1.heap.size (n * 4) (fun j => if j = k * 4 + 2 then .int .u64 (x2 : Int) else if j = k * 4 + 1 then .int .i64 (x1 : Int) else if j = k * 4 then .int .i64 (x0 : Int) else cellT L j)) := by show RowV _ _ _ _; rw [HW3.out]; exact HROWa2.out.set (by omega) _
      have HO3 : Hid (Only b w wb2) := by show Only _ _ _; rw [HW3.out]; exact (HO2.out.trans oa2).setNew (by omega) _ _
      have hz3 : w1.heap.size < wb2.heap.size := by rw [HW3.out]; have := oa2.size; simp; omega
      have HN3 : Hid (Calls Tryz.prog 31 #[.pointer (some ⟨b, 0, none⟩), .int .i64 8] wb2 fun x w' => x = .returned (.int .u64 x3) ∧ IsReader w' b s q4 f4 ∧ Only b wb2 w') := by
        have := number_any HR3.out 8
        rw [HA3.out] at this
        exact this
      go_wp2_with fail
      rw [← HW3.out]
      clear HW3 hck2 hfk2 HROWa2 ha2 oa2 HROW2 HR2 HO2 HN2 hz2
      refine HN3.out.mono ?_
      rintro x wa3 ⟨rfl, ha3, oa3⟩
      have HROWa3 := hidr (HROW3.out.only oa3 hz3 (by omega))
      have hck3 := (HROWa3.out (k * 4 + 3) (by omega)).1
      have hfk3 := (HROWa3.out (k * 4 + 3) (by omega)).2
      have HO4 := hidr (HO3.out.trans oa3)
      have hz4 : w1.heap.size < wa3.heap.size := by have := oa3.size; omega
      clear HN3 HROW3 HO3 HR3
      go_wp2_with fail
      go_roundw
      case rel =>
        refine ⟨k + 1, by omega, by go_num, ?_, ?_, HO4.out.setNew (by omega) _ _, by simp; omega⟩
        · show IsReader _ _ _ _ _
          rw [HD1.out]
          exact ha3.setOther (by omega) _
        · show RowV _ _ _ _
          rw [HD1.out]
          refine (HROWa3.out.set (k := k * 4 + 3) (by omega) _).congr (fun j hj => ?_)
          rw [cellT_snoc, hlen]
      case measure => simp [intOf]; omega
    · obtain rfl : k = n := by omega
      go_wp2_with fail
      go_ret
      exact ⟨w1.heap.size, rfl, z1, hz0, HROW0.out, HR0.out, HO0.out⟩

end Go.Proofs.YtchjboijoebifaaGreat
