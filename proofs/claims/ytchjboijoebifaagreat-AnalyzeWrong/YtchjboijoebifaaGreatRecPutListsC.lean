/-
  The walks of rec.putTxs and rec.putDirty.
-/
import Derived.Test.YtchjboijoebifaaGreatRecPutsC
import Derived.Deep.Cut
set_option linter.unusedVariables false
set_option linter.unusedSimpArgs false
namespace Go.Proofs.YtchjboijoebifaaGreat
open Go.RowKit Go.Sort

def txL (t : TxV) : List UInt8 := putL t.1.toNat 4 ++ (putL t.2.1.toNat 1 ++ (putL t.2.2.1 8 ++ putL t.2.2.2 8))
def txsL (L : List TxV) : List UInt8 := putL L.length 2 ++ L.flatMap txL
def diL (t : DiV) : List UInt8 := putL t.1 4 ++ putL t.2 8
def disL (L : List DiV) : List UInt8 := putL L.length 2 ++ L.flatMap diL

theorem flat_len {α : Type} (f : α → List UInt8) (m : Nat) (hf : ∀ t, (f t).length ≤ m) : ∀ (L : List α), (L.flatMap f).length ≤ m * L.length
  | [] => by simp
  | t :: L => by
    have := flat_len f m hf L
    have h2 := hf t
    rw [List.flatMap_cons, List.length_append, List.length_cons, Nat.mul_add]
    omega
theorem txL_len (L : List TxV) (k : Nat) : ((L.take k).flatMap txL).length ≤ 21 * k := by
  have := flat_len txL 21 (fun t => by simp [txL, putL_length]) (L.take k)
  have h2 : (L.take k).length ≤ k := List.length_take_le _ _
  omega
theorem diL_len (L : List DiV) (k : Nat) : ((L.take k).flatMap diL).length ≤ 21 * k := by
  have := flat_len diL 12 (fun t => by simp [diL, putL_length]) (L.take k)
  have h2 : (L.take k).length ≤ k := List.length_take_le _ _
  omega

set_option maxHeartbeats 1600000 in
set_option maxRecDepth 8000 in
theorem putTxs_any (L : List TxV) (la : Option Addr) (lc : Nat) {w : World} {b : Nat} {l : List UInt8} {a : Option Addr} {c : Nat} (h : IsWriter w b l a c) (hL : TxsAt w la L) (hb : ∀ x, la = some x → L ≠ [] → x.block < b) (hm : ∀ i (hi : i < L.length), (0 ≤ L[i].1 ∧ L[i].1 ≤ 2147483647) ∧ (0 ≤ L[i].2.1 ∧ L[i].2.1 ≤ 3) ∧ L[i].2.2.1 < 18446744073709551616 ∧ L[i].2.2.2 < 18446744073709551616) (hn : L.length ≤ 256) (hl : l.length + 400000 ≤ 140737488355328) :
    Calls Tryz.prog 46 #[.pointer (some ⟨b, 0, none⟩), .slice la L.length lc] w fun e w' => e = .returned (.tuple #[]) ∧ (∃ a' c', IsWriter w' b (l ++ txsL L) a' c') ∧ Below b w w' ∧ WSafe b w w' := by
  have hblt := h.lt
  have HI0 := hidr h
  have HLL := hidr hL
  have HBB := hidr hb
  have HMM := hidr hm
  clear h hL hb hm
  have q0 : IntKind.u64.wrap (L.length : Int) = (L.length : Int) := by rw [IntKind.wrap_u64]; omega
  go_enter Tryz.func46, Tryz.ntmps46
  go_wp2_with fail
  refine (wnumber_s HI0.out L.length 2 (by omega) (by omega)).mono ?_
  rintro e y1 ⟨rfl, ⟨a1, c1, hw1⟩, b1, s1⟩
  have HI1 : Hid (IsWriter y1 b (l ++ (putL L.length 2 ++ ((L.take 0).flatMap txL))) a1 c1) := by show IsWriter _ _ _ _ _; simpa [long2] using hw1
  have HB1 := hidr b1
  have HS1 := hidr s1
  clear hw1 b1 s1 HI0
  go_wp2_with fail
  go_loopw [13] (fun x wr => ∃ (k : Nat) (ar : Option Addr) (cr : Nat), x = .int .i64 k ∧ k ≤ L.length ∧ Hid (IsWriter wr b (l ++ (putL L.length 2 ++ ((L.take k).flatMap txL))) ar cr) ∧ Hid (Below b w wr) ∧ Hid (WSafe b w wr)) (fun x _ => L.length - (intOf x).toNat)
  case atStart => exact ⟨0, a1, c1, rfl, Nat.zero_le _, HI1, HB1, HS1⟩
  case round =>
    obtain ⟨k, ar, cr, rfl, hk, HI, HB, HS⟩ := hrel
    clear HI1 HB1 HS1
    by_cases hlt : k < L.length
    · have d1 : decide ((k : Int) < (L.length : Int)) = true := by simp; omega
      have i1 : (0 : Int) ≤ (k : Int) := by omega
      have i2 : (k : Int) < (L.length : Int) := by omega
      obtain ⟨b1, o1, rfl, g1⟩ : ∃ b1 o1, la = some ⟨b1, o1, none⟩ ∧ TxAt wr b1 (o1 + k * 4) L[k] := by
        rcases HLL.out with h | ⟨b1, o1, e, hb, h⟩
        · rw [h] at hlt; simp at hlt
        · have hne : L ≠ [] := fun e' => by rw [e'] at hlt; simp at hlt
          exact ⟨b1, o1, e, (h k hlt).same (HB.out.block b1 (HBB.out _ e hne))⟩
      have hlen : ((L.take k).flatMap txL).length ≤ 21 * k := txL_len L k
      have HT1 : Hid ((L.take (k + 1)).flatMap txL = (L.take k).flatMap txL ++ txL L[k]) := by
        show _ = _
        rw [List.take_succ_eq_append_getElem hlt, List.flatMap_append]
        simp
      have hmk := HMM.out k hlt
      generalize L[k] = t at *
      obtain ⟨t0, t1, t2, t3⟩ := t
      obtain ⟨p0, p1, p2, p3⟩ := g1
      simp only at p0 p1 p2 p3
      simp only at hmk
      obtain ⟨hm1, hm2, hm3, hm4⟩ := hmk
      obtain ⟨m0, rfl⟩ := Int.eq_ofNat_of_zero_le hm1.1
      obtain ⟨m1, rfl⟩ := Int.eq_ofNat_of_zero_le hm2.1
      have hm1' : m0 ≤ 2147483647 := by omega
      have hm2' : m1 ≤ 3 := by omega
      clear hm1 hm2
      have hbz : b < wr.heap.size := HI.out.lt
      have hne : wr.heap.size ≠ b := by omega
      obtain ⟨Z0, HZ⟩ : ∃ Z0, Hid (Z0 = wr.alloc (.cells #[.int .i64 (m0 : Int), .int .i64 (m1 : Int), .int .u64 t2, .int .u64 t3] 44)) := ⟨_, rfl⟩
      have hbel : Below wr.heap.size wr Z0 := by rw [HZ.out]; exact (Below.refl _ _).alloc (Nat.le_refl _) _
      have HP0 : Hid (BlkR Z0 wr.heap.size #[.int .i64 (m0 : Int), .int .i64 (m1 : Int), .int .u64 t2, .int .u64 t3] 44) := by show BlkR _ _ _ _; rw [HZ.out]; exact heap_alloc_new wr _
      have HI0 := hidr (HI.out.below hbel)
      have HB0 : Hid (Below b w Z0) := HB.out.trans (hbel.mono (Nat.le_of_lt hbz))
      have HS0 : Hid (WSafe b w Z0) := HS.out.trans (WSafe.of_below hbel)
      clear hbel
      go_upto_region 4 with fail
      rw [show wr.alloc (.cells #[.int .i64 (m0 : Int), .int .i64 (m1 : Int), .int .u64 t2, .int .u64 t3] 44) = Z0 from HZ.out.symm]
      clear HZ HI HB HS
      have z1 : Z0.cell? ⟨wr.heap.size, 0, none⟩ = some (.int .i64 (m0 : Int)) := HP0.out.cell 0
      have q1 : IntKind.u64.wrap (m0 : Int) = (m0 : Int) := by rw [IntKind.wrap_u64]; omega
      go_wp2_with fail
      refine (wnumber_s HI0.out m0 4 (by omega) (by simp only [List.length_append, putL_length, long1, long2, long4, long8]; omega)).mono ?_
      rintro e y1 ⟨rfl, ⟨a1, c'1, hw1⟩, b1, s1⟩
      have HP1 : Hid (BlkR y1 wr.heap.size #[.int .i64 (m0 : Int), .int .i64 (m1 : Int), .int .u64 t2, .int .u64 t3] 44) := s1 _ _ _ hne (by decide) HP0.out
      have HB1 : Hid (Below b w y1) := HB0.out.trans b1
      have HS1 : Hid (WSafe b w y1) := HS0.out.trans s1
      have HI1 := hidr hw1
      clear HP0 HB0 HS0 HI0 hw1 b1 s1 z1
      have z2 : y1.cell? ⟨wr.heap.size, 1, none⟩ = some (.int .i64 (m1 : Int)) := HP1.out.cell 1
      have q2 : IntKind.u64.wrap (m1 : Int) = (m1 : Int) := by rw [IntKind.wrap_u64]; omega
      go_wp2_with fail
      refine (wnumber_s HI1.out m1 1 (by omega) (by simp only [List.length_append, putL_length, long1, long2, long4, long8]; omega)).mono ?_
      rintro e y2 ⟨rfl, ⟨a2, c'2, hw2⟩, b2, s2⟩
      have HP2 : Hid (BlkR y2 wr.heap.size #[.int .i64 (m0 : Int), .int .i64 (m1 : Int), .int .u64 t2, .int .u64 t3] 44) := s2 _ _ _ hne (by decide) HP1.out
      have HB2 : Hid (Below b w y2) := HB1.out.trans b2
      have HS2 : Hid (WSafe b w y2) := HS1.out.trans s2
      have HI2 := hidr hw2
      clear HP1 HB1 HS1 HI1 hw2 b2 s2 z2
      have z3 : y2.cell? ⟨wr.heap.size, 2, none⟩ = some (.int .u64 t2) := HP2.out.cell 2
      go_wp2_with fail
      refine (wnumber_s HI2.out t2 8 (by omega) (by simp only [List.length_append, putL_length, long1, long2, long4, long8]; omega)).mono ?_
      rintro e y3 ⟨rfl, ⟨a3, c'3, hw3⟩, b3, s3⟩
      have HP3 : Hid (BlkR y3 wr.heap.size #[.int .i64 (m0 : Int), .int .i64 (m1 : Int), .int .u64 t2, .int .u64 t3] 44) := s3 _ _ _ hne (by decide) HP2.out
      have HB3 : Hid (Below b w y3) := HB2.out.trans b3
      have HS3 : Hid (WSafe b w y3) := HS2.out.trans s3
      have HI3 := hidr hw3
      clear HP2 HB2 HS2 HI2 hw3 b3 s3 z3
      have z4 : y3.cell? ⟨wr.heap.size, 3, none⟩ = some (.int .u64 t3) := HP3.out.cell 3
      go_wp2_with fail
      refine (wnumber_s HI3.out t3 8 (by omega) (by simp only [List.length_append, putL_length, long1, long2, long4, long8]; omega)).mono ?_
      rintro e y4 ⟨rfl, ⟨a4, c'4, hw4⟩, b4, s4⟩
      have HP4 : Hid (BlkR y4 wr.heap.size #[.int .i64 (m0 : Int), .int .i64 (m1 : Int), .int .u64 t2, .int .u64 t3] 44) := s4 _ _ _ hne (by decide) HP3.out
      have HB4 : Hid (Below b w y4) := HB3.out.trans b4
      have HS4 : Hid (WSafe b w y4) := HS3.out.trans s4
      have HI4 := hidr hw4
      clear HP3 HB3 HS3 HI3 hw4 b4 s4 z4
      have HIX : Hid (IsWriter y4 b (l ++ (putL L.length 2 ++ (L.take (k + 1)).flatMap txL)) a4 c'4) := by
        have := HI4.out
        show IsWriter _ _ _ _ _
        rw [HT1.out]
        simp only [List.append_assoc, long1, long2, long4, long8] at this ⊢
        exact this
      clear HT1
      go_wp2_with fail
      go_roundw
      case rel => exact ⟨k + 1, a4, c'4, by go_num, by omega, HIX, HB4, HS4⟩
      case measure => simp [intOf]; omega
    · have d1 : decide ((k : Int) < (L.length : Int)) = false := by simp; omega
      obtain rfl : k = L.length := by omega
      go_wp2_with fail
      go_end0
      refine ⟨rfl, ⟨ar, cr, ?_⟩, HB.out, HS.out⟩
      have := HI.out
      rw [List.take_length] at this
      exact this

set_option maxHeartbeats 1600000 in
set_option maxRecDepth 8000 in
theorem putDirty_any (L : List DiV) (la : Option Addr) (lc : Nat) {w : World} {b : Nat} {l : List UInt8} {a : Option Addr} {c : Nat} (h : IsWriter w b l a c) (hL : DisAt w la L) (hb : ∀ x, la = some x → L ≠ [] → x.block < b) (hm : ∀ i (hi : i < L.length), L[i].1 < 4294967296 ∧ L[i].2 < 18446744073709551616) (hn : L.length ≤ 256) (hl : l.length + 400000 ≤ 140737488355328) :
    Calls Tryz.prog 47 #[.pointer (some ⟨b, 0, none⟩), .slice la L.length lc] w fun e w' => e = .returned (.tuple #[]) ∧ (∃ a' c', IsWriter w' b (l ++ disL L) a' c') ∧ Below b w w' ∧ WSafe b w w' := by
  have hblt := h.lt
  have HI0 := hidr h
  have HLL := hidr hL
  have HBB := hidr hb
  have HMM := hidr hm
  clear h hL hb hm
  have q0 : IntKind.u64.wrap (L.length : Int) = (L.length : Int) := by rw [IntKind.wrap_u64]; omega
  go_enter Tryz.func47, Tryz.ntmps47
  go_wp2_with fail
  refine (wnumber_s HI0.out L.length 2 (by omega) (by omega)).mono ?_
  rintro e y1 ⟨rfl, ⟨a1, c1, hw1⟩, b1, s1⟩
  have HI1 : Hid (IsWriter y1 b (l ++ (putL L.length 2 ++ ((L.take 0).flatMap diL))) a1 c1) := by show IsWriter _ _ _ _ _; simpa [long2] using hw1
  have HB1 := hidr b1
  have HS1 := hidr s1
  clear hw1 b1 s1 HI0
  go_wp2_with fail
  go_loopw [13] (fun x wr => ∃ (k : Nat) (ar : Option Addr) (cr : Nat), x = .int .i64 k ∧ k ≤ L.length ∧ Hid (IsWriter wr b (l ++ (putL L.length 2 ++ ((L.take k).flatMap diL))) ar cr) ∧ Hid (Below b w wr) ∧ Hid (WSafe b w wr)) (fun x _ => L.length - (intOf x).toNat)
  case atStart => exact ⟨0, a1, c1, rfl, Nat.zero_le _, HI1, HB1, HS1⟩
  case round =>
    obtain ⟨k, ar, cr, rfl, hk, HI, HB, HS⟩ := hrel
    clear HI1 HB1 HS1
    by_cases hlt : k < L.length
    · have d1 : decide ((k : Int) < (L.length : Int)) = true := by simp; omega
      have i1 : (0 : Int) ≤ (k : Int) := by omega
      have i2 : (k : Int) < (L.length : Int) := by omega
      obtain ⟨b1, o1, rfl, g1⟩ : ∃ b1 o1, la = some ⟨b1, o1, none⟩ ∧ DiAt wr b1 (o1 + k * 2) L[k] := by
        rcases HLL.out with h | ⟨b1, o1, e, hb, h⟩
        · rw [h] at hlt; simp at hlt
        · have hne : L ≠ [] := fun e' => by rw [e'] at hlt; simp at hlt
          exact ⟨b1, o1, e, (h k hlt).same (HB.out.block b1 (HBB.out _ e hne))⟩
      have hlen : ((L.take k).flatMap diL).length ≤ 21 * k := diL_len L k
      have HT1 : Hid ((L.take (k + 1)).flatMap diL = (L.take k).flatMap diL ++ diL L[k]) := by
        show _ = _
        rw [List.take_succ_eq_append_getElem hlt, List.flatMap_append]
        simp
      have hmk := HMM.out k hlt
      generalize L[k] = t at *
      obtain ⟨t0, t1⟩ := t
      obtain ⟨p0, p1⟩ := g1
      simp only at p0 p1
      simp only at hmk
      obtain ⟨hm1, hm2⟩ := hmk
      have hbz : b < wr.heap.size := HI.out.lt
      have hne : wr.heap.size ≠ b := by omega
      obtain ⟨Z0, HZ⟩ : ∃ Z0, Hid (Z0 = wr.alloc (.cells #[.int .u32 t0, .int .u64 t1] 50)) := ⟨_, rfl⟩
      have hbel : Below wr.heap.size wr Z0 := by rw [HZ.out]; exact (Below.refl _ _).alloc (Nat.le_refl _) _
      have HP0 : Hid (BlkR Z0 wr.heap.size #[.int .u32 t0, .int .u64 t1] 50) := by show BlkR _ _ _ _; rw [HZ.out]; exact heap_alloc_new wr _
      have HI0 := hidr (HI.out.below hbel)
      have HB0 : Hid (Below b w Z0) := HB.out.trans (hbel.mono (Nat.le_of_lt hbz))
      have HS0 : Hid (WSafe b w Z0) := HS.out.trans (WSafe.of_below hbel)
      clear hbel
      go_upto_region 4 with fail
      rw [show wr.alloc (.cells #[.int .u32 t0, .int .u64 t1] 50) = Z0 from HZ.out.symm]
      clear HZ HI HB HS
      have z1 : Z0.cell? ⟨wr.heap.size, 0, none⟩ = some (.int .u32 t0) := HP0.out.cell 0
      have q1 : IntKind.u64.wrap (t0 : Int) = (t0 : Int) := by rw [IntKind.wrap_u64]; omega
      go_wp2_with fail
      refine (wnumber_s HI0.out t0 4 (by omega) (by simp only [List.length_append, putL_length, long1, long2, long4, long8]; omega)).mono ?_
      rintro e y1 ⟨rfl, ⟨a1, c'1, hw1⟩, b1, s1⟩
      have HP1 : Hid (BlkR y1 wr.heap.size #[.int .u32 t0, .int .u64 t1] 50) := s1 _ _ _ hne (by decide) HP0.out
      have HB1 : Hid (Below b w y1) := HB0.out.trans b1
      have HS1 : Hid (WSafe b w y1) := HS0.out.trans s1
      have HI1 := hidr hw1
      clear HP0 HB0 HS0 HI0 hw1 b1 s1 z1
      have z2 : y1.cell? ⟨wr.heap.size, 1, none⟩ = some (.int .u64 t1) := HP1.out.cell 1
      go_wp2_with fail
      refine (wnumber_s HI1.out t1 8 (by omega) (by simp only [List.length_append, putL_length, long1, long2, long4, long8]; omega)).mono ?_
      rintro e y2 ⟨rfl, ⟨a2, c'2, hw2⟩, b2, s2⟩
      have HP2 : Hid (BlkR y2 wr.heap.size #[.int .u32 t0, .int .u64 t1] 50) := s2 _ _ _ hne (by decide) HP1.out
      have HB2 : Hid (Below b w y2) := HB1.out.trans b2
      have HS2 : Hid (WSafe b w y2) := HS1.out.trans s2
      have HI2 := hidr hw2
      clear HP1 HB1 HS1 HI1 hw2 b2 s2 z2
      have HIX : Hid (IsWriter y2 b (l ++ (putL L.length 2 ++ (L.take (k + 1)).flatMap diL)) a2 c'2) := by
        have := HI2.out
        show IsWriter _ _ _ _ _
        rw [HT1.out]
        simp only [List.append_assoc, long1, long2, long4, long8] at this ⊢
        exact this
      clear HT1
      go_wp2_with fail
      go_roundw
      case rel => exact ⟨k + 1, a2, c'2, by go_num, by omega, HIX, HB2, HS2⟩
      case measure => simp [intOf]; omega
    · have d1 : decide ((k : Int) < (L.length : Int)) = false := by simp; omega
      obtain rfl : k = L.length := by omega
      go_wp2_with fail
      go_end0
      refine ⟨rfl, ⟨ar, cr, ?_⟩, HB.out, HS.out⟩
      have := HI.out
      rw [List.take_length] at this
      exact this

end Go.Proofs.YtchjboijoebifaaGreat
