/-
  The walk of rec.takeDirty.
-/
import Derived.Test.YtchjboijoebifaaGreatRecTakeJ
set_option linter.unusedVariables false
set_option linter.unusedSimpArgs false
namespace Go.Proofs.YtchjboijoebifaaGreat
open Go.RowKit Go.Sort

theorem infoDiA : (Tryz.prog.info? 50).map (fun i => (i.zero, i.size, i.bytes)) = some (some (.agg #[.int .u32 0, .int .u64 0]), 2, 16) := by kernel_rfl

theorem make_rows {P : Program} (t e : TypeId) (cs : Array Value) (size bytes : Nat) (ht : P.underlying t = some (.slice e)) (hinfo : (P.info? e).map (fun i => (i.zero, i.size, i.bytes)) = some (some (.agg cs), size, bytes))
    (kl kc : IntKind) (n : Nat) (hbytes : bytes * n ≤ 281474976710656) (h63 : n ≤ 9223372036854775807) (w : World) :
    (Instr.makeSlice t (.int kl (n : Int)) (.int kc (n : Int))).run P w = .ok (.slice (some ⟨w.heap.size, 0, none⟩) n n) (w.alloc (.cells (madeCells cs (n * size)) e)) := by
  obtain ⟨i, hi, hzz⟩ := Option.map_eq_some_iff.1 hinfo
  simp only [Prod.mk.injEq] at hzz
  obtain ⟨hz, hs, hb⟩ := hzz
  have hb' : (i.bytes : Int) * (n : Int) ≤ 281474976710656 := by
    have h : ((i.bytes * n : Nat) : Int) ≤ 281474976710656 := by rw [hb]; omega
    rwa [Int.natCast_mul] at h
  have hr := run_make (P := P) w t e i (.agg cs) ht hi hz kl kc n n (by omega) (Int.le_refl _) hb' (by omega)
  simp only [Int.toNat_natCast, hs] at hr
  exact hr

theorem rowV_made2 (w : World) (z : Array Value) (hz : 0 < z.size) (N : Nat) (t : TypeId) : RowV (w.alloc (.cells (madeCells z N) t)) w.heap.size N (fun j => z[j % z.size]!) := by
  intro j hj
  have hb : BlkR (w.alloc (.cells (madeCells z N) t)) w.heap.size (madeCells z N) t := heap_alloc_new w _
  refine ⟨?_, hb.frozen j⟩
  rw [hb.cell j]
  simp [madeCells, hj]

def dirK (s : ByteArray) (p : Nat) (e : Int) : Nat → Nat × Int × List DiV
  | 0 => (p, e, [])
  | k + 1 =>
    ((numF s (numF s (dirK s p e k).1 (dirK s p e k).2.1 4).1 (numF s (dirK s p e k).1 (dirK s p e k).2.1 4).2.1 8).1,
     (numF s (numF s (dirK s p e k).1 (dirK s p e k).2.1 4).1 (numF s (dirK s p e k).1 (dirK s p e k).2.1 4).2.1 8).2.1,
     (dirK s p e k).2.2 ++ [((numF s (dirK s p e k).1 (dirK s p e k).2.1 4).2.2, (numF s (numF s (dirK s p e k).1 (dirK s p e k).2.1 4).1 (numF s (dirK s p e k).1 (dirK s p e k).2.1 4).2.1 8).2.2)])

theorem dirK_length (s : ByteArray) (p : Nat) (e : Int) : ∀ k, (dirK s p e k).2.2.length = k
  | 0 => rfl
  | k + 1 => by simp [dirK, dirK_length s p e k]

def cellD (L : List DiV) (j : Nat) : Value := if j % 2 = 0 then .int .u32 ((L[j / 2]?.getD (0, 0)).1 : Nat) else .int .u64 ((L[j / 2]?.getD (0, 0)).2 : Nat)

theorem cellD_nil (j : Nat) : cellD [] j = #[Value.int .u32 0, .int .u64 0][j % 2]! := by
  unfold cellD
  have : j % 2 = 0 ∨ j % 2 = 1 := by omega
  rcases this with h | h <;> simp [h]

theorem cellD_snoc (L : List DiV) (x y : Nat) (j : Nat) : cellD (L ++ [(x, y)]) j = if j = L.length * 2 + 1 then .int .u64 y else if j = L.length * 2 then .int .u32 x else cellD L j := by
  unfold cellD
  by_cases h1 : j = L.length * 2 + 1
  · subst h1
    rw [if_pos rfl, if_neg (by omega), show (L.length * 2 + 1) / 2 = L.length by omega]; simp
  · rw [if_neg h1]
    by_cases h2 : j = L.length * 2
    · subst h2
      rw [if_pos rfl, if_pos (by omega), show (L.length * 2) / 2 = L.length by omega]; simp
    · rw [if_neg h2]
      have h3 : j / 2 ≠ L.length := by omega
      rw [show (L ++ [(x, y)])[j / 2]? = L[j / 2]? by
        by_cases h4 : j / 2 < L.length
        · rw [List.getElem?_append_left h4]
        · rw [List.getElem?_eq_none (by simp; omega), List.getElem?_eq_none (by omega)]]

set_option maxHeartbeats 1600000 in
set_option maxRecDepth 8000 in
theorem takeDirty_any {w : World} {b : Nat} {s : ByteArray} {p : Nat} {e : Int} (h : IsReader w b s p e) {p0 n : Nat} {e0 : Int} (h0 : countF s p e 256 = (p0, e0, n)) (hn : n ≤ 256) :
    Calls Tryz.prog 39 #[.pointer (some ⟨b, 0, none⟩)] w fun x w' => ∃ bs, x = .returned (.slice (some ⟨bs, 0, none⟩) n n) ∧ w.heap.size ≤ bs ∧ bs < w'.heap.size ∧ RowV w' bs (n * 2) (cellD (dirK s p0 e0 n).2.2) ∧ IsReader w' b s (dirK s p0 e0 n).1 (dirK s p0 e0 n).2.1 ∧ Only b w w' := by
  have HC : Hid (Calls Tryz.prog 80 #[.pointer (some ⟨b, 0, none⟩), .int .i64 256] w fun x w' => x = .returned (.int .i64 n) ∧ IsReader w' b s p0 e0 ∧ Only b w w') := by
    have := rcount_any h 256
    rw [h0] at this
    exact this
  have hlt := h.lt
  clear h h0
  have hmk := make_rows (P := Tryz.prog) 29 50 #[.int .u32 0, .int .u64 0] 2 16 Tryz.underlying29 infoDiA .i64 .i64 n (by omega) (by omega)
  go_enter Tryz.func39, Tryz.ntmps39
  go_wp2_with fail
  refine HC.out.mono ?_
  rintro x w1 ⟨rfl, h1, o1⟩
  have z1 := o1.size
  go_wp2_with fail
  go_loopw [10] (fun i wr => ∃ k : Nat, k ≤ n ∧ i = .int .i64 k ∧ Hid (IsReader wr b s (dirK s p0 e0 k).1 (dirK s p0 e0 k).2.1) ∧ Hid (RowV wr w1.heap.size (n * 2) (cellD (dirK s p0 e0 k).2.2)) ∧ Hid (Only b w wr) ∧ w1.heap.size < wr.heap.size) (fun i _ => n - (intOf i).toNat)
  case atStart =>
    exact ⟨0, by omega, rfl, h1.alloc _, (rowV_made2 w1 #[.int .u32 0, .int .u64 0] (by simp) (n * 2) _).congr (fun j _ => (cellD_nil j).symm), o1.trans (Only.of_below ((Below.refl _ _).alloc (Nat.le_refl _) _)), by simp⟩
  case round =>
    obtain ⟨k, hk, rfl, HR, HROW, HO, hz⟩ := hrel
    by_cases hlt' : k < n
    · have hlen := dirK_length s p0 e0 k
      obtain ⟨D, HD⟩ : ∃ D, Hid (D = dirK s p0 e0 k) := ⟨_, rfl⟩
      have HD1 : Hid (dirK s p0 e0 (k + 1) = ((numF s (numF s D.1 D.2.1 4).1 (numF s D.1 D.2.1 4).2.1 8).1, (numF s (numF s D.1 D.2.1 4).1 (numF s D.1 D.2.1 4).2.1 8).2.1, D.2.2 ++ [((numF s D.1 D.2.1 4).2.2, (numF s (numF s D.1 D.2.1 4).1 (numF s D.1 D.2.1 4).2.1 8).2.2)])) := by show _ = _; rw [HD.out]; rfl
      rw [← HD.out] at HR HROW hlen
      clear HD
      obtain ⟨q, f, L⟩ := D
      simp only at HR HROW hlen HD1
      obtain ⟨⟨q1, f1, x1⟩, HA⟩ : ∃ X, Hid (numF s q f 4 = X) := ⟨_, rfl⟩
      rw [HA.out] at HD1
      simp only at HD1
      obtain ⟨⟨q2, f2, x2⟩, HB⟩ : ∃ X, Hid (numF s q1 f1 8 = X) := ⟨_, rfl⟩
      rw [HB.out] at HD1
      simp only at HD1
      have hx1 : x1 < 4294967296 := by have := numF_lt s q f 4; rw [show (((4 : Nat) : Int)) = 4 from rfl, HA.out] at this; exact this
      have w1q : IntKind.u32.wrap (x1 : Int) = (x1 : Int) := by rw [IntKind.wrap_u32]; omega
      have HN : Hid (Calls Tryz.prog 31 #[.pointer (some ⟨b, 0, none⟩), .int .i64 4] wr fun x w' => x = .returned (.int .u64 x1) ∧ IsReader w' b s q1 f1 ∧ Only b wr w') := by
        have := number_any HR.out 4
        rw [HA.out] at this
        exact this
      go_wp2_with fail
      refine HN.out.mono ?_
      rintro x w2 ⟨rfl, h2, o2⟩
      have HROW2 := hidr (HROW.out.only o2 hz (by omega))
      have hck := (HROW2.out (k * 2) (by omega)).1
      have hfk := (HROW2.out (k * 2) (by omega)).2
      obtain ⟨w3, HW3⟩ : ∃ y, Hid (y = w2.setCell ⟨w1.heap.size, k * 2, none⟩ (.int .u32 (x1 : Int))) := ⟨_, rfl⟩
      have HR3 : Hid (IsReader w3 b s q1 f1) := by show IsReader _ _ _ _ _; rw [HW3.out]; exact h2.setOther (by omega) _
      have HROW3 : Hid (RowV w3 w1.heap.size (n * 2) (fun j => if j = k * 2 then .int .u32 (x1 : Int) else cellD L j)) := by show RowV _ _ _ _; rw [HW3.out]; exact HROW2.out.set (by omega) _
      have HO3 : Hid (Only b w w3) := by show Only _ _ _; rw [HW3.out]; exact (HO.out.trans o2).setNew (by omega) _ _
      have hz3 : w1.heap.size < w3.heap.size := by rw [HW3.out]; have := o2.size; simp; omega
      have HN2 : Hid (Calls Tryz.prog 31 #[.pointer (some ⟨b, 0, none⟩), .int .i64 8] w3 fun x w' => x = .returned (.int .u64 x2) ∧ IsReader w' b s q2 f2 ∧ Only b w3 w') := by
        have := number_any HR3.out 8
        rw [HB.out] at this
        exact this
      go_wp2_with fail
      rw [← HW3.out]
      clear HW3 hck hfk HROW2 h2 o2 HROW HR HO HN hz
      refine HN2.out.mono ?_
      rintro x w4 ⟨rfl, h4, o4⟩
      have HROW4 := hidr (HROW3.out.only o4 hz3 (by omega))
      have hck := (HROW4.out (k * 2 + 1) (by omega)).1
      have hfk := (HROW4.out (k * 2 + 1) (by omega)).2
      have HO4 := hidr (HO3.out.trans o4)
      have hz4 : w1.heap.size < w4.heap.size := by have := o4.size; omega
      have hck : w4.cell? ⟨w1.heap.size, k * 2 + 1, none⟩ = some (cellD L (k * 2 + 1)) := by rw [hck]; show some (if k * 2 + 1 = k * 2 then _ else _) = _; rw [if_neg (by omega)]
      clear HN2 HROW3 HO3 HR3
      go_wp2_with fail
      go_roundw
      case rel =>
        refine ⟨k + 1, by omega, by go_num, ?_, ?_, HO4.out.setNew (by omega) _ _, by simp; omega⟩
        · show IsReader _ _ _ _ _
          rw [HD1.out]
          exact h4.setOther (by omega) _
        · show RowV _ _ _ _
          rw [HD1.out]
          refine (HROW4.out.set (k := k * 2 + 1) (by omega) _).congr (fun j hj => ?_)
          rw [cellD_snoc, hlen]
      case measure => simp [intOf]; omega
    · obtain rfl : k = n := by omega
      go_wp2_with fail
      go_ret
      exact ⟨w1.heap.size, rfl, z1, hz, HROW.out, HR.out, HO.out⟩

end Go.Proofs.YtchjboijoebifaaGreat
