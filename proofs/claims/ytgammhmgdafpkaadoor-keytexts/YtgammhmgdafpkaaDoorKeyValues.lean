/-
  The walk of key.Values.
-/
import Derived.Test.YtgammhmgdafpkaaDoorKeyTake
namespace Go.Proofs.YtgammhmgdafpkaaDoor
open Go.RowKit Go.Sort
set_option linter.unusedVariables false
set_option linter.unusedSimpArgs false

/-- What k takes take: the place, the error, the values. -/
def takesK (s : ByteArray) (p : Nat) (e : Int) : Nat → Nat × Int × List ValV
  | 0 => (p, e, [])
  | k + 1 => ((takeF s (takesK s p e k).1 (takesK s p e k).2.1).1, (takeF s (takesK s p e k).1 (takesK s p e k).2.1).2.1, (takesK s p e k).2.2 ++ [(takeF s (takesK s p e k).1 (takesK s p e k).2.1).2.2])

theorem takesK_length (s : ByteArray) (p : Nat) (e : Int) : ∀ k, (takesK s p e k).2.2.length = k
  | 0 => rfl
  | k + 1 => by simp [takesK, takesK_length s p e k]

/-- All that is read of a row's bytes: the place, the error, the values. -/
def readV (s : ByteArray) : Nat × Int × List ValV := takesK s (numF s 0 0 1).1 (numF s 0 0 1).2.1 (numF s 0 0 1).2.2

/-- Are these a row's bytes? -/
def valsB (s : ByteArray) : Bool := decide (endE s (readV s).1 (readV s).2.1 = 0) && decide (rowE (readV s).2.2 = 0)

/-- The error of Values. -/
def valsE (s : ByteArray) : Int := if valsB s = true then 0 else 6

/-- The values of Values. -/
def valsL (s : ByteArray) : List ValV := if valsB s = true then (readV s).2.2 else []

theorem infoVal : (Tryd.prog.info? 35).map (fun i => (i.zero, i.size, i.bytes)) = some (some (.agg #[.int .i64 0, .int .i64 0, .string ⟨#[]⟩]), 3, 32) := by kernel_rfl

theorem takeF_size (s : ByteArray) (p : Nat) (e : Int) : (takeF s p e).2.2.S.size ≤ s.size := by
  have hb : ∀ q f n, (bytesF s q f n).2.2.length ≤ s.size := by
    intro q f n
    unfold bytesF
    repeat' split
    all_goals first
      | (simp; done)
      | (unfold part; rw [List.length_take, List.length_drop]; simp; omega)
  unfold takeF
  split
  · exact Nat.zero_le _
  · split
    · have := hb (numF s (numF s p e 1).1 (numF s p e 1).2.1 1).1 (numF s (numF s p e 1).1 (numF s p e 1).2.1 1).2.1 (numF s (numF s p e 1).1 (numF s p e 1).2.1 1).2.2
      show (ByteArray.mk _).size ≤ _
      rw [bytes_size]; exact this
    · exact Nat.zero_le _

theorem takesK_size (s : ByteArray) (p : Nat) (e : Int) : ∀ k, ∀ v ∈ (takesK s p e k).2.2, v.S.size ≤ s.size
  | 0 => by intro v hv; simp [takesK] at hv
  | k + 1 => by
    intro v hv
    simp only [takesK, List.mem_append, List.mem_singleton] at hv
    rcases hv with hv | rfl
    · exact takesK_size s p e k v hv
    · exact takeF_size _ _ _

set_option maxHeartbeats 3200000 in
theorem values_any (s : ByteArray) (w : World) (hs : s.size ≤ 281474976710656) :
    Calls Tryd.prog 32 #[.string s] w fun x w' =>
      ∃ a c, x = .returned (.tuple #[.slice a (valsL s).length c, .int .i64 (valsE s)]) ∧ Hid (ValsAt w' a (valsL s)) ∧ Below w.heap.size w w' := by
  have HR : Hid (readV s = takesK s (numF s 0 0 1).1 (numF s 0 0 1).2.1 (numF s 0 0 1).2.2) := rfl
  have HN : Hid (∀ w1, IsReader w1 w.heap.size s 0 0 → Calls Tryd.prog 50 #[.pointer (some ⟨w.heap.size, 0, none⟩), .int .i64 1] w1 fun x w' => x = .returned (.int .u64 (numF s 0 0 1).2.2) ∧ IsReader w' w.heap.size s (numF s 0 0 1).1 (numF s 0 0 1).2.1 ∧ Only w.heap.size w1 w') := fun w1 h => number_any h 1
  have hn := knumF_lt s 0 0 1
  rw [show (((1 : Nat) : Int)) = 1 from rfl] at hn
  generalize numF s 0 0 1 = N at *
  obtain ⟨p0, e0, n⟩ := N
  simp only at HR HN hn
  have hn' : n < 256 := hn
  clear hn
  have hmk := kmake_rows (P := Tryd.prog) 22 35 #[.int .i64 0, .int .i64 0, .string ⟨#[]⟩] 3 32 Tryd.underlying22 infoVal .u64 .u64 n (by omega) (by omega)
  obtain ⟨E, HE⟩ : ∃ E, Hid (valsE s = E) := ⟨_, rfl⟩
  obtain ⟨M, HM⟩ : ∃ M, Hid (valsL s = M) := ⟨_, rfl⟩
  rw [HE.out, HM.out]
  go_enter Tryd.func32, Tryd.ntmps32
  go_wp2_with fail
  refine (new_reader s w).mono ?_
  rintro x w1 ⟨rfl, rfl⟩
  have h1 := reader_new hs (Below.refl (w.alloc (.cells #[.string s, .int .i64 0, .int .i64 0] 104)).heap.size (w.alloc (.cells #[.string s, .int .i64 0, .int .i64 0] 104)))
  have B1 : Below w.heap.size w (w.alloc (.cells #[.string s, .int .i64 0, .int .i64 0] 104)) := (Below.refl _ _).alloc (Nat.le_refl _) _
  have hz1 : (w.alloc (.cells #[.string s, .int .i64 0, .int .i64 0] 104)).heap.size = w.heap.size + 1 := by simp
  go_wp2_with fail
  refine (HN.out _ h1).mono ?_
  rintro x w2 ⟨rfl, h2, o2⟩
  have B2 := hidk (o2.below B1 (Nat.le_refl _) (Nat.le_refl _))
  have hz2 : w.heap.size < w2.heap.size := h2.lt
  clear HN h1 B1 hz1 o2
  go_wp2_with fail
  go_loopw [16] (fun i wr => ∃ k : Nat, k ≤ n ∧ i = .int .i64 k ∧ Hid (IsReader wr w.heap.size s (takesK s p0 e0 k).1 (takesK s p0 e0 k).2.1) ∧ Hid (KRow wr w2.heap.size (n * 3) (cellV (takesK s p0 e0 k).2.2)) ∧ Hid (Below w.heap.size w wr) ∧ w2.heap.size < wr.heap.size) (fun i _ => n - (intOf i).toNat)
  case atStart =>
    exact ⟨0, by omega, rfl, kReader_alloc h2 _, (kRow_made w2 #[.int .i64 0, .int .i64 0, .string ⟨#[]⟩] (by simp) (n * 3) _).congr (fun j _ => (cellV_nil j).symm), B2.out.alloc (by omega) _, by simp⟩
  case round =>
    obtain ⟨k, hk, rfl, HRd, HROW, HB, hz⟩ := hrel
    by_cases hlt' : k < n
    · have hlen := takesK_length s p0 e0 k
      obtain ⟨D, HD⟩ : ∃ D, Hid (D = takesK s p0 e0 k) := ⟨_, rfl⟩
      have HD1 : Hid (takesK s p0 e0 (k + 1) = ((takeF s D.1 D.2.1).1, (takeF s D.1 D.2.1).2.1, D.2.2 ++ [(takeF s D.1 D.2.1).2.2])) := by show _ = _; rw [HD.out]; rfl
      rw [← HD.out] at HRd HROW hlen
      clear HD
      obtain ⟨q, f, L⟩ := D
      simp only at HRd HROW hlen HD1
      obtain ⟨⟨q1, f1, v⟩, HA⟩ : ∃ X, Hid (takeF s q f = X) := ⟨_, rfl⟩
      rw [HA.out] at HD1
      simp only at HD1
      have HT : Hid (Calls Tryd.prog 51 #[.pointer (some ⟨w.heap.size, 0, none⟩)] wr fun x w' => x = .returned (.agg #[.int .i64 v.kind, .int .i64 v.n, .string v.S]) ∧ IsReader w' w.heap.size s q1 f1 ∧ Only w.heap.size wr w') := by
        have := take_any HRd.out
        rw [HA.out] at this
        exact this
      have hi0 : (0 : Int) ≤ (k : Int) := by omega
      have hi1 : (k : Int) < (n : Int) := by omega
      go_wp2_with fail
      refine HT.out.mono ?_
      rintro x w3 ⟨rfl, h3, o3⟩
      have HROW3 := HROW.out.only o3 hz (by omega)
      have c0 := (HROW3 (k * 3) (by omega)).1
      have c1 := (HROW3 (k * 3 + 1) (by omega)).1
      have c2 := (HROW3 (k * 3 + 2) (by omega)).1
      have f0 := (HROW3 (k * 3) (by omega)).2
      have f1' := (HROW3 (k * 3 + 1) (by omega)).2
      have f2 := (HROW3 (k * 3 + 2) (by omega)).2
      have HS3 := hidk (((HROW3.set (k := k * 3) (by omega) (.int .i64 v.kind)).set (k := k * 3 + 1) (by omega) (.int .i64 v.n)).set (k := k * 3 + 2) (by omega) (.string v.S))
      have HB3 := hidk (o3.below HB.out (Nat.le_refl _) (Nat.le_refl _))
      have hz3 : w2.heap.size < w3.heap.size := by have := o3.size; omega
      clear HROW HB HT HROW3 o3 HRd
      go_wp2_with fail
      go_roundw
      case rel =>
        refine ⟨k + 1, by omega, by go_num, ?_, ?_, ?_, by simpa using hz3⟩
        · show IsReader _ _ _ _ _
          rw [HD1.out]
          exact kReader_setOther (kReader_setOther (kReader_setOther h3 (by omega) _) (by omega) _) (by omega) _
        · show KRow _ _ _ _
          rw [HD1.out]
          refine HS3.out.congr (fun j _ => ?_)
          rw [cellV_snoc, hlen]
        · exact ((HB3.out.setCell (p := ⟨w2.heap.size, k * 3, none⟩) (by show w.heap.size ≤ w2.heap.size; omega) _).setCell (p := ⟨w2.heap.size, k * 3 + 1, none⟩) (by show w.heap.size ≤ w2.heap.size; omega) _).setCell (p := ⟨w2.heap.size, k * 3 + 2, none⟩) (by show w.heap.size ≤ w2.heap.size; omega) _
      case measure => simp [intOf]; omega
    · have hkn : k = n := by omega
      have hni : ¬ (k : Int) < (n : Int) := by omega
      subst hkn
      rw [← HR.out] at HRd HROW
      have hlen : (readV s).2.2.length = k := by rw [HR.out]; exact takesK_length s p0 e0 k
      have hSz : ∀ v ∈ (readV s).2.2, v.S.size ≤ 9223372036854775807 := by rw [HR.out]; intro v hv; have := takesK_size s p0 e0 k v hv; omega
      have HV : Hid (valsB s = (decide (endE s (readV s).1 (readV s).2.1 = 0) && decide (rowE (readV s).2.2 = 0))) := rfl
      have HVL : Hid (valsB s = true → valsL s = (readV s).2.2) := fun q => by unfold valsL; rw [if_pos q]
      have HVN : Hid (valsB s = false → valsL s = []) := fun q => by unfold valsL; rw [q]; rfl
      have HE1 : Hid (valsB s = true → valsE s = 0) := fun q => by unfold valsE; rw [if_pos q]
      have HE2 : Hid (valsB s = false → valsE s = 6) := fun q => by unfold valsE; rw [q]; rfl
      clear HR hmk
      obtain ⟨D, HD⟩ : ∃ D, Hid (readV s = D) := ⟨_, rfl⟩
      rw [HD.out] at HRd HROW hlen hSz HV HVL
      clear HD
      obtain ⟨q, f, L⟩ := D
      simp only at HRd HROW hlen hSz HV HVL
      subst hlen
      have HEnd : Hid (Calls Tryd.prog 52 #[.pointer (some ⟨w.heap.size, 0, none⟩)] wr fun x w' => x = .returned (.int .i64 (endE s q f)) ∧ IsReader w' w.heap.size s q (endE s q f) ∧ Only w.heap.size wr w') := end_any HRd.out
      obtain ⟨E1, HEE⟩ : ∃ E1, Hid (endE s q f = E1) := ⟨_, rfl⟩
      rw [HEE.out] at HEnd HV
      clear HEE HRd
      by_cases hE1 : E1 = 0
      rotate_left
      · have hE1' : (E1 != 0) = true := by rw [bne_iff_ne]; exact hE1
        have hvb : Hid (valsB s = false) := by show _ = _; rw [HV.out, decide_eq_false hE1]; rfl
        have hEE : Hid (E = 6) := by show _ = _; rw [← HE.out]; exact HE2.out hvb.out
        have hMM : Hid (M = []) := by show _ = _; rw [← HM.out]; exact HVN.out hvb.out
        clear HE HM HV HVL HVN HE1 HE2 hvb
        go_wp2_with fail
        refine HEnd.out.mono ?_
        rintro x w3 ⟨rfl, h3, o3⟩
        go_wp2
        go_ret2
        exact ⟨none, 0, by rw [hEE.out, hMM.out]; rfl, Or.inl hMM.out, o3.below HB.out (Nat.le_refl _) (Nat.le_refl _)⟩
      · subst hE1
        rw [show decide ((0 : Int) = 0) = true from rfl, Bool.true_and] at HV
        go_wp2_with fail
        refine HEnd.out.mono ?_
        rintro x w3 ⟨rfl, h3, o3⟩
        have HROW3 := hidk (HROW.out.only o3 hz (by omega))
        have hz3 : w2.heap.size < w3.heap.size := by have := o3.size; omega
        have HB3 := hidk (o3.below HB.out (Nat.le_refl _) (Nat.le_refl _))
        have HV3 := hidk (HROW3.out.vals hz3)
        clear HROW HB HEnd h3 o3 HROW3
        have HRow := hidk (row_any (some ⟨w2.heap.size, 0, none⟩) L.length L w3 HV3.out (by omega) hSz)
        obtain ⟨E2, HE2'⟩ : ∃ E2, Hid (rowE L = E2) := ⟨_, rfl⟩
        rw [HE2'.out] at HRow HV
        generalize rowB L = X at HRow
        clear HE2'
        by_cases hE2 : E2 = 0
        · subst hE2
          have hvb : Hid (valsB s = true) := by show _ = _; rw [HV.out]; rfl
          have hEE : Hid (E = 0) := by show _ = _; rw [← HE.out]; exact HE1.out hvb.out
          have hMM : Hid (M = L) := by show _ = _; rw [← HM.out]; exact HVL.out hvb.out
          clear HE HM HV HVL HVN HE1 HE2 hvb
          go_wp2_with fail
          refine HRow.out.mono ?_
          rintro x w4 ⟨rfl, b4⟩
          go_wp2
          go_ret2
          exact ⟨some ⟨w2.heap.size, 0, none⟩, L.length, by rw [hEE.out, hMM.out]; rfl, by show ValsAt _ _ _; rw [hMM.out]; exact HV3.out.below b4, below_chain HB3.out b4⟩
        · have hE2' : (E2 != 0) = true := by rw [bne_iff_ne]; exact hE2
          have hvb : Hid (valsB s = false) := by show _ = _; rw [HV.out, decide_eq_false hE2]
          have hEE : Hid (E = 6) := by show _ = _; rw [← HE.out]; exact HE2.out hvb.out
          have hMM : Hid (M = []) := by show _ = _; rw [← HM.out]; exact HVN.out hvb.out
          clear HE HM HV HVL HVN HE1 HE2 hvb
          go_wp2_with fail
          refine HRow.out.mono ?_
          rintro x w4 ⟨rfl, b4⟩
          go_wp2
          go_ret2
          exact ⟨none, 0, by rw [hEE.out, hMM.out]; rfl, Or.inl hMM.out, below_chain HB3.out b4⟩

end Go.Proofs.YtgammhmgdafpkaaDoor
