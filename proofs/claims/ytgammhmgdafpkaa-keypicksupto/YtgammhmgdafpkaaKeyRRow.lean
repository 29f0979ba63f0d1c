/-
  The walk of girderref11.Row.
-/
import Derived.Test.YtgammhmgdafpkaaKeyReadM
namespace Go.Proofs.Ytgammhmgdafpkaa
open Go.RowKit Go.Sort
set_option linter.unusedVariables false
set_option linter.unusedSimpArgs false

theorem kba_append (x y : List UInt8) : (⟨x.toArray⟩ : ByteArray) ++ ⟨y.toArray⟩ = ⟨(x ++ y).toArray⟩ := by
  apply ByteArray.ext
  simp

theorem kba_list (s : ByteArray) : (⟨s.data.toList.toArray⟩ : ByteArray) = s := by
  apply ByteArray.ext
  simp

set_option maxHeartbeats 1600000 in
theorem rrow_any (a : Option Addr) (c : Nat) (L : List ValV) (w : World) (hL : ValsAt w a L) (hl : L.length ≤ 9223372036854775807) (hS : ∀ v ∈ L, v.S.size ≤ 9223372036854775807) :
    Calls Try.prog 6 #[.slice a L.length c] w fun e w' =>
      e = .returned (.tuple #[.string ⟨(rowB L).toArray⟩, .int .i64 (rowE L)]) ∧ Below w.heap.size w w' := by
  by_cases h0 : L.length < 1
  · have hE := hidk (rowE_len (L := L) (Or.inl h0))
    go_enter Try.func6, Try.ntmps6
    go_wp2
    go_ret2
    exact ⟨ret_row (x := []) (rowB_bad (by rw [hE.out]; omega)).symm hE.out.symm, Below.refl _ _⟩
  by_cases h4 : 4 < L.length
  · have hE := hidk (rowE_len (L := L) (Or.inr h4))
    go_enter Try.func6, Try.ntmps6
    go_wp2
    go_ret2
    exact ⟨ret_row (x := []) (rowB_bad (by rw [hE.out]; omega)).symm hE.out.symm, Below.refl _ _⟩
  have Hor : Hid (¬ (L.length < 1 ∨ 4 < L.length)) := by show ¬ _; omega
  have hu : IntKind.u64.wrap (L.length : Int) = (L.length : Int) := by rw [IntKind.wrap_u64]; omega
  have HP : Hid (∀ (n : Nat) (x : Int) (w1 : World), n < 18446744073709551616 → Calls Try.prog 23 #[.int .u64 n, .int .i64 x] w1 fun e w' => e = .returned (.string ⟨(putL n (longOf x)).toArray⟩) ∧ Below w1.heap.size w1 w') := fun n x w1 h => rput_any n x w1 h
  go_enter Try.func6, Try.ntmps6
  go_wp2_with fail
  refine (HP.out L.length 1 _ (by omega)).mono ?_
  rintro e w1 ⟨rfl, b1⟩
  go_wp2_with fail
  go_loopw [4, 5] (fun s4 i wr => ∃ (k : Nat) (X : List UInt8), k ≤ L.length ∧ s4 = .string ⟨X.toArray⟩ ∧ i = .int .i64 k ∧ X.length ≤ 1 + 64 * k ∧ Hid (X = putL L.length 1 ++ rowsL (L.take k)) ∧ Hid ((L.take k).all ValV.may = true) ∧ Hid (Below w.heap.size w wr)) (fun _ i _ => L.length - (intOf i).toNat)
  case atStart => exact ⟨0, putL L.length (longOf 1), by omega, rfl, rfl, by rw [putL_length]; decide, by show _ = _; rw [List.take_zero, rowsL_nil, List.append_nil]; rfl, rfl, b1⟩
  case round =>
    obtain ⟨k, X, hk, rfl, rfl, hX, HX, HT, HB⟩ := hrel
    by_cases hlt : k < L.length
    · have hL' := hL.below HB.out
      rcases hL' with hL' | ⟨b, o, rfl, hb, g⟩
      · rw [hL'] at hlt; simp at hlt
      have g := g k hlt
      have hSk := hS L[k] (List.getElem_mem hlt)
      have HT1 := hidk (take_all hlt)
      have HX1 : Hid (rowsL (L.take (k + 1)) = rowsL (L.take k) ++ L[k].rowL) := by show _ = _; rw [List.take_succ_eq_append_getElem hlt, rowsL_snoc]
      have hi0 : (0 : Int) ≤ (k : Int) := by omega
      have hi1 : (k : Int) < (L.length : Int) := by omega
      have Hbad : Hid (L[k].may = false → rowE L = 110) := fun q => by
        refine rowE_val Hor.out ?_
        rw [Bool.eq_false_iff]
        intro z
        rw [List.all_eq_true.1 z L[k] (List.getElem_mem hlt)] at q
        cases q
      obtain ⟨v, Hv⟩ : ∃ v, Hid (L[k] = v) := ⟨L[k], rfl⟩
      rw [Hv.out] at g hSk HT1 HX1 Hbad
      clear Hv
      have hz : w.heap.size ≤ wr.heap.size := HB.out.size
      by_cases hm : v.may = true
      rotate_left
      · have hm' : v.may = false := by simpa using hm
        have HC : Hid (∀ w1, Calls Try.prog 24 #[.agg #[.int .i64 v.kind, .int .i64 v.n, .string v.S]] w1 fun e w' => e = .returned (.bool false) ∧ Below w1.heap.size w1 w') := fun w1 => by have := rmay_any v w1 hSk; rw [hm'] at this; exact this
        obtain ⟨c0, c1, c2⟩ := g
        go_wp2_with fail
        refine (HC.out _).mono ?_
        rintro e w2 ⟨rfl, b2⟩
        go_wp2
        go_ret2
        have hE := Hbad.out hm'
        exact ⟨ret_row (x := []) (rowB_bad (by rw [hE]; omega)).symm hE.symm, below_chain HB.out b2⟩
      · have HC : Hid (∀ w1, Calls Try.prog 24 #[.agg #[.int .i64 v.kind, .int .i64 v.n, .string v.S]] w1 fun e w' => e = .returned (.bool true) ∧ Below w1.heap.size w1 w') := fun w1 => by have := rmay_any v w1 hSk; rw [hm] at this; exact this
        have hsz := may_size hm
        have hrl := may_rowL_length hm
        have HTn : Hid ((L.take (k + 1)).all ValV.may = true) := by show _ = _; rw [HT1.out, HT.out, hm]; rfl
        clear Hbad HT HT1
        have hXn : X.length + 64 ≤ 1 + 64 * (k + 1) := by omega
        rcases v.may_kind hm with e | e | e
        · have hr := hidk (rowL_none e)
          obtain ⟨vk, vn, vS⟩ := v
          obtain ⟨c0, c1, c2⟩ := g
          simp only at e c0 c1 c2 hr HC hsz hrl
          subst e
          go_wp2_with fail
          refine (HC.out _).mono ?_
          rintro e w2 ⟨rfl, b2⟩
          have HB2 := hidk (below_chain HB.out b2)
          have d0 := (b2.cell (p := ⟨b, o + k * 3, none⟩) hb).trans c0
          go_wp2_with fail
          refine (HP.out 0 1 _ (by omega)).mono ?_
          rintro e w3 ⟨rfl, b3⟩
          have HB3 := hidk (below_chain HB2.out b3)
          have f0 := (b3.cell (p := ⟨b, o + k * 3, none⟩) (Nat.lt_of_lt_of_le hb b2.size)).trans d0
          have s1 : (⟨X.toArray⟩ : ByteArray).size ≤ 1000 := by rw [bytes_size]; omega
          have s2 : (⟨(putL 0 (longOf 1)).toArray⟩ : ByteArray).size ≤ 1000 := by rw [bytes_size, putL_length]; decide
          go_wp2_with fail
          go_roundw
          case rel =>
            refine ⟨k + 1, X ++ putL 0 (longOf 1), by omega, by rw [← kba_append], by go_num, ?_, ?_, HTn, HB3⟩
            · rw [List.length_append, putL_length]; have : longOf 1 = 1 := rfl; omega
            · show _ = _
              rw [HX1.out, HX.out, hr.out, List.append_assoc]; rfl
          case measure => simp [intOf]; omega
        · have hr := hidk (rowL_num e)
          obtain ⟨vk, vn, vS⟩ := v
          obtain ⟨c0, c1, c2⟩ := g
          simp only at e c0 c1 c2 hr HC hsz hrl
          subst e
          have hun := u64_wrap vn
          have hul := u64_lt vn
          generalize toU vn = N at *
          go_wp2_with fail
          refine (HC.out _).mono ?_
          rintro e w2 ⟨rfl, b2⟩
          have HB2 := hidk (below_chain HB.out b2)
          have hb2 := Nat.lt_of_lt_of_le hb b2.size
          have d0 := (b2.cell (p := ⟨b, o + k * 3, none⟩) hb).trans c0
          have d1 := (b2.cell (p := ⟨b, o + k * 3 + 1, none⟩) hb).trans c1
          go_wp2_with fail
          refine (HP.out 1 1 _ (by omega)).mono ?_
          rintro e w3 ⟨rfl, b3⟩
          have HB3 := hidk (below_chain HB2.out b3)
          have f0 := (b3.cell (p := ⟨b, o + k * 3, none⟩) hb2).trans d0
          have f1 := (b3.cell (p := ⟨b, o + k * 3 + 1, none⟩) hb2).trans d1
          have hb3 := Nat.lt_of_lt_of_le hb2 b3.size
          have s1 : (⟨X.toArray⟩ : ByteArray).size ≤ 1000 := by rw [bytes_size]; omega
          have s2 : (⟨(putL 1 (longOf 1)).toArray⟩ : ByteArray).size ≤ 1000 := by rw [bytes_size, putL_length]; decide
          go_wp2_with fail
          refine (HP.out N 8 _ hul).mono ?_
          rintro e w4 ⟨rfl, b4⟩
          have HB4 := hidk (below_chain HB3.out b4)
          have g0 := (b4.cell (p := ⟨b, o + k * 3, none⟩) hb3).trans f0
          have s3 : ((⟨X.toArray⟩ : ByteArray) ++ ⟨(putL 1 (longOf 1)).toArray⟩).size ≤ 2000 := by rw [kba_append, bytes_size, List.length_append, putL_length]; have : longOf 1 = 1 := rfl; omega
          have s4 : (⟨(putL N (longOf 8)).toArray⟩ : ByteArray).size ≤ 1000 := by rw [bytes_size, putL_length]; decide
          go_wp2_with fail
          go_roundw
          case rel =>
            refine ⟨k + 1, X ++ putL 1 (longOf 1) ++ putL N (longOf 8), by omega, by rw [← kba_append, ← kba_append], by go_num, ?_, ?_, HTn, HB4⟩
            · rw [List.length_append, List.length_append, putL_length, putL_length]; have : longOf 1 = 1 := rfl; have : longOf 8 = 8 := rfl; omega
            · show _ = _
              rw [HX1.out, HX.out, hr.out]; simp only [List.append_assoc]; rfl
          case measure => simp [intOf]; omega
        · have hr := hidk (rowL_text e)
          obtain ⟨vk, vn, vS⟩ := v
          obtain ⟨c0, c1, c2⟩ := g
          simp only at e c0 c1 c2 hr HC hsz hrl
          subst e
          have hul : IntKind.u64.wrap (vS.size : Int) = (vS.size : Int) := by rw [IntKind.wrap_u64]; omega
          go_wp2_with fail
          refine (HC.out _).mono ?_
          rintro e w2 ⟨rfl, b2⟩
          have HB2 := hidk (below_chain HB.out b2)
          have hb2 := Nat.lt_of_lt_of_le hb b2.size
          have d0 := (b2.cell (p := ⟨b, o + k * 3, none⟩) hb).trans c0
          have d2 := (b2.cell (p := ⟨b, o + k * 3 + 2, none⟩) hb).trans c2
          go_wp2_with fail
          refine (HP.out 2 1 _ (by omega)).mono ?_
          rintro e w3 ⟨rfl, b3⟩
          have HB3 := hidk (below_chain HB2.out b3)
          have f0 := (b3.cell (p := ⟨b, o + k * 3, none⟩) hb2).trans d0
          have f2 := (b3.cell (p := ⟨b, o + k * 3 + 2, none⟩) hb2).trans d2
          have hb3 := Nat.lt_of_lt_of_le hb2 b3.size
          have s1 : (⟨X.toArray⟩ : ByteArray).size ≤ 1000 := by rw [bytes_size]; omega
          have s2 : (⟨(putL 2 (longOf 1)).toArray⟩ : ByteArray).size ≤ 1000 := by rw [bytes_size, putL_length]; decide
          obtain ⟨Y, HY⟩ : ∃ Y : ByteArray, Hid (Y = (⟨X.toArray⟩ : ByteArray) ++ ⟨(putL 2 (longOf 1)).toArray⟩) := ⟨_, rfl⟩
          have s3 : Y.size ≤ 2000 := by rw [HY.out, kba_append, bytes_size, List.length_append, putL_length]; have : longOf 1 = 1 := rfl; omega
          obtain ⟨Z, HZ⟩ : ∃ Z : ByteArray, Hid (Z = ⟨(putL vS.size (longOf 1)).toArray⟩) := ⟨_, rfl⟩
          have s4 : Z.size ≤ 1 := by rw [HZ.out, bytes_size, putL_length]; decide
          obtain ⟨V, HV⟩ : ∃ V : ByteArray, Hid (V = Z ++ vS) := ⟨_, rfl⟩
          have s5 : V.size ≤ 21 := by rw [HV.out]; simp; omega
          have n1 : ¬ ((9223372036854775807 : Int) < (Z.size : Int) + (vS.size : Int)) := by omega
          have n2 : ¬ ((9223372036854775807 : Int) < (Y.size : Int) + (V.size : Int)) := by omega
          have cP : ∀ dd os, Calls Try.prog 23 #[.int .u64 (vS.size : Int), .int .i64 1] (grow (redrawn w3 dd) os) fun e w'' => e = .returned (.string Z) ∧ ∃ p : Regrown, w'' = grow (redrawn w3 p.d) p.os := fun dd os => Calls.regrown_of (by rw [HZ.out]; exact HP.out vS.size 1 _ (by omega))
          have gx0 := cell_regrown f0
          have gx2 := cell_regrown f2
          obtain ⟨U, HU⟩ : ∃ U : ByteArray, Hid (U = Y ++ V) := ⟨_, rfl⟩
          go_wp2_with fail
          rw [← HY.out]
          have q1 : Z ++ vS = V := HV.out.symm
          have q2 : Y ++ V = U := HU.out.symm
          refine wp_region_quiet_below kmixed (by kernel_rfl) ?_
          iterate 17 (first | go_big_quiet_step ((go_at_call 23; exact cP _ _)) | quiet_step ((go_at_call 23; exact cP _ _)))
          refine wpQuiet_nil ?_
          intro _ hw'
          obtain ⟨⟨dq, osq⟩, hw''⟩ := hw'
          subst hw''
          have HB4 := hidk (below_chain HB3.out (below_regrown w3 dq osq))
          clear cP gx0 gx2 q1 q2
          go_wp2_with fail
          go_roundw
          case rel =>
            refine ⟨k + 1, X ++ putL 2 (longOf 1) ++ (putL vS.size (longOf 1) ++ vS.data.toList), by omega, ?_, by go_num, ?_, ?_, HTn, HB4⟩
            · rw [HU.out, HV.out, HZ.out, HY.out, ← kba_append, ← kba_append, ← kba_append, kba_list]
            · rw [List.length_append, List.length_append, List.length_append, putL_length, putL_length]; have : longOf 1 = 1 := rfl; have : vS.data.toList.length = vS.size := by simp
              omega
            · show _ = _
              rw [HX1.out, HX.out, hr.out]; simp only [List.append_assoc]; rfl
          case measure => simp [intOf]; omega
    · have hkl : L.take k = L := List.take_of_length_le (by omega)
      rw [hkl] at HX HT
      clear hkl
      have hXs : (⟨X.toArray⟩ : ByteArray).size = X.length := bytes_size _
      by_cases hX60 : 60 < X.length
      · have hXi : (60 : Int) < ((⟨X.toArray⟩ : ByteArray).size : Int) := by rw [hXs]; omega
        have hE := hidk (rowE_long Hor.out HT.out (by have := HX.out; unfold rowR; rw [← this]; exact hX60))
        clear hXs
        go_wp2
        go_ret2
        exact ⟨ret_row (x := []) (rowB_bad (by rw [hE.out]; omega)).symm hE.out.symm, HB.out⟩
      · have hXi : ¬ (60 : Int) < ((⟨X.toArray⟩ : ByteArray).size : Int) := by rw [hXs]; omega
        have hE := hidk (rowE_ok Hor.out HT.out (by have := HX.out; unfold rowR; rw [← this]; exact hX60))
        clear hXs
        go_wp2
        go_ret2
        exact ⟨ret_row (by rw [rowB_ok hE.out]; exact HX.out) hE.out.symm, HB.out⟩

end Go.Proofs.Ytgammhmgdafpkaa
