/-
  The walks of girderref11.one and girderref11.Key.
-/
import Derived.Test.YtgammhmgdafpkaaDoorKeyKey
import Derived.Test.YtgammhmgdafpkaaDoorKeyRRow
namespace Go.Proofs.YtgammhmgdafpkaaDoor
open Go.RowKit Go.Sort
set_option linter.unusedVariables false
set_option linter.unusedSimpArgs false

theorem kextract_one (P : List UInt8) (i : Nat) (h : i < P.length) : (⟨P.toArray⟩ : ByteArray).extract i (i + 1) = ⟨[P[i]].toArray⟩ := by
  apply ByteArray.ext
  apply Array.toList_inj.1
  simp
  rw [List.drop_eq_getElem_cons h]
  rfl

theorem krev_take (P : List UInt8) (k : Nat) (h : k < P.length) : P.reverse.take (k + 1) = P.reverse.take k ++ [P[P.length - 1 - k]] := by
  rw [List.take_succ_eq_append_getElem (by rw [List.length_reverse]; exact h), List.getElem_reverse]

theorem esc_take (l : List UInt8) (k : Nat) (h : k < l.length) : escL (l.take (k + 1)) = escL (l.take k) ++ (if l[k] = 0 then [0, 255] else [l[k]]) := by
  rw [List.take_succ_eq_append_getElem h, escL_append]
  congr 1

theorem kret_str {a b : ByteArray} (h : a = b) : Ending.returned (.string a) = .returned (.string b) := by rw [h]

theorem wrap_add_high (n : Int) : IntKind.u64.wrap (((toU n : Nat) : Int) + 9223372036854775808) = ((toU (n + 9223372036854775808) : Nat) : Int) := by
  rw [IntKind.wrap_u64]; unfold toU; omega

set_option maxHeartbeats 3200000 in
theorem rone_any (v : ValV) (w : World) (hm : v.may = true) :
    Calls Tryd.prog 30 #[.agg #[.int .i64 v.kind, .int .i64 v.n, .string v.S]] w fun e w' => e = .returned (.string ⟨v.keyL.toArray⟩) ∧ Below w.heap.size w w' := by
  have HP : Hid (∀ (n : Nat) (x : Int) (w1 : World), n < 18446744073709551616 → Calls Tryd.prog 46 #[.int .u64 n, .int .i64 x] w1 fun e w' => e = .returned (.string ⟨(putL n (longOf x)).toArray⟩) ∧ Below w1.heap.size w1 w') := fun n x w1 h => rput_any n x w1 h
  have hsz := may_size hm
  obtain ⟨W, HW⟩ : ∃ W, Hid (W = w.alloc (.cells #[.int .i64 v.kind, .int .i64 v.n, .string v.S] 38)) := ⟨_, rfl⟩
  have bW : Below w.heap.size w W := by rw [HW.out]; exact (Below.refl _ _).alloc (Nat.le_refl _) _
  have x0 : W.cell? ⟨w.heap.size, 0, none⟩ = some (.int .i64 v.kind) := by rw [HW.out]; simp
  have x1 : W.cell? ⟨w.heap.size, 1, none⟩ = some (.int .i64 v.n) := by rw [HW.out]; simp
  have x2 : W.cell? ⟨w.heap.size, 2, none⟩ = some (.string v.S) := by rw [HW.out]; simp
  have hlt : w.heap.size < W.heap.size := by rw [HW.out]; simp
  rcases v.may_kind hm with e | e | e
  · have hr := hidk (keyL_none e)
    obtain ⟨vk, vn, vS⟩ := v
    simp only at e x0 x1 x2 hr HW hsz ⊢
    subst e
    go_enter Tryd.func30, Tryd.ntmps30
    go_wp2_with fail
    rw [← HW.out]
    refine (HP.out 0 1 _ (by omega)).mono ?_
    rintro e w1 ⟨rfl, b1⟩
    have d0 := (b1.cell (p := ⟨w.heap.size, 0, none⟩) hlt).trans x0
    go_wp2
    go_ret
    exact ⟨kret_str (by rw [hr.out]; rfl), below_chain bW b1⟩
  · have hr := hidk (keyL_num e)
    obtain ⟨vk, vn, vS⟩ := v
    simp only at e x0 x1 x2 hr HW hsz ⊢
    subst e
    have hun := u64_wrap vn
    have huw := wrap_add_high vn
    have hul := u64_lt (vn + 9223372036854775808)
    obtain ⟨X, HX⟩ : ∃ X, Hid (toU (vn + 9223372036854775808) = X) := ⟨_, rfl⟩
    rw [HX.out] at huw hul hr
    generalize toU vn = N at *
    obtain ⟨P, HPl⟩ : ∃ P, Hid (putL X 8 = P) := ⟨_, rfl⟩
    have hPl : P.length = 8 := by rw [← HPl.out, putL_length]
    have HPl8 := hidk hPl
    rw [HPl.out] at hr
    have s0 : (⟨(putL 1 (longOf 1)).toArray⟩ : ByteArray).size ≤ 1 := by rw [bytes_size, putL_length]; decide
    go_enter Tryd.func30, Tryd.ntmps30
    go_wp2_with fail
    rw [← HW.out]
    refine (HP.out 1 1 _ (by omega)).mono ?_
    rintro e w1 ⟨rfl, b1⟩
    have d0 := (b1.cell (p := ⟨w.heap.size, 0, none⟩) hlt).trans x0
    have d1 := (b1.cell (p := ⟨w.heap.size, 1, none⟩) hlt).trans x1
    have hlt1 := Nat.lt_of_lt_of_le hlt b1.size
    go_wp2_with fail
    refine (HP.out X 8 _ hul).mono ?_
    rintro e w2 ⟨rfl, b2⟩
    have f0 := (b2.cell (p := ⟨w.heap.size, 0, none⟩) hlt1).trans d0
    have HB2 := hidk (below_chain (below_chain bW b1) b2)
    rw [show longOf 8 = 8 from rfl, HPl.out]
    clear HW x0 x1 x2 d0 d1 b1 b2 hun huw HX bW hlt hlt1
    have hPs : (⟨P.toArray⟩ : ByteArray).size = 8 := by rw [bytes_size]; exact hPl
    clear hPl
    go_wp2_with fail
    go_loopw [3, 5] (fun s3 i wr => ∃ (k : Nat) (Y : List UInt8), k ≤ 8 ∧ s3 = .string ⟨Y.toArray⟩ ∧ i = .int .i64 (7 - (k : Int)) ∧ Y.length ≤ 1 + k ∧ Hid (Y = putL 1 1 ++ P.reverse.take k) ∧ wr = w2) (fun _ i _ => (intOf i + 1).toNat)
    case atStart => exact ⟨0, putL 1 (longOf 1), by omega, rfl, by rfl, by rw [putL_length]; decide, by show _ = _; rw [List.take_zero, List.append_nil]; rfl, rfl⟩
    case round =>
      obtain ⟨k, Y, hk, rfl, rfl, hY, HY, rfl⟩ := hrel
      by_cases hk8 : k < 8
      · have hi0 : (0 : Int) ≤ 7 - (k : Int) := by omega
        have hi1 : 7 - (k : Int) ≤ 8 := by omega
        have hi2 : 7 - (k : Int) + 1 ≤ 8 := by omega
        have hi3 : (7 - (k : Int)).toNat = 7 - k := by omega
        have hi4 : (7 - (k : Int) + 1).toNat = 7 - k + 1 := by omega
        have HEx := hidk (kextract_one P (7 - k) (by have := HPl8.out; omega))
        have HRt := hidk (krev_take P k (by have := HPl8.out; omega))
        have s1 : (⟨Y.toArray⟩ : ByteArray).size ≤ 100 := by rw [bytes_size]; omega
        have s2 : ((⟨P.toArray⟩ : ByteArray).extract (7 - k) (7 - k + 1)).size ≤ 100 := by rw [HEx.out, bytes_size]; simp
        go_wp2_with fail
        go_roundw
        case rel =>
          refine ⟨k + 1, Y ++ [P[7 - k]'(by have := HPl8.out; omega)], by omega, ?_, by go_num, by simp; omega, ?_, by trivial⟩
          · rw [← kba_append, ← HEx.out]
          · show _ = _
            rw [HRt.out, ← List.append_assoc, ← HY.out]
            have hh : P.length - 1 - k = 7 - k := by have := HPl8.out; omega
            simp only [hh]
        case measure => simp [intOf]; omega
      · obtain rfl : k = 8 := by omega
        have hi0 : ¬ (0 : Int) ≤ 7 - ((8 : Nat) : Int) := by omega
        go_wp2
        go_ret
        refine ⟨kret_str ?_, HB2.out⟩
        rw [hr.out, HY.out, List.take_of_length_le (by rw [List.length_reverse, HPl8.out]; omega)]
  · have hr := hidk (keyL_text e)
    obtain ⟨vk, vn, vS⟩ := v
    simp only at e x0 x1 x2 hr HW hsz ⊢
    subst e
    go_enter Tryd.func30, Tryd.ntmps30
    go_wp2_with fail
    rw [← HW.out]
    refine (HP.out 2 1 _ (by omega)).mono ?_
    rintro e w1 ⟨rfl, b1⟩
    have d0 := (b1.cell (p := ⟨w.heap.size, 0, none⟩) hlt).trans x0
    have d2 := (b1.cell (p := ⟨w.heap.size, 2, none⟩) hlt).trans x2
    have HB1 := hidk (below_chain bW b1)
    have hsl : vS.data.toList.length = vS.size := by simp
    have HSL := hidk hsl
    clear HW x0 x1 x2 b1 bW hlt hsl
    go_wp2_with fail
    go_loopw [3, 6] (fun s3 i wr => ∃ (k : Nat) (Y : List UInt8), k ≤ vS.size ∧ s3 = .string ⟨Y.toArray⟩ ∧ i = .int .i64 k ∧ Y.length ≤ 1 + 2 * k ∧ Hid (Y = putL 2 1 ++ escL (vS.data.toList.take k)) ∧ wr = w1) (fun _ i _ => vS.size - (intOf i).toNat)
    case atStart => exact ⟨0, putL 2 (longOf 1), by omega, rfl, by rfl, by rw [putL_length]; decide, by show _ = _; rw [List.take_zero]; rfl, rfl⟩
    case round =>
      obtain ⟨k, Y, hk, rfl, rfl, hY, HY, rfl⟩ := hrel
      by_cases hk8 : k < vS.size
      · have hi0 : (0 : Int) ≤ (k : Int) := by omega
        have hi1 : (k : Int) < (vS.size : Int) := by omega
        have hkl : k < vS.data.toList.length := by rw [HSL.out]; exact hk8
        have HEx := hidk (kextract_one vS.data.toList k hkl)
        rw [kba_list] at HEx
        have HEs := hidk (esc_take vS.data.toList k hkl)
        have s1 : (⟨Y.toArray⟩ : ByteArray).size ≤ 100 := by rw [bytes_size]; omega
        have s2 : (vS.extract k (k + 1)).size ≤ 100 := by rw [HEx.out, bytes_size]; simp
        have Hgk : Hid (vS.data.toList[k] = vS[k]) := rfl
        by_cases hc : vS[k] = 0
        · have hc' : ((vS[k].toNat : Int) == 0) = true := by rw [hc]; rfl
          have s3 : ((⟨Y.toArray⟩ : ByteArray) ++ vS.extract k (k + 1)).size ≤ 200 := by rw [HEx.out, kba_append, bytes_size]; simp; omega
          have s4 : (⟨#[255]⟩ : ByteArray).size ≤ 1 := by decide
          have HC := hidk hc
          clear hc
          go_wp2_with fail
          go_roundw
          case rel =>
            refine ⟨k + 1, Y ++ [0, 255], by omega, ?_, by go_num, by simp; omega, ?_, by trivial⟩
            · rw [HEx.out, Hgk.out, HC.out, show (⟨#[255]⟩ : ByteArray) = ⟨([255] : List UInt8).toArray⟩ from rfl, kba_append, kba_append, List.append_assoc]; rfl
            · show _ = _
              rw [HEs.out, Hgk.out, if_pos HC.out, ← List.append_assoc, ← HY.out]
          case measure => simp [intOf]; omega
        · have hc' : ((vS[k].toNat : Int) == 0) = false := by
            rw [beq_eq_false_iff_ne]
            intro q
            apply hc
            apply UInt8.toNat_inj.1
            have : vS[k].toNat = 0 := by omega
            rw [this]; rfl
          have HC := hidk hc
          clear hc
          go_wp2_with fail
          go_roundw
          case rel =>
            refine ⟨k + 1, Y ++ [vS[k]], by omega, ?_, by go_num, by simp; omega, ?_, by trivial⟩
            · rw [HEx.out, Hgk.out, kba_append]
            · show _ = _
              rw [HEs.out, Hgk.out, if_neg HC.out, ← List.append_assoc, ← HY.out]
          case measure => simp [intOf]; omega
      · obtain rfl : k = vS.size := by omega
        have hi1 : ¬ (vS.size : Int) < (vS.size : Int) := by omega
        have s1 : (⟨Y.toArray⟩ : ByteArray).size ≤ 100 := by rw [bytes_size]; omega
        have s4 : (⟨#[0, 0]⟩ : ByteArray).size ≤ 2 := by decide
        go_wp2
        go_ret
        refine ⟨kret_str ?_, HB1.out⟩
        rw [hr.out, HY.out, List.take_of_length_le (by rw [HSL.out]; omega), show (⟨#[0, 0]⟩ : ByteArray) = ⟨([0, 0] : List UInt8).toArray⟩ from rfl, kba_append, List.append_assoc]

set_option maxHeartbeats 3200000 in
theorem rkey_any (a : Option Addr) (c : Nat) (L : List ValV) (w : World) (hL : ValsAt w a L) (hl : L.length ≤ 1099511627776) (hS : ∀ v ∈ L, v.S.size ≤ 9223372036854775807) :
    Calls Tryd.prog 7 #[.slice a L.length c] w fun e w' =>
      e = .returned (.tuple #[.string ⟨(keyB L).toArray⟩, .int .i64 (keyE L)]) ∧ Below w.heap.size w w' := by
  go_enter Tryd.func7, Tryd.ntmps7
  go_wp2_with fail
  go_loopw [4, 5] (fun s4 i wr => ∃ (k : Nat) (X : List UInt8), k ≤ L.length ∧ s4 = .string ⟨X.toArray⟩ ∧ i = .int .i64 k ∧ X.length ≤ 64 * k ∧ Hid (X = keysL (L.take k)) ∧ Hid ((L.take k).all ValV.may = true) ∧ Hid (Below w.heap.size w wr)) (fun _ i _ => L.length - (intOf i).toNat)
  case atStart => exact ⟨0, [], by omega, rfl, rfl, by simp, by show _ = _; rw [List.take_zero, keysL_nil], rfl, Below.refl _ _⟩
  case round =>
    obtain ⟨k, X, hk, rfl, rfl, hX, HX, HT, HB⟩ := hrel
    by_cases hlt : k < L.length
    · have hL' := hL.below HB.out
      rcases hL' with hL' | ⟨b, o, rfl, hb, g⟩
      · rw [hL'] at hlt; simp at hlt
      have g := g k hlt
      have hSk := hS L[k] (List.getElem_mem hlt)
      have HT1 := hidk (take_all hlt)
      have HX1 : Hid (keysL (L.take (k + 1)) = keysL (L.take k) ++ L[k].keyL) := by show _ = _; rw [List.take_succ_eq_append_getElem hlt, keysL_snoc]
      have hi0 : (0 : Int) ≤ (k : Int) := by omega
      have hi1 : (k : Int) < (L.length : Int) := by omega
      have Hbad : Hid (L[k].may = false → keyE L = 110) := fun q => by
        refine keyE_val ?_
        rw [Bool.eq_false_iff]
        intro z
        rw [List.all_eq_true.1 z L[k] (List.getElem_mem hlt)] at q
        cases q
      obtain ⟨v, Hv⟩ : ∃ v, Hid (L[k] = v) := ⟨L[k], rfl⟩
      rw [Hv.out] at g hSk HT1 HX1 Hbad
      clear Hv
      have hz : w.heap.size ≤ wr.heap.size := HB.out.size
      by_cases hm : v.may = true
      rotate_left
      · have hm' : v.may = false := by simpa using hm
        have HC : Hid (∀ w1, Calls Tryd.prog 15 #[.agg #[.int .i64 v.kind, .int .i64 v.n, .string v.S]] w1 fun e w' => e = .returned (.bool false) ∧ Below w1.heap.size w1 w') := fun w1 => by have := rmay_any v w1 hSk; rw [hm'] at this; exact this
        obtain ⟨c0, c1, c2⟩ := g
        go_wp2_with fail
        refine (HC.out _).mono ?_
        rintro e w2 ⟨rfl, b2⟩
        go_wp2
        go_ret2
        have hE := Hbad.out hm'
        exact ⟨ret_row (x := []) (keyB_bad (by rw [hE]; omega)).symm hE.symm, below_chain HB.out b2⟩
      · have HC : Hid (∀ w1, Calls Tryd.prog 15 #[.agg #[.int .i64 v.kind, .int .i64 v.n, .string v.S]] w1 fun e w' => e = .returned (.bool true) ∧ Below w1.heap.size w1 w') := fun w1 => by have := rmay_any v w1 hSk; rw [hm] at this; exact this
        have HO : Hid (∀ w1, Calls Tryd.prog 30 #[.agg #[.int .i64 v.kind, .int .i64 v.n, .string v.S]] w1 fun e w' => e = .returned (.string ⟨v.keyL.toArray⟩) ∧ Below w1.heap.size w1 w') := fun w1 => rone_any v w1 hm
        have hsz := may_size hm
        have hkl := may_keyL_length hm
        have HTn : Hid ((L.take (k + 1)).all ValV.may = true) := by show _ = _; rw [HT1.out, HT.out, hm]; rfl
        clear Hbad HT HT1
        generalize v.keyL = Y at HO HX1 hkl
        have s1 : (⟨X.toArray⟩ : ByteArray).size ≤ 100000000000000 := by rw [bytes_size]; omega
        have s2 : (⟨Y.toArray⟩ : ByteArray).size ≤ 100 := by rw [bytes_size]; omega
        obtain ⟨c0, c1, c2⟩ := g
        go_wp2_with fail
        refine (HC.out _).mono ?_
        rintro e w2 ⟨rfl, b2⟩
        have d0 := (b2.cell (p := ⟨b, o + k * 3, none⟩) hb).trans c0
        have d1 := (b2.cell (p := ⟨b, o + k * 3 + 1, none⟩) hb).trans c1
        have d2 := (b2.cell (p := ⟨b, o + k * 3 + 2, none⟩) hb).trans c2
        have HB2 := hidk (below_chain HB.out b2)
        go_wp2_with fail
        refine (HO.out _).mono ?_
        rintro e w3 ⟨rfl, b3⟩
        go_wp2_with fail
        go_roundw
        case rel =>
          refine ⟨k + 1, X ++ Y, by omega, by rw [kba_append], by go_num, by rw [List.length_append]; omega, ?_, HTn, below_chain HB2.out b3⟩
          show _ = _
          rw [HX1.out, ← HX.out]
        case measure => simp [intOf]; omega
    · have hkl : L.take k = L := List.take_of_length_le (by omega)
      rw [hkl] at HX HT
      clear hkl
      have hXs : (⟨X.toArray⟩ : ByteArray).size = X.length := bytes_size _
      by_cases hX60 : 64 < X.length
      · have hXi : (64 : Int) < ((⟨X.toArray⟩ : ByteArray).size : Int) := by rw [hXs]; omega
        have hE := hidk (keyE_long HT.out (by rw [← HX.out]; exact hX60))
        clear hXs
        go_wp2
        go_ret2
        exact ⟨ret_row (x := []) (keyB_bad (by rw [hE.out]; omega)).symm hE.out.symm, HB.out⟩
      · have hXi : ¬ (64 : Int) < ((⟨X.toArray⟩ : ByteArray).size : Int) := by rw [hXs]; omega
        have hE := hidk (keyE_ok HT.out (by rw [← HX.out]; exact hX60))
        clear hXs
        go_wp2
        go_ret2
        exact ⟨ret_row (by rw [keyB_ok hE.out]; exact HX.out) hE.out.symm, HB.out⟩

end Go.Proofs.YtgammhmgdafpkaaDoor
