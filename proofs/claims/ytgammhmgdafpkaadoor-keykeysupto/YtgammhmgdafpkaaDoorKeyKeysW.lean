/-
  The walk of KeyKeys, of lists of at most 2^40 values.
-/
import Derived.Test.YtgammhmgdafpkaaDoorKeyRKey
import Derived.Test.YtgammhmgdafpkaaDoorKeyOrd
import Derived.Test.YtgammhmgdafpkaaDoorKeyRef
import Derived.Test.YtgammhmgdafpkaaDoorKeySame
namespace Go.Proofs.YtgammhmgdafpkaaDoor
open Go.RowKit Go.Sort
set_option linter.unusedVariables false
set_option linter.unusedSimpArgs false

theorem kba_inj {x y : List UInt8} (h : (⟨x.toArray⟩ : ByteArray) = ⟨y.toArray⟩) : x = y := by
  have := congrArg (fun b : ByteArray => b.data.toList) h
  simpa using this

set_option maxHeartbeats 3200000 in
theorem keys_walk (a1 a2 : Option Addr) (c1 c2 : Nat) (A B : List ValV) (m : Int) (w : World) (hA : ValsAt w a1 A) (hB : ValsAt w a2 B) (hl1 : A.length ≤ 1099511627776) (hl2 : B.length ≤ 1099511627776)
    (hI1 : ∀ v ∈ A, v.In ∧ v.S.size ≤ 140737488351232) (hI2 : ∀ v ∈ B, v.In ∧ v.S.size ≤ 140737488351232) (hmx : w.cell? maxLenAt = some (.int .i64 m)) :
    Calls Tryd.prog 3 #[.slice a1 A.length c1, .slice a2 B.length c2] w fun e w' => e = .returned (.bool true) ∧ Below w.heap.size w w' := by
  have hS1 : ∀ v ∈ A, v.S.size ≤ 9223372036854775807 := fun v hv => by have := (hI1 v hv).2; omega
  have hS2 : ∀ v ∈ B, v.S.size ≤ 9223372036854775807 := fun v hv => by have := (hI2 v hv).2; omega
  have hmb : maxLenAt.block < w.heap.size := World.block_lt_of_cell? _ _ hmx
  have HM : Hid (∀ w1, Below w.heap.size w w1 → w1.cell? maxLenAt = some (.int .i64 m)) := fun w1 k => (k.cell (p := maxLenAt) hmb).trans hmx
  have HKA : Hid (∀ w1, Below w.heap.size w w1 → Calls Tryd.prog 6 #[.slice a1 A.length c1] w1 fun e w' => e = .returned (.tuple #[.string ⟨(keyB A).toArray⟩, .int .i64 (keyE A)]) ∧ Below w1.heap.size w1 w') := fun w1 k => key_any a1 c1 A m w1 (HM.out w1 k) (hA.below k) hl1 hS1
  have HKB : Hid (∀ w1, Below w.heap.size w w1 → Calls Tryd.prog 6 #[.slice a2 B.length c2] w1 fun e w' => e = .returned (.tuple #[.string ⟨(keyB B).toArray⟩, .int .i64 (keyE B)]) ∧ Below w1.heap.size w1 w') := fun w1 k => key_any a2 c2 B m w1 (HM.out w1 k) (hB.below k) hl2 hS2
  have HRK : Hid (∀ (w1 : World) (a : Option Addr) (c : Nat), ValsAt w1 a A → Calls Tryd.prog 7 #[.slice a A.length c] w1 fun e w' => e = .returned (.tuple #[.string ⟨(keyB A).toArray⟩, .int .i64 (keyE A)]) ∧ Below w1.heap.size w1 w') := fun w1 a c h => rkey_any a c A w1 h hl1 hS1
  have HCm : Hid (∀ w1, Below w.heap.size w w1 → Calls Tryd.prog 10 #[.slice a1 A.length c1, .slice a2 B.length c2] w1 fun e w' => e = .returned (.int .i64 (cmpL A B)) ∧ Below w1.heap.size w1 w') := fun w1 k => compare_any a1 a2 c1 c2 A B w1 (hA.below k) (hB.below k) (by omega) (by omega)
  have HRC : Hid (∀ (w1 : World) (x1 x2 : Option Addr) (y1 y2 : Nat), ValsAt w1 x1 A → ValsAt w1 x2 B → Calls Tryd.prog 11 #[.slice x1 A.length y1, .slice x2 B.length y2] w1 fun e w' => e = .returned (.int .i64 (cmpL A B)) ∧ Below w1.heap.size w1 w') := fun w1 x1 x2 y1 y2 h1 h2 => rcompare_any x1 x2 y1 y2 A B w1 h1 h2 (by omega) (by omega)
  have HFA : Hid (∀ w1, Below w.heap.size w w1 → Calls Tryd.prog 8 #[.slice a1 A.length c1] w1 fun e w' => ∃ a' c', e = .returned (.slice a' A.length c') ∧ Hid (ValsAt w' a' A) ∧ Below w1.heap.size w1 w') := fun w1 k => ref_any a1 c1 A w1 (hA.below k) (by omega)
  have HFB : Hid (∀ w1, Below w.heap.size w w1 → Calls Tryd.prog 8 #[.slice a2 B.length c2] w1 fun e w' => ∃ a' c', e = .returned (.slice a' B.length c') ∧ Hid (ValsAt w' a' B) ∧ Below w1.heap.size w1 w') := fun w1 k => ref_any a2 c2 B w1 (hB.below k) (by omega)
  have HOrd : Hid (keyE A = 0 → keyE B = 0 → A.length = B.length → Go.Op.bytesLess (⟨(keyB A).toArray⟩ : ByteArray).toList (⟨(keyB B).toArray⟩ : ByteArray).toList = decide (cmpL A B < 0) ∧ ((⟨(keyB A).toArray⟩ : ByteArray) = ⟨(keyB B).toArray⟩ ↔ cmpL A B = 0)) := fun e1 e2 el => by
    have h := keysL_order A B el (fun v hv => ⟨(keyE_may e1).1 v hv, (hI1 v hv).1⟩) (fun v hv => ⟨(keyE_may e2).1 v hv, (hI2 v hv).1⟩)
    rw [keyB_ok e1, keyB_ok e2]
    refine ⟨?_, ?_⟩
    · simp only [ByteArray.toList_eq]; exact h.1
    · constructor
      · intro q; exact h.2.1 (kba_inj q)
      · intro q; rw [h.2.2 q]
  clear hmx hmb hI1 hI2 hS1 hS2 HM hA hB
  generalize (⟨(keyB A).toArray⟩ : ByteArray) = S at *
  generalize (⟨(keyB B).toArray⟩ : ByteArray) = U at *
  generalize keyE A = E at *
  generalize keyE B = F at *
  generalize cmpL A B = R at *
  have hSS : (S.toList == S.toList) = true := by simp
  have hEE : (E != E) = false := by simp
  have hRR : (R != R) = false := by simp
  go_enter Tryd.func3, Tryd.ntmps3
  go_wp2_with fail
  refine (HKA.out w (Below.refl _ _)).mono ?_
  rintro e w1 ⟨rfl, b1⟩
  have B1 := hidk b1
  go_wp2_with fail
  refine (HFA.out w1 B1.out).mono ?_
  rintro e w2 ⟨x2, y2, rfl, V2, b2⟩
  have B2 := hidk (below_chain B1.out b2)
  go_wp2_with fail
  refine (HRK.out w2 x2 y2 V2.out).mono ?_
  rintro e w3 ⟨rfl, b3⟩
  have B3 := hidk (below_chain B2.out b3)
  clear b1 b2 b3 V2 B1 B2
  go_wp2_with fail
  refine (HKB.out w3 B3.out).mono ?_
  rintro e w4 ⟨rfl, b4⟩
  have B4 := hidk (below_chain B3.out b4)
  go_wp2_with fail
  refine (kawake_any _).mono ?_
  rintro e w5 ⟨rfl, b5⟩
  have B5 := hidk (below_chain B4.out b5)
  clear b4 b5 B3 B4
  go_wp2_with fail
  refine (HCm.out w5 B5.out).mono ?_
  rintro e w6 ⟨rfl, b6⟩
  have B6 := hidk (below_chain B5.out b6)
  go_wp2_with fail
  refine (HFA.out w6 B6.out).mono ?_
  rintro e w7 ⟨x7, y7, rfl, V7, b7⟩
  have B7 := hidk (below_chain B6.out b7)
  go_wp2_with fail
  refine (HFB.out w7 B7.out).mono ?_
  rintro e w8 ⟨x8, y8, rfl, V8, b8⟩
  have B8 := hidk (below_chain B7.out b8)
  go_wp2_with fail
  refine (HRC.out w8 x7 x8 y7 y8 (V7.out.below b8) V8.out).mono ?_
  rintro e w9 ⟨rfl, b9⟩
  have B9 := hidk (below_chain B8.out b9)
  clear b6 b7 b8 b9 B5 B6 B7 B8 V7 V8
  by_cases hE : E = 0
  rotate_left
  · have hE' : (E != 0) = true := by rw [bne_iff_ne]; exact hE
    go_wp2
    go_ret
    exact ⟨rfl, B9.out⟩
  subst hE
  by_cases hF : F = 0
  rotate_left
  · have hF' : (F != 0) = true := by rw [bne_iff_ne]; exact hF
    go_wp2
    go_ret
    exact ⟨rfl, B9.out⟩
  subst hF
  by_cases hL : A.length = B.length
  rotate_left
  · have hL' : ((A.length : Int) != (B.length : Int)) = true := by rw [bne_iff_ne]; omega
    go_wp2
    go_ret
    exact ⟨rfl, B9.out⟩
  have hL' : ((A.length : Int) != (B.length : Int)) = false := by rw [hL]; simp
  have HO := hidk (HOrd.out (by trivial) (by trivial) hL)
  clear hL HOrd
  go_wp2_with fail
  refine (HFA.out w9 B9.out).mono ?_
  rintro e wa ⟨xa, ya, rfl, Va, ba⟩
  have Ba := hidk (below_chain B9.out ba)
  go_wp2_with fail
  refine (HFB.out wa Ba.out).mono ?_
  rintro e wb ⟨xb, yb, rfl, Vb, bb⟩
  have Bb := hidk (below_chain Ba.out bb)
  go_wp2_with fail
  refine (HRC.out wb xa xb ya yb (Va.out.below bb) Vb.out).mono ?_
  rintro e wc' ⟨rfl, bc⟩
  have Bc := hidk (below_chain Bb.out bc)
  obtain ⟨o1, o2⟩ := HO.out
  clear HO
  have Ho2 := hidk o2
  clear o2
  by_cases hR : R = 0
  · subst hR
    have q : S = U := Ho2.out.2 (by trivial)
    subst q
    have o1' : Go.Op.bytesLess S.toList S.toList = false := by rw [o1]; rfl
    clear o1
    go_wp2
    go_ret
    exact ⟨rfl, Bc.out⟩
  · have hR' : (R == 0) = false := by rw [beq_eq_false_iff_ne]; exact hR
    have q := kstr_ne (fun q : S = U => hR (Ho2.out.1 q))
    by_cases hneg : R < 0
    · have o1' : Go.Op.bytesLess S.toList U.toList = true := by rw [o1]; exact decide_eq_true hneg
      clear o1
      go_wp2
      go_ret
      exact ⟨rfl, Bc.out⟩
    · have o1' : Go.Op.bytesLess S.toList U.toList = false := by rw [o1]; exact decide_eq_false hneg
      clear o1
      go_wp2
      go_ret
      exact ⟨kret_bool (by simp [hneg]), Bc.out⟩

end Go.Proofs.YtgammhmgdafpkaaDoor
