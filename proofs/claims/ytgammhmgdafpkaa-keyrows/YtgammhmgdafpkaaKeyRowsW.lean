/-
  The walk of KeyRows.
-/
import Derived.Test.YtgammhmgdafpkaaKeyRVals
import Derived.Test.YtgammhmgdafpkaaKeySame
namespace Go.Proofs.Ytgammhmgdafpkaa
open Go.RowKit Go.Sort
set_option linter.unusedVariables false
set_option linter.unusedSimpArgs false

set_option maxHeartbeats 3200000 in
theorem rows_walk (a : Option Addr) (c : Nat) (L : List ValV) (s : ByteArray) (w : World) (hL : ValsAt w a L) (hl : L.length * 32 ≤ 140737488351232) (hI : ∀ v ∈ L, v.In ∧ v.S.size ≤ 140737488351232) (hs : s.size ≤ 140737488351232) :
    Calls Try.prog 3 #[.slice a L.length c, .string s] w fun e w' => e = .returned (.bool true) ∧ Below w.heap.size w w' := by
  have hS : ∀ v ∈ L, v.S.size ≤ 9223372036854775807 := fun v hv => by have := (hI v hv).2; omega
  have HRow : Hid (∀ (w1 : World) (a1 : Option Addr) (c1 : Nat), ValsAt w1 a1 L → Calls Try.prog 5 #[.slice a1 L.length c1] w1 fun e w' => e = .returned (.tuple #[.string ⟨(rowB L).toArray⟩, .int .i64 (rowE L)]) ∧ Below w1.heap.size w1 w') := fun w1 a1 c1 h => row_any a1 c1 L w1 h (by omega) hS
  have HRRow : Hid (∀ (w1 : World) (a1 : Option Addr) (c1 : Nat), ValsAt w1 a1 L → Calls Try.prog 6 #[.slice a1 L.length c1] w1 fun e w' => e = .returned (.tuple #[.string ⟨(rowB L).toArray⟩, .int .i64 (rowE L)]) ∧ Below w1.heap.size w1 w') := fun w1 a1 c1 h => rrow_any a1 c1 L w1 h (by omega) hS
  have HV : Hid (∀ w1, Calls Try.prog 8 #[.string s] w1 fun x w' => ∃ a c, x = .returned (.tuple #[.slice a (valsL s).length c, .int .i64 (valsE s)]) ∧ Hid (ValsAt w' a (valsL s)) ∧ Below w1.heap.size w1 w') := fun w1 => values_any s w1 (by omega)
  have HRV : Hid (∀ w1, Calls Try.prog 9 #[.string s] w1 fun x w' => ∃ a c, x = .returned (.tuple #[.slice a (valsL s).length c, .int .i64 (valsE s)]) ∧ Hid (ValsAt w' a (valsL s)) ∧ Below w1.heap.size w1 w') := fun w1 => rvalues_any s w1 hs
  have hvl : (valsL s).length ≤ 4 := by
    unfold valsL
    split
    · rename_i q
      unfold valsB at q
      simp at q
      by_cases z : (readV s).2.2.length < 1 ∨ 4 < (readV s).2.2.length
      · rw [rowE_len z] at q; omega
      · omega
    · simp
  have HV2 : Hid (rowE L = 0 → ∀ w1, Calls Try.prog 8 #[.string ⟨(rowB L).toArray⟩] w1 fun x w' => ∃ a c, x = .returned (.tuple #[.slice a L.length c, .int .i64 0]) ∧ Hid (ValsAt w' a L) ∧ Below w1.heap.size w1 w') := fun h w1 => by
    have hr := read_row h (fun v hv => (hI v hv).1)
    have hb := rowB_ok h
    have hlen : (rowR L).length ≤ 60 := by
      by_cases z : 60 < (rowR L).length
      · unfold rowE at h
        split at h
        · omega
        · split at h
          · omega
          · omega
      · omega
    have := values_any ⟨(rowB L).toArray⟩ w1 (by rw [bytes_size, hb]; omega)
    have e1 : valsL ⟨(rowB L).toArray⟩ = L := by unfold valsL; rw [hb, if_pos hr.1]; exact hr.2
    have e2 : valsE ⟨(rowB L).toArray⟩ = 0 := by unfold valsE; rw [hb, if_pos hr.1]
    rw [e1, e2] at this
    exact this
  generalize valsL s = M at HV HRV hvl
  generalize valsE s = F at HV HRV
  generalize (⟨(rowB L).toArray⟩ : ByteArray) = T at HRow HRRow HV2
  generalize rowE L = E at HRow HRRow HV2
  have hTT : (T.toList == T.toList) = true := by simp
  have hEE : (E != E) = false := by simp
  have hFF : (F != F) = false := by simp
  go_enter Try.func3, Try.ntmps3
  go_wp2_with fail
  refine (HRow.out _ _ _ hL).mono ?_
  rintro e w1 ⟨rfl, b1⟩
  have hL1 := hL.below b1
  go_wp2_with fail
  refine (ref_any a c L w1 hL1 (by omega)).mono ?_
  rintro e w2 ⟨a2, c2, rfl, HA2, b2⟩
  go_wp2_with fail
  refine (HRRow.out _ _ _ HA2.out).mono ?_
  rintro e w3 ⟨rfl, b3⟩
  go_wp2_with fail
  refine (HV.out _).mono ?_
  rintro e w4 ⟨a4, c4, rfl, HA4, b4⟩
  go_wp2_with fail
  refine (HRV.out _).mono ?_
  rintro e w5 ⟨a5, c5, rfl, HA5, b5⟩
  have HB5 := hidk (below_chain (below_chain (below_chain (below_chain b1 b2) b3) b4) b5)
  have HA4' := hidk (HA4.out.below b5)
  have hL5 := hL.below HB5.out
  clear b1 b2 b3 b4 b5 hL1 HA2 HA4 HRow HRRow HV HRV hL
  go_wp2_with fail
  refine (kawake_any _).mono ?_
  rintro e w6 ⟨rfl, b6⟩
  go_wp2_with fail
  refine (same_yes a4 a5 c4 c5 M w6 (HA4'.out.below b6) (HA5.out.below b6) (by omega)).mono ?_
  rintro e w7 ⟨rfl, b7⟩
  have HB7 := hidk (below_chain (below_chain HB5.out b6) b7)
  have hL7 := (hL5.below b6).below b7
  clear HB5 b6 b7 HA4' HA5 hL5
  by_cases hE : E = 0
  · subst hE
    go_wp2_with fail
    refine (HV2.out (by trivial) _).mono ?_
    rintro e w8 ⟨a8, c8, rfl, HA8, b8⟩
    go_wp2_with fail
    refine (ref_any a c L w8 (hL7.below b8) (by omega)).mono ?_
    rintro e w9 ⟨a9, c9, rfl, HA9, b9⟩
    go_wp2_with fail
    refine (same_yes a8 a9 c8 c9 L w9 (HA8.out.below b9) HA9.out (by omega)).mono ?_
    rintro e w10 ⟨rfl, b10⟩
    go_wp2
    go_ret
    exact ⟨rfl, below_chain (below_chain (below_chain HB7.out b8) b9) b10⟩
  · have hE' : (E != 0) = true := by rw [bne_iff_ne]; exact hE
    go_wp2
    go_ret
    exact ⟨rfl, HB7.out⟩

end Go.Proofs.Ytgammhmgdafpkaa
