/-
  Proved: for every number n of 64 bits, every two integers 'where' and every text s the call RawNumbers(n, where, s) returns true, and each argument reads afterwards as it read before. No condition.
-/
import Derived.Test.YtjfjijgdjlkhkaaRows
import Derived.Test.YtjfjijgdjlkhkaaAwakeWalk
import Derived.Test.YtjfjijgdjlkhkaaGetWalks
import Derived.Test.YtjfjijgdjlkhkaaPair
import Derived.ProofKit
import Derived.OpenShut
import Derived.ShutString
import Derived.ChangeOld
import Derived.SizedLaws
import Derived.Lib.SmallJoins
import Derived.BigQuiet
import Derived.Deep.QuietTactic
namespace Go.Proofs.Ytjfjijgdjlkhkaa.LawNumbers
open Go.ChangeShapes Go.WideShapes Go.ChangeAt Go.RowKit
open Go.ChangeMaps (open_string shut_string)
set_option linter.unusedVariables false

theorem own : ownKnob Try.prog.godebug = none := by kernel_rfl
theorem laidOut : laidOutB Try.prog = true := by kernel_rfl

set_option maxHeartbeats 800000 in
theorem walk_bad_big (n : Nat) (l a : Int) (s : ByteArray) (w : World) (hn : n < 18446744073709551616) (hs : s.size ≤ 140737488351232) (hbad : l < 0 ∨ 8 < l ∨ a < 0 ∨ (s.size : Int) < a) (hz : 65535 < s.size) :
    Calls Try.prog 4 #[.int .u64 n, .agg #[.int .i64 l, .int .i64 a], .string s] w fun e w' => e = .returned (.bool true) ∧ Below w.heap.size w w' := by
  have hsm : s.size ≤ maxLen := by unfold maxLen; omega
  have hb : (decide (l < 0) || decide (8 < l) || decide (a < 0) || decide ((s.size : Int) < a)) = true := by simp; omega
  have hz1 : decide ((65535 : Int) < (s.size : Int)) = true := by simp; omega
  have B0 := fun nq => below_drewN ((Below.refl w.heap.size w).alloc (Nat.le_refl _) (.cells #[.int .i64 l, .int .i64 a] 28)) nq
  go_enter Try.func4, Try.ntmps4
  go_wp2_with fail
  go_quiet (fail)
  go_wp2_with fail
  refine (get_arg s a l _ hbad hsm).mono ?_
  rintro e w1 ⟨rfl, rfl⟩
  go_wp2_with fail
  refine (text_more s _ hz hsm).mono ?_
  rintro e w2 ⟨rfl, rfl⟩
  go_wp2_with fail
  refine (awake_any _).mono ?_
  rintro e w3 ⟨rfl, b3⟩
  replace b3 := below_chain (B0 _) b3
  clear B0
  go_wp2_with fail
  refine (put_any n l _ hn).mono ?_
  rintro e w4 ⟨rfl, b4⟩
  replace b4 := below_chain b3 b4
  clear b3
  go_wp2_with fail
  refine (rput_any n l _ hn).mono ?_
  rintro e w5 ⟨rfl, b5⟩
  replace b5 := below_chain b4 b5
  clear b4
  go_wp2
  all_goals
    go_ret
    exact ⟨rfl, b5⟩

set_option maxHeartbeats 800000 in
theorem walk_cut_big (n : Nat) (l a : Nat) (s : ByteArray) (w : World) (hn : n < 18446744073709551616) (hs : s.size ≤ 140737488351232) (h1 : l ≤ 8) (h2 : a ≤ s.size) (h3 : s.size < a + l) (hz : 65535 < s.size) :
    Calls Try.prog 4 #[.int .u64 n, .agg #[.int .i64 l, .int .i64 a], .string s] w fun e w' => e = .returned (.bool true) ∧ Below w.heap.size w w' := by
  have hsm : s.size ≤ maxLen := by unfold maxLen; omega
  have hb : (decide ((l : Int) < 0) || decide (8 < (l : Int)) || decide ((a : Int) < 0) || decide (s.size < a)) = false := by simp; omega
  have hc : decide ((s.size : Int) - (a : Int) < (l : Int)) = true := by simp; omega
  have hz1 : decide ((65535 : Int) < (s.size : Int)) = true := by simp; omega
  have B0 := fun nq => below_drewN ((Below.refl w.heap.size w).alloc (Nat.le_refl _) (.cells #[.int .i64 l, .int .i64 a] 28)) nq
  go_enter Try.func4, Try.ntmps4
  go_wp2_with fail
  go_quiet (fail)
  go_wp2_with fail
  refine (get_cut s a l _ h1 h2 h3 hsm).mono ?_
  rintro e w1 ⟨rfl, rfl⟩
  go_wp2_with fail
  refine (text_more s _ hz hsm).mono ?_
  rintro e w2 ⟨rfl, rfl⟩
  go_wp2_with fail
  refine (awake_any _).mono ?_
  rintro e w3 ⟨rfl, b3⟩
  replace b3 := below_chain (B0 _) b3
  clear B0
  go_wp2_with fail
  refine (put_any n l _ hn).mono ?_
  rintro e w4 ⟨rfl, b4⟩
  replace b4 := below_chain b3 b4
  clear b3
  go_wp2_with fail
  refine (rput_any n l _ hn).mono ?_
  rintro e w5 ⟨rfl, b5⟩
  replace b5 := below_chain b4 b5
  clear b4
  go_wp2
  all_goals
    go_ret
    exact ⟨rfl, b5⟩

set_option maxHeartbeats 800000 in
theorem walk_ok_big (n : Nat) (l a : Nat) (s : ByteArray) (w : World) (hn : n < 18446744073709551616) (hs : s.size ≤ 140737488351232) (h1 : l ≤ 8) (h2 : a + l ≤ s.size) (hz : 65535 < s.size) :
    Calls Try.prog 4 #[.int .u64 n, .agg #[.int .i64 l, .int .i64 a], .string s] w fun e w' => e = .returned (.bool true) ∧ Below w.heap.size w w' := by
  have hsm : s.size ≤ maxLen := by unfold maxLen; omega
  have hb : (decide ((l : Int) < 0) || decide (8 < (l : Int)) || decide ((a : Int) < 0) || decide (s.size < a)) = false := by simp; omega
  have hc : decide ((s.size : Int) - (a : Int) < (l : Int)) = false := by simp; omega
  have hz1 : decide ((65535 : Int) < (s.size : Int)) = true := by simp; omega
  have B0 := fun nq => below_drewN ((Below.refl w.heap.size w).alloc (Nat.le_refl _) (.cells #[.int .i64 l, .int .i64 a] 28)) nq
  go_enter Try.func4, Try.ntmps4
  go_wp2_with fail
  go_quiet (fail)
  go_wp2_with fail
  refine (get_ok s a l _ h1 h2 hsm).mono ?_
  rintro e w1 ⟨rfl, rfl⟩
  go_wp2_with fail
  refine (text_more s _ hz hsm).mono ?_
  rintro e w2 ⟨rfl, rfl⟩
  go_wp2_with fail
  refine (awake_any _).mono ?_
  rintro e w3 ⟨rfl, b3⟩
  replace b3 := below_chain (B0 _) b3
  clear B0
  go_wp2_with fail
  refine (put_any n l _ hn).mono ?_
  rintro e w4 ⟨rfl, b4⟩
  replace b4 := below_chain b3 b4
  clear b3
  go_wp2_with fail
  refine (rput_any n l _ hn).mono ?_
  rintro e w5 ⟨rfl, b5⟩
  replace b5 := below_chain b4 b5
  clear b4
  go_wp2_with fail
  refine (rnumber_any (s.extract a (a + l)) _ (by simp; omega)).mono ?_
  rintro e w7 ⟨rfl, rfl⟩
  rw [Lib.extract_data, show a + l - a = l from by omega]
  go_wp2
  all_goals
    go_ret
    exact ⟨by simp [part], b5⟩

set_option maxHeartbeats 800000 in
theorem walk_bad_small (n : Nat) (l a : Int) (s : ByteArray) (w : World) (hn : n < 18446744073709551616) (hs : s.size ≤ 140737488351232) (hbad : l < 0 ∨ 8 < l ∨ a < 0 ∨ (s.size : Int) < a) (hz : s.size ≤ 65535) :
    Calls Try.prog 4 #[.int .u64 n, .agg #[.int .i64 l, .int .i64 a], .string s] w fun e w' => e = .returned (.bool true) ∧ Below w.heap.size w w' := by
  have hsm : s.size ≤ maxLen := by unfold maxLen; omega
  have hb : (decide (l < 0) || decide (8 < l) || decide (a < 0) || decide ((s.size : Int) < a)) = true := by simp; omega
  have hz1 : decide ((65535 : Int) < (s.size : Int)) = false := by simp; omega
  have B0 := fun nq => below_drewN ((Below.refl w.heap.size w).alloc (Nat.le_refl _) (.cells #[.int .i64 l, .int .i64 a] 28)) nq
  go_enter Try.func4, Try.ntmps4
  go_wp2_with fail
  go_quiet (fail)
  go_wp2_with fail
  refine (get_arg s a l _ hbad hsm).mono ?_
  rintro e w1 ⟨rfl, rfl⟩
  go_wp2_with fail
  refine (text_ok s _ hz).mono ?_
  rintro e w2 ⟨rfl, b2⟩
  replace b2 := below_chain (B0 _) b2
  clear B0
  go_wp2_with fail
  refine (awake_any _).mono ?_
  rintro e w3 ⟨rfl, b3⟩
  replace b3 := below_chain b2 b3
  clear b2
  go_wp2_with fail
  refine (put_any n l _ hn).mono ?_
  rintro e w4 ⟨rfl, b4⟩
  replace b4 := below_chain b3 b4
  clear b3
  go_wp2_with fail
  refine (rput_any n l _ hn).mono ?_
  rintro e w5 ⟨rfl, b5⟩
  replace b5 := below_chain b4 b5
  clear b4
  go_wp2_with fail
  refine (rput_any s.size 2 _ (by omega)).mono ?_
  rintro e w6 ⟨rfl, b6⟩
  replace b5 := below_chain b5 b6
  clear b6
  rw [show longOf 2 = 2 from rfl]
  have hl : (ByteArray.mk (putL s.size 2).toArray).size = 2 := by rw [bytes_size, putL_length]
  rw [← bytes_add, bytes_self]
  go_wp2
  all_goals
    go_ret
    exact ⟨rfl, b5⟩

set_option maxHeartbeats 800000 in
theorem walk_cut_small (n : Nat) (l a : Nat) (s : ByteArray) (w : World) (hn : n < 18446744073709551616) (hs : s.size ≤ 140737488351232) (h1 : l ≤ 8) (h2 : a ≤ s.size) (h3 : s.size < a + l) (hz : s.size ≤ 65535) :
    Calls Try.prog 4 #[.int .u64 n, .agg #[.int .i64 l, .int .i64 a], .string s] w fun e w' => e = .returned (.bool true) ∧ Below w.heap.size w w' := by
  have hsm : s.size ≤ maxLen := by unfold maxLen; omega
  have hb : (decide ((l : Int) < 0) || decide (8 < (l : Int)) || decide ((a : Int) < 0) || decide (s.size < a)) = false := by simp; omega
  have hc : decide ((s.size : Int) - (a : Int) < (l : Int)) = true := by simp; omega
  have hz1 : decide ((65535 : Int) < (s.size : Int)) = false := by simp; omega
  have B0 := fun nq => below_drewN ((Below.refl w.heap.size w).alloc (Nat.le_refl _) (.cells #[.int .i64 l, .int .i64 a] 28)) nq
  go_enter Try.func4, Try.ntmps4
  go_wp2_with fail
  go_quiet (fail)
  go_wp2_with fail
  refine (get_cut s a l _ h1 h2 h3 hsm).mono ?_
  rintro e w1 ⟨rfl, rfl⟩
  go_wp2_with fail
  refine (text_ok s _ hz).mono ?_
  rintro e w2 ⟨rfl, b2⟩
  replace b2 := below_chain (B0 _) b2
  clear B0
  go_wp2_with fail
  refine (awake_any _).mono ?_
  rintro e w3 ⟨rfl, b3⟩
  replace b3 := below_chain b2 b3
  clear b2
  go_wp2_with fail
  refine (put_any n l _ hn).mono ?_
  rintro e w4 ⟨rfl, b4⟩
  replace b4 := below_chain b3 b4
  clear b3
  go_wp2_with fail
  refine (rput_any n l _ hn).mono ?_
  rintro e w5 ⟨rfl, b5⟩
  replace b5 := below_chain b4 b5
  clear b4
  go_wp2_with fail
  refine (rput_any s.size 2 _ (by omega)).mono ?_
  rintro e w6 ⟨rfl, b6⟩
  replace b5 := below_chain b5 b6
  clear b6
  rw [show longOf 2 = 2 from rfl]
  have hl : (ByteArray.mk (putL s.size 2).toArray).size = 2 := by rw [bytes_size, putL_length]
  rw [← bytes_add, bytes_self]
  go_wp2
  all_goals
    go_ret
    exact ⟨rfl, b5⟩

set_option maxHeartbeats 800000 in
theorem walk_ok_small (n : Nat) (l a : Nat) (s : ByteArray) (w : World) (hn : n < 18446744073709551616) (hs : s.size ≤ 140737488351232) (h1 : l ≤ 8) (h2 : a + l ≤ s.size) (hz : s.size ≤ 65535) :
    Calls Try.prog 4 #[.int .u64 n, .agg #[.int .i64 l, .int .i64 a], .string s] w fun e w' => e = .returned (.bool true) ∧ Below w.heap.size w w' := by
  have hsm : s.size ≤ maxLen := by unfold maxLen; omega
  have hb : (decide ((l : Int) < 0) || decide (8 < (l : Int)) || decide ((a : Int) < 0) || decide (s.size < a)) = false := by simp; omega
  have hc : decide ((s.size : Int) - (a : Int) < (l : Int)) = false := by simp; omega
  have hz1 : decide ((65535 : Int) < (s.size : Int)) = false := by simp; omega
  have B0 := fun nq => below_drewN ((Below.refl w.heap.size w).alloc (Nat.le_refl _) (.cells #[.int .i64 l, .int .i64 a] 28)) nq
  go_enter Try.func4, Try.ntmps4
  go_wp2_with fail
  go_quiet (fail)
  go_wp2_with fail
  refine (get_ok s a l _ h1 h2 hsm).mono ?_
  rintro e w1 ⟨rfl, rfl⟩
  go_wp2_with fail
  refine (text_ok s _ hz).mono ?_
  rintro e w2 ⟨rfl, b2⟩
  replace b2 := below_chain (B0 _) b2
  clear B0
  go_wp2_with fail
  refine (awake_any _).mono ?_
  rintro e w3 ⟨rfl, b3⟩
  replace b3 := below_chain b2 b3
  clear b2
  go_wp2_with fail
  refine (put_any n l _ hn).mono ?_
  rintro e w4 ⟨rfl, b4⟩
  replace b4 := below_chain b3 b4
  clear b3
  go_wp2_with fail
  refine (rput_any n l _ hn).mono ?_
  rintro e w5 ⟨rfl, b5⟩
  replace b5 := below_chain b4 b5
  clear b4
  go_wp2_with fail
  refine (rput_any s.size 2 _ (by omega)).mono ?_
  rintro e w6 ⟨rfl, b6⟩
  replace b5 := below_chain b5 b6
  clear b6
  rw [show longOf 2 = 2 from rfl]
  have hl : (ByteArray.mk (putL s.size 2).toArray).size = 2 := by rw [bytes_size, putL_length]
  rw [← bytes_add, bytes_self]
  go_wp2_with fail
  refine (rnumber_any (s.extract a (a + l)) _ (by simp; omega)).mono ?_
  rintro e w7 ⟨rfl, rfl⟩
  rw [Lib.extract_data, show a + l - a = l from by omega]
  go_wp2
  all_goals
    go_ret
    exact ⟨by simp [part], b5⟩

theorem walk (n : Nat) (l a : Int) (s : ByteArray) (w : World) (hn : n < 18446744073709551616) (hs : s.size ≤ 140737488351232) :
    Calls Try.prog 4 #[.int .u64 n, .agg #[.int .i64 l, .int .i64 a], .string s] w fun e w' => e = .returned (.bool true) ∧ Below w.heap.size w w' := by
  by_cases hb : l < 0 ∨ 8 < l ∨ a < 0 ∨ (s.size : Int) < a
  · by_cases hz : 65535 < s.size
    · exact walk_bad_big n l a s w hn hs hb hz
    · exact walk_bad_small n l a s w hn hs hb (by omega)
  · obtain ⟨l, rfl⟩ := Int.eq_ofNat_of_zero_le (show 0 ≤ l by omega)
    obtain ⟨a, rfl⟩ := Int.eq_ofNat_of_zero_le (show 0 ≤ a by omega)
    by_cases hc : s.size < a + l
    · by_cases hz : 65535 < s.size
      · exact walk_cut_big n l a s w hn hs (by omega) (by omega) hc hz
      · exact walk_cut_small n l a s w hn hs (by omega) (by omega) hc (by omega)
    · by_cases hz : 65535 < s.size
      · exact walk_ok_big n l a s w hn hs (by omega) (by omega) hz
      · exact walk_ok_small n l a s w hn hs (by omega) (by omega) (by omega)

theorem cells28 : Try.prog.cellsOf 28 = 2 := by kernel_rfl

set_option maxRecDepth 100000 in
theorem lifted (os : Os) (started : os.Started) (H : Type) (enc : TypeId × Value → H) :
    ReturnsInHanded {} Try.checked os 4 .any (Rows.rawNumbersSpec.pre6 enc Try.prog Try.f4 Rows.rawNumbersRow.domain false) (Rows.rawNumbersSpec.post enc Try.prog Try.f4 false true false false) := by
  refine returnsInHanded_of_change_sized (C := Try.checked) own started (by kernel_rfl) Try.func4
    (ChangeSpec.witness6 (enc := enc) (C := Try.checked) false ⟨#[], #[.int .u64 0, .agg #[.int .i64 0, .int .i64 0], .string ByteArray.empty], []⟩ 8 (by kernel_rfl) (by kernel_rfl) (by kernel_rfl) (by kernel_rfl)) ?_
  intro W base args ds gs before hval0 hW hcnd hsz0 _
  have hval : ∀ (j : Nat) t v, Try.f4.params[j]? = some t → args[j]? = some v → Value.okWide Try.prog W .any base t v := hval0
  have hsz : (DataW.weightsEach Try.prog (Try.f4.params.toList ++ Rows.rawNumbersSpec.plain.varTypes Try.prog) (ds ++ gs)).all (· ≤ reachBytes) = true := hsz0
  have hW' := hW
  obtain ⟨p, q, hA0, hV, rfl, hfz, hnd⟩ := hW
  have hA : DataW.TrodAll enc Try.prog W 0 (fun _ => true) true Try.f4.params.toList args.toList ds p := hA0
  rw [Try.params4] at hA hval hsz
  obtain ⟨v0, v1, v2, d0, d1, d2, p0, p1, p2, rfl, rfl, rfl, h0, h1, h2⟩ := trodAll_three hA
  obtain ⟨rfl, rfl⟩ := trodVars_none hV
  obtain ⟨a0, rfl, rfl, rfl, w0⟩ := open_int Try.underlying27 (hval 0 27 v0 rfl rfl) h0
  have k1 := h1
  have lt1 : ∀ x ∈ p1, x.block < W.heap.size := by obtain ⟨m, hm⟩ := k1; exact DataW.trod_lt m _ _ _ hm
  obtain ⟨c0, c1, rfl⟩ : ∃ c0 c1 : Int, v1 = .agg #[.int .i64 c0, .int .i64 c1] :=
    open_pair Try.underlying28 Try.underlying3 (by kernel_rfl) cells28 (hval 1 28 v1 rfl rfl) h1
  obtain ⟨a2, rfl, rfl, rfl, w2⟩ := open_string Try.underlying9 (hval 2 9 v2 rfl rfl) h2
  have r2 : a2.size ≤ 140737488351232 := by simpa [reachBytes] using sized_string hsz (j := 2) rfl rfl
  have r0 := bounds_u64 w0
  obtain ⟨n0, rfl⟩ := Int.eq_ofNat_of_zero_le r0.1
  clear hA0 hval0 hsz hsz0
  refine (walk n0 c0 c1 a2 W (by omega) r2).mono fun e W' ⟨he, bel⟩ => ?_
  subst he
  exact ⟨_, rfl, _, _, _, [], _, [], hW', trodAll_mk1 (shut_bool Try.underlying4 _), trodAll_mk3 (shut_int Try.underlying27 w0) (Below.trod laidOut (by kernel_rfl) (of_decide_eq_true (by kernel_rfl)) k1 bel lt1) (shut_string Try.underlying9 w2), rfl, bel.frame _, fun h => by cases h⟩

theorem over : Rows.rawNumbersRow.holds Try.pinned (OpenSpec.ofChange Rows.rawNumbersSpec) :=
  OpenClaim.holds_of_wide 4 Try.f4 rfl rfl rfl rfl rfl rfl rfl ⟨rfl, rfl, rfl, rfl, rfl⟩ rfl rfl rfl rfl rfl (by kernel_rfl) Try.func4 (by kernel_rfl)
    (of_decide_eq_true (by kernel_rfl)) (by unfold Func.isWrapper; first | (rw [if_pos (by decide +kernel)]; kernel_rfl) | (rw [if_neg (by decide +kernel)]; exact ⟨rfl, rfl⟩))
    (fun os started H enc _ => lifted os started H enc)

end Go.Proofs.Ytjfjijgdjlkhkaa.LawNumbers

namespace Go.Proofs.Ytjfjijgdjlkhkaa
theorem rawNumbers_holds : Rows.RawNumbersSaid := LawNumbers.over
#print axioms rawNumbers_holds
end Go.Proofs.Ytjfjijgdjlkhkaa
