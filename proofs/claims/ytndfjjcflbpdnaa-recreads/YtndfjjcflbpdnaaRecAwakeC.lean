/-
  The walk of girderlaw04.awake.
-/
import Derived.Test.YtndfjjcflbpdnaaRecDec0C
namespace Go.Proofs.Ytndfjjcflbpdnaa
open Go.RowKit Go.Sort
set_option linter.unusedVariables false

def thirteen : ByteArray := ⟨(putL 4 1 ++ putL 3 4 ++ putL 9 8).toArray⟩

theorem thirteen_size : thirteen.size = 13 := by unfold thirteen; rw [bytes_size]; simp only [List.length_append, putL_length]
theorem thirteen_k : le (part thirteen 0 1) = 4 := by decide
theorem thirteen_x : le (part thirteen 1 4) = 3 := by decide
theorem thirteen_q : le (part thirteen 5 8) = 9 := by decide
theorem plain493 : Plain (plainV 4 3 9) := ⟨by decide, by decide, by decide, by decide, by decide, by decide, by decide⟩

set_option maxHeartbeats 1600000 in
set_option maxRecDepth 8000 in
theorem rawake_any (w : World) : Calls Try.prog 6 #[] w fun e w' => e = .returned (.bool true) ∧ Below w.heap.size w w' := by
  have HE : Hid (Calls Try.prog 26 #[.agg #[.int .i64 4, .int .i64 3, .int .u64 9, .int .u64 0, .int .u32 0, .int .i64 0, .int .i64 0, .string ⟨#[]⟩, .string ⟨#[]⟩, .int .i64 0, .int .i64 0, .string ⟨#[]⟩, .int .u32 0, .int .i64 0, .bool false, .slice none 0 0, .slice none 0 0]] w fun e w' => e = .returned (.tuple #[.string thirteen, .int .i64 0]) ∧ Below w.heap.size w w') :=
    encode_plain (plainV 4 3 9) none none 0 0 w (plainV_ok 4 3 9 (by omega) (by omega) (by omega) w) plain493 4 3 rfl rfl
  have HD : Hid (∀ wx, Calls Try.prog 4 #[.string thirteen] wx fun e w' => e = .returned (.tuple #[.agg #[.int .i64 4, .int .i64 3, .int .u64 9, .int .u64 0, .int .u32 0, .int .i64 0, .int .i64 0, .string ⟨#[]⟩, .string ⟨#[]⟩, .int .i64 0, .int .i64 0, .string ⟨#[]⟩, .int .u32 0, .int .i64 0, .bool false, .slice none 0 0, .slice none 0 0], .int .i64 0]) ∧ Below wx.heap.size wx w') :=
    fun wx => decode_plain thirteen wx thirteen_size 4 3 9 thirteen_k thirteen_x thirteen_q (by omega) (by omega) plain493
  have hz := thirteen_size
  generalize thirteen = T at *
  go_enter Try.func6, Try.ntmps6
  go_wp2_with fail
  refine HE.out.mono ?_
  rintro e w1 ⟨rfl, b1⟩
  have HB1 := hidr b1
  clear b1 HE
  go_wp2_with fail
  refine (HD.out w1).mono ?_
  rintro e w2 ⟨rfl, b2⟩
  have HB2 := hidr (below_chain HB1.out b2)
  clear b2 HD HB1
  have t1 : ((T.size : Int) == 13) = true := by rw [hz]; rfl
  go_wp2_with fail
  go_ret
  exact ⟨rfl, HB2.out.alloc HB2.out.size _⟩

end Go.Proofs.Ytndfjjcflbpdnaa
