/-
  The walk of awake: the published sum and the bytes of 258 are as the document says.
-/
import Derived.Test.YtjfjijgdjlkhkaaCrcWalks
import Derived.Test.YtjfjijgdjlkhkaaPutWalks
namespace Go.Proofs.Ytjfjijgdjlkhkaa
open Go.RowKit

theorem putL_258 : putL 258 2 = [2, 1] := by decide +kernel

set_option maxHeartbeats 400000 in
theorem awake_any (w : World) :
    Calls Try.prog 9 #[] w fun e w' => e = .returned (.bool true) ∧ Below w.heap.size w w' := by
  have hs := sum_any ⟨#[49, 50, 51, 52, 53, 54, 55, 56, 57]⟩ w (by decide)
  rw [show (ByteArray.data ⟨#[49, 50, 51, 52, 53, 54, 55, 56, 57]⟩).toList = [49, 50, 51, 52, 53, 54, 55, 56, 57] from rfl, crcSum_nine] at hs
  have HS : Hid (Calls Try.prog 10 #[.string ⟨#[49, 50, 51, 52, 53, 54, 55, 56, 57]⟩] w fun e w' => e = .returned (.int .u32 (3808858755 : Nat)) ∧ w' = w) := hs
  clear hs
  have hp := put_any 258 2 w (by decide)
  rw [show longOf 2 = 2 from rfl, putL_258] at hp
  have HP : Hid (Calls Try.prog 15 #[.int .u64 (258 : Nat), .int .i64 2] w fun e w' => e = .returned (.string ⟨[2, 1].toArray⟩) ∧ Below w.heap.size w w') := hp
  clear hp
  go_enter Try.func9, Try.ntmps9
  go_wp2_with fail
  refine HS.out.mono ?_
  rintro e w' ⟨rfl, rfl⟩
  go_wp2_with fail
  refine HP.out.mono ?_
  rintro e w1 ⟨rfl, hb⟩
  go_wp2
  go_ret
  exact ⟨rfl, hb⟩
end Go.Proofs.Ytjfjijgdjlkhkaa
