/-
  The walk of raw.NewReader: a reader at the front.
-/
import Derived.Test.YtjemeopafkafgaaGreatReaderWalksC
namespace Go.Proofs.YtjemeopafkafgaaGreat
open Go.RowKit

set_option maxHeartbeats 400000 in
set_option maxRecDepth 60000 in
theorem new_reader (s : ByteArray) (w : World) :
    Calls Tryz.prog 37 #[.string s] w fun x w' => x = .returned (.pointer (some ⟨w.heap.size, 0, none⟩)) ∧ w' = w.alloc (.cells #[.string s, .int .i64 0, .int .i64 0] 176) := by
  go_enter Tryz.func37, Tryz.ntmps37
  go_wp2
  go_ret
  exact ⟨rfl, rfl⟩

theorem reader_new {s : ByteArray} {w w1 : World} {t : TypeId} (hs : s.size ≤ 281474976710656) (hb : Below (w.alloc (.cells #[.string s, .int .i64 0, .int .i64 0] t)).heap.size (w.alloc (.cells #[.string s, .int .i64 0, .int .i64 0] t)) w1) :
    IsReader w1 w.heap.size s 0 0 := by
  have h : IsReader (w.alloc (.cells #[.string s, .int .i64 0, .int .i64 0] t)) w.heap.size s 0 0 := ⟨by simp, by simp, by simp, by simp, by simp, by omega, hs, by simp⟩
  exact h.below hb

end Go.Proofs.YtjemeopafkafgaaGreat
