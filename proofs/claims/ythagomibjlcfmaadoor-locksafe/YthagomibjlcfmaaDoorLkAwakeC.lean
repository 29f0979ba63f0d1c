/-
  The walk of girderlaw08.awake; what leaves all that was there alone.
-/
import Derived.Test.YthagomibjlcfmaaDoorLkAsk2C
namespace Go.Proofs.YthagomibjlcfmaaDoor
open Go.RowKit
set_option linter.unusedVariables false
set_option linter.unusedSimpArgs false

theorem MovesL.below {S S' : Nat → Prop} {w0 w w' : World} {B : Nat} (h : MovesL S S' w w') (hS : ∀ k, S k → B ≤ k) (hb : Below B w0 w) (hB : B ≤ w.heap.size) : Below B w0 w' ∧ ∀ k, S' k → B ≤ k :=
  ⟨⟨h.1.os.trans hb.os, h.1.tape.trans hb.tape, h.1.output.trans hb.output, Nat.le_trans hb.size h.1.size, fun k hk => (h.1.block k (by omega) (fun x => by have := hS k x; omega)).trans (hb.block k hk)⟩,
    fun k hk => by
      rcases h.2 k hk with a | a
      · exact hS k a
      · omega⟩

def nm1 : NameV := (1, 0, 0, 0)

set_option maxHeartbeats 1600000 in
set_option maxRecDepth 60000 in
theorem awake_any (w : World) (hl : LkLaid w) : Calls Tryd.prog 6 #[] w fun e w' => e = .returned (.bool true) ∧ Below w.heap.size w w' := by
  obtain ⟨l, hn⟩ := nok1
  have HN := new_any w
  have HA1 : Hid (∀ wx b S, LkLaid wx → IsTab S wx b emptyT → Calls Tryd.prog 10 #[.pointer (some ⟨b, 0, none⟩), .int .i64 1, .agg #[.int .i64 1, .int .i64 0, .int .u32 0, .int .i64 0], .int .i64 5, .bool false, .bool true] wx fun e w' => e = .returned (.tuple #[.bool true, .int .i64 0]) ∧ ∃ S', IsTab S' w' b (emptyT.setQ nm1 [(1, 5, 0, false)]) ∧ MovesL S S' wx w') := fun wx b S hx ht =>
    ask_had hx ht 1 nm1 l hn 5 false true (by omega) ⟨by omega, by omega⟩ rfl rfl (by decide) (by decide) (by decide) (fun _ => rfl) (by decide) trivial rfl
  have HA2 : Hid (∀ wx b S, LkLaid wx → IsTab S wx b (emptyT.setQ nm1 [(1, 5, 0, false)]) → Calls Tryd.prog 10 #[.pointer (some ⟨b, 0, none⟩), .int .i64 2, .agg #[.int .i64 1, .int .i64 0, .int .u32 0, .int .i64 0], .int .i64 3, .bool false, .bool true] wx fun e w' => e = .returned (.tuple #[.bool false, .int .i64 0]) ∧ ∃ S' T', IsTab S' w' b T' ∧ (T'.W 2).isSome = true ∧ MovesL S S' wx w') := fun wx b S hx ht => by
    refine (ask_wait hx ht 2 nm1 l hn 3 false true (by omega) ⟨by omega, by omega⟩ rfl rfl (by decide) (by decide) (by decide) (fun _ => rfl) (by decide) (by decide) trivial rfl (by decide)).mono ?_
    rintro e w' ⟨rfl, S', h1, h2⟩
    exact ⟨rfl, S', _, h1, rfl, h2⟩
  have HW : Hid (∀ wx b S T, IsTab S wx b T → (T.W 2).isSome = true → Calls Tryd.prog 11 #[.pointer (some ⟨b, 0, none⟩), .int .i64 2] wx fun e w' => e = .returned (.bool true) ∧ Below wx.heap.size wx w') := fun wx b S T ht he => by
    have := waits_any ht 2 ⟨by omega, by omega⟩
    rw [he] at this
    exact this
  go_enter Tryd.func6, Tryd.ntmps6
  go_wp2_with fail
  refine HN.mono ?_
  rintro e w1 ⟨b, S, rfl, ht1, b1, hS1⟩
  clear HN
  have hl1 := hl.below hl.lt b1
  have HC1 := HA1.out w1 b S hl1 ht1
  clear HA1
  go_wp2_with fail
  refine HC1.mono ?_
  rintro e w2 ⟨rfl, S2, ht2, m2⟩
  obtain ⟨b2, hS2⟩ := m2.below hS1 b1 b1.size
  have HC2 := HA2.out w2 b S2 (hl.below hl.lt b2) ht2
  clear HC1 HA2 m2 ht1 b1 hl1 hS1
  go_wp2_with fail
  refine HC2.mono ?_
  rintro e w3 ⟨rfl, S3, T3, ht3, he3, m3⟩
  obtain ⟨b3, hS3⟩ := m3.below hS2 b2 b2.size
  have HC3 := HW.out w3 b S3 T3 ht3 he3
  clear HC2 HW m3 ht2 b2 hS2
  go_wp2_with fail
  refine HC3.mono ?_
  rintro e w4 ⟨rfl, b4⟩
  go_wp2
  go_ret
  exact ⟨rfl, b3.trans (b4.mono b3.size)⟩

end Go.Proofs.YthagomibjlcfmaaDoor
