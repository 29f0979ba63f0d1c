/-
  The walks of girderref04.text and rec.Long.
-/
import Derived.Test.YthhldkpocgiglaaRecEncodeC
namespace Go.Proofs.Ythhldkpocgiglaa
open Go.RowKit Go.Sort
set_option linter.unusedVariables false
set_option linter.unusedSimpArgs false

theorem rput4 (n k : Nat) (w : World) (hn : n < 18446744073709551616) (hk : k ≤ 8) :
    Calls Try.prog 42 #[.int .u64 n, .int .i64 k] w fun e w' => e = .returned (.string ⟨(putL n k).toArray⟩) ∧ Below w.heap.size w w' := by
  have := rput_any n k w hn
  rw [show longOf (k : Int) = k from by unfold longOf; omega] at this
  exact this

set_option maxHeartbeats 800000 in
set_option maxRecDepth 60000 in
theorem r4text_any (s : ByteArray) (w : World) (hs : s.size ≤ 65535) :
    Calls Try.prog 43 #[.string s] w fun e w' => e = .returned (.string (⟨(putL s.size 2).toArray⟩ ++ s)) ∧ Below w.heap.size w w' := by
  obtain ⟨Q, HQ⟩ : ∃ Q : ByteArray, Hid (Q = ⟨(putL s.size 2).toArray⟩) := ⟨_, rfl⟩
  have hQs : Q.size = 2 := by rw [HQ.out, bytes_size, putL_length]
  have HP : Hid (∀ wx, Calls Try.prog 42 #[.int .u64 s.size, .int .i64 2] wx fun e w' => e = .returned (.string Q) ∧ Below wx.heap.size wx w') := fun wx => by rw [HQ.out]; exact rput4 s.size 2 wx (by omega) (by omega)
  rw [← HQ.out]
  clear HQ
  have u4 : IntKind.u64.wrap (s.size : Int) = (s.size : Int) := by rw [IntKind.wrap_u64]; omega
  have n1 : ¬ (9223372036854775807 < 2 + s.size) := by omega
  go_enter Try.func43, Try.ntmps43
  go_wp2_with fail
  refine (HP.out _).mono ?_
  rintro e w3 ⟨rfl, b3⟩
  go_wp2
  go_ret
  exact ⟨rfl, b3⟩

set_option maxHeartbeats 800000 in
set_option maxRecDepth 8000 in
theorem long_no (r : RecV) (ta da : Option Addr) (tc dc : Nat) (w : World) (h : r.Ok w ta da) (hm : mayR r = false) :
    Calls Try.prog 7 #[.agg (r.cells ta da tc dc)] w fun e w' => e = .returned (.tuple #[.int .i64 0, .int .i64 40]) ∧ Below w.heap.size w w' := by
  have HE : Hid (∀ wx, Below w.heap.size w wx → Calls Try.prog 6 #[.agg (r.cells ta da tc dc)] wx fun e w' => e = .returned (.tuple #[.string ⟨#[]⟩, .int .i64 40]) ∧ Below wx.heap.size wx w') := fun wx b => encode_no r ta da tc dc wx (h.below b) hm
  obtain ⟨W, HW⟩ : ∃ W, Hid (W = w.alloc (.cells (r.cells ta da tc dc) 35)) := ⟨_, rfl⟩
  have HB : Hid (Below w.heap.size w W) := by show Below _ _ _; rw [HW.out]; exact (Below.refl _ _).alloc (Nat.le_refl _) _
  have HPAR : Hid (r.cells ta da tc dc = #[.int .i64 r.kind, .int .i64 r.tx, .int .u64 r.prev, .int .u64 r.next, .int .u32 r.page, .int .i64 r.op.kind, .int .i64 r.op.at', .string r.op.S, .string r.op.old, .int .i64 r.undo, .int .i64 r.index, .string r.key, .int .u32 r.rpage, .int .i64 r.rslot, .bool r.live, .slice ta r.txs.length tc, .slice da r.dirty.length dc]) := rfl
  clear h hm
  rw [HPAR.out]
  rw [HPAR.out] at HE
  go_enter Try.func7, Try.ntmps7
  go_wp2_with fail
  rw [← HPAR.out] at HE ⊢
  rw [show w.alloc (.cells (r.cells ta da tc dc) 35) = W from HW.out.symm]
  clear HW
  refine (HE.out _ HB.out).mono ?_
  rintro e w3 ⟨rfl, b3⟩
  go_wp2
  go_ret2
  exact ⟨rfl, below_chain HB.out b3⟩

end Go.Proofs.Ythhldkpocgiglaa
