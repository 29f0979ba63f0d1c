/-
  The walk of rec.Long of a record that may be; a record is the same as itself.
-/
import Derived.Test.YthhldkpocgiglaaRefTextC
import Derived.Test.YthhldkpocgiglaaCutsWalkC
namespace Go.Proofs.Ythhldkpocgiglaa
open Go.RowKit Go.Sort
set_option linter.unusedVariables false
set_option linter.unusedSimpArgs false

theorem encR_most {r : RecV} (h : MayR r) : (encR r).length ≤ 1000000 := by
  unfold encR
  simp only [List.length_append, putL_length]
  have hn : (if nextB r then putL r.next 8 else []).length ≤ 8 := by split <;> simp [putL_length]
  have hc : (if changeB r then changeL r else []).length ≤ 200000 := by
    split
    · unfold changeL
      have h1 := textB_le r.op.S
      have h2 := textB_le r.op.old
      simp only [List.length_append, putL_length]
      omega
    · simp
  have hk : (if keyB r then keyL r else []).length ≤ 100000 := by
    split
    · unfold keyL
      have h1 := textB_le r.key
      simp only [List.length_append, putL_length]
      omega
    · simp
  have hl : (if listsB r then txsL r.txs ++ disL r.dirty else []).length ≤ 100000 := by
    split
    · rename_i hb
      obtain ⟨h1, h2, _⟩ := h.lists hb
      have a1 := txL_len r.txs r.txs.length
      have a2 := diL_len r.dirty r.dirty.length
      rw [List.take_length] at a1 a2
      unfold txsL disL
      simp only [List.length_append, putL_length]
      omega
    · simp
  omega

theorem sameR_self (r : RecV) : sameR r r = true := by unfold sameR; simp

set_option maxHeartbeats 800000 in
set_option maxRecDepth 8000 in
theorem long_ok (r : RecV) (ta da : Option Addr) (tc dc : Nat) (w : World) (h : r.Ok w ta da) (hm : mayR r = true) (hwd : r.Wide) :
    Calls Try.prog 7 #[.agg (r.cells ta da tc dc)] w fun e w' => e = .returned (.tuple #[.int .i64 ((12 : Int) + (encR r).length), .int .i64 0]) ∧ Below w.heap.size w w' := by
  have hle := encR_most (may_parts hm)
  have HE : Hid (∀ wx, Below w.heap.size w wx → Calls Try.prog 6 #[.agg (r.cells ta da tc dc)] wx fun e w' => e = .returned (.tuple #[.string ⟨(encR r).toArray⟩, .int .i64 0]) ∧ Below wx.heap.size wx w') := fun wx b => encode_ok r ta da tc dc wx (h.below b) hm hwd
  obtain ⟨W, HW⟩ : ∃ W, Hid (W = w.alloc (.cells (r.cells ta da tc dc) 35)) := ⟨_, rfl⟩
  have HB : Hid (Below w.heap.size w W ∧ w.heap.size < W.heap.size ∧ BlkR W w.heap.size (r.cells ta da tc dc) 35) := by rw [HW.out]; exact ⟨(Below.refl _ _).alloc (Nat.le_refl _) _, by simp, heap_alloc_new w _⟩
  have HPAR : Hid (r.cells ta da tc dc = #[.int .i64 r.kind, .int .i64 r.tx, .int .u64 r.prev, .int .u64 r.next, .int .u32 r.page, .int .i64 r.op.kind, .int .i64 r.op.at', .string r.op.S, .string r.op.old, .int .i64 r.undo, .int .i64 r.index, .string r.key, .int .u32 r.rpage, .int .i64 r.rslot, .bool r.live, .slice ta r.txs.length tc, .slice da r.dirty.length dc]) := rfl
  clear h hm hwd
  obtain ⟨S, HS⟩ : ∃ S, Hid (ByteArray.mk (encR r).toArray = S) := ⟨_, rfl⟩
  have hSz : S.size = (encR r).length := by rw [← HS.out]; show (encR r).toArray.size = _; simp
  rw [HS.out] at HE
  rw [← hSz] at hle ⊢
  clear HS hSz
  rw [HPAR.out]
  go_enter Try.func7, Try.ntmps7
  go_upto_region 1 with fail
  rw [← HPAR.out, show w.alloc (.cells (r.cells ta da tc dc) 35) = W from HW.out.symm]
  clear HW
  refine wp_region_lit ?_
  refine wpList_loadRow rfl _ _ rfl w.heap.size rfl (r.cells ta da tc dc) _ (0, 0) HB.out.2.2 _ Try.underlying35 rfl (by kernel_rfl) ?_
  go_wp2_with fail
  refine (HE.out _ HB.out.1).mono ?_
  rintro e w3 ⟨rfl, b3⟩
  go_wp2
  go_ret2
  exact ⟨rfl, below_chain HB.out.1 b3⟩

end Go.Proofs.Ythhldkpocgiglaa
