/-
  The walk of redo.foresee: nothing due, or one change that can be done.
-/
import Derived.Test.YtgkfdakieebnmaaGreatRdForeJ
set_option linter.unusedVariables false
set_option linter.unusedSimpArgs false
namespace Go.Proofs.YtgkfdakieebnmaaGreat
open Go.RowKit Go.Sort Go.Shelf Go.Lib

theorem bare_fits {n : Nat} (h : n ≤ 64) : (bareV n).Fits := ⟨by show n < 4294967296; omega, by show (0 : Nat) < _; omega, Int.le_refl _, by show (0 : Int) ≤ 255; omega, by show (⟨#[]⟩ : ByteArray).size ≤ 32; decide, Nat.zero_le _, by show (⟨#[]⟩ : ByteArray).size + slotSum [] ≤ 485; decide⟩

theorem foresee_nil (w : World) (pp : Nat) : Calls Tryz.prog 41 #[.pointer (some ⟨pp, 0, none⟩), .slice none 0 0] w fun e w' => e = .returned (.int .i64 0) ∧ w' = w := by
  go_enter Tryz.func41, Tryz.ntmps41
  go_wp2_with fail
  go_ret
  exact ⟨rfl, rfl⟩

set_option maxHeartbeats 6400000 in
set_option maxRecDepth 20000 in
theorem foresee_one {w W : World} {p q pp : Nat} {A S : Nat → Prop} {l : LG} {d : DG} {rs : List ByteArray} {sure j : Nat} {P : PG} (h : RdS w W p q A l d rs sure j) (hp : PoAt w W A p q pp S P) (r : RecV) (b c : Nat) (ta da : Option Addr) (tc dc at' : Nat) (hb : b < W.heap.size) (hrow : W.rangeAt b 0 (plArr at' r ta da tc dc).toList) (h1 : 1 ≤ r.page) (h2 : r.page ≤ 64) (hF : P.F r.page = none)
    {y : SheetV} (hA : ApplyIs (bareV r.page) r.op 0 y) (hat : 0 < at') :
    Calls Tryz.prog 41 #[.pointer (some ⟨pp, 0, none⟩), .slice (some ⟨b, 0, none⟩) 1 c] W fun e w' => e = .returned (.int .i64 0) ∧ ∃ A', RdS w w' p q A' l d rs sure j ∧ PoAt w w' A' p q pp S P ∧ ∀ k, k < W.heap.size → ¬ A k → w'.heap[k]? = W.heap[k]? := by
  have hpc := hp.pcell
  have HDI := hida (rdisk_any W pp p hpc.1)
  have HLO := hida (rlog_any W pp q hpc.2.1)
  have HPN := hida (rd_pool h 256 (by omega) (by omega))
  have HR := hida (show RdS w W p q A l d rs sure j ∧ PoAt w W A p q pp S P ∧ b < W.heap.size ∧ W.rangeAt b 0 (plArr at' r ta da tc dc).toList from ⟨h, hp, hb, hrow⟩)
  have HAI := hida hA
  have HPA : Hid (plArr at' r ta da tc dc = #[.int .u64 (at' : Nat), .int .i64 r.kind, .int .i64 r.tx, .int .u64 r.prev, .int .u64 r.next, .int .u32 r.page, .int .i64 r.op.kind, .int .i64 r.op.at', .string r.op.S, .string r.op.old, .int .i64 r.undo, .int .i64 r.index, .string r.key, .int .u32 r.rpage, .int .i64 r.rslot, .bool r.live, .slice ta r.txs.length tc, .slice da r.dirty.length dc]) := rfl
  clear h hp hb hrow hA hpc
  go_enter Tryz.func41, Tryz.ntmps41
  go_wp2_with fail
  refine HDI.out.mono ?_
  rintro e w1 ⟨rfl, hw1⟩
  rw [hw1]
  clear hw1 HDI
  go_wp2_with fail
  refine HLO.out.mono ?_
  rintro e w1 ⟨rfl, hw1⟩
  rw [hw1]
  clear hw1 HLO
  go_wp2_with fail
  refine HPN.out.mono ?_
  rintro e w2 ⟨rp, S2, rfl, hp2, hs2, b2⟩
  have HLW := hida (show W.heap.size ≤ w2.heap.size ∧ ∀ k, k < W.heap.size → w2.heap[k]? = W.heap[k]? from ⟨b2.size, b2.block⟩)
  have HS2 := hida (show ∀ k, S2 k → W.heap.size ≤ k from hs2)
  have HAH := hida (show AhAt w w2 p q A l d rs sure j pp S P rp S2 (pool0 p q 256) ∧ b < w2.heap.size ∧ w2.rangeAt b 0 (plArr at' r ta da tc dc).toList from ⟨⟨HR.out.1.below b2, HR.out.2.1.below b2, hp2, fun k x z => by have := hs2 k z; have := HR.out.2.1.pool.lt x; omega⟩, Nat.lt_of_lt_of_le HR.out.2.2.1 b2.size, fun j v hv => (World.cell?_of_block (w := W) (a := ⟨b, 0 + j, none⟩) (b2.block b HR.out.2.2.1)).trans (HR.out.2.2.2 j v hv)⟩)
  clear HPN HR hp2 hs2 b2
  have hmm := @run_makeMap Tryz.prog
  obtain ⟨W3, HW3⟩ : ∃ W3, Hid (W3 = (w2.alloc (.map #[] 0)).alloc (.cells #[.pointer (some ⟨pp, 0, none⟩), .pointer (some ⟨rp, 0, none⟩), .map (some w2.heap.size)] 182)) := ⟨_, rfl⟩
  have s3 : (w2.alloc (.map #[] 0)).heap.size = w2.heap.size + 1 := by simp
  have b3 : Below w2.heap.size w2 W3 := by rw [HW3.out]; exact ((Below.refl _ _).alloc (Nat.le_refl _) _).alloc (by simp) _
  have hm3 : NoSh W3 w2.heap.size := by
    rw [HW3.out]
    have k1 : NoSh (w2.alloc (.map #[] 0)) w2.heap.size := MapV.made _ _
    exact MapV.same k1 (((Below.refl (w2.alloc (.map #[] 0)).heap.size (w2.alloc (.map #[] 0))).alloc (Nat.le_refl _) _).block _ (by rw [s3]; omega))
  have ha3 : Blk W3 (w2.heap.size + 1) #[.pointer (some ⟨pp, 0, none⟩), .pointer (some ⟨rp, 0, none⟩), .map (some w2.heap.size)] 182 := by
    rw [HW3.out]
    have := Blk.made (w2.alloc (.map #[] 0)) #[.pointer (some ⟨pp, 0, none⟩), .pointer (some ⟨rp, 0, none⟩), .map (some w2.heap.size)] 182
    rw [s3] at this
    exact this
  have H3 := hida (show AhAt w W3 p q A l d rs sure j pp S P rp S2 (pool0 p q 256) ∧ b < W3.heap.size ∧ W3.rangeAt b 0 (plArr at' r ta da tc dc).toList ∧ NoSh W3 w2.heap.size ∧ Blk W3 (w2.heap.size + 1) #[.pointer (some ⟨pp, 0, none⟩), .pointer (some ⟨rp, 0, none⟩), .map (some w2.heap.size)] 182 from ⟨HAH.out.1.below b3, Nat.lt_of_lt_of_le HAH.out.2.1 b3.size, fun j v hv => (World.cell?_of_block (w := w2) (a := ⟨b, 0 + j, none⟩) (b3.block b HAH.out.2.1)).trans (HAH.out.2.2 j v hv), hm3, ha3⟩)
  have HMO := hida (show ¬ (S w2.heap.size ∨ S2 w2.heap.size ∨ A w2.heap.size) ∧ w.heap.size ≤ w2.heap.size from ⟨fun z => by
    rcases z with z | z | z
    · have := HAH.out.1.po.pool.lt z; omega
    · have := HAH.out.1.re.pool.lt z; omega
    · have := HAH.out.1.rd.lt z; omega, HAH.out.1.rd.bel.size⟩)
  have HK3 := hida (show W.heap.size ≤ W3.heap.size ∧ (∀ k, k < W.heap.size → W3.heap[k]? = W.heap[k]?) ∧ W.heap.size ≤ w2.heap.size from ⟨Nat.le_trans HLW.out.1 b3.size, fun k g => (b3.block k (Nat.lt_of_lt_of_le g HLW.out.1)).trans (HLW.out.2 k g), HLW.out.1⟩)
  clear b3 hm3 ha3 HAH s3 HLW
  go_upto_region 7 with fail
  rw [← HW3.out]
  clear HW3 hmm
  generalize w2.heap.size = mb at *
  go_wp2_with fail
  go_loopw [31] (fun x wr => (x = .int .i64 0 ∧ wr = W3) ∨ (x = .int .i64 1 ∧ Hid (∃ A', RdS w wr p q A' l d rs sure j ∧ PoAt w wr A' p q pp S P ∧ ∀ k, k < W.heap.size → ¬ A k → wr.heap[k]? = W.heap[k]?))) (fun x _ => 1 - (intOf x).toNat)
  case atStart => exact .inl ⟨rfl, rfl⟩
  case round =>
    rcases hrel with ⟨rfl, rfl⟩ | ⟨rfl, HD⟩
    · have HROW := hida H3.out.2.2.1
      obtain ⟨W4, HW4⟩ : ∃ W4, Hid (W4 = wr.alloc (.cells (plArr at' r ta da tc dc) 178)) := ⟨_, rfl⟩
      have b4 : Below wr.heap.size wr W4 := by rw [HW4.out]; exact (Below.refl _ _).alloc (Nat.le_refl _) _
      have H4 := hida (show AhAt w W4 p q A l d rs sure j pp S P rp S2 (pool0 p q 256) ∧ NoSh W4 mb ∧ Blk W4 (mb + 1) #[.pointer (some ⟨pp, 0, none⟩), .pointer (some ⟨rp, 0, none⟩), .map (some mb)] 182 ∧ BlkR W4 wr.heap.size (plArr at' r ta da tc dc) 178 from ⟨H3.out.1.below b4, MapV.same H3.out.2.2.2.1 (b4.block _ (MapV.lt H3.out.2.2.2.1)), H3.out.2.2.2.2.same (b4.block _ H3.out.2.2.2.2.lt), by rw [HW4.out]; exact heap_alloc_new wr _⟩)
      have HON : Hid (Calls Tryz.prog 100 #[.agg #[.pointer (some ⟨pp, 0, none⟩), .pointer (some ⟨rp, 0, none⟩), .map (some mb)], .agg (plArr at' r ta da tc dc)] W4 fun e w' => e = .returned (.int .i64 0) ∧ ∃ A' S2' P2', AhAt w w' p q A' l d rs sure j pp S P rp S2' P2' ∧ ∀ k, k < W4.heap.size → ¬ A k → ¬ S2 k → k ≠ mb → w'.heap[k]? = W4.heap[k]?) :=
        ahone_any H4.out.1 H4.out.2.1 HMO.out r ta da tc dc at' h1 h2 hF (fun _ => by show 0 < 256; omega) (Nat.le_refl _) (Nat.zero_le _) HAI.out (bare_fits h2) hat
      have HK4 := hida (show W.heap.size ≤ W4.heap.size ∧ (∀ k, k < W.heap.size → W4.heap[k]? = W.heap[k]?) ∧ W.heap.size ≤ mb from ⟨Nat.le_trans HK3.out.1 b4.size, fun k g => (b4.block k (Nat.lt_of_lt_of_le g HK3.out.1)).trans (HK3.out.2.1 k g), HK3.out.2.2⟩)
      clear b4
      rw [HPA.out] at HW4
      go_upto_region 10 with (refine wpList_load_midR rfl 178 (.tmp 33) rfl b 0 rfl (plArr at' r ta da tc dc) _ HROW.out Tryz.underlying178 rfl (by kernel_rfl) ?_; rw [HPA.out])
      rw [← HW4.out]
      clear HW4
      have k0 : W4.cell? ⟨mb + 1, 0, none⟩ = some (.pointer (some ⟨pp, 0, none⟩)) := H4.out.2.2.1.cell 0
      have k1 : W4.cell? ⟨mb + 1, 1, none⟩ = some (.pointer (some ⟨rp, 0, none⟩)) := H4.out.2.2.1.cell 1
      have k2 : W4.cell? ⟨mb + 1, 2, none⟩ = some (.map (some mb)) := H4.out.2.2.1.cell 2
      go_wp2_with (refine wpList_loadRow rfl (.tmp 9) 178 rfl wr.heap.size rfl (plArr at' r ta da tc dc) _ (0, 0) H4.out.2.2.2 _ Tryz.underlying178 rfl (by kernel_rfl) ?_)
      refine HON.out.mono ?_
      rintro e w5 ⟨rfl, A5, S5, P5, h5, hk5⟩
      have HF : Hid (∃ A', RdS w w5 p q A' l d rs sure j ∧ PoAt w w5 A' p q pp S P ∧ ∀ k, k < W.heap.size → ¬ A k → w5.heap[k]? = W.heap[k]?) := ⟨A5, h5.rd, h5.po, fun k g1 g2 => (hk5 k (by have := HK4.out.1; omega) g2 (fun z => by have := HS2.out k z; omega) (by have := HK4.out.2.2; omega)).trans (HK4.out.2.1 k g1)⟩
      clear HON H4 h5 hk5 k0 k1 k2 HROW H3
      go_wp2_with fail
      go_roundw
      case rel => exact .inr ⟨by go_num, HF⟩
      case measure => simp [intOf]
    · have HDD := hida HD.out
      go_wp2_with fail
      go_ret
      exact ⟨rfl, HDD.out⟩

end Go.Proofs.YtgkfdakieebnmaaGreat
