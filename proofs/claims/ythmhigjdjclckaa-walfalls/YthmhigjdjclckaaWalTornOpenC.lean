/-
  The walk of wal.Open where something is torn.
-/
import Derived.Test.YthmhigjdjclckaaWalMoreC
namespace Go.Proofs.Ythmhigjdjclckaa
open Go.RowKit
set_option linter.unusedVariables false

/-- The disk once its torn end is cut away. -/
def tornD (d : DG) (n : Nat) : DG := { cutD d n with calls := (cutD d n).calls + 1, sl := (cutD d n).log.length }

set_option maxHeartbeats 800000 in
set_option maxRecDepth 8000 in
theorem open_torn {w : World} {p : Nat} {D : Nat → Prop} {d : DG} (h : IsDisk w p D d) (hd : d.dead = false) (hp : d.plan = []) (hc : d.calls ≤ 100000) (hl : d.log.length ≤ 4194304) (t : Nat) (ht : (scan ⟨d.log.toArray⟩ (d.log.length + 1) 0).2 = t) (htl : t < d.log.length) :
    Calls Try.prog 6 #[.pointer (some ⟨p, 0, none⟩)] w fun e w' => ∃ q, e = .returned (.tuple #[.pointer (some ⟨q, 0, none⟩), .int .i64 ((d.log.length - t : Nat) : Int), .int .i64 0]) ∧
      ∃ S' D', IsLog w' q S' (openL p d) ∧ IsDisk w' p D' (tornD d t) ∧ (∀ k, S' k → w.heap.size ≤ k) ∧ (∀ k, S' k → ¬ D' k) ∧ Moves D D' w w' := by
  have hsz : (ByteArray.mk d.log.toArray).size = d.log.length := bytes_size _
  have HD : Hid (IsDisk w p D d) := h
  have HL : Hid (openL p d = ⟨p, (ByteArray.mk d.log.toArray).data.toList.take (scan ⟨d.log.toArray⟩ ((ByteArray.mk d.log.toArray).size + 1) 0).2, (scan ⟨d.log.toArray⟩ ((ByteArray.mk d.log.toArray).size + 1) 0).1, (scan ⟨d.log.toArray⟩ ((ByteArray.mk d.log.toArray).size + 1) 0).2, false, 0⟩) := by
    show _ = _
    rw [hsz]
    rfl
  have hT : (scan ⟨d.log.toArray⟩ ((ByteArray.mk d.log.toArray).size + 1) 0).2 = t := by rw [hsz]; exact ht
  have HR : Hid (Calls Try.prog 20 #[.pointer (some ⟨p, 0, none⟩)] w fun x w' => x = .returned (.tuple #[.string ⟨d.log.toArray⟩, .int .i64 0]) ∧ Below w.heap.size w w') := readLog_out h hd
  generalize openL p d = L at *
  generalize ByteArray.mk d.log.toArray = all at *
  clear ht h
  go_enter Try.func6, Try.ntmps6
  go_wp2_with fail
  refine HR.out.mono ?_
  rintro e w1 ⟨rfl, b1⟩
  go_wp2_with fail
  have hlog : LogAt (w1.alloc (.cells (lvals (.slice none 0 0) (.slice none 0 0) (log0 p)) 64)) w1.heap.size (.slice none 0 0) (.slice none 0 0) (log0 p) :=
    ⟨Blk.made _ _ _, .inl ⟨rfl, rfl⟩, World.ownsRow_nil _ _ _ _⟩
  have hb1 : Below w.heap.size w (w1.alloc (.cells (lvals (.slice none 0 0) (.slice none 0 0) (log0 p)) 64)) := b1.alloc b1.size _
  refine (take_any _ w1.heap.size p all hlog (by omega)).mono ?_
  rintro e w2 ⟨rfl, bv, sv, hL, hK, hnew⟩
  rw [← HL.out] at hL
  have hb2 : Below w.heap.size w w2 := ⟨hK.os.trans hb1.os, hK.tape.trans hb1.tape, hK.output.trans hb1.output, Nat.le_trans hb1.size hK.size, fun k hk => (hK.block k (Nat.lt_of_lt_of_le hk hb1.size) (fun e => by have := b1.size; omega)).trans (hb1.block k hk)⟩
  have HF : Hid ((∃ S', IsLog w2 w1.heap.size S' L ∧ ∀ k, S' k → w.heap.size ≤ k) ∧ Below w.heap.size w w2) := by
    refine ⟨⟨lhas w1.heap.size bv sv, ⟨bv, sv, hL, fun _ x => x, fun k hk => hL.lt hk⟩, ?_⟩, hb2⟩
    have h1 := b1.size
    rintro k (hk | hk)
    · omega
    · have := hnew k hk; simp at this; omega
  have hfl : L.flushed = t := by rw [HL.out]; exact hT
  have c3 := hL.cells.c3
  rw [hfl] at c3
  have hD2 := hid (HD.out.below hb2)
  clear hL hK hnew hb2 hb1 hlog b1 HR
  have k1 : ((all.size : Int) - (t : Int) == 0) = false := by rw [beq_eq_false_iff_ne]; omega
  have k2 : ((d.log.length : Int) - (t : Int) == 0) = false := by rw [beq_eq_false_iff_ne]; omega
  go_wp2_with fail
  refine (cutLog_out hD2.out hd hp (by omega) (by omega) t (by omega)).mono ?_
  rintro e w3 ⟨rfl, D3, hd3, hm3⟩
  have HD3 := hid hd3
  have HM3 := hid hm3
  clear hd3 hm3
  go_wp2_with fail
  refine (syncLog_out HD3.out hd hp (by show d.calls + 1 ≤ _; omega) (by show (d.log.take t).length ≤ _; rw [List.length_take]; omega)).mono ?_
  rintro e w4 ⟨rfl, D4, hd4, hm4⟩
  have HZ : Hid (∃ S' D', IsLog w4 w1.heap.size S' L ∧ IsDisk w4 p D' (tornD d t) ∧ (∀ k, S' k → w.heap.size ≤ k) ∧ (∀ k, S' k → ¬ D' k) ∧ Moves D D' w w4) := by
    obtain ⟨⟨S', hS', hn'⟩, hb⟩ := HF.out
    have ha : ∀ k, S' k → ¬ D k := fun k x y => by have := hn' k x; have := HD.out.lt y; omega
    have h3 := hS'.beside HM3.out ha
    have h4 := h3.1.beside hm4 h3.2
    exact ⟨S', D4, h4.1, hd4, hn', h4.2, ((Moves.of_kept (Kept.of_below hb)).trans HM3.out).trans hm4⟩
  have ee : (d.log.length : Int) - (t : Int) = ((d.log.length - t : Nat) : Int) := by omega
  clear hd4 hm4 HM3 HD3
  go_wp2
  go_ret3
  exact ⟨w1.heap.size, by rfl, HZ.out⟩

end Go.Proofs.Ythmhigjdjclckaa
