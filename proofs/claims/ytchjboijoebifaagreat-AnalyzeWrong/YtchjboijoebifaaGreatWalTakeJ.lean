/-
  The walk of (*wal.Log).take: the frames from the front on that are whole and right.
-/
import Derived.Test.YtchjboijoebifaaGreatDiskLogJ
import Derived.Deep.AppendLies
import Derived.Deep.RegionLaw
import Derived.OwnWalk
import Derived.Deep.LoopGhost
import Derived.Deep.Draws
set_option linter.unusedVariables false
set_option linter.unusedSimpArgs false
namespace Go.Proofs.YtchjboijoebifaaGreat
open Go.RowKit

theorem hid {p : Prop} (h : p) : Hid p := h

def scan (all : ByteArray) : Nat → Nat → List Nat × Nat
  | 0, a => ([], a)
  | n + 1, a => if frameN all a = 0 then ([], a) else ((a + 1) :: (scan all n (a + frameN all a)).1, (scan all n (a + frameN all a)).2)

theorem frameN_le {all : ByteArray} {a : Nat} (h : frameN all a ≠ 0) : 13 ≤ frameN all a ∧ a + frameN all a ≤ all.size := by
  unfold frameN at h ⊢
  split at h
  · rename_i k
    rw [if_pos k]
    obtain ⟨k1, k2, k3, k4, _⟩ := k
    omega
  · exact absurd rfl h

def log0 (dp : Nat) : LG := ⟨dp, [], [], 0, false, 0⟩

theorem infoL : (Tryz.prog.info? 31).map (fun i => (i.zero, i.size, i.bytes)) = some (some (.int .u64 0), 1, 8) := by kernel_rfl

theorem lsn_push (l : List Nat) (n : Nat) : lsnCells l ++ [.int .u64 (n : Int)] = lsnCells (l ++ [n]) := by simp [lsnCells]

structure TakeAt (w wr : World) (p dp : Nat) (all : ByteArray) (a : Nat) (sv : Value) (st : List Nat) : Prop where
  log : LogAt wr p (.slice none 0 0) sv { log0 dp with starts := st }
  kept : Kept (fun k => k = p) w wr
  new : ∀ g, sv.ownBlock = some g → w.heap.size ≤ g
  le : a ≤ all.size
  few : st.length ≤ a
  scn : ∃ n, all.size - a < n ∧ scan all (all.size + 1) 0 = (st ++ (scan all n a).1, (scan all n a).2)

theorem TakeAt.below {w wr wx : World} {p dp : Nat} {all : ByteArray} {a : Nat} {sv : Value} {st : List Nat} (h : TakeAt w wr p dp all a sv st) (b : Below wr.heap.size wr wx) : TakeAt w wx p dp all a sv st :=
  ⟨h.log.same fun k hk => b.block k (h.log.lt hk), h.kept.trans (Kept.of_below b), h.new, h.le, h.few, h.scn⟩

theorem TakeAt.start {w : World} {p dp : Nat} {all : ByteArray} (h : LogAt w p (.slice none 0 0) (.slice none 0 0) (log0 dp)) : TakeAt w w p dp all 0 (.slice none 0 0) [] :=
  ⟨h, Kept.refl _ _, fun g e => (by cases e), Nat.zero_le _, Nat.zero_le _, all.size + 1, by omega, by simp⟩

theorem TakeAt.next {w wr wx : World} {p dp : Nat} {all : ByteArray} {a : Nat} {sv sv' : Value} {st : List Nat} (h : TakeAt w wr p dp all a sv st) (hf : frameN all a ≠ 0)
    (hown : wx.ownsRow 0 31 1 sv' (st.length + 1) (lsnCells st ++ [.int .u64 ((a + 1 : Nat) : Int)])) (hg : wr.grownBy wx sv.ownBlock) (hl : ∀ k, sv'.ownBlock = some k → sv.ownBlock = some k ∨ wr.heap.size ≤ k) :
    TakeAt w (wx.setCell ⟨p, 2, none⟩ sv') p dp all (a + frameN all a) sv' (st ++ [a + 1]) := by
  have hp : sv.ownBlock ≠ some p := fun e => h.log.apart.2 p e rfl
  have hlt := h.log.blk.lt
  have hz := h.kept.size
  have hblk : Blk wx p (lvals (.slice none 0 0) sv { log0 dp with starts := st }) 95 := h.log.blk.same (hg.block p hlt fun e => hp e.symm)
  have hvp : ∀ k, sv'.ownBlock = some k → k ≠ p := by
    rintro k hk rfl
    rcases hl k hk with e | e
    · exact hp e
    · omega
  have hfe := frameN_le hf
  refine ⟨⟨hblk.set 2 sv', .inl ⟨rfl, rfl⟩, ?_⟩, ?_, ?_, hfe.2, ?_, ?_⟩
  · rw [lsn_push] at hown
    have e : (st ++ [a + 1]).length = st.length + 1 := by simp
    show (wx.setCell ⟨p, 2, none⟩ sv').ownsRow 0 31 1 sv' (st ++ [a + 1]).length (lsnCells (st ++ [a + 1]))
    rw [e]
    exact owns_same hown fun g k => heap_set _ _ _ _ (hvp g k)
  · have k1 : Kept (fun k => k = p) w wx := by
      refine ⟨hg.os.trans h.kept.os, hg.tape.trans h.kept.tape, hg.output.trans h.kept.output, Nat.le_trans hz hg.size, fun i hi hn => ?_⟩
      rw [hg.block i (by omega) fun e => by have := h.new i e.symm; omega]
      exact h.kept.block i hi hn
    exact k1.trans (Kept.setCell _ _ _ _ _ rfl)
  · intro g hg'
    rcases hl g hg' with e | e
    · exact h.new g e
    · omega
  · have := h.few; simp; omega
  · obtain ⟨n, hn, hs⟩ := h.scn
    cases n with
    | zero => omega
    | succ n =>
      refine ⟨n, by omega, ?_⟩
      rw [hs]
      have e : scan all (n + 1) a = ((a + 1) :: (scan all n (a + frameN all a)).1, (scan all n (a + frameN all a)).2) := by
        show (if _ then _ else _) = _
        rw [if_neg hf]
      rw [e]
      simp

set_option maxHeartbeats 800000 in
set_option maxRecDepth 8000 in
theorem take_any (w : World) (p dp : Nat) (all : ByteArray) (h : LogAt w p (.slice none 0 0) (.slice none 0 0) (log0 dp)) (hs : all.size ≤ 4194304) :
    Calls Tryz.prog 57 #[.pointer (some ⟨p, 0, none⟩), .string all] w fun e w' => e = .returned (.tuple #[]) ∧ ∃ bv sv, LogAt w' p bv sv ⟨dp, all.data.toList.take (scan all (all.size + 1) 0).2, (scan all (all.size + 1) 0).1, (scan all (all.size + 1) 0).2, false, 0⟩ ∧
      Kept (fun k => k = p) w w' ∧ (∀ k, bv.ownBlock = some k ∨ sv.ownBlock = some k → w.heap.size ≤ k) := by
  obtain ⟨i0, hi, hz0, hz1, hz2⟩ := info_parts infoL
  have HT : Hid (TakeAt w w p dp all 0 (.slice none 0 0) []) := TakeAt.start h
  clear h
  go_enter Tryz.func57, Tryz.ntmps57
  go_wp2_with fail
  refine (frameAt_any all 0 w (Nat.zero_le _) (by omega)).mono ?_
  rintro e w1 ⟨rfl, b1⟩
  have HT1 : Hid (TakeAt w w1 p dp all 0 (.slice none 0 0) []) := HT.out.below b1
  clear HT b1
  go_wp2_with fail
  go_loopw [4, 5] (fun x y wr => ∃ (a : Nat) (sv : Value) (st : List Nat), x = .int .i64 a ∧ y = .int .i64 (frameN all a) ∧ Hid (TakeAt w wr p dp all a sv st)) (fun x _ _ => all.size - (intOf x).toNat)
  case atStart => exact ⟨0, _, _, rfl, rfl, HT1⟩
  case round =>
    obtain ⟨a, sv, st, rfl, rfl, HA⟩ := hrel
    clear HT1
    have hal := HA.out.le
    by_cases hf : frameN all a = 0
    · obtain ⟨n, hn, hsc⟩ := HA.out.scn
      have hsc' : scan all (all.size + 1) 0 = (st, a) := by
        rw [hsc]
        cases n with
        | zero => omega
        | succ n =>
          have e : scan all (n + 1) a = ([], a) := by
            show (if _ then _ else _) = _
            rw [if_pos hf]
          rw [e]
          simp
      have HSC := hid hsc'
      have hf0 : (frameN all a : Int) = 0 := by omega
      have hxs : (all.extract 0 a).size = a := by rw [ByteArray.size_extract]; omega
      obtain ⟨bv, w6, hcv, hrow, b6, hnew⟩ := run_row_made wr (all.extract 0 a) (by omega)
      have hT6 := HA.out.below b6
      have hlt : p < wr.heap.size := HA.out.log.blk.lt
      have hl := hT6.log
      have c1 := hl.cells.c1
      have f1 := hl.cells.fr 1
      have f3 := hl.cells.fr 3
      have c3 : (w6.setCell ⟨p, 1, none⟩ bv).cell? ⟨p, 3, none⟩ = some (.int .i64 0) := (hl.blk.set 1 bv).cell 3
      have f3' : (w6.setCell ⟨p, 1, none⟩ bv).frozen? ⟨p, 3, none⟩ = false := (hl.blk.set 1 bv).frozen 3
      have HP : Hid (∃ bv' sv', LogAt ((w6.setCell ⟨p, 1, none⟩ bv).setCell ⟨p, 3, none⟩ (.int .i64 a)) p bv' sv' ⟨dp, all.data.toList.take a, st, a, false, 0⟩ ∧ Kept (fun k => k = p) w ((w6.setCell ⟨p, 1, none⟩ bv).setCell ⟨p, 3, none⟩ (.int .i64 a)) ∧ (∀ k, bv'.ownBlock = some k ∨ sv'.ownBlock = some k → w.heap.size ≤ k)) := by
        have hbp : ∀ k, bv.ownBlock = some k → k ≠ p := fun k hk e => by have := hnew k hk; omega
        have hsp : ∀ k, sv.ownBlock = some k → k ≠ p := fun k hk => hl.apart.2 k hk
        have hxl : (all.extract 0 a).data.toList = all.data.toList.take a := by simp [ByteArray.data_extract, List.extract_eq_take_drop]
        rw [hxl] at hrow
        refine ⟨bv, sv, ⟨(hl.blk.set 1 bv).set 3 (.int .i64 a), hrow.same fun g k => (heap_set _ _ _ _ (hbp g k)).trans (heap_set _ _ _ _ (hbp g k)), owns_same hl.starts fun g k => (heap_set _ _ _ _ (hsp g k)).trans (heap_set _ _ _ _ (hsp g k))⟩, (hT6.kept.trans (Kept.setCell _ _ _ _ _ rfl)).trans (Kept.setCell _ _ _ _ _ rfl), ?_⟩
        rintro k (hk | hk)
        · have := hnew k hk
          have := HA.out.kept.size
          omega
        · exact hT6.new k hk
      obtain ⟨ba, bc, hbv⟩ := hrow.slice
      rw [show (all.extract 0 a).data.toList.length = a from hxs ▸ (by simp)] at hbv
      subst hbv
      clear hT6 hl hsc hsc' HA hrow b6 hnew
      go_wp2
      go_end0
      refine ⟨rfl, ?_⟩
      rw [HSC.out]
      exact HP.out
    · have hfe := frameN_le hf
      have HF : Hid (frameN all a ≠ 0) := hf
      have hpos : (0 : Int) < (frameN all a : Int) := by omega
      have c2 := HA.out.log.cells.c2
      have hown := HA.out.log.starts
      obtain ⟨sa, sc, hsv⟩ := owns_slice hown
      have hfew := HA.out.few
      have hadd : IntKind.i64.wrap ((a : Int) + (frameN all a : Int)) = ((a + frameN all a : Nat) : Int) := by rw [IntKind.wrap_i64]; omega
      clear hf
      generalize hN : frameN all a = N at *
      go_wp2_with fail
      have HOWN : Hid (∀ (o : Obj) (W : World), W.heap = (wr.alloc o).heap → W.ownsRow 0 31 1 (.slice sa st.length sc) st.length (lsnCells st)) := by
        intro o W hW
        rw [← hsv]
        exact owns_same HA.out.log.starts fun g hg => by rw [hW]; exact Below.heap_alloc _ _ g (owns_lt HA.out.log.starts hg)
      have HNEW : Hid (∀ (x : Int) (W : World), W.heap = (wr.alloc (.cells #[.int .u64 x] 31)).heap → ∀ j u, [Value.int .u64 x][j]? = some u → W.cell? ((⟨wr.heap.size, 0, none⟩ : Addr).add j) = some u) := by
        intro x W hW j u hj
        exact World.news_of_block (by rw [hW]; exact heap_alloc_new wr _) j u hj
      have HC2 : Hid (∀ (o : Obj) (W w4 : World), W.heap = (wr.alloc o).heap → W.grownBy w4 (Value.slice sa st.length sc).ownBlock → w4.cell? ⟨p, 2, none⟩ = some (.slice sa st.length sc) ∧ w4.frozen? ⟨p, 2, none⟩ = false) := by
        intro o W w4 hW hg
        have hlt := HA.out.log.blk.lt
        have hp : sv.ownBlock ≠ some p := fun e => HA.out.log.apart.2 p e rfl
        have e : w4.heap[p]? = wr.heap[p]? := (hg.block p (by rw [hW]; simp; omega) (by rw [← hsv]; exact fun e => hp e.symm)).trans (by rw [hW]; exact Below.heap_alloc _ _ p hlt)
        refine ⟨(World.cell?_of_block (w := wr) (a := ⟨p, 2, none⟩) e).trans ?_, (World.frozen?_of_block (w := wr) (a := ⟨p, 2, none⟩) e).trans (HA.out.log.cells.fr 2)⟩
        rw [← hsv]
        exact HA.out.log.cells.c2
      rw [hsv] at c2
      have HO1 := hid (HOWN.out (.cells #[.int .u64 ((a : Int) + 1)] 31) ((wr.alloc (.cells #[.int .u64 ((a : Int) + 1)] 31)).drew) rfl)
      have HN1 := hid (HNEW.out ((a : Int) + 1) ((wr.alloc (.cells #[.int .u64 ((a : Int) + 1)] 31)).drew) rfl)
      have HC1 := hid (fun w4 => HC2.out (.cells #[.int .u64 ((a : Int) + 1)] 31) ((wr.alloc (.cells #[.int .u64 ((a : Int) + 1)] 31)).drew) w4 rfl)
      have H1C : Hid (∀ u ∈ [Value.int .u64 ((a : Int) + 1)], u.oneCell' = true) := by intro u hu; simp at hu; subst hu; rfl
      clear HOWN HNEW HC2
      have c2a : (wr.alloc (.cells #[.int .u64 ((a : Int) + 1)] 31)).cell? ⟨p, 2, none⟩ = some (.slice sa st.length sc) := by
        rw [← hsv]
        exact (World.cell?_of_block (w := wr) (a := ⟨p, 2, none⟩) (Below.heap_alloc _ _ p HA.out.log.blk.lt)).trans HA.out.log.cells.c2
      go_region_law (first | (go_simp; go_at_call 27; refine (lsn_any a _ (by omega)).mono ?_; rintro x w3 ⟨rfl, rfl⟩) | (refine step_append_lies _ (by rfl) _ _ 93 (by rfl) 0 31 i0 _ 1 8 Tryz.underlying93 hi hz0 hz1 hz2 (by rfl) (by decide) (.slice sa st.length sc) st.length (lsnCells st) (by rfl) HO1.out ⟨wr.heap.size, 0, none⟩ 1 1 [.int .u64 ((a : Int) + 1)] (by rfl) (by rfl) HN1.out H1C.out (by decide) (by unfold maxLen; omega) (by omega) (Nat.zero_le _) (wr.heap.size + 1) (by simp) ?_; intro g cap w4 hown4 hgrow4 hloc4 hlt4; have hc4 := HC1.out _ hgrow4; obtain ⟨c2', f2'⟩ := hc4))
      all_goals
        have HN2 : Hid (TakeAt w (w4.setCell ⟨p, 2, none⟩ (.slice (some ⟨g, 0, none⟩) (st.length + 1) cap)) p dp all (a + N) (.slice (some ⟨g, 0, none⟩) (st.length + 1) cap) (st ++ [a + 1])) := by
          have h1 : TakeAt w ((wr.alloc (.cells #[.int .u64 ((a : Int) + 1)] 31)).drew) p dp all a sv st := HA.out.below (((Below.refl _ _).alloc (Nat.le_refl _) _).drew)
          have h2 := h1.next (by rw [hN]; exact HF.out) hown4 (by rw [hsv]; exact hgrow4) (fun k hk => by
            simp only [Value.ownBlock, Option.some.injEq] at hk
            subst hk
            rw [hsv]
            rcases hloc4 with e | e
            · exact .inl e
            · right; simp; omega)
          rw [hN] at h2
          exact h2
        clear hown4 hgrow4 hloc4 hlt4 c2' f2' HO1 HN1 HC1 H1C c2 c2a
        go_wp2_with fail
        refine (frameAt_any all (a + N) _ (by omega) (by omega)).mono ?_
        rintro e w5 ⟨rfl, b5⟩
        have HN3 := hid (HN2.out.below b5)
        clear b5 HN2
        go_wp2_with fail
        exact ⟨⟨a + N, _, _, by simp, rfl, HN3⟩, by simp [intOf]; omega⟩

end Go.Proofs.YtchjboijoebifaaGreat

namespace Go.Proofs.YtchjboijoebifaaGreat
open Go.RowKit

def openL (p : Nat) (d : DG) : LG :=
  ⟨p, d.log.take (scan ⟨d.log.toArray⟩ (d.log.length + 1) 0).2, (scan ⟨d.log.toArray⟩ (d.log.length + 1) 0).1, (scan ⟨d.log.toArray⟩ (d.log.length + 1) 0).2, false, 0⟩

set_option maxHeartbeats 800000 in
set_option maxRecDepth 8000 in
theorem open_out {w : World} {p : Nat} {S : Nat → Prop} {d : DG} (h : IsDisk w p S d) (hd : d.dead = false) (hl : d.log.length ≤ 4194304) (ht : (scan ⟨d.log.toArray⟩ (d.log.length + 1) 0).2 = d.log.length) :
    Calls Tryz.prog 17 #[.pointer (some ⟨p, 0, none⟩)] w fun e w' => ∃ q, e = .returned (.tuple #[.pointer (some ⟨q, 0, none⟩), .int .i64 0, .int .i64 0]) ∧
      (∃ S', IsLog w' q S' (openL p d) ∧ ∀ k, S' k → w.heap.size ≤ k) ∧ Below w.heap.size w w' := by
  have hsz : (ByteArray.mk d.log.toArray).size = d.log.length := bytes_size _
  have HD : Hid (IsDisk w p S d) := h
  have HL : Hid (openL p d = ⟨p, (ByteArray.mk d.log.toArray).data.toList.take (scan ⟨d.log.toArray⟩ ((ByteArray.mk d.log.toArray).size + 1) 0).2, (scan ⟨d.log.toArray⟩ ((ByteArray.mk d.log.toArray).size + 1) 0).1, (scan ⟨d.log.toArray⟩ ((ByteArray.mk d.log.toArray).size + 1) 0).2, false, 0⟩) := by
    show _ = _
    rw [hsz]
    rfl
  have hT : (scan ⟨d.log.toArray⟩ ((ByteArray.mk d.log.toArray).size + 1) 0).2 = (ByteArray.mk d.log.toArray).size := by rw [hsz]; exact ht
  have HR : Hid (Calls Tryz.prog 56 #[.pointer (some ⟨p, 0, none⟩)] w fun x w' => x = .returned (.tuple #[.string ⟨d.log.toArray⟩, .int .i64 0]) ∧ Below w.heap.size w w') := readLog_out h hd
  generalize openL p d = L at *
  generalize ByteArray.mk d.log.toArray = all at *
  clear ht h
  go_enter Tryz.func17, Tryz.ntmps17
  go_wp2_with fail
  refine HR.out.mono ?_
  rintro e w1 ⟨rfl, b1⟩
  go_wp2_with fail
  have hlog : LogAt (w1.alloc (.cells (lvals (.slice none 0 0) (.slice none 0 0) (log0 p)) 95)) w1.heap.size (.slice none 0 0) (.slice none 0 0) (log0 p) :=
    ⟨Blk.made _ _ _, .inl ⟨rfl, rfl⟩, World.ownsRow_nil _ _ _ _⟩
  have hb1 : Below w.heap.size w (w1.alloc (.cells (lvals (.slice none 0 0) (.slice none 0 0) (log0 p)) 95)) := b1.alloc b1.size _
  refine (take_any _ w1.heap.size p all hlog (by omega)).mono ?_
  rintro e w2 ⟨rfl, bv, sv, hL, hK, hnew⟩
  rw [← HL.out] at hL
  have hb2 : Below w.heap.size w w2 := ⟨hK.os.trans hb1.os, hK.tape.trans hb1.tape, hK.output.trans hb1.output, Nat.le_trans hb1.size hK.size, fun k hk => (hK.block k (Nat.lt_of_lt_of_le hk hb1.size) (fun e => by have := b1.size; omega)).trans (hb1.block k hk)⟩
  have HF : Hid ((∃ S', IsLog w2 w1.heap.size S' L ∧ ∀ k, S' k → w.heap.size ≤ k) ∧ Below w.heap.size w w2) := by
    refine ⟨⟨lhas w1.heap.size bv sv, ⟨bv, sv, hL, fun _ x => x, fun k hk => hL.lt hk⟩, ?_⟩, hb2⟩
    have h1 := b1.size
    rintro k (hk | hk)
    · omega
    · have := hnew k hk; simp at this; omega
  have hfl : L.flushed = all.size := by rw [HL.out]; exact hT
  have c3 := hL.cells.c3
  rw [hfl] at c3
  clear hL hK hnew hb2 hb1 hlog b1 HR
  go_wp2
  go_ret3
  exact ⟨w1.heap.size, rfl, HF.out.1, HF.out.2⟩

theorem LogAt.bytesTo {w w3 : World} {p : Nat} {bv sv v' : Value} {l : LG} {b : List UInt8} (h : LogAt w p bv sv l) (hrow : ByteRow w3 v' b) (hg : w.grownBy w3 bv.ownBlock) (hl : ∀ k, v'.ownBlock = some k → bv.ownBlock = some k ∨ w.heap.size ≤ k) :
    LogAt (w3.setCell ⟨p, 1, none⟩ v') p v' sv { l with bytes := b } ∧ Kept (lhas p bv sv) w (w3.setCell ⟨p, 1, none⟩ v') ∧ w3.cell? ⟨p, 1, none⟩ = some bv ∧ w3.frozen? ⟨p, 1, none⟩ = false := by
  have ha := h.apart
  have hp : bv.ownBlock ≠ some p := fun e => (ha.1 p e).1 rfl
  have hlt := h.blk.lt
  have hblk : Blk w3 p (lvals bv sv l) 95 := h.blk.same (hg.block p hlt fun e => hp e.symm)
  have hvp : ∀ k, v'.ownBlock = some k → k ≠ p := by
    rintro k hk rfl
    rcases hl k hk with e | e
    · exact hp e
    · omega
  have hsv : ∀ g, sv.ownBlock = some g → (w3.setCell ⟨p, 1, none⟩ v').heap[g]? = w.heap[g]? := fun g k =>
    (heap_set _ _ _ _ (ha.2 g k)).trans (hg.block g (owns_lt h.starts k) fun e => (ha.1 g e.symm).2 k)
  exact ⟨⟨hblk.set 1 v', hrow.same fun g k => heap_set _ _ _ _ (hvp g k), owns_same h.starts hsv⟩, (Kept.of_grown hg fun b e => .inr (.inl e)).trans (Kept.setCell _ _ _ _ _ (.inl rfl)), hblk.cell 1, hblk.frozen 1⟩

theorem LogAt.startsTo {w w3 : World} {p : Nat} {bv sv v' : Value} {l : LG} {b : List Nat} (h : LogAt w p bv sv l) (hrow : w3.ownsRow 0 31 1 v' b.length (lsnCells b)) (hg : w.grownBy w3 sv.ownBlock) (hl : ∀ k, v'.ownBlock = some k → sv.ownBlock = some k ∨ w.heap.size ≤ k) :
    LogAt (w3.setCell ⟨p, 2, none⟩ v') p bv v' { l with starts := b } ∧ Kept (lhas p bv sv) w (w3.setCell ⟨p, 2, none⟩ v') ∧ w3.cell? ⟨p, 2, none⟩ = some sv ∧ w3.frozen? ⟨p, 2, none⟩ = false := by
  have ha := h.apart
  have hp : sv.ownBlock ≠ some p := fun e => ha.2 p e rfl
  have hlt := h.blk.lt
  have hblk : Blk w3 p (lvals bv sv l) 95 := h.blk.same (hg.block p hlt fun e => hp e.symm)
  have hvp : ∀ k, v'.ownBlock = some k → k ≠ p := by
    rintro k hk rfl
    rcases hl k hk with e | e
    · exact hp e
    · omega
  have hbv : ∀ g, bv.ownBlock = some g → (w3.setCell ⟨p, 2, none⟩ v').heap[g]? = w.heap[g]? := fun g k =>
    (heap_set _ _ _ _ (ha.1 g k).1).trans (hg.block g (h.bytes.lt k) fun e => (ha.1 g k).2 e.symm)
  exact ⟨⟨hblk.set 2 v', h.bytes.same hbv, owns_same hrow fun g k => heap_set _ _ _ _ (hvp g k)⟩, (Kept.of_grown hg fun b e => .inr (.inr e)).trans (Kept.setCell _ _ _ _ _ (.inl rfl)), hblk.cell 2, hblk.frozen 2⟩

def putG (l : LG) (s : ByteArray) : LG := { l with bytes := l.bytes ++ frameL (l.bytes.length + 1) s.data.toList, starts := l.starts ++ [l.bytes.length + 1] }

section
variable {w : World} {p : Nat} {S : Nat → Prop} {l : LG}

set_option maxHeartbeats 800000 in
set_option maxRecDepth 8000 in
theorem put_ok (h : IsLog w p S l) (hb : l.bytes.length ≤ 4194304) (hn : l.starts.length ≤ 10000000) (s : ByteArray) (h1 : 1 ≤ s.size) (h2 : s.size ≤ 8192) (most : Int) (hm : (s.size : Int) + 12 ≤ most) :
    Calls Tryz.prog 28 #[.pointer (some ⟨p, 0, none⟩), .string s, .int .i64 most] w fun e w' => e = .returned (.tuple #[.int .u64 ((l.bytes.length + 1 : Nat) : Int), .int .i64 0]) ∧ ∃ S', IsLog w' p S' (putG l s) ∧ Moves S S' w w' := by
  obtain ⟨i0, hi, hz0, hz1, hz2⟩ := info_parts infoL
  go_enter Tryz.func28, Tryz.ntmps28
  go_wp2_with fail
  refine (end_out h hb).mono ?_
  rintro e w1 ⟨rfl, rfl⟩
  go_wp2_with fail
  refine (frame_ok (l.bytes.length + 1) s _ (by omega) (by omega) h1 h2).mono ?_
  rintro e w2 ⟨rfl, b2⟩
  have hz := frameB_size (l.bytes.length + 1) s
  have d1 : decide (most < (((frameB (l.bytes.length + 1) s).size : Nat) : Int)) = false := by rw [hz]; simp; omega
  have HFB : Hid ((frameB (l.bytes.length + 1) s).data.toList = frameL (l.bytes.length + 1) s.data.toList) := by show _ = _; simp [frameB]
  generalize frameB (l.bytes.length + 1) s = f at *
  obtain ⟨bv, sv, hL, hS, _⟩ := h
  have hL2 : LogAt w2 p bv sv l := hL.same fun k hk => b2.block k (hL.lt hk)
  obtain ⟨ba, bc, hbv⟩ := hL2.bytes.slice
  obtain ⟨sa, sc, hsv⟩ := owns_slice hL2.starts
  have HL : Hid (LogAt w1 p bv sv l) := hL
  have HS := hid hS
  have HL2 := hid hL2
  have HB2 := hid b2
  have c1 := hL2.cells.c1
  rw [hbv] at c1
  have hrow := hL2.bytes
  rw [hbv] at hrow
  clear hL hS hL2 b2
  go_wp2_with (at_builtin; refine wpList_row_text _ rfl _ _ rfl (.slice ba l.bytes.length bc) l.bytes rfl hrow f rfl (by omega) ?_)
  intro v' w3 hrow' hgrow hloc
  rw [← hbv] at hgrow hloc
  obtain ⟨hL3, hK3, c1', f1'⟩ := HL2.out.bytesTo hrow' hgrow hloc
  rw [hbv] at c1'
  have HL3 := hid hL3
  have HK3 := hid hK3
  have HB3 := hid hloc
  obtain ⟨va, vc, hv'⟩ := hrow'.slice
  have hfl : (l.bytes ++ f.data.toList).length = l.bytes.length + (s.size + 12) := by simp [hz]
  rw [hfl] at hv'
  subst hv'
  have c2w : w3.cell? ⟨p, 2, none⟩ = some (.slice sa l.starts.length sc) := by
    have hp : bv.ownBlock ≠ some p := fun e => (HL2.out.apart.1 p e).1 rfl
    rw [← hsv]
    exact (World.cell?_of_block (w := w2) (a := ⟨p, 2, none⟩) (hgrow.block p HL2.out.blk.lt fun e => hp e.symm)).trans HL2.out.cells.c2
  clear hL3 hK3 hloc hgrow hrow hrow' c1
  have hlt3 : p < (w3.setCell ⟨p, 1, none⟩ (.slice va (l.bytes.length + (s.size + 12)) vc)).heap.size := HL3.out.blk.lt
  have hlt3' : p < w3.heap.size := by simpa using hlt3
  have hown3 : ((w3.setCell ⟨p, 1, none⟩ (.slice va (l.bytes.length + (s.size + 12)) vc)).alloc (.cells #[.int .u64 ((l.bytes.length : Int) + 1)] 31)).ownsRow 0 31 1 (.slice sa l.starts.length sc) l.starts.length (lsnCells l.starts) := by
    rw [← hsv]
    exact owns_same HL3.out.starts fun g hg => Below.heap_alloc _ _ g (owns_lt HL3.out.starts hg)
  have hnews : ∀ j u, [Value.int .u64 ((l.bytes.length : Int) + 1)][j]? = some u → ((w3.setCell ⟨p, 1, none⟩ (.slice va (l.bytes.length + (s.size + 12)) vc)).alloc (.cells #[.int .u64 ((l.bytes.length : Int) + 1)] 31)).cell? ((⟨w3.heap.size, 0, none⟩ : Addr).add j) = some u := by
    have := World.news_of_block (heap_alloc_new (w3.setCell ⟨p, 1, none⟩ (.slice va (l.bytes.length + (s.size + 12)) vc)) (.cells #[.int .u64 ((l.bytes.length : Int) + 1)] 31))
    simpa using this
  go_wp2_with (at_builtin; refine wpList_append_own_at _ rfl _ _ 93 rfl 0 31 i0 (.int .u64 0) 1 8 Tryz.underlying93 hi hz0 hz1 hz2 rfl (by decide) (.slice sa l.starts.length sc) l.starts.length (lsnCells l.starts) rfl hown3 ⟨w3.heap.size, 0, none⟩ 1 1 [.int .u64 ((l.bytes.length : Int) + 1)] rfl rfl hnews (by intro u hu; simp at hu; subst hu; rfl) (by unfold maxLen; omega) (by omega) (Nat.zero_le _) ?_)
  intro v2 w4 hown4 hgrow4 hiff4 hloc4
  have hL3' : LogAt ((w3.setCell ⟨p, 1, none⟩ (.slice va (l.bytes.length + (s.size + 12)) vc)).alloc (.cells #[.int .u64 ((l.bytes.length : Int) + 1)] 31)) p (.slice va (l.bytes.length + (s.size + 12)) vc) sv { l with bytes := l.bytes ++ f.data.toList } :=
    HL3.out.same fun k hk => Below.heap_alloc _ _ k (HL3.out.lt hk)
  rw [← hsv] at hgrow4 hloc4
  have hown5 : w4.ownsRow 0 31 1 v2 (l.starts ++ [l.bytes.length + 1]).length (lsnCells (l.starts ++ [l.bytes.length + 1])) := by
    have e : (l.starts ++ [l.bytes.length + 1]).length = l.starts.length + 1 := by simp
    rw [e, ← lsn_push]
    exact hown4
  have hlo : ∀ k, v2.ownBlock = some k → sv.ownBlock = some k ∨ ((w3.setCell ⟨p, 1, none⟩ (.slice va (l.bytes.length + (s.size + 12)) vc)).alloc (.cells #[.int .u64 ((l.bytes.length : Int) + 1)] 31)).heap.size ≤ k := by
    intro k hk
    rcases hloc4 with e | e
    · exact .inl (by rw [← e]; exact hk)
    · rw [e] at hk; have := Option.some.inj hk; right; simp; omega
  obtain ⟨hL5, hK5, c2', f2'⟩ := hL3'.startsTo hown5 hgrow4 hlo
  rw [hsv] at c2'
  have HF : Hid (∃ S', IsLog (w4.setCell ⟨p, 2, none⟩ v2) p S' (putG l s) ∧ Moves S S' w1 (w4.setCell ⟨p, 2, none⟩ v2)) := by
    have hz2 := HB2.out.size
    have e : putG l s = { ({ l with bytes := l.bytes ++ f.data.toList } : LG) with starts := l.starts ++ [l.bytes.length + 1] } := by
      unfold putG
      rw [HFB.out]
    rw [e]
    have m1 : Moves (lhas p bv sv) (lhas p (.slice va (l.bytes.length + (s.size + 12)) vc) sv) w1 ((w3.setCell ⟨p, 1, none⟩ (.slice va (l.bytes.length + (s.size + 12)) vc)).alloc (.cells #[.int .u64 ((l.bytes.length : Int) + 1)] 31)) := by
      refine ⟨((Kept.of_below HB2.out).trans HK3.out).trans (Kept.alloc _ _ _), ?_⟩
      rintro k (x | x | x)
      · exact .inl (.inl x)
      · rcases HB3.out k x with y | y
        · exact .inl (.inr (.inl y))
        · exact .inr (by omega)
      · exact .inl (.inr (.inr x))
    have m2 : Moves (lhas p (.slice va (l.bytes.length + (s.size + 12)) vc) sv) (lhas p (.slice va (l.bytes.length + (s.size + 12)) vc) v2) ((w3.setCell ⟨p, 1, none⟩ (.slice va (l.bytes.length + (s.size + 12)) vc)).alloc (.cells #[.int .u64 ((l.bytes.length : Int) + 1)] 31)) (w4.setCell ⟨p, 2, none⟩ v2) := by
      refine ⟨hK5, ?_⟩
      rintro k (x | x | x)
      · exact .inl (.inl x)
      · exact .inl (.inr (.inl x))
      · rcases hlo k x with y | y
        · exact .inl (.inr (.inr y))
        · exact .inr y
    have m := m1.trans m2
    exact ⟨lhas p (.slice va (l.bytes.length + (s.size + 12)) vc) v2, ⟨_, _, hL5, fun _ x => x, fun k hk => hL5.lt hk⟩, m.1.mono fun k x => HS.out k x, fun k x => (m.2 k x).imp (HS.out k) id⟩
  obtain ⟨a2, c2, hv2⟩ := owns_slice hown5
  rw [show (l.starts ++ [l.bytes.length + 1]).length = l.starts.length + 1 by simp] at hv2
  subst hv2
  clear hL5 hK5 hlo hown5 hloc4 hgrow4 hown4 hiff4 hL3' hnews hown3 HL3 HK3 HB3
  go_wp2
  go_ret2
  exact ⟨rfl, HF.out⟩

theorem IsLog.cell5 (h : IsLog w p S l) : w.cell? ⟨p, 5, none⟩ = some (.int .i64 l.kept) := by
  obtain ⟨_, _, hL, _⟩ := h
  exact hL.cells.c5

theorem Moves.undrew {S S' : Nat → Prop} {w w' : World} (h : Moves S S' w.drew w') : Moves S S' w w' := ⟨⟨h.1.os, h.1.tape, h.1.output, h.1.size, h.1.block⟩, h.2⟩

set_option maxHeartbeats 400000 in
set_option maxRecDepth 60000 in
theorem append_out (h : IsLog w p S l) (hb : l.bytes.length ≤ 4194304) (hn : l.starts.length ≤ 10000000) (hk : l.kept ≤ 4194304) (s : ByteArray) (h1 : 1 ≤ s.size) (h2 : s.size ≤ 8192) (hm : s.size + 12 + l.kept + l.bytes.length ≤ 4194304) :
    Calls Tryz.prog 11 #[.pointer (some ⟨p, 0, none⟩), .string s] w fun e w' => e = .returned (.tuple #[.int .u64 ((l.bytes.length + 1 : Nat) : Int), .int .i64 0]) ∧ ∃ S', IsLog w' p S' (putG l s) ∧ Moves S S' w w' := by
  have hD : IsLog w.drew p S l := h.same (fun _ _ => rfl) (Nat.le_refl _)
  have HR := hid (room_out hD hb)
  have HP := hid (put_ok hD hb hn s h1 h2 ((4194304 : Int) - (l.bytes.length : Int) - (l.kept : Int)) (by omega))
  have c5 := h.cell5
  have hsub : IntKind.i64.wrap ((4194304 : Int) - (l.bytes.length : Int) - (l.kept : Int)) = (4194304 : Int) - (l.bytes.length : Int) - (l.kept : Int) := by rw [IntKind.wrap_i64]; omega
  go_enter Tryz.func11, Tryz.ntmps11
  go_wp2_with fail
  go_region_held3 (fun w' => w'.cell? ⟨p, 5, none⟩ = some (.int .i64 l.kept)) (first | go_keep | assumption | exact hc5)
    (first | (go_at_call 29; refine HR.out.mono ?_; rintro x w3 ⟨rfl, rfl⟩) | (go_at_call 28; refine HP.out.mono ?_; rintro x w4 ⟨rfl, S4, hL4, hM4⟩; have hc5 : w4.cell? ⟨p, 5, none⟩ = some (.int .i64 l.kept) := hL4.cell5))
  go_wp2
  go_ret2
  exact ⟨rfl, S4, hL4, hM4.undrew⟩

end

end Go.Proofs.YtchjboijoebifaaGreat

namespace Go.Proofs.YtchjboijoebifaaGreat
open Go.RowKit

theorem nan1_any (x : Int) (w : World) : Calls Tryz.prog 107 #[.int .u64 x] w fun e w' => e = .returned (.bool false) ∧ w' = w := by
  go_enter Tryz.func107, Tryz.ntmps107
  go_wp2
  go_ret
  exact ⟨by simp, rfl⟩

theorem nan2_any (x : Int) (w : World) : Calls Tryz.prog 118 #[.int .u64 x] w fun e w' => e = .returned (.bool false) ∧ w' = w := by
  go_enter Tryz.func118, Tryz.ntmps118
  go_wp2
  go_ret
  exact ⟨by simp, rfl⟩

theorem less_any (x y : Int) (w : World) : Calls Tryz.prog 117 #[.int .u64 x, .int .u64 y] w fun e w' => e = .returned (.bool (decide (x < y))) ∧ w' = w := by
  go_enter Tryz.func117, Tryz.ntmps117
  go_wp2_with (go_at_call 107; refine (nan1_any _ _).mono ?_; rintro e w' ⟨rfl, rfl⟩)
  go_ret
  exact ⟨rfl, rfl⟩

def Found (L : List Nat) (x i : Nat) (b : Bool) : Prop :=
  i ≤ L.length ∧ (∀ t, t < i → L.getD t 0 < x) ∧ (∀ t, i ≤ t → t < L.length → x ≤ L.getD t 0) ∧ b = decide (i < L.length ∧ L.getD i 0 = x)

set_option maxHeartbeats 2000000 in
set_option maxRecDepth 100000 in
theorem search_row (L : List Nat) (x : Nat) (g cap : Nat) (w : World) (hc : ∀ j, j < L.length → w.cell? ⟨g, j, none⟩ = some (.int .u64 (L.getD j 0 : Nat))) (hn : L.length ≤ 10000000) (hs : ∀ a b, a ≤ b → b < L.length → L.getD a 0 ≤ L.getD b 0) :
    Calls Tryz.prog 97 #[.slice (some ⟨g, 0, none⟩) L.length cap, .int .u64 x] w fun e w' => (∃ i b, e = .returned (.tuple #[.int .i64 (i : Nat), .bool b]) ∧ Found L x i b) ∧ ∃ q, w' = w.drewN q := by
  have S := hid hs
  clear hs
  obtain ⟨n, hnn⟩ : ∃ n, L.length = n := ⟨_, rfl⟩
  unfold Found
  rw [hnn] at hc S hn ⊢
  clear hnn
  go_enter Tryz.func97, Tryz.ntmps97
  go_wp2
  go_loopg [7, 8] n (fun m s7 s8 wr => ∃ lo hi q : Nat, s7 = .int .i64 lo ∧ s8 = .int .i64 hi ∧ lo ≤ hi ∧ hi ≤ n ∧ hi - lo ≤ m ∧ wr = w.drewN q ∧ Hid ((∀ t, t < lo → L.getD t 0 < x) ∧ (∀ t, hi ≤ t → t < n → x ≤ L.getD t 0)))
  case atStart => exact ⟨0, n, 0, rfl, rfl, Nat.zero_le _, Nat.le_refl _, by omega, rfl, (⟨fun t ht => absurd ht (Nat.not_lt_zero _), fun t h1 h2 => by omega⟩ : (∀ t, t < 0 → L.getD t 0 < x) ∧ (∀ t, n ≤ t → t < n → x ≤ L.getD t 0))⟩
  case round =>
    obtain ⟨lo, hi, q, rfl, rfl, hlh, hin, hg, rfl, I⟩ := hrel
    by_cases hlt : lo < hi
    · have cm : w.cell? ⟨g, (lo + hi) / 2, none⟩ = some (.int .u64 (L.getD ((lo + hi) / 2) 0 : Nat)) := hc _ (by omega)
      clear hc
      have Y : Hid (∃ y, L.getD ((lo + hi) / 2) 0 = y) := ⟨_, rfl⟩
      obtain ⟨y, hy⟩ := Y.out
      rw [hy] at cm
      have Y : Hid (L.getD ((lo + hi) / 2) 0 = y) := hy
      clear hy
      by_cases hyx : y < x
      · go_wp2_with (first | (go_at_call 117; refine (less_any _ _ _).mono ?_; rintro e w' ⟨rfl, rfl⟩) | (go_at_call 118; refine (nan2_any _ _).mono ?_; rintro e w' ⟨rfl, rfl⟩))
        go_roundg (hi - ((lo + hi) / 2 + 1))
        case measure => omega
        case rel =>
          refine ⟨(lo + hi) / 2 + 1, hi, _, by rw [show ((lo : Int) + (hi : Int)) / 2 + 1 = (((lo + hi) / 2 + 1 : Nat) : Int) by omega], rfl, by omega, hin, Nat.le_refl _, rfl, ?_⟩
          refine ⟨fun t ht => ?_, I.out.2⟩
          have := S.out t ((lo + hi) / 2) (by omega) (by omega)
          rw [Y.out] at this
          omega
      · go_wp2_with (first | (go_at_call 117; refine (less_any _ _ _).mono ?_; rintro e w' ⟨rfl, rfl⟩) | (go_at_call 118; refine (nan2_any _ _).mono ?_; rintro e w' ⟨rfl, rfl⟩))
        go_roundg ((lo + hi) / 2 - lo)
        case measure => omega
        case rel =>
          refine ⟨lo, (lo + hi) / 2, _, rfl, by rw [show ((lo : Int) + (hi : Int)) / 2 = (((lo + hi) / 2 : Nat) : Int) by omega], by omega, by omega, Nat.le_refl _, rfl, ?_⟩
          refine ⟨I.out.1, fun t ht htn => ?_⟩
          have := S.out ((lo + hi) / 2) t ht htn
          rw [Y.out] at this
          omega
    · have : hi = lo := by omega
      subst this
      by_cases hn' : hi < n
      · have cl : w.cell? ⟨g, hi, none⟩ = some (.int .u64 (L.getD hi 0 : Nat)) := hc _ (by omega)
        clear hc
        have Y : Hid (∃ y, L.getD hi 0 = y) := ⟨_, rfl⟩
        obtain ⟨y, hy⟩ := Y.out
        rw [hy] at cl
        have Y : Hid (L.getD hi 0 = y) := hy
        clear hy
        by_cases hyx : y = x
        · have hyx' : ((y : Int) == (x : Int)) = true := by simp [hyx]
          have HE := hid hyx
          clear hyx
          go_wp2_with (first | (go_at_call 117; refine (less_any _ _ _).mono ?_; rintro e w' ⟨rfl, rfl⟩) | (go_at_call 118; refine (nan2_any _ _).mono ?_; rintro e w' ⟨rfl, rfl⟩))
          go_ret2
          exact ⟨⟨hi, true, rfl, hin, I.out.1, I.out.2, (decide_eq_true ⟨hn', Y.out.trans HE.out⟩).symm⟩, _, rfl⟩
        · have hyx' : ((y : Int) == (x : Int)) = false := by rw [beq_eq_false_iff_ne]; omega
          have HE := hid hyx
          clear hyx
          go_wp2_with (first | (go_at_call 117; refine (less_any _ _ _).mono ?_; rintro e w' ⟨rfl, rfl⟩) | (go_at_call 118; refine (nan2_any _ _).mono ?_; rintro e w' ⟨rfl, rfl⟩))
          go_ret2
          exact ⟨⟨hi, false, rfl, hin, I.out.1, I.out.2, (decide_eq_false fun h => HE.out (Y.out.symm.trans h.2)).symm⟩, _, rfl⟩
      · clear hc
        go_wp2_with (first | (go_at_call 117; refine (less_any _ _ _).mono ?_; rintro e w' ⟨rfl, rfl⟩) | (go_at_call 118; refine (nan2_any _ _).mono ?_; rintro e w' ⟨rfl, rfl⟩))
        go_ret2
        exact ⟨⟨hi, false, rfl, hin, I.out.1, I.out.2, (decide_eq_false fun h => hn' h.1).symm⟩, _, rfl⟩

theorem search_nil (x : Nat) (w : World) :
    Calls Tryz.prog 97 #[.slice none 0 0, .int .u64 x] w fun e w' => (∃ i b, e = .returned (.tuple #[.int .i64 (i : Nat), .bool b]) ∧ Found [] x i b) ∧ ∃ q, w' = w.drewN q := by
  go_enter Tryz.func97, Tryz.ntmps97
  go_wp2
  go_loopg [7, 8] 0 (fun m s7 s8 wr => s7 = .int .i64 0 ∧ s8 = .int .i64 0 ∧ wr = w)
  case atStart => exact ⟨rfl, rfl, rfl⟩
  case round =>
    obtain ⟨rfl, rfl, rfl⟩ := hrel
    go_wp2_with (first | (go_at_call 117; refine (less_any _ _ _).mono ?_; rintro e w' ⟨rfl, rfl⟩) | (go_at_call 118; refine (nan2_any _ _).mono ?_; rintro e w' ⟨rfl, rfl⟩))
    go_ret2
    exact ⟨⟨0, false, rfl, Nat.le_refl _, fun t h => absurd h (Nat.not_lt_zero _), fun t _ h => absurd h (Nat.not_lt_zero _), by simp⟩, 0, rfl⟩

def Rising (L : List Nat) : Prop := ∀ a b, a < b → b < L.length → L.getD a 0 < L.getD b 0

section
variable {w : World} {p : Nat} {S : Nat → Prop} {l : LG}

theorem find_out (h : IsLog w p S l) (hr : Rising l.starts) (hn : l.starts.length ≤ 10000000) (x : Nat) :
    Calls Tryz.prog 53 #[.pointer (some ⟨p, 0, none⟩), .int .u64 x] w fun e w' => (∃ i b, e = .returned (.tuple #[.int .i64 (i : Nat), .bool b]) ∧ Found l.starts x i b) ∧ ∃ q, w' = w.drewN q := by
  obtain ⟨bv, sv, hL, _⟩ := h
  have c2 := hL.cells.c2
  have HC : Hid (Calls Tryz.prog 97 #[sv, .int .u64 x] w fun e w' => (∃ i b, e = .returned (.tuple #[.int .i64 (i : Nat), .bool b]) ∧ Found l.starts x i b) ∧ ∃ q, w' = w.drewN q) := by
    have ho := hL.starts
    rcases ho.2 with ⟨e1, e2⟩ | ⟨g, cap, cur, e1, _⟩
    · rw [e1, List.eq_nil_of_length_eq_zero e2]
      exact search_nil x w
    · rw [e1]
      refine search_row l.starts x g cap w (fun j hj => ?_) hn (fun a b hab hb => ?_)
      · rw [e1] at ho
        have := owns_cells ho j (.int .u64 (l.starts.getD j 0 : Nat)) (by simp [lsnCells, hj])
        simpa [Addr.add_lit] using this
      · rcases Nat.eq_or_lt_of_le hab with rfl | k
        · exact Nat.le_refl _
        · exact Nat.le_of_lt (hr a b k hb)
  obtain ⟨a, c, rfl⟩ := owns_slice hL.starts
  clear hL
  go_enter Tryz.func53, Tryz.ntmps53
  go_wp2_with fail
  refine HC.out.mono ?_
  rintro e w1 ⟨⟨i, b, rfl, hf⟩, q, rfl⟩
  have HF := hid hf
  clear hf HC
  go_wp2
  go_ret2
  exact ⟨⟨i, b, rfl, HF.out⟩, q, rfl⟩

theorem Found.here {L : List Nat} {x i j : Nat} {b : Bool} (h : Found L x i b) (hr : Rising L) (hj : j < L.length) (hx : L.getD j 0 = x) : i = j ∧ b = true := by
  obtain ⟨h1, h2, h3, h4⟩ := h
  have e1 : ¬ j < i := fun k => by have := h2 j k; omega
  have e2 : ¬ i < j := fun k => by have a := hr i j k hj; have b := h3 i (Nat.le_refl _) (by omega); omega
  have e : i = j := by omega
  exact ⟨e, by rw [h4, e]; exact decide_eq_true ⟨hj, hx⟩⟩

theorem ByteRow.text {w : World} {g n cap : Nat} {l : List UInt8} (h : ByteRow w (.slice (some ⟨g, 0, none⟩) n cap) l) (a k c : Nat) (hk : a + k ≤ l.length) :
    (convert 92 9 (.slice (some ⟨g, a, none⟩) k c)).run Tryz.prog w = .ok (.string ⟨((l.drop a).take k).toArray⟩) w := by
  have hl : ((l.drop a).take k).length = k := by simp; omega
  have := run_convert_bytes_back (P := Tryz.prog) w 92 9 5 ⟨g, a, none⟩ c ((l.drop a).take k) Tryz.underlying92 Tryz.underlying5 Tryz.underlying9 (fun j hj => by
    rw [hl] at hj
    have e := h.cell (a + j) (by omega)
    simp only [List.getElem_take, List.getElem_drop]
    simpa [Addr.add_lit] using e)
  rw [hl] at this
  exact this

def recB (l : LG) (x B : Nat) : ByteArray := ⟨((l.bytes.drop (x + 7)).take (B - x - 12)).toArray⟩

set_option maxHeartbeats 400000 in
set_option maxRecDepth 8000 in
theorem get_last (h : IsLog w p S l) (hr : Rising l.starts) (hn : l.starts.length ≤ 10000000) (hb : l.bytes.length ≤ 4194304) (i x B : Nat) (hi : i + 1 = l.starts.length) (hx : l.starts.getD i 0 = x) (h1 : 1 ≤ x) (h2 : x + 12 ≤ B) (h3 : B = l.bytes.length + 1) :
    Calls Tryz.prog 19 #[.pointer (some ⟨p, 0, none⟩), .int .u64 x] w fun e w' => e = .returned (.tuple #[.string (recB l x B), .int .u64 (B : Nat), .bool true]) ∧ ∃ q, w' = w.drewN q := by
  go_enter Tryz.func19, Tryz.ntmps19
  go_wp2_with fail
  refine (find_out h hr hn x).mono ?_
  rintro e w1 ⟨⟨i', b, rfl, hf⟩, q, rfl⟩
  obtain ⟨rfl, rfl⟩ := hf.here hr (by omega) hx
  have hD : IsLog (w.drewN q) p S l := h.same (fun _ _ => rfl) (Nat.le_refl _)
  go_wp2_with fail
  refine (end_out hD hb).mono ?_
  rintro e w1 ⟨rfl, rfl⟩
  have HD := hid hD
  obtain ⟨bv, sv, hL, _⟩ := h
  have c1 := hL.cells.c1
  have c2 := hL.cells.c2
  obtain ⟨sa, sc, rfl⟩ := owns_slice hL.starts
  rcases hL.bytes with ⟨e1, e2⟩ | ⟨g, cap, cur, fz, e1, hg, hfz, hlc, hcm, hcs, htk⟩
  · exfalso
    rw [e2] at h3
    simp at h3
    omega
  have hrow := hL.bytes
  rw [e1] at hrow c1
  clear hL
  have k1 : ((i' : Int) + 1 < (l.starts.length : Int)) ↔ False := by simp; omega
  have hcv := ByteRow.text (w := w.drewN q) (hrow.same fun _ _ => rfl) (x - 1 + 8) (l.bytes.length - (x - 1) - 4 - 8) (cap - (x - 1) - 8) (by omega)
  have HE : Hid (ByteArray.mk ((l.bytes.drop (x - 1 + 8)).take (l.bytes.length - (x - 1) - 4 - 8)).toArray = recB l x B) := by
    unfold recB
    rw [show x - 1 + 8 = x + 7 by omega, show l.bytes.length - (x - 1) - 4 - 8 = B - x - 12 by omega]
    exact rfl
  rw [HE.out] at hcv
  clear hrow
  go_wp2
  go_ret3
  exact ⟨by rw [h3]; rfl, q, rfl⟩

end

end Go.Proofs.YtchjboijoebifaaGreat
