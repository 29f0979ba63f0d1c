/-
  The walk of (*wal.Log).take: the frames from the front on that are whole and right.
-/
import Derived.Test.YtgmfgkdecpldeaaGreatWalMemC
import Derived.Deep.AppendLies
import Derived.Deep.RegionLaw
namespace Go.Proofs.YtgmfgkdecpldeaaGreat
open Go.RowKit
set_option linter.unusedVariables false

theorem hid {p : Prop} (h : p) : Hid p := h

/-- The frames from a place on: where they begin, and where they end. -/
def scan (all : ByteArray) : Nat → Nat → List Nat × Nat
  | 0, a => ([], a)
  | n + 1, a => if frameN all a = 0 then ([], a) else ((a + 1) :: (scan all n (a + frameN all a)).1, (scan all n (a + frameN all a)).2)

theorem frameN_le {all : ByteArray} {a : Nat} (h : frameN all a ≠ 0) : 13 ≤ frameN all a ∧ a + frameN all a ≤ all.size := by
  unfold frameN at h ⊢
  split at h
  · rename_i k
    rw [if_pos k]
    obtain ⟨k1, k2, k3, k4, _⟩ := k
    omega
  · exact absurd rfl h

theorem scan_le (all : ByteArray) : ∀ (n a : Nat), a ≤ all.size → a ≤ (scan all n a).2 ∧ (scan all n a).2 ≤ all.size
  | 0, a, h => ⟨Nat.le_refl _, h⟩
  | n + 1, a, h => by
    unfold scan
    by_cases e : frameN all a = 0
    · rw [if_pos e]; exact ⟨Nat.le_refl _, h⟩
    · rw [if_neg e]
      have h1 := frameN_le e
      have h2 := scan_le all n (a + frameN all a) h1.2
      exact ⟨Nat.le_trans (Nat.le_add_right _ _) h2.1, h2.2⟩

/-- A log that has nothing yet. -/
def log0 (dp : Nat) : LG := ⟨dp, [], [], 0, false, 0⟩

theorem infoL : (Tryz.prog.info? 48).map (fun i => (i.zero, i.size, i.bytes)) = some (some (.int .u64 0), 1, 8) := by kernel_rfl

theorem lsn_push (l : List Nat) (n : Nat) : lsnCells l ++ [.int .u64 (n : Int)] = lsnCells (l ++ [n]) := by simp [lsnCells]

/-- What stands in the midst of take: at a place, the starts so far. -/
structure TakeAt (w wr : World) (p dp : Nat) (all : ByteArray) (a : Nat) (sv : Value) (st : List Nat) : Prop where
  log : LogAt wr p (.slice none 0 0) sv { log0 dp with starts := st }
  kept : Kept (fun k => k = p) w wr
  new : ∀ g, sv.ownBlock = some g → w.heap.size ≤ g
  le : a ≤ all.size
  few : st.length ≤ a
  scn : ∃ n, all.size - a < n ∧ scan all (all.size + 1) 0 = (st ++ (scan all n a).1, (scan all n a).2)

theorem TakeAt.below {w wr wx : World} {p dp : Nat} {all : ByteArray} {a : Nat} {sv : Value} {st : List Nat} (h : TakeAt w wr p dp all a sv st) (b : Below wr.heap.size wr wx) : TakeAt w wx p dp all a sv st :=
  ⟨h.log.same fun k hk => b.block k (h.log.lt hk), h.kept.trans (Kept.of_below b), h.new, h.le, h.few, h.scn⟩

theorem TakeAt.start {w : World} {p dp : Nat} {all : ByteArray} (h : LogAt w p (.slice none 0 0) (.slice none 0 0) (log0 dp)) : TakeAt w w p dp all 0 (.slice none 0 0) [] :=
  ⟨h, Kept.refl _ _, fun g e => (by cases e), Nat.zero_le _, Nat.zero_le _, all.size + 1, by omega, by simp⟩

/-- One frame more. -/
theorem TakeAt.next {w wr wx : World} {p dp : Nat} {all : ByteArray} {a : Nat} {sv sv' : Value} {st : List Nat} (h : TakeAt w wr p dp all a sv st) (hf : frameN all a ≠ 0)
    (hown : wx.ownsRow 0 48 1 sv' (st.length + 1) (lsnCells st ++ [.int .u64 ((a + 1 : Nat) : Int)])) (hg : wr.grownBy wx sv.ownBlock) (hl : ∀ k, sv'.ownBlock = some k → sv.ownBlock = some k ∨ wr.heap.size ≤ k) :
    TakeAt w (wx.setCell ⟨p, 2, none⟩ sv') p dp all (a + frameN all a) sv' (st ++ [a + 1]) := by
  have hp : sv.ownBlock ≠ some p := fun e => h.log.apart.2 p e rfl
  have hlt := h.log.blk.lt
  have hz := h.kept.size
  have hblk : Blk wx p (lvals (.slice none 0 0) sv { log0 dp with starts := st }) 105 := h.log.blk.same (hg.block p hlt fun e => hp e.symm)
  have hvp : ∀ k, sv'.ownBlock = some k → k ≠ p := by
    rintro k hk rfl
    rcases hl k hk with e | e
    · exact hp e
    · omega
  have hfe := frameN_le hf
  refine ⟨⟨hblk.set 2 sv', .inl ⟨rfl, rfl⟩, ?_⟩, ?_, ?_, hfe.2, ?_, ?_⟩
  · rw [lsn_push] at hown
    have e : (st ++ [a + 1]).length = st.length + 1 := by simp
    show (wx.setCell ⟨p, 2, none⟩ sv').ownsRow 0 48 1 sv' (st ++ [a + 1]).length (lsnCells (st ++ [a + 1]))
    rw [e]
    exact owns_same hown fun g k => heap_set _ _ _ _ (hvp g k)
  · have k1 : Kept (fun k => k = p) w wx := by
      refine ⟨hg.os.trans h.kept.os, hg.tape.trans h.kept.tape, hg.output.trans h.kept.output, Nat.le_trans hz hg.size, fun i hi hn => ?_⟩
      rw [hg.block i (by omega) fun e => by have := h.new i e.symm; omega]
      exact h.kept.block i hi hn
    exact k1.trans (Kept.setCell _ _ _ _ _ rfl)
  · intro g hg'
    rcases hl g hg' with e | e
    · exact h.new g e
    · omega
  · have := h.few; simp; omega
  · obtain ⟨n, hn, hs⟩ := h.scn
    cases n with
    | zero => omega
    | succ n =>
      refine ⟨n, by omega, ?_⟩
      rw [hs]
      have e : scan all (n + 1) a = ((a + 1) :: (scan all n (a + frameN all a)).1, (scan all n (a + frameN all a)).2) := by
        show (if _ then _ else _) = _
        rw [if_neg hf]
      rw [e]
      simp

set_option maxHeartbeats 800000 in
set_option maxRecDepth 8000 in
theorem take_any (w : World) (p dp : Nat) (all : ByteArray) (h : LogAt w p (.slice none 0 0) (.slice none 0 0) (log0 dp)) (hs : all.size ≤ 4194304) :
    Calls Tryz.prog 54 #[.pointer (some ⟨p, 0, none⟩), .string all] w fun e w' => e = .returned (.tuple #[]) ∧ ∃ bv sv, LogAt w' p bv sv ⟨dp, all.data.toList.take (scan all (all.size + 1) 0).2, (scan all (all.size + 1) 0).1, (scan all (all.size + 1) 0).2, false, 0⟩ ∧
      Kept (fun k => k = p) w w' ∧ (∀ k, bv.ownBlock = some k ∨ sv.ownBlock = some k → w.heap.size ≤ k) := by
  obtain ⟨i0, hi, hz0, hz1, hz2⟩ := info_parts infoL
  have HT : Hid (TakeAt w w p dp all 0 (.slice none 0 0) []) := TakeAt.start h
  clear h
  go_enter Tryz.func54, Tryz.ntmps54
  go_wp2_with fail
  refine (frameAt_any all 0 w (Nat.zero_le _) (by omega)).mono ?_
  rintro e w1 ⟨rfl, b1⟩
  have HT1 : Hid (TakeAt w w1 p dp all 0 (.slice none 0 0) []) := HT.out.below b1
  clear HT b1
  go_wp2_with fail
  go_loopw [4, 5] (fun x y wr => ∃ (a : Nat) (sv : Value) (st : List Nat), x = .int .i64 a ∧ y = .int .i64 (frameN all a) ∧ Hid (TakeAt w wr p dp all a sv st)) (fun x _ _ => all.size - (intOf x).toNat)
  case atStart => exact ⟨0, _, _, rfl, rfl, HT1⟩
  case round =>
    obtain ⟨a, sv, st, rfl, rfl, HA⟩ := hrel
    clear HT1
    have hal := HA.out.le
    by_cases hf : frameN all a = 0
    · obtain ⟨n, hn, hsc⟩ := HA.out.scn
      have hsc' : scan all (all.size + 1) 0 = (st, a) := by
        rw [hsc]
        cases n with
        | zero => omega
        | succ n =>
          have e : scan all (n + 1) a = ([], a) := by
            show (if _ then _ else _) = _
            rw [if_pos hf]
          rw [e]
          simp
      have HSC := hid hsc'
      have hf0 : (frameN all a : Int) = 0 := by omega
      have hxs : (all.extract 0 a).size = a := by rw [ByteArray.size_extract]; omega
      obtain ⟨bv, w6, hcv, hrow, b6, hnew⟩ := run_row_made wr (all.extract 0 a) (by omega)
      have hT6 := HA.out.below b6
      have hlt : p < wr.heap.size := HA.out.log.blk.lt
      have hl := hT6.log
      have c1 := hl.cells.c1
      have f1 := hl.cells.fr 1
      have f3 := hl.cells.fr 3
      have c3 : (w6.setCell ⟨p, 1, none⟩ bv).cell? ⟨p, 3, none⟩ = some (.int .i64 0) := (hl.blk.set 1 bv).cell 3
      have f3' : (w6.setCell ⟨p, 1, none⟩ bv).frozen? ⟨p, 3, none⟩ = false := (hl.blk.set 1 bv).frozen 3
      have HP : Hid (∃ bv' sv', LogAt ((w6.setCell ⟨p, 1, none⟩ bv).setCell ⟨p, 3, none⟩ (.int .i64 a)) p bv' sv' ⟨dp, all.data.toList.take a, st, a, false, 0⟩ ∧ Kept (fun k => k = p) w ((w6.setCell ⟨p, 1, none⟩ bv).setCell ⟨p, 3, none⟩ (.int .i64 a)) ∧ (∀ k, bv'.ownBlock = some k ∨ sv'.ownBlock = some k → w.heap.size ≤ k)) := by
        have hbp : ∀ k, bv.ownBlock = some k → k ≠ p := fun k hk e => by have := hnew k hk; omega
        have hsp : ∀ k, sv.ownBlock = some k → k ≠ p := fun k hk => hl.apart.2 k hk
        have hxl : (all.extract 0 a).data.toList = all.data.toList.take a := by simp [ByteArray.data_extract, List.extract_eq_take_drop]
        rw [hxl] at hrow
        refine ⟨bv, sv, ⟨(hl.blk.set 1 bv).set 3 (.int .i64 a), hrow.same fun g k => (heap_set _ _ _ _ (hbp g k)).trans (heap_set _ _ _ _ (hbp g k)), owns_same hl.starts fun g k => (heap_set _ _ _ _ (hsp g k)).trans (heap_set _ _ _ _ (hsp g k))⟩, (hT6.kept.trans (Kept.setCell _ _ _ _ _ rfl)).trans (Kept.setCell _ _ _ _ _ rfl), ?_⟩
        rintro k (hk | hk)
        · have := hnew k hk
          have := HA.out.kept.size
          omega
        · exact hT6.new k hk
      obtain ⟨ba, bc, hbv⟩ := hrow.slice
      rw [show (all.extract 0 a).data.toList.length = a from hxs ▸ (by simp)] at hbv
      subst hbv
      clear hT6 hl hsc hsc' HA hrow b6 hnew
      go_wp2
      go_end0
      refine ⟨rfl, ?_⟩
      rw [HSC.out]
      exact HP.out
    · have hfe := frameN_le hf
      have HF : Hid (frameN all a ≠ 0) := hf
      have hpos : (0 : Int) < (frameN all a : Int) := by omega
      have c2 := HA.out.log.cells.c2
      have hown := HA.out.log.starts
      obtain ⟨sa, sc, hsv⟩ := owns_slice hown
      have hfew := HA.out.few
      have hadd : IntKind.i64.wrap ((a : Int) + (frameN all a : Int)) = ((a + frameN all a : Nat) : Int) := by rw [IntKind.wrap_i64]; omega
      clear hf
      generalize hN : frameN all a = N at *
      go_wp2_with fail
      have HOWN : Hid (∀ (o : Obj) (W : World), W.heap = (wr.alloc o).heap → W.ownsRow 0 48 1 (.slice sa st.length sc) st.length (lsnCells st)) := by
        intro o W hW
        rw [← hsv]
        exact owns_same HA.out.log.starts fun g hg => by rw [hW]; exact Below.heap_alloc _ _ g (owns_lt HA.out.log.starts hg)
      have HNEW : Hid (∀ (x : Int) (W : World), W.heap = (wr.alloc (.cells #[.int .u64 x] 48)).heap → ∀ j u, [Value.int .u64 x][j]? = some u → W.cell? ((⟨wr.heap.size, 0, none⟩ : Addr).add j) = some u) := by
        intro x W hW j u hj
        exact World.news_of_block (by rw [hW]; exact heap_alloc_new wr _) j u hj
      have HC2 : Hid (∀ (o : Obj) (W w4 : World), W.heap = (wr.alloc o).heap → W.grownBy w4 (Value.slice sa st.length sc).ownBlock → w4.cell? ⟨p, 2, none⟩ = some (.slice sa st.length sc) ∧ w4.frozen? ⟨p, 2, none⟩ = false) := by
        intro o W w4 hW hg
        have hlt := HA.out.log.blk.lt
        have hp : sv.ownBlock ≠ some p := fun e => HA.out.log.apart.2 p e rfl
        have e : w4.heap[p]? = wr.heap[p]? := (hg.block p (by rw [hW]; simp; omega) (by rw [← hsv]; exact fun e => hp e.symm)).trans (by rw [hW]; exact Below.heap_alloc _ _ p hlt)
        refine ⟨(World.cell?_of_block (w := wr) (a := ⟨p, 2, none⟩) e).trans ?_, (World.frozen?_of_block (w := wr) (a := ⟨p, 2, none⟩) e).trans (HA.out.log.cells.fr 2)⟩
        rw [← hsv]
        exact HA.out.log.cells.c2
      rw [hsv] at c2
      have HO1 := hid (HOWN.out (.cells #[.int .u64 ((a : Int) + 1)] 48) ((wr.alloc (.cells #[.int .u64 ((a : Int) + 1)] 48)).drew) rfl)
      have HN1 := hid (HNEW.out ((a : Int) + 1) ((wr.alloc (.cells #[.int .u64 ((a : Int) + 1)] 48)).drew) rfl)
      have HC1 := hid (fun w4 => HC2.out (.cells #[.int .u64 ((a : Int) + 1)] 48) ((wr.alloc (.cells #[.int .u64 ((a : Int) + 1)] 48)).drew) w4 rfl)
      have H1C : Hid (∀ u ∈ [Value.int .u64 ((a : Int) + 1)], u.oneCell' = true) := by intro u hu; simp at hu; subst hu; rfl
      clear HOWN HNEW HC2
      have c2a : (wr.alloc (.cells #[.int .u64 ((a : Int) + 1)] 48)).cell? ⟨p, 2, none⟩ = some (.slice sa st.length sc) := by
        rw [← hsv]
        exact (World.cell?_of_block (w := wr) (a := ⟨p, 2, none⟩) (Below.heap_alloc _ _ p HA.out.log.blk.lt)).trans HA.out.log.cells.c2
      go_region_law (first | (go_simp; go_at_call 66; refine (lsn_any a _ (by omega)).mono ?_; rintro x w3 ⟨rfl, rfl⟩) | (refine step_append_lies _ (by rfl) _ _ 103 (by rfl) 0 48 i0 _ 1 8 Tryz.underlying103 hi hz0 hz1 hz2 (by rfl) (by decide) (.slice sa st.length sc) st.length (lsnCells st) (by rfl) HO1.out ⟨wr.heap.size, 0, none⟩ 1 1 [.int .u64 ((a : Int) + 1)] (by rfl) (by rfl) HN1.out H1C.out (by decide) (by unfold maxLen; omega) (by omega) (Nat.zero_le _) (wr.heap.size + 1) (by simp) ?_; intro g cap w4 hown4 hgrow4 hloc4 hlt4; have hc4 := HC1.out _ hgrow4; obtain ⟨c2', f2'⟩ := hc4))
      all_goals
        have HN2 : Hid (TakeAt w (w4.setCell ⟨p, 2, none⟩ (.slice (some ⟨g, 0, none⟩) (st.length + 1) cap)) p dp all (a + N) (.slice (some ⟨g, 0, none⟩) (st.length + 1) cap) (st ++ [a + 1])) := by
          have h1 : TakeAt w ((wr.alloc (.cells #[.int .u64 ((a : Int) + 1)] 48)).drew) p dp all a sv st := HA.out.below (((Below.refl _ _).alloc (Nat.le_refl _) _).drew)
          have h2 := h1.next (by rw [hN]; exact HF.out) hown4 (by rw [hsv]; exact hgrow4) (fun k hk => by
            simp only [Value.ownBlock, Option.some.injEq] at hk
            subst hk
            rw [hsv]
            rcases hloc4 with e | e
            · exact .inl e
            · right; simp; omega)
          rw [hN] at h2
          exact h2
        clear hown4 hgrow4 hloc4 hlt4 c2' f2' HO1 HN1 HC1 H1C c2 c2a
        go_wp2_with fail
        refine (frameAt_any all (a + N) _ (by omega) (by omega)).mono ?_
        rintro e w5 ⟨rfl, b5⟩
        have HN3 := hid (HN2.out.below b5)
        clear b5 HN2
        go_wp2_with fail
        exact ⟨⟨a + N, _, _, by simp, rfl, HN3⟩, by simp [intOf]; omega⟩

end Go.Proofs.YtgmfgkdecpldeaaGreat
