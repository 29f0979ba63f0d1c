/-
  The walks of wal.Open, as long as nothing is torn, and of (*wal.Log).put, Append.
-/
import Derived.Test.YtgmfgkdecpldeaaGreatWalTakeC
import Derived.OwnWalk
namespace Go.Proofs.YtgmfgkdecpldeaaGreat
open Go.RowKit
set_option linter.unusedVariables false

/-- The log that Open has of a disk. -/
def openL (p : Nat) (d : DG) : LG :=
  ⟨p, d.log.take (scan ⟨d.log.toArray⟩ (d.log.length + 1) 0).2, (scan ⟨d.log.toArray⟩ (d.log.length + 1) 0).1, (scan ⟨d.log.toArray⟩ (d.log.length + 1) 0).2, false, 0⟩

set_option maxHeartbeats 800000 in
set_option maxRecDepth 8000 in
theorem open_out {w : World} {p : Nat} {S : Nat → Prop} {d : DG} (h : IsDisk w p S d) (hd : d.dead = false) (hl : d.log.length ≤ 4194304) (ht : (scan ⟨d.log.toArray⟩ (d.log.length + 1) 0).2 = d.log.length) :
    Calls Tryz.prog 19 #[.pointer (some ⟨p, 0, none⟩)] w fun e w' => ∃ q, e = .returned (.tuple #[.pointer (some ⟨q, 0, none⟩), .int .i64 0, .int .i64 0]) ∧
      (∃ S', IsLog w' q S' (openL p d) ∧ ∀ k, S' k → w.heap.size ≤ k) ∧ Below w.heap.size w w' := by
  have hsz : (ByteArray.mk d.log.toArray).size = d.log.length := bytes_size _
  have HD : Hid (IsDisk w p S d) := h
  have HL : Hid (openL p d = ⟨p, (ByteArray.mk d.log.toArray).data.toList.take (scan ⟨d.log.toArray⟩ ((ByteArray.mk d.log.toArray).size + 1) 0).2, (scan ⟨d.log.toArray⟩ ((ByteArray.mk d.log.toArray).size + 1) 0).1, (scan ⟨d.log.toArray⟩ ((ByteArray.mk d.log.toArray).size + 1) 0).2, false, 0⟩) := by
    show _ = _
    rw [hsz]
    rfl
  have hT : (scan ⟨d.log.toArray⟩ ((ByteArray.mk d.log.toArray).size + 1) 0).2 = (ByteArray.mk d.log.toArray).size := by rw [hsz]; exact ht
  have HR : Hid (Calls Tryz.prog 53 #[.pointer (some ⟨p, 0, none⟩)] w fun x w' => x = .returned (.tuple #[.string ⟨d.log.toArray⟩, .int .i64 0]) ∧ Below w.heap.size w w') := readLog_out h hd
  generalize openL p d = L at *
  generalize ByteArray.mk d.log.toArray = all at *
  clear ht h
  go_enter Tryz.func19, Tryz.ntmps19
  go_wp2_with fail
  refine HR.out.mono ?_
  rintro e w1 ⟨rfl, b1⟩
  go_wp2_with fail
  have hlog : LogAt (w1.alloc (.cells (lvals (.slice none 0 0) (.slice none 0 0) (log0 p)) 105)) w1.heap.size (.slice none 0 0) (.slice none 0 0) (log0 p) :=
    ⟨Blk.made _ _ _, .inl ⟨rfl, rfl⟩, World.ownsRow_nil _ _ _ _⟩
  have hb1 : Below w.heap.size w (w1.alloc (.cells (lvals (.slice none 0 0) (.slice none 0 0) (log0 p)) 105)) := b1.alloc b1.size _
  refine (take_any _ w1.heap.size p all hlog (by omega)).mono ?_
  rintro e w2 ⟨rfl, bv, sv, hL, hK, hnew⟩
  rw [← HL.out] at hL
  have hb2 : Below w.heap.size w w2 := ⟨hK.os.trans hb1.os, hK.tape.trans hb1.tape, hK.output.trans hb1.output, Nat.le_trans hb1.size hK.size, fun k hk => (hK.block k (Nat.lt_of_lt_of_le hk hb1.size) (fun e => by have := b1.size; omega)).trans (hb1.block k hk)⟩
  have HF : Hid ((∃ S', IsLog w2 w1.heap.size S' L ∧ ∀ k, S' k → w.heap.size ≤ k) ∧ Below w.heap.size w w2) := by
    refine ⟨⟨lhas w1.heap.size bv sv, ⟨bv, sv, hL, fun _ x => x, fun k hk => hL.lt hk⟩, ?_⟩, hb2⟩
    have h1 := b1.size
    rintro k (hk | hk)
    · omega
    · have := hnew k hk; simp at this; omega
  have hfl : L.flushed = all.size := by rw [HL.out]; exact hT
  have c3 := hL.cells.c3
  rw [hfl] at c3
  clear hL hK hnew hb2 hb1 hlog b1 HR
  go_wp2
  go_ret3
  exact ⟨w1.heap.size, rfl, HF.out.1, HF.out.2⟩

/-- The bytes grow. -/
theorem LogAt.bytesTo {w w3 : World} {p : Nat} {bv sv v' : Value} {l : LG} {b : List UInt8} (h : LogAt w p bv sv l) (hrow : ByteRow w3 v' b) (hg : w.grownBy w3 bv.ownBlock) (hl : ∀ k, v'.ownBlock = some k → bv.ownBlock = some k ∨ w.heap.size ≤ k) :
    LogAt (w3.setCell ⟨p, 1, none⟩ v') p v' sv { l with bytes := b } ∧ Kept (lhas p bv sv) w (w3.setCell ⟨p, 1, none⟩ v') ∧ w3.cell? ⟨p, 1, none⟩ = some bv ∧ w3.frozen? ⟨p, 1, none⟩ = false := by
  have ha := h.apart
  have hp : bv.ownBlock ≠ some p := fun e => (ha.1 p e).1 rfl
  have hlt := h.blk.lt
  have hblk : Blk w3 p (lvals bv sv l) 105 := h.blk.same (hg.block p hlt fun e => hp e.symm)
  have hvp : ∀ k, v'.ownBlock = some k → k ≠ p := by
    rintro k hk rfl
    rcases hl k hk with e | e
    · exact hp e
    · omega
  have hsv : ∀ g, sv.ownBlock = some g → (w3.setCell ⟨p, 1, none⟩ v').heap[g]? = w.heap[g]? := fun g k =>
    (heap_set _ _ _ _ (ha.2 g k)).trans (hg.block g (owns_lt h.starts k) fun e => (ha.1 g e.symm).2 k)
  exact ⟨⟨hblk.set 1 v', hrow.same fun g k => heap_set _ _ _ _ (hvp g k), owns_same h.starts hsv⟩, (Kept.of_grown hg fun b e => .inr (.inl e)).trans (Kept.setCell _ _ _ _ _ (.inl rfl)), hblk.cell 1, hblk.frozen 1⟩

/-- The starts grow. -/
theorem LogAt.startsTo {w w3 : World} {p : Nat} {bv sv v' : Value} {l : LG} {b : List Nat} (h : LogAt w p bv sv l) (hrow : w3.ownsRow 0 48 1 v' b.length (lsnCells b)) (hg : w.grownBy w3 sv.ownBlock) (hl : ∀ k, v'.ownBlock = some k → sv.ownBlock = some k ∨ w.heap.size ≤ k) :
    LogAt (w3.setCell ⟨p, 2, none⟩ v') p bv v' { l with starts := b } ∧ Kept (lhas p bv sv) w (w3.setCell ⟨p, 2, none⟩ v') ∧ w3.cell? ⟨p, 2, none⟩ = some sv ∧ w3.frozen? ⟨p, 2, none⟩ = false := by
  have ha := h.apart
  have hp : sv.ownBlock ≠ some p := fun e => ha.2 p e rfl
  have hlt := h.blk.lt
  have hblk : Blk w3 p (lvals bv sv l) 105 := h.blk.same (hg.block p hlt fun e => hp e.symm)
  have hvp : ∀ k, v'.ownBlock = some k → k ≠ p := by
    rintro k hk rfl
    rcases hl k hk with e | e
    · exact hp e
    · omega
  have hbv : ∀ g, bv.ownBlock = some g → (w3.setCell ⟨p, 2, none⟩ v').heap[g]? = w.heap[g]? := fun g k =>
    (heap_set _ _ _ _ (ha.1 g k).1).trans (hg.block g (h.bytes.lt k) fun e => (ha.1 g k).2 e.symm)
  exact ⟨⟨hblk.set 2 v', h.bytes.same hbv, owns_same hrow fun g k => heap_set _ _ _ _ (hvp g k)⟩, (Kept.of_grown hg fun b e => .inr (.inr e)).trans (Kept.setCell _ _ _ _ _ (.inl rfl)), hblk.cell 2, hblk.frozen 2⟩

/-- A record more. -/
def putG (l : LG) (s : ByteArray) : LG := { l with bytes := l.bytes ++ frameL (l.bytes.length + 1) s.data.toList, starts := l.starts ++ [l.bytes.length + 1] }

section
variable {w : World} {p : Nat} {S : Nat → Prop} {l : LG}

theorem put_record (h : IsLog w p S l) (hb : l.bytes.length ≤ 4194304) (s : ByteArray) (hs : s.size = 0 ∨ 8192 < s.size) (hm : s.size ≤ maxLen) (most : Int) :
    Calls Tryz.prog 44 #[.pointer (some ⟨p, 0, none⟩), .string s, .int .i64 most] w fun e w' => e = .returned (.tuple #[.int .u64 0, .int .i64 51]) ∧ w' = w := by
  go_enter Tryz.func44, Tryz.ntmps44
  go_wp2_with fail
  refine (end_out h hb).mono ?_
  rintro e w1 ⟨rfl, rfl⟩
  go_wp2_with fail
  refine (frame_record _ s _ hs hm).mono ?_
  rintro e w2 ⟨rfl, rfl⟩
  go_wp2
  go_ret2
  exact ⟨rfl, rfl⟩

theorem put_full (h : IsLog w p S l) (hb : l.bytes.length ≤ 4194304) (s : ByteArray) (h1 : 1 ≤ s.size) (h2 : s.size ≤ 8192) (most : Int) (hm : most < (s.size : Int) + 12) :
    Calls Tryz.prog 44 #[.pointer (some ⟨p, 0, none⟩), .string s, .int .i64 most] w fun e w' => e = .returned (.tuple #[.int .u64 0, .int .i64 50]) ∧ Below w.heap.size w w' := by
  go_enter Tryz.func44, Tryz.ntmps44
  go_wp2_with fail
  refine (end_out h hb).mono ?_
  rintro e w1 ⟨rfl, rfl⟩
  go_wp2_with fail
  refine (frame_ok (l.bytes.length + 1) s _ (by omega) (by omega) h1 h2).mono ?_
  rintro e w2 ⟨rfl, b2⟩
  have hz := frameB_size (l.bytes.length + 1) s
  have d1 : decide (most < (((frameB (l.bytes.length + 1) s).size : Nat) : Int)) = true := by rw [hz]; simp; omega
  generalize frameB (l.bytes.length + 1) s = f at *
  go_wp2
  go_ret2
  exact ⟨rfl, b2⟩

set_option maxHeartbeats 800000 in
set_option maxRecDepth 8000 in
theorem put_ok (h : IsLog w p S l) (hb : l.bytes.length ≤ 4194304) (hn : l.starts.length ≤ 10000000) (s : ByteArray) (h1 : 1 ≤ s.size) (h2 : s.size ≤ 8192) (most : Int) (hm : (s.size : Int) + 12 ≤ most) :
    Calls Tryz.prog 44 #[.pointer (some ⟨p, 0, none⟩), .string s, .int .i64 most] w fun e w' => e = .returned (.tuple #[.int .u64 ((l.bytes.length + 1 : Nat) : Int), .int .i64 0]) ∧ ∃ S', IsLog w' p S' (putG l s) ∧ Moves S S' w w' := by
  obtain ⟨i0, hi, hz0, hz1, hz2⟩ := info_parts infoL
  go_enter Tryz.func44, Tryz.ntmps44
  go_wp2_with fail
  refine (end_out h hb).mono ?_
  rintro e w1 ⟨rfl, rfl⟩
  go_wp2_with fail
  refine (frame_ok (l.bytes.length + 1) s _ (by omega) (by omega) h1 h2).mono ?_
  rintro e w2 ⟨rfl, b2⟩
  have hz := frameB_size (l.bytes.length + 1) s
  have d1 : decide (most < (((frameB (l.bytes.length + 1) s).size : Nat) : Int)) = false := by rw [hz]; simp; omega
  have HFB : Hid ((frameB (l.bytes.length + 1) s).data.toList = frameL (l.bytes.length + 1) s.data.toList) := by show _ = _; simp [frameB]
  generalize frameB (l.bytes.length + 1) s = f at *
  obtain ⟨bv, sv, hL, hS, _⟩ := h
  have hL2 : LogAt w2 p bv sv l := hL.same fun k hk => b2.block k (hL.lt hk)
  obtain ⟨ba, bc, hbv⟩ := hL2.bytes.slice
  obtain ⟨sa, sc, hsv⟩ := owns_slice hL2.starts
  have HL : Hid (LogAt w1 p bv sv l) := hL
  have HS := hid hS
  have HL2 := hid hL2
  have HB2 := hid b2
  have c1 := hL2.cells.c1
  rw [hbv] at c1
  have hrow := hL2.bytes
  rw [hbv] at hrow
  clear hL hS hL2 b2
  go_wp2_with (at_builtin; refine wpList_row_text _ rfl _ _ rfl (.slice ba l.bytes.length bc) l.bytes rfl hrow f rfl (by omega) ?_)
  intro v' w3 hrow' hgrow hloc
  rw [← hbv] at hgrow hloc
  obtain ⟨hL3, hK3, c1', f1'⟩ := HL2.out.bytesTo hrow' hgrow hloc
  rw [hbv] at c1'
  have HL3 := hid hL3
  have HK3 := hid hK3
  have HB3 := hid hloc
  obtain ⟨va, vc, hv'⟩ := hrow'.slice
  have hfl : (l.bytes ++ f.data.toList).length = l.bytes.length + (s.size + 12) := by simp [hz]
  rw [hfl] at hv'
  subst hv'
  have c2w : w3.cell? ⟨p, 2, none⟩ = some (.slice sa l.starts.length sc) := by
    have hp : bv.ownBlock ≠ some p := fun e => (HL2.out.apart.1 p e).1 rfl
    rw [← hsv]
    exact (World.cell?_of_block (w := w2) (a := ⟨p, 2, none⟩) (hgrow.block p HL2.out.blk.lt fun e => hp e.symm)).trans HL2.out.cells.c2
  clear hL3 hK3 hloc hgrow hrow hrow' c1
  have hlt3 : p < (w3.setCell ⟨p, 1, none⟩ (.slice va (l.bytes.length + (s.size + 12)) vc)).heap.size := HL3.out.blk.lt
  have hlt3' : p < w3.heap.size := by simpa using hlt3
  have hown3 : ((w3.setCell ⟨p, 1, none⟩ (.slice va (l.bytes.length + (s.size + 12)) vc)).alloc (.cells #[.int .u64 ((l.bytes.length : Int) + 1)] 48)).ownsRow 0 48 1 (.slice sa l.starts.length sc) l.starts.length (lsnCells l.starts) := by
    rw [← hsv]
    exact owns_same HL3.out.starts fun g hg => Below.heap_alloc _ _ g (owns_lt HL3.out.starts hg)
  have hnews : ∀ j u, [Value.int .u64 ((l.bytes.length : Int) + 1)][j]? = some u → ((w3.setCell ⟨p, 1, none⟩ (.slice va (l.bytes.length + (s.size + 12)) vc)).alloc (.cells #[.int .u64 ((l.bytes.length : Int) + 1)] 48)).cell? ((⟨w3.heap.size, 0, none⟩ : Addr).add j) = some u := by
    have := World.news_of_block (heap_alloc_new (w3.setCell ⟨p, 1, none⟩ (.slice va (l.bytes.length + (s.size + 12)) vc)) (.cells #[.int .u64 ((l.bytes.length : Int) + 1)] 48))
    simpa using this
  go_wp2_with (at_builtin; refine wpList_append_own_at _ rfl _ _ 103 rfl 0 48 i0 (.int .u64 0) 1 8 Tryz.underlying103 hi hz0 hz1 hz2 rfl (by decide) (.slice sa l.starts.length sc) l.starts.length (lsnCells l.starts) rfl hown3 ⟨w3.heap.size, 0, none⟩ 1 1 [.int .u64 ((l.bytes.length : Int) + 1)] rfl rfl hnews (by intro u hu; simp at hu; subst hu; rfl) (by unfold maxLen; omega) (by omega) (Nat.zero_le _) ?_)
  intro v2 w4 hown4 hgrow4 hiff4 hloc4
  have hL3' : LogAt ((w3.setCell ⟨p, 1, none⟩ (.slice va (l.bytes.length + (s.size + 12)) vc)).alloc (.cells #[.int .u64 ((l.bytes.length : Int) + 1)] 48)) p (.slice va (l.bytes.length + (s.size + 12)) vc) sv { l with bytes := l.bytes ++ f.data.toList } :=
    HL3.out.same fun k hk => Below.heap_alloc _ _ k (HL3.out.lt hk)
  rw [← hsv] at hgrow4 hloc4
  have hown5 : w4.ownsRow 0 48 1 v2 (l.starts ++ [l.bytes.length + 1]).length (lsnCells (l.starts ++ [l.bytes.length + 1])) := by
    have e : (l.starts ++ [l.bytes.length + 1]).length = l.starts.length + 1 := by simp
    rw [e, ← lsn_push]
    exact hown4
  have hlo : ∀ k, v2.ownBlock = some k → sv.ownBlock = some k ∨ ((w3.setCell ⟨p, 1, none⟩ (.slice va (l.bytes.length + (s.size + 12)) vc)).alloc (.cells #[.int .u64 ((l.bytes.length : Int) + 1)] 48)).heap.size ≤ k := by
    intro k hk
    rcases hloc4 with e | e
    · exact .inl (by rw [← e]; exact hk)
    · rw [e] at hk; have := Option.some.inj hk; right; simp; omega
  obtain ⟨hL5, hK5, c2', f2'⟩ := hL3'.startsTo hown5 hgrow4 hlo
  rw [hsv] at c2'
  have HF : Hid (∃ S', IsLog (w4.setCell ⟨p, 2, none⟩ v2) p S' (putG l s) ∧ Moves S S' w1 (w4.setCell ⟨p, 2, none⟩ v2)) := by
    have hz2 := HB2.out.size
    have e : putG l s = { ({ l with bytes := l.bytes ++ f.data.toList } : LG) with starts := l.starts ++ [l.bytes.length + 1] } := by
      unfold putG
      rw [HFB.out]
    rw [e]
    have m1 : Moves (lhas p bv sv) (lhas p (.slice va (l.bytes.length + (s.size + 12)) vc) sv) w1 ((w3.setCell ⟨p, 1, none⟩ (.slice va (l.bytes.length + (s.size + 12)) vc)).alloc (.cells #[.int .u64 ((l.bytes.length : Int) + 1)] 48)) := by
      refine ⟨((Kept.of_below HB2.out).trans HK3.out).trans (Kept.alloc _ _ _), ?_⟩
      rintro k (x | x | x)
      · exact .inl (.inl x)
      · rcases HB3.out k x with y | y
        · exact .inl (.inr (.inl y))
        · exact .inr (by omega)
      · exact .inl (.inr (.inr x))
    have m2 : Moves (lhas p (.slice va (l.bytes.length + (s.size + 12)) vc) sv) (lhas p (.slice va (l.bytes.length + (s.size + 12)) vc) v2) ((w3.setCell ⟨p, 1, none⟩ (.slice va (l.bytes.length + (s.size + 12)) vc)).alloc (.cells #[.int .u64 ((l.bytes.length : Int) + 1)] 48)) (w4.setCell ⟨p, 2, none⟩ v2) := by
      refine ⟨hK5, ?_⟩
      rintro k (x | x | x)
      · exact .inl (.inl x)
      · exact .inl (.inr (.inl x))
      · rcases hlo k x with y | y
        · exact .inl (.inr (.inr y))
        · exact .inr y
    have m := m1.trans m2
    exact ⟨lhas p (.slice va (l.bytes.length + (s.size + 12)) vc) v2, ⟨_, _, hL5, fun _ x => x, fun k hk => hL5.lt hk⟩, m.1.mono fun k x => HS.out k x, fun k x => (m.2 k x).imp (HS.out k) id⟩
  obtain ⟨a2, c2, hv2⟩ := owns_slice hown5
  rw [show (l.starts ++ [l.bytes.length + 1]).length = l.starts.length + 1 by simp] at hv2
  subst hv2
  clear hL5 hK5 hlo hown5 hloc4 hgrow4 hown4 hiff4 hL3' hnews hown3 HL3 HK3 HB3
  go_wp2
  go_ret2
  exact ⟨rfl, HF.out⟩

theorem IsLog.cell5 (h : IsLog w p S l) : w.cell? ⟨p, 5, none⟩ = some (.int .i64 l.kept) := by
  obtain ⟨_, _, hL, _⟩ := h
  exact hL.cells.c5

theorem Moves.undrew {S S' : Nat → Prop} {w w' : World} (h : Moves S S' w.drew w') : Moves S S' w w' := ⟨⟨h.1.os, h.1.tape, h.1.output, h.1.size, h.1.block⟩, h.2⟩

set_option maxHeartbeats 400000 in
set_option maxRecDepth 60000 in
/-- Append of a record that there is room for. -/
theorem append_out (h : IsLog w p S l) (hb : l.bytes.length ≤ 4194304) (hn : l.starts.length ≤ 10000000) (hk : l.kept ≤ 4194304) (s : ByteArray) (h1 : 1 ≤ s.size) (h2 : s.size ≤ 8192) (hm : s.size + 12 + l.kept + l.bytes.length ≤ 4194304) :
    Calls Tryz.prog 14 #[.pointer (some ⟨p, 0, none⟩), .string s] w fun e w' => e = .returned (.tuple #[.int .u64 ((l.bytes.length + 1 : Nat) : Int), .int .i64 0]) ∧ ∃ S', IsLog w' p S' (putG l s) ∧ Moves S S' w w' := by
  have hD : IsLog w.drew p S l := h.same (fun _ _ => rfl) (Nat.le_refl _)
  have HR := hid (room_out hD hb)
  have HP := hid (put_ok hD hb hn s h1 h2 ((4194304 : Int) - (l.bytes.length : Int) - (l.kept : Int)) (by omega))
  have c5 := h.cell5
  have hsub : IntKind.i64.wrap ((4194304 : Int) - (l.bytes.length : Int) - (l.kept : Int)) = (4194304 : Int) - (l.bytes.length : Int) - (l.kept : Int) := by rw [IntKind.wrap_i64]; omega
  go_enter Tryz.func14, Tryz.ntmps14
  go_wp2_with fail
  go_region_held3 (fun w' => w'.cell? ⟨p, 5, none⟩ = some (.int .i64 l.kept)) (first | go_keep | assumption | exact hc5)
    (first | (go_at_call 45; refine HR.out.mono ?_; rintro x w3 ⟨rfl, rfl⟩) | (go_at_call 44; refine HP.out.mono ?_; rintro x w4 ⟨rfl, S4, hL4, hM4⟩; have hc5 : w4.cell? ⟨p, 5, none⟩ = some (.int .i64 l.kept) := hL4.cell5))
  go_wp2
  go_ret2
  exact ⟨rfl, S4, hL4, hM4.undrew⟩

end

end Go.Proofs.YtgmfgkdecpldeaaGreat
