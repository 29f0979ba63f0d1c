/-
  The walks of (*txn.Manager).Log and Begin where the log has no room.
  The walk of girderlaw09.TxnRoom.
  The walk of girderlaw09.TxnRoom, whole.
-/
import Derived.Test.YthobhmejlonncaaGreatTxLogCJ
import Derived.Test.YthobhmejlonncaaGreatTxNewJ
import Derived.Deep.QuietTactic
import Derived.BigQuiet
namespace Go.Proofs.YthobhmejlonncaaGreat
open Go.RowKit Go.Sort
set_option linter.unusedVariables false
set_option linter.unusedSimpArgs false

section
variable {w : World} {m p : Nat} {X : Int → Nat} {A : Nat → Prop} {P : PG} {l : LG} {d : DG} {M : MgG}

set_option maxHeartbeats 6400000 in
set_option maxRecDepth 20000 in
theorem tlog_full (h : MSys w m p X A P l d M) (n : Int) (hn1 : -9223372036854775808 ≤ n) (hn2 : n ≤ 9223372036854775807) {t : MtV} (ht : M.T n = some t) (hst : t.state = 1) (c : ChgV) (hok : ∀ wx, (recU t c).Ok wx none none) (hmay : mayR (recU t c) = true) (hun : c.undo ≠ 0) (hsz : 1 ≤ (logS t c).size ∧ (logS t c).size ≤ 8192) (hb : l.bytes.length ≤ 4194304) (hk : l.kept ≤ 4194304) (hfull : (4194304 : Int) - l.bytes.length - l.kept < ((logS t c).size + 172 : Nat)) :
    Calls Tryz.prog 9 #[.pointer (some ⟨m, 0, none⟩), .int .i64 n, .agg c.cells] w fun e w' => e = .returned (.tuple #[.int .u64 0, .int .i64 50]) ∧ Below w.heap.size w w' := by
  have HA := hidx (fun (k : Nat) (hk : w.heap.size ≤ k) (x : A k) => by have := h.lt k x; omega : ∀ k, w.heap.size ≤ k → A k → False)
  obtain ⟨W1, HW1⟩ : ∃ W, Hid (W = w.alloc (.cells #[.pointer (some ⟨m, 0, none⟩)] 22)) := ⟨_, rfl⟩
  have b1 : Below w.heap.size w W1 := by rw [HW1.out]; exact (Below.refl _ _).alloc (Nat.le_refl _) _
  have x1 : Blk W1 w.heap.size #[.pointer (some ⟨m, 0, none⟩)] 22 := by rw [HW1.out]; exact Blk.made _ _ _
  have z1 : W1.heap.size = w.heap.size + 1 := by rw [HW1.out]; simp
  obtain ⟨W, HW⟩ : ∃ W, Hid (W = W1.alloc (.cells c.cells 43)) := ⟨_, rfl⟩
  have b2 : Below W1.heap.size W1 W := by rw [HW.out]; exact (Below.refl _ _).alloc (Nat.le_refl _) _
  have xC : Blk W W1.heap.size c.cells 43 := by rw [HW.out]; exact Blk.made _ _ _
  have xM : Blk W w.heap.size #[.pointer (some ⟨m, 0, none⟩)] 22 := x1.same (b2.block _ x1.lt)
  have bW : Below w.heap.size w W := below_chain b1 b2
  have hW := h.below bW
  have HFI := hidx (find_yes hW n hn1 hn2 ht)
  obtain ⟨S0, hT0, _, _⟩ := hW.tx ht
  have HUP := hidx (update_any hT0 c)
  have st0 : W.cell? ⟨X n, 1, none⟩ = some (.int .i64 1) := by have := hT0.cells.c1; rw [hst] at this; exact this
  have HPAR : Hid (c.cells = #[.int .u32 c.page, .int .i64 c.op.kind, .int .i64 c.op.at', .string c.op.S, .string c.op.old, .int .i64 c.undo, .int .i64 c.index, .string c.key, .int .u32 c.rpage, .int .i64 c.rslot, .bool c.live]) := rfl
  have HENC : Hid (∀ wx, Calls Tryz.prog 38 #[.agg ((recU t c).cells none none 0 0)] wx fun e w' => e = .returned (.tuple #[.string (logS t c), .int .i64 0]) ∧ Below wx.heap.size wx w') := fun wx => renc_ok (recU t c) none none 0 0 wx (hok wx) hmay ⟨fun i hi => by simp [recU] at hi, fun i hi => by simp [recU] at hi⟩
  have HUN : Hid (∀ wx, Calls Tryz.prog 39 #[.agg ((recU t c).cells none none 0 0)] wx fun e w' => e = .returned (.bool true) ∧ Below wx.heap.size wx w') := fun wx => by
    have := undoable_any (recU t c) none none 0 0 wx
    rw [decide_eq_true (show (recU t c).kind = 1 ∧ (recU t c).undo ≠ 0 from ⟨rfl, hun⟩)] at this
    exact this
  have m0 : W.cell? ⟨w.heap.size, 0, none⟩ = some (.pointer (some ⟨m, 0, none⟩)) := xM.cell 0
  have z2 : W1.heap.size = w.heap.size + 1 := z1
  have HXC : Hid (W.heap[w.heap.size + 1]? = some (.cells c.cells 43 (0, 0))) := by show _ = _; rw [← z1]; exact xC
  have HXM := hidx xM
  have HBW := hidx bW
  have HH := hidx h
  have HT := hidx ht
  obtain ⟨s, Hs⟩ : ∃ s, Hid (logS t c = s) := ⟨_, rfl⟩
  rw [Hs.out] at hsz hfull HENC
  clear h hW hT0 b1 b2 x1 xC xM bW z1 z2 ht hst
  rw [HPAR.out]
  go_enter Tryz.func9, Tryz.ntmps9
  go_upto_region 1 with fail
  rw [← HPAR.out, ← HW1.out, ← HW.out]
  clear HW HW1
  go_wp2_with fail
  refine HFI.out.mono ?_
  rintro e w2 ⟨rfl, rfl⟩
  clear HFI
  have e0 : W.cell? ⟨w.heap.size + 1, 0, none⟩ = some (.int .u32 c.page) := BlkR.cell HXC.out 0
  have e1 : W.cell? ⟨w.heap.size + 1, 1, none⟩ = some (.int .i64 c.op.kind) := BlkR.cell HXC.out 1
  have e2 : W.cell? ⟨w.heap.size + 1, 2, none⟩ = some (.int .i64 c.op.at') := BlkR.cell HXC.out 2
  have e3 : W.cell? ⟨w.heap.size + 1, 3, none⟩ = some (.string c.op.S) := BlkR.cell HXC.out 3
  have e4 : W.cell? ⟨w.heap.size + 1, 4, none⟩ = some (.string c.op.old) := BlkR.cell HXC.out 4
  have e5 : W.cell? ⟨w.heap.size + 1, 5, none⟩ = some (.int .i64 c.undo) := BlkR.cell HXC.out 5
  have e6 : W.cell? ⟨w.heap.size + 1, 6, none⟩ = some (.int .i64 c.index) := BlkR.cell HXC.out 6
  have e7 : W.cell? ⟨w.heap.size + 1, 7, none⟩ = some (.string c.key) := BlkR.cell HXC.out 7
  have e8 : W.cell? ⟨w.heap.size + 1, 8, none⟩ = some (.int .u32 c.rpage) := BlkR.cell HXC.out 8
  have e9 : W.cell? ⟨w.heap.size + 1, 9, none⟩ = some (.int .i64 c.rslot) := BlkR.cell HXC.out 9
  have e10 : W.cell? ⟨w.heap.size + 1, 10, none⟩ = some (.bool c.live) := BlkR.cell HXC.out 10
  have HRC : Hid ((recU t c).cells none none 0 0 = #[.int .i64 1, .int .i64 t.tx, .int .u64 t.last, .int .u64 0, .int .u32 c.page, .int .i64 c.op.kind, .int .i64 c.op.at', .string c.op.S, .string c.op.old, .int .i64 c.undo, .int .i64 c.index, .string c.key, .int .u32 c.rpage, .int .i64 c.rslot, .bool c.live, .slice none 0 0, .slice none 0 0]) := rfl
  go_upto_region 6 with fail
  go_wp2_with fail
  refine HUP.out.mono ?_
  rintro e w3 ⟨rfl, b3⟩
  rw [HRC.out]
  clear e0 e1 e2 e3 e4 e5 e6 e7 e8 e9 e10 HUP HXC st0
  obtain ⟨W4, HW4⟩ : ∃ W', Hid (W' = w3.alloc (.cells ((recU t c).cells none none 0 0) 60)) := ⟨_, rfl⟩
  have b4 : Below w3.heap.size w3 W4 := by rw [HW4.out]; exact (Below.refl _ _).alloc (Nat.le_refl _) _
  have x4 : BlkR W4 w3.heap.size ((recU t c).cells none none 0 0) 60 := by rw [HW4.out]; exact Blk.made _ _ _
  have B4 := hidx (below_chain b3 b4)
  have X4 := hidx x4
  have hw3 : W.heap.size ≤ w3.heap.size := b3.size
  have m0' : W4.cell? ⟨w.heap.size, 0, none⟩ = some (.pointer (some ⟨m, 0, none⟩)) := (HXM.out.same (B4.out.block _ HXM.out.lt)).cell 0
  clear b3 b4 x4 m0
  go_upto_region 7 with fail
  rw [← HRC.out, ← HW4.out]
  clear HW4
  refine wp_region_lit ?_
  refine wpList_loadRow rfl _ _ rfl w3.heap.size rfl ((recU t c).cells none none 0 0) _ (0, 0) X4.out _ Tryz.underlying60 rfl (by kernel_rfl) ?_
  go_wp2_with fail
  refine (HENC.out W4).mono ?_
  rintro e w5 ⟨rfl, b5⟩
  obtain ⟨W6, HW6⟩ : ∃ W', Hid (W' = w5.alloc (.cells #[.string s] 9)) := ⟨_, rfl⟩
  have b6 : Below w5.heap.size w5 W6 := by rw [HW6.out]; exact (Below.refl _ _).alloc (Nat.le_refl _) _
  have x6 : Blk W6 w5.heap.size #[.string s] 9 := by rw [HW6.out]; exact Blk.made _ _ _
  have b56 := below_chain b5 b6
  have hw4 : w3.heap.size < W4.heap.size := X4.out.lt
  have hw5 : W4.heap.size ≤ w5.heap.size := b5.size
  have B6 := hidx (below_chain B4.out b56)
  have X6 := hidx (X4.out.same (b56.block _ X4.out.lt))
  have Y6 := hidx x6
  clear b5 b6 x6 b56 B4 X4 m0' HENC
  go_upto_region 11 with fail
  rw [← HW6.out]
  clear HW6
  refine wp_region_lit ?_
  refine wpList_loadRow rfl _ _ rfl w3.heap.size rfl ((recU t c).cells none none 0 0) _ (0, 0) X6.out _ Tryz.underlying60 rfl (by kernel_rfl) ?_
  go_wp2_with fail
  refine (HUN.out W6).mono ?_
  rintro e w7 ⟨rfl, b7⟩
  have B7 := hidx (below_chain B6.out b7)
  have X7 := hidx (X6.out.same (b7.block _ X6.out.lt))
  have Y7 := hidx (Y6.out.same (b7.block _ Y6.out.lt))
  have B7w := hidx (below_chain HBW.out B7.out)
  have H7 := hidx (HH.out.below B7w.out)
  have HLG := hidx (mlog_any H7.out)
  have m7 : w7.cell? ⟨w.heap.size, 0, none⟩ = some (.pointer (some ⟨m, 0, none⟩)) := (HXM.out.same (B7.out.block _ HXM.out.lt)).cell 0
  have s7 : w7.cell? ⟨w5.heap.size, 0, none⟩ = some (.string s) := Y7.out.cell 0
  obtain ⟨L, hL, _, _⟩ := H7.out.log
  have HKP := hidx (keep_full hL hb hk (s.size + 172) (by omega) hfull)
  have hs1 : s.size ≤ 8192 := hsz.2
  clear b7 B6 X6 Y6 HUN hL
  go_wp2_with fail
  refine HLG.out.mono ?_
  rintro e w8 ⟨rfl, rfl⟩
  clear HLG
  go_wp2_with fail
  rw [show ((s.size : Int) + 12 + 160) = ((s.size + 172 : Nat) : Int) by omega]
  refine HKP.out.mono ?_
  rintro e w8 ⟨rfl, rfl⟩
  have HF := hidx (B7w.out.drew)
  clear HKP m7 s7 X7 Y7 B7 B7w H7
  go_wp2
  go_ret2
  exact ⟨rfl, HF.out⟩

set_option maxHeartbeats 1600000 in
set_option maxRecDepth 20000 in
theorem begin_full (h : MSys w m p X A P l d M) (hz : M.z < 64) (hb : l.bytes.length ≤ 4194304) (hk : l.kept ≤ 4194304) (hfull : (4194304 : Int) - l.bytes.length - l.kept < (128 : Nat)) :
    Calls Tryz.prog 8 #[.pointer (some ⟨m, 0, none⟩)] w fun r w' => r = .returned (.tuple #[.int .i64 0, .int .i64 50]) ∧ w' = w.drew := by
  obtain ⟨tb, c0, c1, c2, c3, _⟩ := h.reads
  have HLG := hidx (mlog_any h)
  have hlen : ∀ ty, (Builtin.len_ #[87] ty #[.map (some tb)]).run Tryz.prog w = .ok (.int .i64 M.z) w := by
    obtain ⟨B, ⟨tb', dn, D, S, hM⟩, _, _⟩ := h.mgr
    have e : tb' = tb := by have := hM.blk.cell 1; rw [c1] at this; simpa using this.symm
    subst e
    intro ty
    have := hM.map.1.len (t := 87) (e := 90) Tryz.underlying87 ty
    rw [hM.map.2] at this
    exact this
  obtain ⟨L, hL, hLA, lstep⟩ := h.log
  have HK := hidx (keep_full hL hb hk 128 (by omega) hfull)
  have hz' : (M.z : Int) < 64 := by omega
  clear h hL hLA lstep c0 c2 c3 hfull hb hk
  go_enter Tryz.func8, Tryz.ntmps8
  go_wp2_with fail
  refine HLG.out.mono ?_
  rintro r w1 ⟨rfl, rfl⟩
  clear hlen
  go_wp2_with fail
  refine HK.out.mono ?_
  rintro r w1 ⟨rfl, rfl⟩
  clear HK HLG
  go_wp2
  go_ret2
  exact ⟨rfl, rfl⟩

end

end Go.Proofs.YthobhmejlonncaaGreat

namespace Go.Proofs.YthobhmejlonncaaGreat
open Go.RowKit Go.Sort
set_option linter.unusedVariables false
set_option linter.unusedSimpArgs false

theorem TxLine.keep {l : LG} {rs : List ByteArray} {t : MtV} {n pg : Nat} {v0 : ByteArray} {L : List UpV} {K0 : Nat} (h : TxLine l rs t n pg v0 L K0) (j : Nat) (hb : l.bytes.length + (l.kept + j) ≤ 4194304) : TxLine { l with kept := l.kept + j } rs t n pg v0 L (K0 + j) :=
  ⟨⟨h.recs.starts, h.recs.long, h.recs.text⟩, h.line, h.falls, h.next, h.tx, h.debts, h.kept, by have := h.keq; show l.kept + j = _; omega, hb, h.last, h.plt, h.begun, h.v0s⟩

/-- Where TxnRoom stands behind i changes: now stands in the page. -/
structure RmAt (w wr : World) (m p dp lp : Nat) (X : Int → Nat) (i : Nat) (now : ByteArray) : Prop where
  ex : ∃ A P l rs t L, MSys wr m p X A P l (newD 64) (mg0.born.set (1 : Nat) t) ∧ Ours w wr A ∧ TxLine l rs t 1 1 ⟨#[48]⟩ L 0 ∧ nowOf ⟨#[48]⟩ L = now ∧ t.state = 1 ∧ t.last = plOf L ∧ t.kept = roomSum L + 128 ∧ PgTo (begP dp lp 5) P 1 now ∧ l.bytes.length ≤ i * 441 ∧ roomSum L ≤ i * 601 ∧ now.size ≤ 202

theorem RmAt.below {w wr wx : World} {m p dp lp : Nat} {X : Int → Nat} {i : Nat} {now : ByteArray} (h : RmAt w wr m p dp lp X i now) (b : Below wr.heap.size wr wx) : RmAt w wx m p dp lp X i now := by
  obtain ⟨A, P, l, rs, t, L, h1, h2, h3⟩ := h.ex
  exact ⟨A, P, l, rs, t, L, h1.below b, h2.below b, h3⟩

theorem RmAt.log {w wr : World} {m p dp lp : Nat} {X : Int → Nat} {i : Nat} {now : ByteArray} (h : RmAt w wr m p dp lp X i now) (hi : i < 30) (S : ByteArray) (hS : S.size ≤ 202) :
    Calls Tryz.prog 9 #[.pointer (some ⟨m, 0, none⟩), .int .i64 1, .agg #[.int .u32 1, .int .i64 4, .int .i64 0, .string S, .string now, .int .i64 1, .int .i64 0, .string ⟨#[]⟩, .int .u32 0, .int .i64 0, .bool false]] wr fun e w' => (∃ k : Int, e = .returned (.tuple #[.int .u64 k, .int .i64 0])) ∧ RmAt w w' m p dp lp X (i + 1) S := by
  obtain ⟨A, P, l, rs, t, L, h1, h2, h3, rfl, h5, h6, h7, h8, h9, h10, h11⟩ := h.ex
  have hq := h3.keq
  refine (line_log h1 (MgG.set_get _ _ _) h3 h5 h6 h8 (by rw [begP_z]; omega) (by omega) (by omega) (by omega) S (by omega) (by omega)).mono ?_
  rintro e w' ⟨rfl, hl⟩
  obtain ⟨A', P', l', rs', t', g1, mv, g3, g5, g6, g7, g8, g9⟩ := hl.ex
  rw [MgG.set_set] at g1
  refine ⟨⟨_, rfl⟩, ⟨A', P', l', rs', t', _, g1, h2.step mv, g3, rfl, g5, g6, ?_, g9, ?_, ?_, hS⟩⟩
  · rw [g7, h7]; show _ = roomSum L + (197 + S.size + (nowOf ⟨#[48]⟩ L).size) + 128; omega
  · rw [g8]; omega
  · show roomSum L + (197 + S.size + (nowOf ⟨#[48]⟩ L).size) ≤ _; omega

/-- .. behind the rest of the log has been kept by others. -/
structure RmFull (w wr : World) (m p dp lp lq : Nat) (X : Int → Nat) (now : ByteArray) (left : Nat) : Prop where
  ex : ∃ A P l rs t L, MSys wr m p X A P l (newD 64) (mg0.born.set (1 : Nat) t) ∧ Ours w wr A ∧ TxLine l rs t 1 1 ⟨#[48]⟩ L left ∧ nowOf ⟨#[48]⟩ L = now ∧ t.state = 1 ∧ t.kept = roomSum L + 128 ∧ PgTo (begP dp lp 5) P 1 now ∧ l.bytes.length + l.kept = 4194304 ∧ now.size ≤ 202 ∧ P.lp = lq

theorem RmFull.below {w wr wx : World} {m p dp lp lq : Nat} {X : Int → Nat} {now : ByteArray} {left : Nat} (h : RmFull w wr m p dp lp lq X now left) (b : Below wr.heap.size wr wx) : RmFull w wx m p dp lp lq X now left := by
  obtain ⟨A, P, l, rs, t, L, h1, h2, h3⟩ := h.ex
  exact ⟨A, P, l, rs, t, L, h1.below b, h2.below b, h3⟩

/-- What the law asks of the log. -/
structure RmLog (w wr : World) (m p dp lp : Nat) (X : Int → Nat) (now : ByteArray) (lq left : Nat) (b k : Int) : Prop where
  pool : Calls Tryz.prog 10 #[.pointer (some ⟨m, 0, none⟩)] wr fun e w' => e = .returned (.pointer (some ⟨p, 0, none⟩)) ∧ wr = w'
  log : Calls Tryz.prog 11 #[.pointer (some ⟨p, 0, none⟩)] wr fun r w' => r = .returned (.pointer (some ⟨lq, 0, none⟩)) ∧ wr = w'
  room : ∀ q, Calls Tryz.prog 12 #[.pointer (some ⟨lq, 0, none⟩)] (wr.drewN q) fun e w' => e = .returned (.int .i64 ((4194304 : Int) - b)) ∧ w' = wr.drewN q
  kept : ∀ q, Calls Tryz.prog 13 #[.pointer (some ⟨lq, 0, none⟩)] (wr.drewN q) fun e w' => e = .returned (.int .i64 k) ∧ w' = wr.drewN q
  keep : ∀ q, Calls Tryz.prog 14 #[.pointer (some ⟨lq, 0, none⟩), .int .i64 left] (wr.drewN q) fun e w' => e = .returned (.int .i64 0) ∧ RmFull w w' m p dp lp lq X now left
  eq : (4194304 : Int) - b - k = left
  nb : 0 ≤ b ∧ b ≤ 4194304
  nk : 0 ≤ k ∧ k ≤ 4194304

theorem RmAt.law {w wr : World} {m p dp lp : Nat} {X : Int → Nat} {i : Nat} {now : ByteArray} (h : RmAt w wr m p dp lp X i now) (hi : i ≤ 30) : ∃ lq left b k, RmLog w wr m p dp lp X now lq left b k := by
  obtain ⟨A, P, l, rs, t, L, h1, h2, h3, h4, h5, h6, h7, h8, h9, h10, h11⟩ := h.ex
  have hq := h3.keq
  have hb := h3.bytes
  obtain ⟨tb, c0, c1, c2, c3, _⟩ := h1.reads
  have hD : ∀ q, MSys (wr.drewN q) m p X A P l (newD 64) (mg0.born.set (1 : Nat) t) := fun q => h1.same (fun _ _ => rfl) (Nat.le_refl _)
  refine ⟨P.lp, 4194304 - l.bytes.length - l.kept, l.bytes.length, l.kept, ⟨mpool_any h1, plog_any c3, fun q => ?_, fun q => ?_, fun q => ?_, by omega, by omega, by omega⟩⟩
  · obtain ⟨Lg, hL, _, _⟩ := (hD q).log
    exact room_out hL (by omega)
  · obtain ⟨Lg, hL, _, _⟩ := (hD q).log
    exact kept_out hL
  · obtain ⟨Lg, hL, _, step⟩ := (hD q).log
    refine (keep_ok hL (by omega) (by omega) (4194304 - l.bytes.length - l.kept) (by omega) (by omega)).mono ?_
    rintro e w' ⟨rfl, hL', mv⟩
    obtain ⟨A', g1, mv'⟩ := step _ _ _ hL' rfl mv
    have hO : Ours w (wr.drewN q) A := h2.below (below_drewN (Below.refl _ _) q)
    have := h3.keep (4194304 - l.bytes.length - l.kept) (by omega)
    rw [Nat.zero_add] at this
    refine ⟨rfl, ⟨A', P, _, rs, t, L, g1, hO.step mv', this, h4, h5, h7, h8, ?_, h11, rfl⟩⟩
    show l.bytes.length + (l.kept + _) = _
    omega

theorem RmFull.log {w wr : World} {m p dp lp lq : Nat} {X : Int → Nat} {now : ByteArray} {left : Nat} (h : RmFull w wr m p dp lp lq X now left) :
    Calls Tryz.prog 9 #[.pointer (some ⟨m, 0, none⟩), .int .i64 1, .agg #[.int .u32 1, .int .i64 4, .int .i64 0, .string ⟨#[121]⟩, .string now, .int .i64 1, .int .i64 0, .string ⟨#[]⟩, .int .u32 0, .int .i64 0, .bool false]] wr fun e w' => e = .returned (.tuple #[.int .u64 0, .int .i64 50]) ∧ RmFull w w' m p dp lp lq X now left := by
  have HH := hidx h
  obtain ⟨A, P, l, rs, t, L, h1, h2, h3, h4, h5, h7, h8, h9, h11, h12⟩ := h.ex
  have hq := h3.keq
  have sz := logS_size t 1 ⟨#[121]⟩ now (by decide) (by omega)
  have hrec := lineR_eq t 1 1 ⟨0, ⟨#[121]⟩, now⟩ h3.tx
  have h121 : (ByteArray.mk #[121]).size = 1 := rfl
  have hlast := h3.last
  refine (tlog_full h1 1 (by omega) (by omega) (MgG.set_get _ _ _) h5 (setC 1 ⟨#[121]⟩ now) (fun wx => ?_) ?_ (by show (1 : Int) ≠ 0; decide) (by rw [sz]; omega) (by omega) (by omega) (by omega)).mono ?_
  · rw [hrec]; exact lineR_ok 1 1 t.last _ (by omega) (by omega) (by omega) (by show (ByteArray.mk #[121]).size ≤ 512; decide) (by show now.size ≤ _; omega) wx none none (.inl rfl) (.inl rfl)
  · rw [hrec]; exact lineR_may 1 1 t.last _ (by omega) (by omega) (by show (ByteArray.mk #[121]).size ≤ 512; decide) (by show now.size ≤ _; omega)
  · rintro e w' ⟨rfl, b⟩
    exact ⟨rfl, HH.out.below b⟩

theorem RmFull.begin {w wr : World} {m p dp lp lq : Nat} {X : Int → Nat} {now : ByteArray} {left : Nat} (h : RmFull w wr m p dp lp lq X now left) :
    Calls Tryz.prog 8 #[.pointer (some ⟨m, 0, none⟩)] wr fun e w' => e = .returned (.tuple #[.int .i64 0, .int .i64 50]) ∧ RmFull w w' m p dp lp lq X now left := by
  have HH := hidx h
  obtain ⟨A, P, l, rs, t, L, h1, h2, h3, h4, h5, h7, h8, h9, h11, h12⟩ := h.ex
  have hq := h3.keq
  refine (begin_full h1 (by show 1 < 64; omega) (by omega) (by omega) (by omega)).mono ?_
  rintro e w' ⟨rfl, rfl⟩
  exact ⟨rfl, HH.out.below ((Below.refl _ _).drew)⟩

theorem RmFull.slot {w wr : World} {m p dp lp lq : Nat} {X : Int → Nat} {now : ByteArray} {left : Nat} (h : RmFull w wr m p dp lp lq X now left) :
    Calls Tryz.prog 15 #[.pointer (some ⟨m, 0, none⟩), .int .i64 1] wr fun e w' => e = .returned (.string now) ∧ RmFull w w' m p dp lp lq X now left := by
  have HH := hidx h
  obtain ⟨A, P, l, rs, t, L, h1, h2, h3, h4, h5, h7, h8, h9, h11, h12⟩ := h.ex
  obtain ⟨f, hf, hs⟩ := h8.str
  refine (slot_any h1 1 (by omega) (by omega) hf _ hs).mono ?_
  rintro e w' ⟨rfl, b⟩
  exact ⟨rfl, HH.out.below b⟩

/-- .. behind the abort. -/
structure RmEnd (w wr : World) (m : Nat) (lq left : Nat) : Prop where
  slot : Calls Tryz.prog 15 #[.pointer (some ⟨m, 0, none⟩), .int .i64 1] wr fun e w' => e = .returned (.string ⟨#[48]⟩) ∧ Below w.heap.size w w' ∧ Calls Tryz.prog 13 #[.pointer (some ⟨lq, 0, none⟩)] w' fun e w2 => e = .returned (.int .i64 left) ∧ w2 = w'

theorem RmFull.abort {w wr : World} {m p dp lp lq : Nat} {X : Int → Nat} {now : ByteArray} {left : Nat} (h : RmFull w wr m p dp lp lq X now left) :
    Calls Tryz.prog 16 #[.pointer (some ⟨m, 0, none⟩), .int .i64 1, .func (.func 50) #[] #[.pointer (some ⟨wr.heap.size, 0, none⟩)]] (wr.alloc (.cells #[.pointer (some ⟨m, 0, none⟩)] 22)) fun e w' => e = .returned (.int .i64 0) ∧ RmEnd w w' m lq left := by
  obtain ⟨A, P, l, rs, t, L, h1, h2, h3, h4, h5, h7, h8, h9, h11, h12⟩ := h.ex
  have b5 : Below wr.heap.size wr (wr.alloc (.cells #[.pointer (some ⟨m, 0, none⟩)] 22)) := (Below.refl _ _).alloc (Nat.le_refl _) _
  have x5 := Blk.made wr #[.pointer (some ⟨m, 0, none⟩)] 22
  have hn : ¬ A wr.heap.size := fun x => by have := h1.lt _ x; omega
  subst h4
  refine (line_abort (n := 1) (h1.below b5) (MgG.set_get _ _ _) h3 h5 (by omega) h8 (by rw [begP_z]; omega) (by omega) (by omega) (by omega) wr.heap.size (x5.cell 0) hn).mono ?_
  rintro e w6 ⟨rfl, hab⟩
  obtain ⟨A6, P6, l6, rs6, g6, mv6, hP6, hR6, hk6, hb6⟩ := hab.ex
  obtain ⟨f6, hf6, hs6⟩ := hP6.str
  refine ⟨rfl, ⟨?_⟩⟩
  refine (slot_any g6 1 (by omega) (by omega) hf6 _ hs6).mono ?_
  rintro e w7 ⟨rfl, b7⟩
  refine ⟨rfl, (((h2.below b5).step mv6).below b7).bl, ?_⟩
  obtain ⟨Lg, hL, _, _⟩ := (g6.below b7).log
  have hlp : P6.lp = lq := by rw [hP6.lp, ← h12, h8.lp]
  have := kept_out hL
  rw [hlp, hk6] at this
  exact this

end Go.Proofs.YthobhmejlonncaaGreat

namespace Go.Proofs.YthobhmejlonncaaGreat
open Go.RowKit Go.Sort
set_option linter.unusedVariables false
set_option linter.unusedSimpArgs false

theorem two_bytes {P : Program} (w : World) (k : Nat) (hk : k < 256) (src dst el : TypeId) (hs : P.underlying src = some (.slice el)) (he : P.underlying el = some (.int .u8)) (hd : P.underlying dst = some .string) :
    (convert src dst (.slice (some ⟨w.heap.size, 0, none⟩) 2 2)).run P (w.alloc (.cells #[.int .u8 (k : Int), .int .u8 120] el)) = .ok (.string ⟨#[UInt8.ofNat k, 120]⟩) (w.alloc (.cells #[.int .u8 (k : Int), .int .u8 120] el)) := by
  refine RowU.toString (N := 2) (f := fun j => if j = 0 then (k : Int) else 120) (fun j hj => ?_) [UInt8.ofNat k, 120] rfl (fun j hj => ?_) src dst el hs he hd
  · rcases (by omega : j = 0 ∨ j = 1) with rfl | rfl
    · exact ⟨by simp, by simp⟩
    · exact ⟨by simp, by simp⟩
  · simp at hj
    rcases (by omega : j = 0 ∨ j = 1) with rfl | rfl
    · simp; omega
    · simp

set_option maxHeartbeats 6400000 in
set_option maxRecDepth 20000 in
theorem troom_walk (ch : Int) (hc1 : -9223372036854775808 ≤ ch) (hc2 : ch ≤ 9223372036854775807) (s : ByteArray) (hs : s.size ≤ 140737488355328) (lv : Int) (w : World) :
    Calls Tryz.prog 3 #[.int .i64 ch, .string s, .int .i64 lv] w fun e w' => e = .returned (.bool true) ∧ Below w.heap.size w w' := by
  have HB := hidx (tbegun_any w)
  go_enter Tryz.func3, Tryz.ntmps3
  go_wp2_with fail
  refine HB.out.mono ?_
  rintro e w1 ⟨⟨m, p, dp, lp, A1, rfl, h1, hA1, b1⟩⟩
  have O1 : Hid (Ours w w1 A1) := hidx ⟨hA1, b1⟩
  have H1 := hidx h1
  have HAW := hidx (tawake_any w1)
  clear HB h1 hA1 b1
  go_wp2_with fail
  refine HAW.out.mono ?_
  rintro e w2 ⟨rfl, b2⟩
  have H2 := hidx (H1.out.below b2)
  have O2 := hidx (O1.out.below b2)
  clear HAW H1 O1 b2
  go_upto_if 35 with fail
  go_cut [1] from 35 to 37 (fun v1 wx => ∃ s' : ByteArray, v1 = .string s' ∧ s'.size ≤ 200 ∧ wx = w2)
  case first =>
    by_cases hlong : 200 < s.size
    · have s1 : decide ((200 : Int) < (s.size : Int)) = true := by simp; omega
      have s1' : decide (200 < s.size) = true := by simp; omega
      have s2 : (200 : Int) ≤ (s.size : Int) := by omega
      have s3 : 200 ≤ s.size := by omega
      go_wp2_with fail
      go_meet
      case rel => exact ⟨_, rfl, by simp; omega, rfl⟩
    · have s1 : decide ((200 : Int) < (s.size : Int)) = false := by simp; omega
      have s1' : decide (200 < s.size) = false := by simp; omega
      go_wp2_with fail
      go_meet
      case rel => exact ⟨s, rfl, by omega, rfl⟩
  obtain ⟨s', rfl, hs', hw2⟩ := hcut
  obtain rfl := hw2.symm
  clear hs
  have HBE := hidx (begin_ok H2.out (by show 1 ≤ _; omega) rfl (by show 0 < 64; omega) (by show 0 ≤ _; omega) (by show 0 + 128 + 0 ≤ _; omega))
  clear H2
  go_wp2_with fail
  refine HBE.out.mono ?_
  rintro e w3 ⟨rfl, A3, b, h3, mv3⟩
  have e1 : (mg0.next : Int) = 1 := rfl
  rw [e1] at h3
  rw [e1]
  obtain ⟨X, HX⟩ : ∃ X, Hid (bornX (fun _ => 0) 1 b = X) := ⟨_, rfl⟩
  rw [HX.out] at h3
  have R3 : Hid (RmAt w w3 m p dp lp X 0 ⟨#[48]⟩) := by
    have hT : mg0.born.T (1 : Nat) = some (fresh 1) := rfl
    have hL : TxLine { log0 dp with kept := (log0 dp).kept + 128 } [] (fresh 1) 1 1 ⟨#[48]⟩ [] 0 := TxLine.start ⟨(RecsAt.nil dp).starts, (RecsAt.nil dp).long, (RecsAt.nil dp).text⟩ rfl (by show 0 + (0 + 128) ≤ _; omega) (by decide)
    refine hidx ⟨A3, _, _, [], fresh 1, [], ?_, O2.out.step mv3, hL, rfl, rfl, rfl, rfl, PgTo.begun dp lp 1 (by omega) (by omega), Nat.zero_le _, Nat.zero_le _, by decide⟩
    rw [MgG.set_self hT]
    exact h3
  clear HBE O2 h3 mv3 HX
  go_upto_if 44 with fail
  go_cut [12] from 44 to 47 (fun v12 wx => ∃ k : Nat, v12 = .int .i64 k ∧ 1 ≤ k ∧ k ≤ 30 ∧ wx = w3)
  case first =>
    by_cases hpos : 0 < ch
    · have s1 : decide (0 < ch) = true := by simp; omega
      have hm1 : ch.tmod 30 = ch % 30 := Int.tmod_eq_emod_of_nonneg (by omega)
      go_wp2_with fail
      go_meet
      case rel => exact ⟨(ch % 30 + 1).toNat, by rw [Int.toNat_of_nonneg (by omega)], by omega, by omega, rfl⟩
    · have s1 : decide (0 < ch) = false := by simp; omega
      go_wp2_with fail
      go_meet
      case rel => exact ⟨1, rfl, by omega, by omega, rfl⟩
  obtain ⟨k, rfl, hk1, hk2, hw3⟩ := hcut
  obtain rfl := hw3.symm
  go_wp2_with fail
  go_loopw [11, 13] (fun v11 v13 wr => ∃ (i : Nat) (now : ByteArray), v11 = .string now ∧ v13 = .int .i64 i ∧ i ≤ k ∧ Hid (RmAt w wr m p dp lp X i now)) (fun _ v _ => k - (intOf v).toNat)
  case atStart => exact ⟨0, _, rfl, rfl, by omega, R3⟩
  case round =>
    obtain ⟨i, now, rfl, rfl, hik, HR⟩ := hrel
    clear R3
    by_cases hlt : i < k
    · have hcv := two_bytes (P := Tryz.prog) wr i (by omega) 29 9 5 Tryz.underlying29 Tryz.underlying5 Tryz.underlying9
      obtain ⟨V, HV⟩ : ∃ V, Hid (V = wr.alloc (.cells #[.int .u8 (i : Int), .int .u8 120] 5)) := ⟨_, rfl⟩
      obtain ⟨S, HS⟩ : ∃ S : ByteArray, Hid (S = s' ++ ⟨#[UInt8.ofNat i, 120]⟩) := ⟨_, rfl⟩
      have hl2 : (ByteArray.mk #[UInt8.ofNat i, 120]).size = 2 := rfl
      have hS : S.size ≤ 202 := by rw [HS.out, ByteArray.size_append, hl2]; omega
      have RV := hidx (HR.out.below (wx := V) (by rw [HV.out]; exact (Below.refl _ _).alloc (Nat.le_refl _) _))
      have HLO := hidx (RV.out.log (by omega) S hS)
      have hi1 : (i : Int) < (k : Int) := by omega
      clear HR RV
      go_upto_region 15 with fail
      rw [← HV.out, ← HS.out]
      clear hcv HV HS hl2
      go_wp2_with fail
      refine HLO.out.mono ?_
      rintro e w4 ⟨⟨kk, rfl⟩, h4⟩
      have H4 := hidx h4
      clear h4 HLO
      go_wp2_with fail
      go_roundw
      case rel => exact ⟨i + 1, S, rfl, by go_num, by omega, H4⟩
      case measure => simp [intOf]; omega
    · obtain rfl : i = k := by omega
      obtain ⟨lq, left, bb, kp, hlaw⟩ := HR.out.law (by omega)
      have HLAW := hidx hlaw
      have heq := hlaw.eq
      have hnb := hlaw.nb
      have hnk := hlaw.nk
      have HPO := hidx hlaw.pool
      have HLG := hidx hlaw.log
      clear HR hlaw
      go_wp2_with fail
      refine HPO.out.mono ?_
      rintro e w4 ⟨rfl, rfl⟩
      go_wp2_with fail
      refine HLG.out.mono ?_
      rintro e w4 ⟨rfl, rfl⟩
      clear HPO HLG
      have HRM := hidx (HLAW.out.room 0)
      have HKE := hidx (HLAW.out.kept 0)
      have HKP := hidx (HLAW.out.keep 0)
      have hd0 : wr.drewN 0 = wr := rfl
      rw [hd0] at HRM HKE HKP
      clear hd0
      go_wp2_with fail
      refine HRM.out.mono ?_
      rintro e w4 ⟨rfl, h4⟩
      obtain rfl := h4.symm
      go_wp2_with fail
      refine HKE.out.mono ?_
      rintro e w4 ⟨rfl, h4⟩
      obtain rfl := h4.symm
      go_wp2_with fail
      refine HKP.out.mono ?_
      rintro e w5 ⟨rfl, hf5⟩
      have HL5 := hidx hf5.log
      clear HLAW hf5 HRM HKE HKP
      go_wp2_with fail
      refine HL5.out.mono ?_
      rintro e w6 ⟨rfl, hf6⟩
      have HB6 := hidx hf6.begin
      clear HL5 hf6
      go_wp2_with fail
      refine HB6.out.mono ?_
      rintro e w7 ⟨rfl, hf7⟩
      have HS7 := hidx hf7.slot
      clear HB6 hf7
      go_wp2_with fail
      refine HS7.out.mono ?_
      rintro e w8 ⟨rfl, hf8⟩
      have HBK := hidx (back_any m w8)
      have HAB := hidx hf8.abort
      clear HS7 hf8
      go_wp2_with fail
      refine HBK.out.mono ?_
      rintro e w9 ⟨rfl, rfl⟩
      clear HBK
      go_wp2_with fail
      refine HAB.out.mono ?_
      rintro e w10 ⟨rfl, he⟩
      have HS := hidx he.slot
      clear HAB he
      go_wp2_with fail
      refine HS.out.mono ?_
      rintro e w11 ⟨rfl, b11, hk11⟩
      have HK := hidx hk11
      have HF := hidx b11
      clear HS b11 hk11
      go_wp2_with fail
      refine HK.out.mono ?_
      rintro e w12 ⟨rfl, rfl⟩
      go_wp2
      go_ret
      exact ⟨rfl, HF.out⟩

end Go.Proofs.YthobhmejlonncaaGreat
