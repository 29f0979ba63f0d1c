/-
  The walk of (*txn.Manager).change.
-/
import Derived.Test.YtdhphbokkmofaaaGreatTxMarkJ
import Derived.Test.YtdhphbokkmofaaaGreatPageSetJ
set_option linter.unusedVariables false
set_option linter.unusedSimpArgs false
namespace Go.Proofs.YtdhphbokkmofaaaGreat
open Go.RowKit Go.Sort

def zeroS : Array Value := #[.int .u32 0, .int .u64 0, .int .i64 0, .string ⟨#[]⟩, .slice none 0 0]

theorem store5_block (w : World) (b : Nat) (v0 v1 v2 v3 v4 : Value) {k : Nat} (hk : k ≠ b) : (store5 w b v0 v1 v2 v3 v4).heap[k]? = w.heap[k]? := by
  simp [store5, World.setCell, Array.getElem?_modify, Ne.symm hk]

theorem StrsFrom.stored {B : Nat} {w : World} {a : Option Addr} {L : List ByteArray} (h : StrsFrom B w a L) (b : Nat) (hb : b < B ∨ w.heap.size ≤ b) (v0 v1 v2 v3 v4 : Value) : StrsFrom B (Go.Proofs.YtdhphbokkmofaaaGreat.store5 w b v0 v1 v2 v3 v4) a L := by
  rcases h with h | ⟨g, o, e, h1, h2, hc⟩
  · exact .inl h
  · refine .inr ⟨g, o, e, h1, by rw [store5_size]; exact h2, fun i hi => (World.cell?_of_block (w := w) (a := ⟨g, o + i, none⟩) (store5_block w b v0 v1 v2 v3 v4 (show g ≠ b by omega))).trans (hc i hi)⟩

theorem got_after {W w2 : World} {a : Option Addr} {L : List ByteArray} (b2 : Below W.drew.heap.size W.drew w2) (s2 : StrsFrom W.drew.heap.size w2 a L) (v0 v1 v2 v3 v4 : Value) :
    Hid (Below W.heap.size W (w2.alloc (.cells #[v0, v1, v2, v3, v4] 44)) ∧ W.heap.size ≤ w2.heap.size ∧ Blk (w2.alloc (.cells #[v0, v1, v2, v3, v4] 44)) w2.heap.size #[v0, v1, v2, v3, v4] 44 ∧ StrsFrom W.heap.size (w2.alloc (.cells #[v0, v1, v2, v3, v4] 44)) a L) := by
  have b2' : Below W.heap.size W w2 := ((Below.refl W.heap.size W).drew).trans b2
  refine hidx ⟨b2'.alloc b2'.size _, b2'.size, Blk.made _ _ _, ?_⟩
  rcases s2 with h | ⟨g, o, e, h1, h2, hc⟩
  · exact .inl h
  · exact .inr ⟨g, o, e, h1, by simp; omega, fun i hi => (World.cell?_of_block (w := w2) (a := ⟨g, o + i, none⟩) (heap_old _ _ h2)).trans (hc i hi)⟩

theorem got_ahead0 {W w2 : World} {a : Option Addr} {L : List ByteArray} (b2 : Below (W.alloc (.cells zeroS 44)).drew.heap.size (W.alloc (.cells zeroS 44)).drew w2) (s2 : StrsFrom (W.alloc (.cells zeroS 44)).drew.heap.size w2 a L) (v0 v1 v2 v3 v4 : Value) :
    Below W.heap.size W (store5 w2 W.heap.size v0 v1 v2 v3 v4) ∧ W.heap.size ≤ W.heap.size ∧ Blk (store5 w2 W.heap.size v0 v1 v2 v3 v4) W.heap.size #[v0, v1, v2, v3, v4] 44 ∧ StrsFrom W.heap.size (store5 w2 W.heap.size v0 v1 v2 v3 v4) a L := by
  have z : (W.alloc (.cells zeroS 44)).drew.heap.size = W.heap.size + 1 := by show (W.alloc (.cells zeroS 44)).heap.size = _; simp
  have bA : Below W.heap.size W (W.alloc (.cells zeroS 44)).drew := ((Below.refl _ _).alloc (Nat.le_refl _) _).drew
  have hx0 : Blk (W.alloc (.cells zeroS 44)).drew W.heap.size #[.int .u32 0, .int .u64 0, .int .i64 0, .string ⟨#[]⟩, .slice none 0 0] 44 := Blk.made _ _ _
  have hx := hx0.same (b2.block _ hx0.lt)
  have bb : Below W.heap.size W w2 := below_chain bA b2
  refine ⟨below_set5 bb (Nat.le_refl _) _ _ _ _ _, Nat.le_refl _, hx.store5 _ _ _ _ _, ?_⟩
  have s3 := s2.stored W.heap.size (.inl (by rw [z]; omega)) v0 v1 v2 v3 v4
  rcases s3 with h | ⟨g, o, e, h1, h2, hc⟩
  · exact .inl h
  · exact .inr ⟨g, o, e, by rw [z] at h1; omega, h2, hc⟩

theorem got_ahead {W w2 : World} {a : Option Addr} {L : List ByteArray} (b2 : Below (W.alloc (.cells #[.int .u32 0, .int .u64 0, .int .i64 0, .string ⟨#[]⟩, .slice none 0 0] 44)).drew.heap.size (W.alloc (.cells #[.int .u32 0, .int .u64 0, .int .i64 0, .string ⟨#[]⟩, .slice none 0 0] 44)).drew w2) (s2 : StrsFrom (W.alloc (.cells #[.int .u32 0, .int .u64 0, .int .i64 0, .string ⟨#[]⟩, .slice none 0 0] 44)).drew.heap.size w2 a L) (v0 v1 v2 v3 v4 : Value) :
    Hid (Below W.heap.size W (((((w2.setCell ⟨W.heap.size, 0, none⟩ v0).setCell ⟨W.heap.size, 1, none⟩ v1).setCell ⟨W.heap.size, 2, none⟩ v2).setCell ⟨W.heap.size, 3, none⟩ v3).setCell ⟨W.heap.size, 4, none⟩ v4) ∧ W.heap.size ≤ W.heap.size ∧ Blk (((((w2.setCell ⟨W.heap.size, 0, none⟩ v0).setCell ⟨W.heap.size, 1, none⟩ v1).setCell ⟨W.heap.size, 2, none⟩ v2).setCell ⟨W.heap.size, 3, none⟩ v3).setCell ⟨W.heap.size, 4, none⟩ v4) W.heap.size #[v0, v1, v2, v3, v4] 44 ∧ StrsFrom W.heap.size (((((w2.setCell ⟨W.heap.size, 0, none⟩ v0).setCell ⟨W.heap.size, 1, none⟩ v1).setCell ⟨W.heap.size, 2, none⟩ v2).setCell ⟨W.heap.size, 3, none⟩ v3).setCell ⟨W.heap.size, 4, none⟩ v4) a L) := got_ahead0 (W := W) b2 s2 v0 v1 v2 v3 v4

theorem got_apply {W wc w3 : World} {a : Option Addr} {L : List ByteArray} {xb : Nat} {u0 u1 u2 u3 u4 : Value} (hw : Below W.heap.size W wc) (h3 : Hid (Below wc.heap.size wc w3 ∧ StrsFrom wc.heap.size w3 a L)) (hx : W.heap.size ≤ xb) (hl : xb < wc.heap.size) (hB : Blk w3 xb #[u0, u1, u2, u3, u4] 44) (v0 v1 v2 v3 v4 : Value) :
    Hid (Below W.heap.size W (((((w3.setCell ⟨xb, 0, none⟩ v0).setCell ⟨xb, 1, none⟩ v1).setCell ⟨xb, 2, none⟩ v2).setCell ⟨xb, 3, none⟩ v3).setCell ⟨xb, 4, none⟩ v4) ∧ Blk (((((w3.setCell ⟨xb, 0, none⟩ v0).setCell ⟨xb, 1, none⟩ v1).setCell ⟨xb, 2, none⟩ v2).setCell ⟨xb, 3, none⟩ v3).setCell ⟨xb, 4, none⟩ v4) xb #[v0, v1, v2, v3, v4] 44 ∧ StrsFrom W.heap.size (((((w3.setCell ⟨xb, 0, none⟩ v0).setCell ⟨xb, 1, none⟩ v1).setCell ⟨xb, 2, none⟩ v2).setCell ⟨xb, 3, none⟩ v3).setCell ⟨xb, 4, none⟩ v4) a L ∧ ∀ g o, a = some ⟨g, o, none⟩ → L ≠ [] → g ≠ xb) := by
  obtain ⟨b3, s3⟩ := h3.out
  have s4 := s3.stored xb (.inl hl) v0 v1 v2 v3 v4
  refine hidx ⟨below_set5 (below_chain hw b3) hx _ _ _ _ _, hB.store5 _ _ _ _ _, ?_, ?_⟩
  · rcases s4 with h | ⟨g, o, e, h1, h2, hc⟩
    · exact .inl h
    · exact .inr ⟨g, o, e, by have := hw.size; omega, h2, hc⟩
  · intro g o e hn
    rcases s3 with h | ⟨g', o', e', h1, h2, hc⟩
    · exact absurd h hn
    · rw [e] at e'
      simp only [Option.some.injEq, Addr.mk.injEq, and_true] at e'
      omega

section
variable {w : World} {m p : Nat} {X : Int → Nat} {A : Nat → Prop} {P : PG} {l : LG} {d : DG} {M : MgG}

set_option maxHeartbeats 3200000 in
set_option maxRecDepth 20000 in
theorem tchange_any (h : MSys w m p X A P l d M) (r : RecV) (ta da : Option Addr) (tc dc : Nat) (h1 : 1 ≤ r.page) (h2 : r.page ≤ 2048) {f : FrV} (hf : P.F r.page = some f) (hfit : f.sh.Fits) (ho : r.op.Ok) (hc : chkB r.op = true) {q : SheetV} (hd : ChangeDoes f.sh r.op 0 q)
    (hq : ({ q with lsn := l.bytes.length + 1 } : SheetV).Fits) (hqn : q.num = r.page) (hqs : q.slots ≠ []) (hz : P.z ≤ 1000000) (hb : l.bytes.length ≤ 4194304) (fn : FuncId) (caps : Array Value) (l' : LG) (M' : MgG) (X' : Int → Nat)
    (hcf : ∀ wx, (callFunc fn caps).run Tryz.prog wx = .ok (.enter fn caps) wx) (hput : ∀ wx, Below w.heap.size w wx → Calls Tryz.prog fn caps wx fun e w' => e = .returned (.tuple #[.int .u64 ((l.bytes.length + 1 : Nat) : Int), .int .i64 0]) ∧ ∃ A', MSys w' m p X' A' P l' d M' ∧ Moves A A' wx w') :
    Calls Tryz.prog 108 #[.pointer (some ⟨m, 0, none⟩), .agg (r.cells ta da tc dc), .func (.func fn) #[] caps] w fun e w' => e = .returned (.tuple #[.int .u64 ((l.bytes.length + 1 : Nat) : Int), .int .i64 0]) ∧ ∃ A', MSys w' m p X' A' (putP P { q with lsn := l.bytes.length + 1 }) l' d M' ∧ Moves A A' w w' := by
  obtain ⟨W, HW⟩ : ∃ W, Hid (W = w.alloc (.cells (r.cells ta da tc dc) 54)) := ⟨_, rfl⟩
  have bW : Below w.heap.size w W := by rw [HW.out]; exact (Below.refl _ _).alloc (Nat.le_refl _) _
  have xW : Blk W w.heap.size (r.cells ta da tc dc) 54 := by rw [HW.out]; exact Blk.made _ _ _
  have HPAR : Hid (r.cells ta da tc dc = #[.int .i64 r.kind, .int .i64 r.tx, .int .u64 r.prev, .int .u64 r.next, .int .u32 r.page, .int .i64 r.op.kind, .int .i64 r.op.at', .string r.op.S, .string r.op.old, .int .i64 r.undo, .int .i64 r.index, .string r.key, .int .u32 r.rpage, .int .i64 r.rslot, .bool r.live, .slice ta r.txs.length tc, .slice da r.dirty.length dc]) := rfl
  have HG : Hid (∀ wx, Below w.heap.size w wx → Calls Tryz.prog 34 #[.pointer (some ⟨p, 0, none⟩), .int .u32 r.page] wx (ShOut wx f.sh fun v => .returned (.tuple #[v, .int .i64 0]))) := fun wx bx => by
    obtain ⟨A1, hS, _, _⟩ := (h.below bx).sys
    exact get_here hS r.page h1 h2 hf
  have HC : Hid (∀ wx, Below w.heap.size w wx → wx.cell? ⟨m, 0, none⟩ = some (.pointer (some ⟨p, 0, none⟩))) := fun wx bx => by
    obtain ⟨tb, c0, _⟩ := (h.below bx).reads; exact c0
  have HX : Hid (∀ wx, Below W.heap.size W wx → wx.cell? ⟨w.heap.size, 4, none⟩ = some (.int .u32 r.page) ∧ wx.cell? ⟨w.heap.size, 5, none⟩ = some (.int .i64 r.op.kind) ∧ wx.cell? ⟨w.heap.size, 6, none⟩ = some (.int .i64 r.op.at') ∧ wx.cell? ⟨w.heap.size, 7, none⟩ = some (.string r.op.S) ∧ wx.cell? ⟨w.heap.size, 8, none⟩ = some (.string r.op.old)) := fun wx bx => by
    have x := xW.same (bx.block _ xW.lt)
    exact ⟨x.cell 4, x.cell 5, x.cell 6, x.cell 7, x.cell 8⟩
  have cm0 := HC.out W bW
  obtain ⟨r4, _⟩ := HX.out W (Below.refl _ _)
  have HV : Hid (∀ a c, f.sh.val a c = .agg #[.int .u32 f.sh.num, .int .u64 f.sh.lsn, .int .i64 f.sh.kind, .string f.sh.head, .slice a f.sh.slots.length c]) := fun a c => rfl
  have H := hidx h
  have HP := hidx hput
  have HD := hidx hd
  have HQ := hidx hq
  have HB := hidx bW
  have HQN := hidx hqn
  have HQS := hidx hqs
  have hWz : W.heap.size = w.heap.size + 1 := by rw [HW.out]; simp
  have HWZ := hidx hWz
  clear h hput hd hq bW xW hWz hqn hqs
  rw [HPAR.out]
  go_enter Tryz.func108, Tryz.ntmps108
  go_upto_region 1 with fail
  rw [← HPAR.out, show w.alloc (.cells (r.cells ta da tc dc) 54) = W from HW.out.symm]
  clear HW HPAR
  go_cut [8, 9] from 12 to 21 (fun v8 v9 wx => ∃ xb a c, v8 = .pointer (some ⟨xb, 0, none⟩) ∧ v9 = .int .i64 0 ∧ Hid (Below W.heap.size W wx ∧ W.heap.size ≤ xb ∧ Blk wx xb #[.int .u32 f.sh.num, .int .u64 f.sh.lsn, .int .i64 f.sh.kind, .string f.sh.head, .slice a f.sh.slots.length c] 44 ∧ StrsFrom W.heap.size wx a f.sh.slots))
  case first =>
    as_aux_lemma =>
    have bD : RowKit.Below w.heap.size w W.drew := HB.out.drew
    have bD2 : RowKit.Below w.heap.size w (W.alloc (.cells #[.int .u32 0, .int .u64 0, .int .i64 0, .string ⟨#[]⟩, .slice none 0 0] 44)).drew := (HB.out.alloc HB.out.size _).drew
    have r4a : (W.alloc (.cells #[.int .u32 0, .int .u64 0, .int .i64 0, .string ⟨#[]⟩, .slice none 0 0] 44)).cell? ⟨w.heap.size, 4, none⟩ = some (.int .u32 r.page) := (HX.out _ ((Below.refl _ _).alloc (Nat.le_refl _) _)).1
    have cm0a : (W.alloc (.cells #[.int .u32 0, .int .u64 0, .int .i64 0, .string ⟨#[]⟩, .slice none 0 0] 44)).cell? ⟨m, 0, none⟩ = some (.pointer (some ⟨p, 0, none⟩)) := HC.out _ (HB.out.alloc HB.out.size _)
    have HBX : Hid (∀ wy, RowKit.Below (W.alloc (.cells #[.int .u32 0, .int .u64 0, .int .i64 0, .string ⟨#[]⟩, .slice none 0 0] 44)).drew.heap.size (W.alloc (.cells #[.int .u32 0, .int .u64 0, .int .i64 0, .string ⟨#[]⟩, .slice none 0 0] 44)).drew wy → Blk wy W.heap.size #[.int .u32 0, .int .u64 0, .int .i64 0, .string ⟨#[]⟩, .slice none 0 0] 44) := fun wy by' => by
      have x : Blk (W.alloc (.cells #[.int .u32 0, .int .u64 0, .int .i64 0, .string ⟨#[]⟩, .slice none 0 0] 44)).drew W.heap.size #[.int .u32 0, .int .u64 0, .int .i64 0, .string ⟨#[]⟩, .slice none 0 0] 44 := Blk.made _ _ _
      exact x.same (by'.block _ x.lt)
    go_region_law (go_simp; go_at_call 34; refine (HG.out _ (by first | exact bD | exact bD2)).mono ?_; rintro e w2 ⟨⟨a2, c2, he, s2, b2⟩⟩; rw [HV.out] at he; subst he; try (have xB := HBX.out w2 b2; have x0 := xB.cell 0; have x1 := xB.cell 1; have x2 := xB.cell 2; have x3 := xB.cell 3; have x4 := xB.cell 4; have y0 := xB.frozen 0; have y1 := xB.frozen 1; have y2 := xB.frozen 2; have y3 := xB.frozen 3; have y4 := xB.frozen 4))
    all_goals
      go_wp2
      go_meet
      case rel =>
        refine ⟨_, a2, c2, rfl, rfl, ?_⟩
        first
          | (have := xB; exact got_ahead b2 s2 _ _ _ _ _)
          | exact got_after b2 s2 _ _ _ _ _
  obtain ⟨xb, a2, c2, rfl, rfl, H2⟩ := hcut
  clear cm0 r4 HG
  have HBc := hidx (below_chain HB.out H2.out.1)
  have HWc := hidx (hidx (H2.out.1))
  have bcd : Below wc.heap.size wc wc.drew := (Below.refl _ _).drew
  have HLG : Hid (Calls Tryz.prog 56 #[.pointer (some ⟨m, 0, none⟩)] wc.drew fun e w' => e = .returned (.pointer (some ⟨P.lp, 0, none⟩)) ∧ wc.drew = w') := mlog_any (H.out.below (below_chain HBc.out bcd))
  have HEN : Hid (Calls Tryz.prog 165 #[.pointer (some ⟨P.lp, 0, none⟩)] wc.drew fun e w' => e = .returned (.int .u64 ((l.bytes.length + 1 : Nat) : Int)) ∧ wc.drew = w') := by
    obtain ⟨L, hL, _, _⟩ := (H.out.below (below_chain HBc.out bcd)).log
    exact (end_out hL hb).mono fun e w' hh => ⟨hh.1, hh.2.symm⟩
  have HAP : Hid (Calls Tryz.prog 52 #[.agg #[.int .u32 f.sh.num, .int .u64 f.sh.lsn, .int .i64 f.sh.kind, .string f.sh.head, .slice a2 f.sh.slots.length c2], .agg #[.int .i64 r.op.kind, .int .i64 r.op.at', .string r.op.S, .string r.op.old], .int .u64 ((l.bytes.length + 1 : Nat) : Int)] wc.drew fun e w' => ∃ a' c', e = .returned (.tuple #[.agg #[.int .u32 q.num, .int .u64 ((l.bytes.length + 1 : Nat) : Int), .int .i64 q.kind, .string q.head, .slice a' q.slots.length c'], .int .i64 0]) ∧
      Blk w' xb #[.int .u32 f.sh.num, .int .u64 f.sh.lsn, .int .i64 f.sh.kind, .string f.sh.head, .slice a2 f.sh.slots.length c2] 44 ∧ Hid (Below wc.heap.size wc w' ∧ StrsFrom wc.heap.size w' a' q.slots)) := by
    have hok : f.sh.Ok wc.drew a2 := hfit.ok (H2.out.2.2.2.at.below bcd)
    refine (apply_of (c := c2) (l.bytes.length + 1) hok hfit ho hc HD.out).mono ?_
    rintro e w' ⟨Xv, rfl, bx, hx, _⟩
    obtain ⟨a', c', rfl, hs⟩ := hx rfl
    have bx' : Below wc.heap.size wc w' := bcd.trans bx
    exact ⟨a', c', rfl, H2.out.2.2.1.same (bx'.block _ H2.out.2.2.1.lt), hidx ⟨bx', hs⟩⟩
  obtain ⟨_, r5, r6, r7, r8⟩ := HX.out wc H2.out.1
  have xB := hidx H2.out.2.2.1
  have x0 := xB.out.cell 0
  have x1 := xB.out.cell 1
  have x2 := xB.out.cell 2
  have x3 := xB.out.cell 3
  have x4 := xB.out.cell 4
  clear HWc bcd
  go_upto_region 4 with fail
  go_cut [9] from 25 to 34 (fun v9 wx => v9 = .int .i64 0 ∧ ∃ a' c', Hid (Below W.heap.size W wx ∧ Blk wx xb #[.int .u32 q.num, .int .u64 ((l.bytes.length : Int) + 1), .int .i64 q.kind, .string q.head, .slice a' q.slots.length c'] 44 ∧ StrsFrom W.heap.size wx a' q.slots ∧ ∀ g o, a' = some ⟨g, o, none⟩ → q.slots ≠ [] → g ≠ xb))
  case first =>
    as_aux_lemma =>
    go_region_law (first
      | (go_simp; go_at_call 56; refine HLG.out.mono ?_; rintro e w3 ⟨rfl, rfl⟩)
      | (go_simp; go_at_call 165; refine HEN.out.mono ?_; rintro e w3 ⟨rfl, rfl⟩)
      | (go_simp; go_at_call 52; refine HAP.out.mono ?_; rintro e w3 ⟨a', c', rfl, xb3, H3⟩; have z0 := xb3.cell 0; have z1 := xb3.cell 1; have z2 := xb3.cell 2; have z3 := xb3.cell 3; have z4 := xb3.cell 4; have y0 := xb3.frozen 0; have y1 := xb3.frozen 1; have y2 := xb3.frozen 2; have y3 := xb3.frozen 3; have y4 := xb3.frozen 4))
    all_goals
      go_wp2
      go_meet
      case rel =>
        exact ⟨rfl, a', c', got_apply H2.out.1 H3 H2.out.2.1 H2.out.2.2.1.lt xb3 _ _ _ _ _⟩
  obtain ⟨rfl, a4, c4, H4⟩ := hcut
  have HXB := hidx H2.out.2.1
  clear HLG HEN HAP HBc xB x0 x1 x2 x3 x4 r5 r6 r7 r8 H2 HX HC HV HD
  have HBc := hidx (below_chain HB.out H4.out.1)
  have HPC := hidx (HP.out wc HBc.out)
  have HWw := hidx (show w.heap.size ≤ W.heap.size from HB.out.size)
  clear HP
  go_upto_region 7 with fail
  go_wp2_with fail
  refine HPC.out.mono ?_
  rintro e w5 ⟨rfl, A5, g5, m5⟩
  have hA : ∀ k, w.heap.size ≤ k → ¬ A k := fun k hk x => by have := H.out.lt k x; omega
  have hxb5 := m5.off H4.out.2.1.lt (hA xb (by have := HXB.out; have := HWw.out; omega))
  have x5 : Blk w5 xb #[.int .u32 q.num, .int .u64 ((l.bytes.length : Int) + 1), .int .i64 q.kind, .string q.head, .slice a4 q.slots.length c4] 44 := H4.out.2.1.same hxb5.1
  have s5 : StrsFrom W.heap.size w5 a4 q.slots ∧ ∀ g o, a4 = some ⟨g, o, none⟩ → ¬ A5 g := by
    rcases H4.out.2.2.1 with e | ⟨g, o, e, q1, q2, q3⟩
    · exact absurd e HQS.out
    · have hg := m5.off q2 (hA g (by have := HWw.out; omega))
      refine ⟨.inr ⟨g, o, e, q1, Nat.lt_of_lt_of_le q2 m5.1.size, fun i hi => (World.cell?_of_block (w := wc) (a := ⟨g, o + i, none⟩) hg.1).trans (q3 i hi)⟩, fun g' o' e' => ?_⟩
      rw [e] at e'
      simp only [Option.some.injEq, Addr.mk.injEq, and_true] at e'
      rw [← e'.1]
      exact hg.2
  have HPU : Hid (Calls Tryz.prog 166 #[.pointer (some ⟨p, 0, none⟩), .agg #[.int .u32 q.num, .int .u64 ((l.bytes.length : Int) + 1), .int .i64 q.kind, .string q.head, .slice a4 q.slots.length c4]] w5.drew fun e w' => e = .returned (.int .i64 0) ∧ Hid (∃ A', MSys w' m p X' A' (putP P { q with lsn := l.bytes.length + 1 }) l' d M' ∧ Moves A A' w w')) := by
    have gd : MSys w5.drew m p X' A5 P l' d M' := g5.same (fun _ _ => rfl) (Nat.le_refl _)
    obtain ⟨A1, hS, hA1, sstep⟩ := gd.sys
    have hsa : StrsAt w5.drew a4 q.slots := s5.1.at
    have hok : ({ q with lsn := l.bytes.length + 1 } : SheetV).Ok w5.drew a4 := HQ.out.ok hsa
    have hE := (encE_fits hok).2 HQ.out
    refine (poolPut_any (P1 := P) (l1 := l') (d1 := d) hS { q with lsn := l.bytes.length + 1 } a4 c4 hok (fun g o e x => s5.2 g o e (hA1 g x)) (by show 1 ≤ q.num; rw [HQN.out]; exact h1) (by show q.num ≤ 2048; rw [HQN.out]; exact h2) hE (fun e => ?_) (fun _ => ⟨rfl, rfl, rfl⟩) hz).mono ?_
    · have e : P.F q.num = none := e
      rw [HQN.out, hf] at e; cases e
    · rintro e w' ⟨rfl, A', k1, k2⟩
      obtain ⟨A'', k3, k4⟩ := sstep w' A' _ _ _ k1 k2
      exact ⟨rfl, hidx ⟨A'', k3, ((Moves.of_kept (Kept.of_below HBc.out)).trans (m5.kept ((Kept.refl _ _).drew))).trans k4⟩⟩
  obtain ⟨tb, c0, _, _, _, _⟩ := g5.reads
  have x0 := x5.cell 0
  have x1 := x5.cell 1
  have x2 := x5.cell 2
  have x3 := x5.cell 3
  have x4 := x5.cell 4
  clear g5 m5 hA hxb5 x5 s5 HPC H4 H HB HQ hf hfit ho hc
  go_upto_region 10 with fail
  go_region_law (go_simp; go_at_call 166; refine HPU.out.mono ?_; rintro e w6 ⟨rfl, HF⟩)
  all_goals
    go_wp2
    go_ret2
    exact ⟨rfl, HF.out⟩

end

end Go.Proofs.YtdhphbokkmofaaaGreat
