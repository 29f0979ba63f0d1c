/-
  The walk of (*txn.Manager).change, whatever Get and Apply do (where they tell no error).
-/
import Derived.Test.YtdhphbokkmofaaaGreatTxChangeC
import Derived.Test.YtdhphbokkmofaaaGreatPageApplyJ
import Derived.Test.YtdhphbokkmofaaaGreatTxUpdateJ
set_option linter.unusedVariables false
set_option linter.unusedSimpArgs false
namespace Go.Proofs.YtdhphbokkmofaaaGreat
open Go.RowKit Go.Sort

structure GtOut (wx : World) (m p : Nat) (X : Int → Nat) (A : Nat → Prop) (x : SheetV) (P1 : PG) (l1 : LG) (d1 : DG) (M : MgG) (e : Ending) (w' : World) : Prop where
  out : ∃ a c A', e = .returned (.tuple #[x.val a c, .int .i64 0]) ∧ StrsFrom wx.heap.size w' a x.slots ∧ MSys w' m p X A' P1 l1 d1 M ∧ Moves A A' wx w'

structure ApOut (wx : World) (q : SheetV) (lsn : Nat) (e : Ending) (w' : World) : Prop where
  out : ∃ a' c', e = .returned (.tuple #[.agg #[.int .u32 q.num, .int .u64 lsn, .int .i64 q.kind, .string q.head, .slice a' q.slots.length c'], .int .i64 0]) ∧ Below wx.heap.size wx w' ∧ StrsFrom wx.heap.size w' a' q.slots ∧ (∀ g o, a' = some ⟨g, o, none⟩ → wx.heap.size ≤ g ∧ g < w'.heap.size)

structure ChgAt (w W wx : World) (m p : Nat) (X : Int → Nat) (A : Nat → Prop) (P1 : PG) (l1 : LG) (d1 : DG) (M : MgG) (rc : Array Value) (xb : Nat) (x : SheetV) (lsn : Nat) (a : Option Addr) (c : Nat) : Prop where
  ex : ∃ A1, MSys wx m p X A1 P1 l1 d1 M ∧ Moves A A1 w wx ∧ ¬ A1 xb
  rbox : Blk wx w.heap.size rc 54
  xge : W.heap.size ≤ xb
  xbox : Blk wx xb #[.int .u32 x.num, .int .u64 lsn, .int .i64 x.kind, .string x.head, .slice a x.slots.length c] 44
  strs : StrsFrom W.heap.size wx a x.slots

theorem ch_after {w W w2 : World} {m p : Nat} {X : Int → Nat} {A : Nat → Prop} {P1 : PG} {l1 : LG} {d1 : DG} {M : MgG} {rc : Array Value} {x : SheetV} {a : Option Addr} {c : Nat} (bW : Below w.heap.size w W) (hA : ∀ k, A k → k < w.heap.size) (xW : Blk W w.heap.size rc 54) (h2 : ∃ A', StrsFrom W.drew.heap.size w2 a x.slots ∧ MSys w2 m p X A' P1 l1 d1 M ∧ Moves A A' W.drew w2) :
    Hid (ChgAt w W (w2.alloc (.cells #[.int .u32 x.num, .int .u64 x.lsn, .int .i64 x.kind, .string x.head, .slice a x.slots.length c] 44)) m p X A P1 l1 d1 M rc w2.heap.size x x.lsn a c) := by
  obtain ⟨A', s2, g2, mv2⟩ := h2
  have hz : W.heap.size ≤ w2.heap.size := mv2.1.size
  have hr : ¬ A w.heap.size := fun y => by have := hA _ y; omega
  have bA : Below w2.heap.size w2 (w2.alloc (.cells #[.int .u32 x.num, .int .u64 x.lsn, .int .i64 x.kind, .string x.head, .slice a x.slots.length c] 44)) := (Below.refl _ _).alloc (Nat.le_refl _) _
  have x2 : Blk w2 w.heap.size rc 54 := xW.same (mv2.off (w := W.drew) xW.lt hr).1
  refine hidx ⟨⟨A', g2.below bA, ((Moves.of_kept (Kept.of_below bW.drew)).trans mv2).trans (Moves.of_kept (Kept.of_below bA)), fun y => by have := g2.lt _ y; omega⟩, x2.same (bA.block _ x2.lt), hz, Blk.made _ _ _, ?_⟩
  rcases s2 with h | ⟨g, o, e, h1, h2, hc⟩
  · exact .inl h
  · exact .inr ⟨g, o, e, h1, by simp; omega, fun i hi => (World.cell?_of_block (w := w2) (a := ⟨g, o + i, none⟩) (heap_old _ _ h2)).trans (hc i hi)⟩

theorem ch_ahead {w W w2 : World} {m p : Nat} {X : Int → Nat} {A : Nat → Prop} {P1 : PG} {l1 : LG} {d1 : DG} {M : MgG} {rc : Array Value} {x : SheetV} {a : Option Addr} {c : Nat} (bW : Below w.heap.size w W) (hA : ∀ k, A k → k < w.heap.size) (xW : Blk W w.heap.size rc 54)
    (h2 : ∃ A', StrsFrom (W.alloc (.cells #[.int .u32 0, .int .u64 0, .int .i64 0, .string ⟨#[]⟩, .slice none 0 0] 44)).drew.heap.size w2 a x.slots ∧ MSys w2 m p X A' P1 l1 d1 M ∧ Moves A A' (W.alloc (.cells #[.int .u32 0, .int .u64 0, .int .i64 0, .string ⟨#[]⟩, .slice none 0 0] 44)).drew w2) :
    Hid (ChgAt w W (((((w2.setCell ⟨W.heap.size, 0, none⟩ (.int .u32 x.num)).setCell ⟨W.heap.size, 1, none⟩ (.int .u64 x.lsn)).setCell ⟨W.heap.size, 2, none⟩ (.int .i64 x.kind)).setCell ⟨W.heap.size, 3, none⟩ (.string x.head)).setCell ⟨W.heap.size, 4, none⟩ (.slice a x.slots.length c)) m p X A P1 l1 d1 M rc W.heap.size x x.lsn a c) ∧ Blk w2 W.heap.size #[.int .u32 0, .int .u64 0, .int .i64 0, .string ⟨#[]⟩, .slice none 0 0] 44 := by
  obtain ⟨A', s2, g2, mv2⟩ := h2
  have z : (W.alloc (.cells #[.int .u32 0, .int .u64 0, .int .i64 0, .string ⟨#[]⟩, .slice none 0 0] 44)).drew.heap.size = W.heap.size + 1 := by show (W.alloc _).heap.size = _; simp
  have hz := mv2.1.size
  rw [z] at hz
  have bws := bW.size
  have hr : ¬ A w.heap.size := fun y => by have := hA _ y; omega
  have hx : ¬ A W.heap.size := fun y => by have := hA _ y; omega
  have bA : Below W.heap.size W (W.alloc (.cells #[.int .u32 0, .int .u64 0, .int .i64 0, .string ⟨#[]⟩, .slice none 0 0] 44)).drew := ((Below.refl _ _).alloc (Nat.le_refl _) _).drew
  have hx0 : Blk (W.alloc (.cells #[.int .u32 0, .int .u64 0, .int .i64 0, .string ⟨#[]⟩, .slice none 0 0] 44)).drew W.heap.size #[.int .u32 0, .int .u64 0, .int .i64 0, .string ⟨#[]⟩, .slice none 0 0] 44 := Blk.made _ _ _
  have hoX := mv2.off hx0.lt hx
  have hx2 := hx0.same hoX.1
  have xWA := xW.same (bA.block _ xW.lt)
  have x2 : Blk w2 w.heap.size rc 54 := xWA.same (mv2.off xWA.lt hr).1
  have hne : w.heap.size ≠ W.heap.size := fun e => by have := xW.lt; omega
  have ho : ∀ k, k ≠ W.heap.size → (store5 w2 W.heap.size (.int .u32 x.num) (.int .u64 x.lsn) (.int .i64 x.kind) (.string x.head) (.slice a x.slots.length c)).heap[k]? = w2.heap[k]? := fun k hk => store5_block w2 W.heap.size _ _ _ _ _ hk
  have hsz : (store5 w2 W.heap.size (.int .u32 x.num) (.int .u64 x.lsn) (.int .i64 x.kind) (.string x.head) (.slice a x.slots.length c)).heap.size = w2.heap.size := store5_size _ _ _ _ _ _ _
  have mvw : Moves A A' w w2 := (Moves.of_kept (Kept.of_below (below_chain bW bA))).trans mv2
  have kS : Kept (fun k => k = W.heap.size) w2 (store5 w2 W.heap.size (.int .u32 x.num) (.int .u64 x.lsn) (.int .i64 x.kind) (.string x.head) (.slice a x.slots.length c)) := ((((Kept.setCell (fun k => k = W.heap.size) w2 W.heap.size 0 _ rfl).trans (Kept.setCell _ _ W.heap.size 1 _ rfl)).trans (Kept.setCell _ _ W.heap.size 2 _ rfl)).trans (Kept.setCell _ _ W.heap.size 3 _ rfl)).trans (Kept.setCell _ _ W.heap.size 4 _ rfl)
  refine ⟨hidx (show ChgAt w W (store5 w2 W.heap.size (.int .u32 x.num) (.int .u64 x.lsn) (.int .i64 x.kind) (.string x.head) (.slice a x.slots.length c)) m p X A P1 l1 d1 M rc W.heap.size x x.lsn a c from ⟨⟨A', g2.same (fun i hi => ho i fun e => hoX.2 (e ▸ hi)) (by omega), ?_, hoX.2⟩, x2.same (ho _ hne), Nat.le_refl _, hx2.store5 _ _ _ _ _, ?_⟩), hx2⟩
  · exact mvw.late kS (fun b e => by rw [e]; omega)
  · have s3 := s2.stored W.heap.size (.inl (by rw [z]; omega)) (.int .u32 x.num) (.int .u64 x.lsn) (.int .i64 x.kind) (.string x.head) (.slice a x.slots.length c)
    rcases s3 with h | ⟨g, o, e, h1, h2, hc⟩
    · exact .inl h
    · exact .inr ⟨g, o, e, by rw [z] at h1; omega, h2, hc⟩

end Go.Proofs.YtdhphbokkmofaaaGreat

namespace Go.Proofs.YtdhphbokkmofaaaGreat
open Go.RowKit Go.Sort

section
variable {w : World} {m p : Nat} {X : Int → Nat} {A : Nat → Prop} {P P1 : PG} {l l1 : LG} {d d1 : DG} {M : MgG}

set_option maxHeartbeats 3200000 in
set_option maxRecDepth 20000 in
theorem tchange_gen (h : MSys w m p X A P l d M) (r : RecV) (ta da : Option Addr) (tc dc : Nat) (x : SheetV) (hfit : x.Fits) (h1 : 1 ≤ r.page) (h2 : r.page ≤ 2048)
    (hget : ∀ wx, Below w.heap.size w wx → Calls Tryz.prog 34 #[.pointer (some ⟨p, 0, none⟩), .int .u32 r.page] wx (GtOut wx m p X A x P1 l1 d1 M))
    {q : SheetV} (hap : ∀ wx a c, x.Ok wx a → Calls Tryz.prog 52 #[x.val a c, r.op.val, .int .u64 ((l1.bytes.length + 1 : Nat) : Int)] wx (ApOut wx q (l1.bytes.length + 1)))
    (hq : ({ q with lsn := l1.bytes.length + 1 } : SheetV).Fits) (hqn : q.num = r.page) (hz : P1.z ≤ 1000000) (hPF : P1.F r.page ≠ none) (hb : l1.bytes.length ≤ 4194304) (fn : FuncId) (caps : Array Value) (l' : LG) (M' : MgG) (X' : Int → Nat)
    (hcf : ∀ wx, (callFunc fn caps).run Tryz.prog wx = .ok (.enter fn caps) wx) (hput : ∀ wx A1, MSys wx m p X A1 P1 l1 d1 M → Moves A A1 w wx → Calls Tryz.prog fn caps wx fun e w' => e = .returned (.tuple #[.int .u64 ((l1.bytes.length + 1 : Nat) : Int), .int .i64 0]) ∧ ∃ A', MSys w' m p X' A' P1 l' d1 M' ∧ Moves A1 A' wx w') :
    Calls Tryz.prog 108 #[.pointer (some ⟨m, 0, none⟩), .agg (r.cells ta da tc dc), .func (.func fn) #[] caps] w fun e w' => e = .returned (.tuple #[.int .u64 ((l1.bytes.length + 1 : Nat) : Int), .int .i64 0]) ∧ ∃ A', MSys w' m p X' A' (putP P1 { q with lsn := l1.bytes.length + 1 }) l' d1 M' ∧ Moves A A' w w' := by
  obtain ⟨W, HW⟩ : ∃ W, Hid (W = w.alloc (.cells (r.cells ta da tc dc) 54)) := ⟨_, rfl⟩
  have bW : Below w.heap.size w W := by rw [HW.out]; exact (Below.refl _ _).alloc (Nat.le_refl _) _
  have xW : Blk W w.heap.size (r.cells ta da tc dc) 54 := by rw [HW.out]; exact Blk.made _ _ _
  have HPAR : Hid (r.cells ta da tc dc = #[.int .i64 r.kind, .int .i64 r.tx, .int .u64 r.prev, .int .u64 r.next, .int .u32 r.page, .int .i64 r.op.kind, .int .i64 r.op.at', .string r.op.S, .string r.op.old, .int .i64 r.undo, .int .i64 r.index, .string r.key, .int .u32 r.rpage, .int .i64 r.rslot, .bool r.live, .slice ta r.txs.length tc, .slice da r.dirty.length dc]) := rfl
  have HC : Hid (∀ wx, Below w.heap.size w wx → wx.cell? ⟨m, 0, none⟩ = some (.pointer (some ⟨p, 0, none⟩))) := fun wx bx => by
    obtain ⟨tb, c0, _⟩ := (h.below bx).reads; exact c0
  have cm0 := HC.out W bW
  have r4 : W.cell? ⟨w.heap.size, 4, none⟩ = some (.int .u32 r.page) := xW.cell 4
  have HV : Hid (∀ a c, x.val a c = .agg #[.int .u32 x.num, .int .u64 x.lsn, .int .i64 x.kind, .string x.head, .slice a x.slots.length c]) := fun a c => rfl
  have HG := hidx hget
  have H := hidx h
  have HP := hidx hput
  have HAPP := hidx hap
  have HQ := hidx hq
  have HB := hidx bW
  have HXW := hidx xW
  have HQN := hidx hqn
  have HPF := hidx hPF
  have HAL := hidx (fun k (y : A k) => h.lt k y)
  clear h hput hap hq bW xW hqn hPF hget
  rw [HPAR.out]
  go_enter Tryz.func108, Tryz.ntmps108
  go_upto_region 1 with fail
  rw [← HPAR.out, show w.alloc (.cells (r.cells ta da tc dc) 54) = W from HW.out.symm]
  clear HW HPAR
  go_cut [8, 9] from 12 to 21 (fun v8 v9 wx => ∃ xb a c, v8 = .pointer (some ⟨xb, 0, none⟩) ∧ v9 = .int .i64 0 ∧ Hid (ChgAt w W wx m p X A P1 l1 d1 M (r.cells ta da tc dc) xb x x.lsn a c))
  case first =>
    as_aux_lemma =>
    have bD : RowKit.Below w.heap.size w W.drew := HB.out.drew
    have bD2 : RowKit.Below w.heap.size w (W.alloc (.cells #[.int .u32 0, .int .u64 0, .int .i64 0, .string ⟨#[]⟩, .slice none 0 0] 44)).drew := (HB.out.alloc HB.out.size _).drew
    have bA : RowKit.Below W.heap.size W (W.alloc (.cells #[.int .u32 0, .int .u64 0, .int .i64 0, .string ⟨#[]⟩, .slice none 0 0] 44)) := (Below.refl _ _).alloc (Nat.le_refl _) _
    have r4a : (W.alloc (.cells #[.int .u32 0, .int .u64 0, .int .i64 0, .string ⟨#[]⟩, .slice none 0 0] 44)).cell? ⟨w.heap.size, 4, none⟩ = some (.int .u32 r.page) := (HXW.out.same (bA.block _ HXW.out.lt)).cell 4
    have cm0a : (W.alloc (.cells #[.int .u32 0, .int .u64 0, .int .i64 0, .string ⟨#[]⟩, .slice none 0 0] 44)).cell? ⟨m, 0, none⟩ = some (.pointer (some ⟨p, 0, none⟩)) := HC.out _ (HB.out.alloc HB.out.size _)
    have HG1 : Hid (Calls Tryz.prog 34 #[.pointer (some ⟨p, 0, none⟩), .int .u32 r.page] W.drew fun e w2 => ∃ a2 c2, e = .returned (.tuple #[.agg #[.int .u32 x.num, .int .u64 x.lsn, .int .i64 x.kind, .string x.head, .slice a2 x.slots.length c2], .int .i64 0]) ∧ Hid (ChgAt w W (w2.alloc (.cells #[.int .u32 x.num, .int .u64 x.lsn, .int .i64 x.kind, .string x.head, .slice a2 x.slots.length c2] 44)) m p X A P1 l1 d1 M (r.cells ta da tc dc) w2.heap.size x x.lsn a2 c2)) := by
      refine (HG.out W.drew bD).mono ?_
      rintro e w2 ⟨⟨a2, c2, A', he, s2, g2, mv2⟩⟩
      exact ⟨a2, c2, he, ch_after HB.out HAL.out HXW.out ⟨A', s2, g2, mv2⟩⟩
    have HG2 : Hid (Calls Tryz.prog 34 #[.pointer (some ⟨p, 0, none⟩), .int .u32 r.page] (W.alloc (.cells #[.int .u32 0, .int .u64 0, .int .i64 0, .string ⟨#[]⟩, .slice none 0 0] 44)).drew fun e w2 => ∃ a2 c2, e = .returned (.tuple #[.agg #[.int .u32 x.num, .int .u64 x.lsn, .int .i64 x.kind, .string x.head, .slice a2 x.slots.length c2], .int .i64 0]) ∧ Blk w2 W.heap.size #[.int .u32 0, .int .u64 0, .int .i64 0, .string ⟨#[]⟩, .slice none 0 0] 44 ∧ Hid (ChgAt w W (((((w2.setCell ⟨W.heap.size, 0, none⟩ (.int .u32 x.num)).setCell ⟨W.heap.size, 1, none⟩ (.int .u64 x.lsn)).setCell ⟨W.heap.size, 2, none⟩ (.int .i64 x.kind)).setCell ⟨W.heap.size, 3, none⟩ (.string x.head)).setCell ⟨W.heap.size, 4, none⟩ (.slice a2 x.slots.length c2)) m p X A P1 l1 d1 M (r.cells ta da tc dc) W.heap.size x x.lsn a2 c2)) := by
      refine (HG.out _ bD2).mono ?_
      rintro e w2 ⟨⟨a2, c2, A', he, s2, g2, mv2⟩⟩
      have := ch_ahead (c := c2) HB.out HAL.out HXW.out ⟨A', s2, g2, mv2⟩
      exact ⟨a2, c2, he, this.2, this.1⟩
    clear HG bA
    go_region_law (first
      | (go_simp; go_at_call 34; refine HG1.out.mono ?_; rintro e w2 ⟨a2, c2, rfl, HK⟩)
      | (go_simp; go_at_call 34; refine HG2.out.mono ?_; rintro e w2 ⟨a2, c2, rfl, xB, HK⟩; have x0 := xB.cell 0; have x1 := xB.cell 1; have x2 := xB.cell 2; have x3 := xB.cell 3; have x4 := xB.cell 4; have y0 := xB.frozen 0; have y1 := xB.frozen 1; have y2 := xB.frozen 2; have y3 := xB.frozen 3; have y4 := xB.frozen 4))
    all_goals
      go_wp2
      go_meet
      case rel => exact ⟨_, a2, c2, rfl, rfl, HK⟩
  obtain ⟨xb, a2, c2, rfl, rfl, H2⟩ := hcut
  clear cm0 r4 HG
  obtain ⟨A1, g1, mv1, hxA⟩ := H2.out.ex
  have bcd : Below wc.heap.size wc wc.drew := (Below.refl _ _).drew
  have HLG : Hid (Calls Tryz.prog 56 #[.pointer (some ⟨m, 0, none⟩)] wc.drew fun e w' => e = .returned (.pointer (some ⟨P1.lp, 0, none⟩)) ∧ wc.drew = w') := mlog_any (g1.below bcd)
  have HEN : Hid (Calls Tryz.prog 165 #[.pointer (some ⟨P1.lp, 0, none⟩)] wc.drew fun e w' => e = .returned (.int .u64 ((l1.bytes.length + 1 : Nat) : Int)) ∧ wc.drew = w') := by
    obtain ⟨L, hL, _, _⟩ := (g1.below bcd).log
    exact (end_out hL hb).mono fun e w' hh => ⟨hh.1, hh.2.symm⟩
  have HAP : Hid (Calls Tryz.prog 52 #[.agg #[.int .u32 x.num, .int .u64 x.lsn, .int .i64 x.kind, .string x.head, .slice a2 x.slots.length c2], .agg #[.int .i64 r.op.kind, .int .i64 r.op.at', .string r.op.S, .string r.op.old], .int .u64 ((l1.bytes.length + 1 : Nat) : Int)] wc.drew fun e w' => ∃ a' c', e = .returned (.tuple #[.agg #[.int .u32 q.num, .int .u64 ((l1.bytes.length + 1 : Nat) : Int), .int .i64 q.kind, .string q.head, .slice a' q.slots.length c'], .int .i64 0]) ∧
      Blk w' xb #[.int .u32 x.num, .int .u64 x.lsn, .int .i64 x.kind, .string x.head, .slice a2 x.slots.length c2] 44 ∧ Hid (Below wc.heap.size wc w' ∧ StrsFrom wc.heap.size w' a' q.slots ∧ (∀ g o, a' = some ⟨g, o, none⟩ → wc.heap.size ≤ g ∧ g < w'.heap.size))) := by
    have hok : x.Ok wc.drew a2 := hfit.ok (H2.out.strs.at.below bcd)
    have := HAPP.out wc.drew a2 c2 hok
    rw [HV.out] at this
    refine this.mono ?_
    rintro e w' ⟨⟨a', c', rfl, bx, hs, hnil⟩⟩
    have bx' : Below wc.heap.size wc w' := bcd.trans bx
    exact ⟨a', c', rfl, H2.out.xbox.same (bx'.block _ H2.out.xbox.lt), hidx ⟨bx', hs, hnil⟩⟩
  have xR := hidx H2.out.rbox
  have r5 : wc.cell? ⟨w.heap.size, 5, none⟩ = some (.int .i64 r.op.kind) := xR.out.cell 5
  have r6 : wc.cell? ⟨w.heap.size, 6, none⟩ = some (.int .i64 r.op.at') := xR.out.cell 6
  have r7 : wc.cell? ⟨w.heap.size, 7, none⟩ = some (.string r.op.S) := xR.out.cell 7
  have r8 : wc.cell? ⟨w.heap.size, 8, none⟩ = some (.string r.op.old) := xR.out.cell 8
  have xB := hidx H2.out.xbox
  have x0 := xB.out.cell 0
  have x1 := xB.out.cell 1
  have x2 := xB.out.cell 2
  have x3 := xB.out.cell 3
  have x4 := xB.out.cell 4
  obtain ⟨tbx, cmx, _⟩ := g1.reads
  have G1 := hidx g1
  have MV1 := hidx mv1
  have HXA := hidx hxA
  have HXG := hidx H2.out.xge
  clear bcd g1 mv1 hxA
  go_upto_region 4 with fail
  go_cut [9] from 25 to 34 (fun v9 wx => v9 = .int .i64 0 ∧ ∃ a' c', Hid (MSys wx m p X A1 P1 l1 d1 M ∧ Moves A A1 w wx ∧ Blk wx xb #[.int .u32 q.num, .int .u64 ((l1.bytes.length : Int) + 1), .int .i64 q.kind, .string q.head, .slice a' q.slots.length c'] 44 ∧ StrsFrom W.heap.size wx a' q.slots ∧ ∀ g o, a' = some ⟨g, o, none⟩ → ¬ A1 g ∧ g ≠ xb ∧ g < wx.heap.size))
  case first =>
    as_aux_lemma =>
    have hxl : xb < wc.heap.size := xB.out.lt
    have hfin : ∀ (w3 : World) a' (v0 v1 v2 v3 v4 : Value), Hid (Below wc.heap.size wc w3 ∧ StrsFrom wc.heap.size w3 a' q.slots ∧ (∀ g o, a' = some ⟨g, o, none⟩ → wc.heap.size ≤ g ∧ g < w3.heap.size)) → Blk w3 xb #[.int .u32 x.num, .int .u64 x.lsn, .int .i64 x.kind, .string x.head, .slice a2 x.slots.length c2] 44 → Hid (MSys (((((w3.setCell ⟨xb, 0, none⟩ v0).setCell ⟨xb, 1, none⟩ v1).setCell ⟨xb, 2, none⟩ v2).setCell ⟨xb, 3, none⟩ v3).setCell ⟨xb, 4, none⟩ v4) m p X A1 P1 l1 d1 M ∧ Moves A A1 w (((((w3.setCell ⟨xb, 0, none⟩ v0).setCell ⟨xb, 1, none⟩ v1).setCell ⟨xb, 2, none⟩ v2).setCell ⟨xb, 3, none⟩ v3).setCell ⟨xb, 4, none⟩ v4) ∧ Blk (((((w3.setCell ⟨xb, 0, none⟩ v0).setCell ⟨xb, 1, none⟩ v1).setCell ⟨xb, 2, none⟩ v2).setCell ⟨xb, 3, none⟩ v3).setCell ⟨xb, 4, none⟩ v4) xb #[v0, v1, v2, v3, v4] 44 ∧ StrsFrom W.heap.size (((((w3.setCell ⟨xb, 0, none⟩ v0).setCell ⟨xb, 1, none⟩ v1).setCell ⟨xb, 2, none⟩ v2).setCell ⟨xb, 3, none⟩ v3).setCell ⟨xb, 4, none⟩ v4) a' q.slots ∧ ∀ g o, a' = some ⟨g, o, none⟩ → ¬ A1 g ∧ g ≠ xb ∧ g < (((((w3.setCell ⟨xb, 0, none⟩ v0).setCell ⟨xb, 1, none⟩ v1).setCell ⟨xb, 2, none⟩ v2).setCell ⟨xb, 3, none⟩ v3).setCell ⟨xb, 4, none⟩ v4).heap.size) := by
      intro w3 a' v0 v1 v2 v3 v4 h3 hB
      obtain ⟨b3, s3, hn3⟩ := h3.out
      have g3 := G1.out.below b3
      have mv3 : Moves A A1 w w3 := MV1.out.trans (Moves.of_kept (Kept.of_below b3))
      have kS : Kept (fun k => k = xb) w3 (store5 w3 xb v0 v1 v2 v3 v4) := ((((Kept.setCell (fun k => k = xb) w3 xb 0 _ rfl).trans (Kept.setCell _ _ xb 1 _ rfl)).trans (Kept.setCell _ _ xb 2 _ rfl)).trans (Kept.setCell _ _ xb 3 _ rfl)).trans (Kept.setCell _ _ xb 4 _ rfl)
      have hsz : (store5 w3 xb v0 v1 v2 v3 v4).heap.size = w3.heap.size := store5_size _ _ _ _ _ _ _
      have hxw : w.heap.size ≤ xb := by have := HXG.out; have := HB.out.size; omega
      refine hidx ⟨g3.same (fun i hi => store5_block w3 xb _ _ _ _ _ fun e => HXA.out (e ▸ hi)) (by show w3.heap.size ≤ (store5 w3 xb v0 v1 v2 v3 v4).heap.size; omega), mv3.late kS (fun b e => by rw [e]; exact hxw), hB.store5 _ _ _ _ _, ?_, ?_⟩
      · rcases s3.stored xb (.inl hxl) v0 v1 v2 v3 v4 with h | ⟨g, o, e, k1, k2, hc⟩
        · exact .inl h
        · exact .inr ⟨g, o, e, by have := HXG.out; omega, k2, hc⟩
      · intro g o e
        obtain ⟨k1, k2⟩ := hn3 g o e
        exact ⟨fun y => by have := G1.out.lt g y; omega, by omega, by show g < (store5 w3 xb v0 v1 v2 v3 v4).heap.size; omega⟩
    have HFIN := hidx hfin
    clear hfin
    go_region_law (first
      | (go_simp; go_at_call 56; refine HLG.out.mono ?_; rintro e w3 ⟨rfl, rfl⟩)
      | (go_simp; go_at_call 165; refine HEN.out.mono ?_; rintro e w3 ⟨rfl, rfl⟩)
      | (go_simp; go_at_call 52; refine HAP.out.mono ?_; rintro e w3 ⟨a', c', rfl, xb3, H3⟩; have z0 := xb3.cell 0; have z1 := xb3.cell 1; have z2 := xb3.cell 2; have z3 := xb3.cell 3; have z4 := xb3.cell 4; have y0 := xb3.frozen 0; have y1 := xb3.frozen 1; have y2 := xb3.frozen 2; have y3 := xb3.frozen 3; have y4 := xb3.frozen 4))
    all_goals
      go_wp2
      go_meet
      case rel => exact ⟨rfl, a', c', HFIN.out w3 a' _ _ _ _ _ H3 xb3⟩
  obtain ⟨rfl, a4, c4, H4⟩ := hcut
  clear HLG HEN HAP xB x0 x1 x2 x3 x4 r5 r6 r7 r8 H2 HC HV xR cmx HAPP G1 MV1
  obtain ⟨g4, mv4, xb4, s4, hoff4⟩ := H4.out
  have HPC := hidx (HP.out wc A1 g4 mv4)
  have XB4 := hidx xb4
  have S4 := hidx s4
  have HO4 := hidx hoff4
  have MV4 := hidx mv4
  clear HP g4 mv4 xb4 s4 hoff4 H4
  go_upto_region 7 with fail
  go_wp2_with fail
  refine HPC.out.mono ?_
  rintro e w5 ⟨rfl, A5, g5, m5⟩
  have hxb5 := m5.off XB4.out.lt HXA.out
  have x5 : Blk w5 xb #[.int .u32 q.num, .int .u64 ((l1.bytes.length : Int) + 1), .int .i64 q.kind, .string q.head, .slice a4 q.slots.length c4] 44 := XB4.out.same hxb5.1
  have s5 : StrsFrom W.heap.size w5 a4 q.slots := by
    rcases S4.out with e | ⟨g, o, e, q1, q2, q3⟩
    · exact .inl e
    · have hg := m5.off q2 (HO4.out g o e).1
      exact .inr ⟨g, o, e, q1, Nat.lt_of_lt_of_le q2 m5.1.size, fun i hi => (World.cell?_of_block (w := wc) (a := ⟨g, o + i, none⟩) hg.1).trans (q3 i hi)⟩
  have hoff5 : ∀ g o, a4 = some ⟨g, o, none⟩ → ¬ A5 g := by
    intro g o e
    exact (m5.off (HO4.out g o e).2.2 (HO4.out g o e).1).2
  have HPU : Hid (Calls Tryz.prog 166 #[.pointer (some ⟨p, 0, none⟩), .agg #[.int .u32 q.num, .int .u64 ((l1.bytes.length : Int) + 1), .int .i64 q.kind, .string q.head, .slice a4 q.slots.length c4]] w5.drew fun e w' => e = .returned (.int .i64 0) ∧ Hid (∃ A', MSys w' m p X' A' (putP P1 { q with lsn := l1.bytes.length + 1 }) l' d1 M' ∧ Moves A A' w w')) := by
    have gd : MSys w5.drew m p X' A5 P1 l' d1 M' := g5.same (fun _ _ => rfl) (Nat.le_refl _)
    obtain ⟨A2, hS, hA2, sstep⟩ := gd.sys
    have hsa : StrsAt w5.drew a4 q.slots := s5.at
    have hok : ({ q with lsn := l1.bytes.length + 1 } : SheetV).Ok w5.drew a4 := HQ.out.ok hsa
    have hE := (encE_fits hok).2 HQ.out
    refine (poolPut_any (P1 := P1) (l1 := l') (d1 := d1) hS { q with lsn := l1.bytes.length + 1 } a4 c4 hok (fun g o e y => hoff5 g o e (hA2 g y)) (by show 1 ≤ q.num; rw [HQN.out]; exact h1) (by show q.num ≤ 2048; rw [HQN.out]; exact h2) hE (fun e => ?_) (fun _ => ⟨rfl, rfl, rfl⟩) hz).mono ?_
    · have e : P1.F q.num = none := e
      rw [HQN.out] at e; exact absurd e HPF.out
    · rintro e w' ⟨rfl, A', k1, k2⟩
      obtain ⟨A'', k3, k4⟩ := sstep w' A' _ _ _ k1 k2
      exact ⟨rfl, hidx ⟨A'', k3, (MV4.out.trans (m5.kept ((Kept.refl _ _).drew))).trans k4⟩⟩
  obtain ⟨tb, c0, _, _, _, _⟩ := g5.reads
  have x0 := x5.cell 0
  have x1 := x5.cell 1
  have x2 := x5.cell 2
  have x3 := x5.cell 3
  have x4 := x5.cell 4
  clear g5 m5 hxb5 x5 s5 hoff5 HPC H HB HQ hfit XB4 S4 HO4 MV4 HXA
  go_upto_region 10 with fail
  go_region_law (go_simp; go_at_call 166; refine HPU.out.mono ?_; rintro e w6 ⟨rfl, HF⟩)
  all_goals
    go_wp2
    go_ret2
    exact ⟨rfl, HF.out⟩

end

end Go.Proofs.YtdhphbokkmofaaaGreat

namespace Go.Proofs.YtdhphbokkmofaaaGreat
open Go.RowKit Go.Sort

section
variable {w : World} {m p : Nat} {X : Int → Nat} {A : Nat → Prop} {P P1 : PG} {l l1 : LG} {d d1 : DG} {M : MgG}

theorem mget_here (h : MSys w m p X A P l d M) (n : Nat) (h1 : 1 ≤ n) (h2 : n ≤ 2048) {f : FrV} (hf : P.F n = some f) :
    Calls Tryz.prog 34 #[.pointer (some ⟨p, 0, none⟩), .int .u32 n] w (GtOut w m p X A f.sh P l d M) := by
  obtain ⟨A1, hS, _, _⟩ := h.sys
  refine (get_here hS n h1 h2 hf).mono ?_
  rintro e w' ⟨⟨a, c, rfl, s2, b2⟩⟩
  exact ⟨⟨a, c, A, rfl, s2, h.below b2, Moves.of_kept (Kept.of_below b2)⟩⟩

theorem mget_new (h : MSys w m p X A P l d M) (n : Nat) (h1 : 1 ≤ n) (h2 : n ≤ 2048) (hf : P.F n = none) (hD : d.dead = false) (hs : ∀ q, (readD d q).size ≤ 1000000) (hE : feE d n = 0) (hR : RoomTo p P l d P1 l1 d1) (hN : P1.F n = none) (hz : P1.z ≤ 1000000) (hft : P1.fetched ≤ 1000000) :
    Calls Tryz.prog 34 #[.pointer (some ⟨p, 0, none⟩), .int .u32 n] w (GtOut w m p X A (feX d n) (getP P1 (feX d n)) l1 d1 M) := by
  obtain ⟨A1, hS, hA1, step⟩ := h.sys
  refine (get_new hS n h1 h2 hf hD hs hE hR hN hz hft).mono ?_
  rintro e w' ⟨⟨a, c, A', rfl, s2, g2, mv2, ha⟩⟩
  obtain ⟨A2, g3, mv3⟩ := step w' A' _ _ _ g2 mv2
  exact ⟨⟨a, c, A2, rfl, s2, g3, mv3⟩⟩

theorem ap_of {x q : SheetV} {o : OpV} (lsn : Nat) (hf : x.Fits) (ho : o.Ok) (hc : chkB o = true) (hd : ChangeDoes x o 0 q) (hqs : q.slots ≠ []) (wx : World) (a : Option Addr) (c : Nat) (hx : x.Ok wx a) :
    Calls Tryz.prog 52 #[x.val a c, o.val, .int .u64 (lsn : Int)] wx (ApOut wx q lsn) := by
  refine (apply_of (c := c) lsn hx hf ho hc hd).mono ?_
  rintro e w' ⟨Xv, rfl, bx, h0, _⟩
  obtain ⟨a', c', rfl, hs⟩ := h0 rfl
  refine ⟨⟨a', c', rfl, bx, hs, fun g o e => ?_⟩⟩
  rcases hs with h | ⟨g', o', e', k1, k2, _⟩
  · exact absurd h hqs
  · rw [e] at e'
    simp only [Option.some.injEq, Addr.mk.injEq, and_true] at e'
    rw [e'.1]
    exact ⟨k1, k2⟩

end

end Go.Proofs.YtdhphbokkmofaaaGreat

namespace Go.Proofs.YtdhphbokkmofaaaGreat
open Go.RowKit Go.Sort

section
variable {w : World} {m p : Nat} {X : Int → Nat} {A : Nat → Prop} {P P1 : PG} {l l1 : LG} {d d1 : DG} {M : MgG}

theorem owe_zero {S : Nat → Prop} {w : World} {b : Nat} {t : MtV} (h : MtAt S w b t) (x : Nat) :
    Calls Tryz.prog 133 #[.pointer (some ⟨b, 0, none⟩), .int .u64 x, .int .i64 0] w fun r w' => r = .returned (.tuple #[]) ∧ ∃ S', MtAt S' w' b t ∧ Moves S S' w w' := by
  have H := hidx (⟨S, h, Moves.of_kept (Kept.of_below (Below.refl _ _))⟩ : ∃ S', MtAt S' w b t ∧ Moves S S' w w)
  clear h
  go_enter Tryz.func133, Tryz.ntmps133
  go_wp2
  go_end0
  exact ⟨rfl, H.out⟩

set_option maxHeartbeats 6400000 in
set_option maxRecDepth 20000 in
theorem tlog_none (h : MSys w m p X A P l d M) (n : Int) (hn1 : -9223372036854775808 ≤ n) (hn2 : n ≤ 9223372036854775807) {t : MtV} (ht : M.T n = some t) (hst : t.state = 1) (c : ChgV) (hok : ∀ wx, (recU t c).Ok wx none none) (hmay : mayR (recU t c) = true) (hun : c.undo = 0) (hsz : 1 ≤ (logS t c).size ∧ (logS t c).size ≤ 8192) (h1 : 1 ≤ c.page) (h2 : c.page ≤ 2048) (x : SheetV) (hfit : x.Fits)
    (hget : ∀ wx A1, MSys wx m p X A1 P l d M → Calls Tryz.prog 34 #[.pointer (some ⟨p, 0, none⟩), .int .u32 c.page] wx (GtOut wx m p X A1 x P1 l1 d1 M))
    {q : SheetV} (hap : ∀ wx a c', x.Ok wx a → Calls Tryz.prog 52 #[x.val a c', c.op.val, .int .u64 ((l1.bytes.length + 1 : Nat) : Int)] wx (ApOut wx q (l1.bytes.length + 1)))
    (hq : ({ q with lsn := l1.bytes.length + 1 } : SheetV).Fits) (hqn : q.num = c.page) (hz : P1.z ≤ 1000000) (hPF : P1.F c.page ≠ none) (hs : l1.starts.length ≤ 10000000) (hb : l.bytes.length ≤ 4194304) (hkp : l.kept + l.bytes.length ≤ 4194304) (hl : (logS t c).size + 12 + l1.kept + l1.bytes.length ≤ 4194304) (hk : t.kept ≤ 10000000) :
    Calls Tryz.prog 75 #[.pointer (some ⟨m, 0, none⟩), .int .i64 n, .agg c.cells] w fun e w' => e = .returned (.tuple #[.int .u64 ((l1.bytes.length + 1 : Nat) : Int), .int .i64 0]) ∧ ∃ A', MSys w' m p X A' (putP P1 { q with lsn := l1.bytes.length + 1 }) (putG l1 (logS t c)) d1 (M.set n { t with last := l1.bytes.length + 1, next := l1.bytes.length + 1 }) ∧ Moves A A' w w' := by
  have HA := hidx (fun (k : Nat) (hk : w.heap.size ≤ k) (x : A k) => by have := h.lt k x; omega : ∀ k, w.heap.size ≤ k → A k → False)
  obtain ⟨W1, HW1⟩ : ∃ W, Hid (W = w.alloc (.cells #[.pointer (some ⟨m, 0, none⟩)] 23)) := ⟨_, rfl⟩
  have b1 : Below w.heap.size w W1 := by rw [HW1.out]; exact (Below.refl _ _).alloc (Nat.le_refl _) _
  have x1 : Blk W1 w.heap.size #[.pointer (some ⟨m, 0, none⟩)] 23 := by rw [HW1.out]; exact Blk.made _ _ _
  have z1 : W1.heap.size = w.heap.size + 1 := by rw [HW1.out]; simp
  obtain ⟨W, HW⟩ : ∃ W, Hid (W = W1.alloc (.cells c.cells 88)) := ⟨_, rfl⟩
  have b2 : Below W1.heap.size W1 W := by rw [HW.out]; exact (Below.refl _ _).alloc (Nat.le_refl _) _
  have xC : Blk W W1.heap.size c.cells 88 := by rw [HW.out]; exact Blk.made _ _ _
  have xM : Blk W w.heap.size #[.pointer (some ⟨m, 0, none⟩)] 23 := x1.same (b2.block _ x1.lt)
  have bW : Below w.heap.size w W := below_chain b1 b2
  have hW := h.below bW
  have HFI := hidx (find_yes hW n hn1 hn2 ht)
  obtain ⟨S0, hT0, _, _⟩ := hW.tx ht
  have HUP := hidx (update_any hT0 c)
  have st0 : W.cell? ⟨X n, 1, none⟩ = some (.int .i64 1) := by have := hT0.cells.c1; rw [hst] at this; exact this
  have HPAR : Hid (c.cells = #[.int .u32 c.page, .int .i64 c.op.kind, .int .i64 c.op.at', .string c.op.S, .string c.op.old, .int .i64 c.undo, .int .i64 c.index, .string c.key, .int .u32 c.rpage, .int .i64 c.rslot, .bool c.live]) := rfl
  have HENC : Hid (∀ wx, Calls Tryz.prog 96 #[.agg ((recU t c).cells none none 0 0)] wx fun e w' => e = .returned (.tuple #[.string (logS t c), .int .i64 0]) ∧ Below wx.heap.size wx w') := fun wx => renc_ok (recU t c) none none 0 0 wx (hok wx) hmay ⟨fun i hi => by simp [recU] at hi, fun i hi => by simp [recU] at hi⟩
  have HUN : Hid (∀ wx, Calls Tryz.prog 130 #[.agg ((recU t c).cells none none 0 0)] wx fun e w' => e = .returned (.bool false) ∧ Below wx.heap.size wx w') := fun wx => by
    have := undoable_any (recU t c) none none 0 0 wx
    rw [decide_eq_false (show ¬ ((recU t c).kind = 1 ∧ (recU t c).undo ≠ 0) from fun y => y.2 hun)] at this
    exact this
  have m0 : W.cell? ⟨w.heap.size, 0, none⟩ = some (.pointer (some ⟨m, 0, none⟩)) := xM.cell 0
  have z2 : W1.heap.size = w.heap.size + 1 := z1
  have HXC : Hid (W.heap[w.heap.size + 1]? = some (.cells c.cells 88 (0, 0))) := by show _ = _; rw [← z1]; exact xC
  have HXM := hidx xM
  have HBW := hidx bW
  have HH := hidx h
  have HT := hidx ht
  obtain ⟨s, Hs⟩ : ∃ s, Hid (logS t c = s) := ⟨_, rfl⟩
  rw [Hs.out] at hsz hl HENC ⊢
  clear h hW hT0 b1 b2 x1 xC xM bW z1 z2 ht hst hun
  rw [HPAR.out]
  go_enter Tryz.func75, Tryz.ntmps75
  go_upto_region 1 with fail
  rw [← HPAR.out, ← HW1.out, ← HW.out]
  clear HW HW1
  go_wp2_with fail
  refine HFI.out.mono ?_
  rintro e w2 ⟨rfl, rfl⟩
  clear HFI
  have e0 : W.cell? ⟨w.heap.size + 1, 0, none⟩ = some (.int .u32 c.page) := BlkR.cell HXC.out 0
  have e1 : W.cell? ⟨w.heap.size + 1, 1, none⟩ = some (.int .i64 c.op.kind) := BlkR.cell HXC.out 1
  have e2 : W.cell? ⟨w.heap.size + 1, 2, none⟩ = some (.int .i64 c.op.at') := BlkR.cell HXC.out 2
  have e3 : W.cell? ⟨w.heap.size + 1, 3, none⟩ = some (.string c.op.S) := BlkR.cell HXC.out 3
  have e4 : W.cell? ⟨w.heap.size + 1, 4, none⟩ = some (.string c.op.old) := BlkR.cell HXC.out 4
  have e5 : W.cell? ⟨w.heap.size + 1, 5, none⟩ = some (.int .i64 c.undo) := BlkR.cell HXC.out 5
  have e6 : W.cell? ⟨w.heap.size + 1, 6, none⟩ = some (.int .i64 c.index) := BlkR.cell HXC.out 6
  have e7 : W.cell? ⟨w.heap.size + 1, 7, none⟩ = some (.string c.key) := BlkR.cell HXC.out 7
  have e8 : W.cell? ⟨w.heap.size + 1, 8, none⟩ = some (.int .u32 c.rpage) := BlkR.cell HXC.out 8
  have e9 : W.cell? ⟨w.heap.size + 1, 9, none⟩ = some (.int .i64 c.rslot) := BlkR.cell HXC.out 9
  have e10 : W.cell? ⟨w.heap.size + 1, 10, none⟩ = some (.bool c.live) := BlkR.cell HXC.out 10
  have HRC : Hid ((recU t c).cells none none 0 0 = #[.int .i64 1, .int .i64 t.tx, .int .u64 t.last, .int .u64 0, .int .u32 c.page, .int .i64 c.op.kind, .int .i64 c.op.at', .string c.op.S, .string c.op.old, .int .i64 c.undo, .int .i64 c.index, .string c.key, .int .u32 c.rpage, .int .i64 c.rslot, .bool c.live, .slice none 0 0, .slice none 0 0]) := rfl
  go_upto_region 6 with fail
  go_wp2_with fail
  refine HUP.out.mono ?_
  rintro e w3 ⟨rfl, b3⟩
  rw [HRC.out]
  clear e0 e1 e2 e3 e4 e5 e6 e7 e8 e9 e10 HUP HXC st0
  obtain ⟨W4, HW4⟩ : ∃ W', Hid (W' = w3.alloc (.cells ((recU t c).cells none none 0 0) 54)) := ⟨_, rfl⟩
  have b4 : Below w3.heap.size w3 W4 := by rw [HW4.out]; exact (Below.refl _ _).alloc (Nat.le_refl _) _
  have x4 : BlkR W4 w3.heap.size ((recU t c).cells none none 0 0) 54 := by rw [HW4.out]; exact Blk.made _ _ _
  have B4 := hidx (below_chain b3 b4)
  have X4 := hidx x4
  have hw3 : W.heap.size ≤ w3.heap.size := b3.size
  have m0' : W4.cell? ⟨w.heap.size, 0, none⟩ = some (.pointer (some ⟨m, 0, none⟩)) := (HXM.out.same (B4.out.block _ HXM.out.lt)).cell 0
  clear b3 b4 x4 m0
  go_upto_region 7 with fail
  rw [← HRC.out, ← HW4.out]
  clear HW4
  refine wp_region_lit ?_
  refine wpList_loadRow rfl _ _ rfl w3.heap.size rfl ((recU t c).cells none none 0 0) _ (0, 0) X4.out _ Tryz.underlying54 rfl (by kernel_rfl) ?_
  go_wp2_with fail
  refine (HENC.out W4).mono ?_
  rintro e w5 ⟨rfl, b5⟩
  obtain ⟨W6, HW6⟩ : ∃ W', Hid (W' = w5.alloc (.cells #[.string s] 9)) := ⟨_, rfl⟩
  have b6 : Below w5.heap.size w5 W6 := by rw [HW6.out]; exact (Below.refl _ _).alloc (Nat.le_refl _) _
  have x6 : Blk W6 w5.heap.size #[.string s] 9 := by rw [HW6.out]; exact Blk.made _ _ _
  have b56 := below_chain b5 b6
  have hw4 : w3.heap.size < W4.heap.size := X4.out.lt
  have hw5 : W4.heap.size ≤ w5.heap.size := b5.size
  have B6 := hidx (below_chain B4.out b56)
  have X6 := hidx (X4.out.same (b56.block _ X4.out.lt))
  have Y6 := hidx x6
  clear b5 b6 x6 b56 B4 X4 m0' HENC
  go_upto_region 11 with fail
  rw [← HW6.out]
  clear HW6
  refine wp_region_lit ?_
  refine wpList_loadRow rfl _ _ rfl w3.heap.size rfl ((recU t c).cells none none 0 0) _ (0, 0) X6.out _ Tryz.underlying54 rfl (by kernel_rfl) ?_
  go_wp2_with fail
  refine (HUN.out W6).mono ?_
  rintro e w7 ⟨rfl, b7⟩
  have B7 := hidx (below_chain B6.out b7)
  have X7 := hidx (X6.out.same (b7.block _ X6.out.lt))
  have Y7 := hidx (Y6.out.same (b7.block _ Y6.out.lt))
  have B7w := hidx (below_chain HBW.out B7.out)
  have H7 := hidx (HH.out.below B7w.out)
  have HLG := hidx (mlog_any H7.out)
  have m7 : w7.cell? ⟨w.heap.size, 0, none⟩ = some (.pointer (some ⟨m, 0, none⟩)) := (HXM.out.same (B7.out.block _ HXM.out.lt)).cell 0
  have s7 : w7.cell? ⟨w5.heap.size, 0, none⟩ = some (.string s) := Y7.out.cell 0
  obtain ⟨L, hL, _, lstep⟩ := H7.out.log
  have HKP := hidx (keep_ok hL hb (by omega) 0 (by omega) (by omega))
  have HSt := hidx lstep
  have hs1 : s.size ≤ 8192 := hsz.2
  clear b7 B6 X6 Y6 HUN hL lstep
  go_wp2_with fail
  refine HLG.out.mono ?_
  rintro e w8 ⟨rfl, rfl⟩
  clear HLG
  go_wp2_with fail
  refine HKP.out.mono ?_
  rintro e w8 ⟨rfl, hL8, mv8⟩
  obtain ⟨A8, h8, mvA8⟩ := HSt.out w8 _ l hL8 rfl mv8
  have off8 : ∀ k, w.heap.size ≤ k → k < w7.heap.size → w8.heap[k]? = w7.heap[k]? := fun k hk hl => mvA8.1.block k hl fun x => HA.out k hk x
  have hwW : w.heap.size ≤ W.heap.size := HBW.out.size
  have x8 : BlkR w8 w3.heap.size (refCells (recU t c) (.slice none 0 0) (.slice none 0 0)) 54 := (off8 _ (by omega) X7.out.lt).trans X7.out
  have y8 : Blk w8 w5.heap.size #[.string s] 9 := Y7.out.same (off8 _ (by omega) Y7.out.lt)
  have q8 : Blk w8 w.heap.size #[.pointer (some ⟨m, 0, none⟩)] 23 := (HXM.out.same (B7.out.block _ HXM.out.lt)).same (off8 _ (Nat.le_refl _) (HXM.out.same (B7.out.block _ HXM.out.lt)).lt)
  have H8 := hidx h8
  have MV8 := hidx ((Moves.of_kept (Kept.of_below B7w.out) : Moves A A w w7).trans mvA8)
  have hmf : ∀ (fn : Fn) (first cap : Array Value) (w : World), (Instr.makeFunc fn first cap).run Tryz.prog w = .ok (.func fn first cap) w := fun _ _ _ _ => rfl
  have HCH : Hid (Calls Tryz.prog 108 #[.pointer (some ⟨m, 0, none⟩), .agg ((recU t c).cells none none 0 0), .func (.func 131) #[] #[.pointer (some ⟨w.heap.size, 0, none⟩), .pointer (some ⟨w5.heap.size, 0, none⟩)]] w8 fun e w' => e = .returned (.tuple #[.int .u64 ((l1.bytes.length + 1 : Nat) : Int), .int .i64 0]) ∧ ∃ A', MSys w' m p X A' (putP P1 { q with lsn := l1.bytes.length + 1 }) (putG l1 s) d1 M ∧ Moves A8 A' w8 w') := by
    have hA8 : ∀ k, w.heap.size ≤ k → k < w7.heap.size → ¬ A8 k := fun k hk hl => (mvA8.off hl fun y => HA.out k hk y).2
    have hnm : ¬ A8 w.heap.size := hA8 _ (Nat.le_refl _) (by have := HXM.out.lt; have := B7.out.size; omega)
    have hns : ¬ A8 w5.heap.size := hA8 _ (by omega) Y7.out.lt
    refine tchange_gen H8.out (recU t c) none none 0 0 x hfit h1 h2 (fun wx bx => hget wx A8 (H8.out.below bx)) hap hq hqn hz hPF (by omega) 131 _ (putG l1 s) M X (fun wx => rfl) (fun wx A1 gx mx => ?_)
    exact log1_any gx w.heap.size w5.heap.size s ((q8.same (mx.off q8.lt hnm).1).cell 0) ((y8.same (mx.off y8.lt hns).1).cell 0) hsz.1 hsz.2 hs (by omega)
  have m8 : w8.cell? ⟨w.heap.size, 0, none⟩ = some (.pointer (some ⟨m, 0, none⟩)) := q8.cell 0
  obtain ⟨z0, z1, z2, z3, z4, z5, z6, z7, z8, z9, z10, z11, z12, z13, z14, z15, z16⟩ := out_cells x8
  clear hL8 mv8 h8 mvA8 off8 y8 q8 x8 HKP HSt m7 s7 X7 Y7 B7 B7w H7 hmay hok h1 h2 hfit hq hqn hz hs hget hap hPF HRC
  go_wp2_with fail
  refine HCH.out.mono ?_
  rintro e w9 ⟨rfl, A9, h9, mv9⟩
  have MV9 := hidx (MV8.out.trans mv9)
  obtain ⟨S9, hT9, _, step9⟩ := h9.tx HT.out
  have c5 := hT9.cells.c5
  have f5 := hT9.cells.fr 5
  obtain ⟨hT10, mv10⟩ := hT9.put (t' := t) 5 (.int .i64 (t.kept : Int)) rfl (fun dv => rfl)
  obtain ⟨W10, HW10⟩ : ∃ W', Hid (W' = w9.setCell ⟨X n, 5, none⟩ (.int .i64 (t.kept : Int))) := ⟨_, rfl⟩
  rw [← HW10.out] at hT10 mv10
  have HOW := hidx (owe_zero hT10 (l1.bytes.length + 1))
  have HST9 := hidx step9
  have HMV10 := hidx mv10
  clear z0 z1 z2 z3 z4 z5 z6 z7 z8 z9 z10 z11 z12 z13 z14 z15 z16 HCH mv9 hT9 step9 hT10 mv10 h9 MV8 H8 hmf m8
  go_upto_region 21 with fail
  rw [← HW10.out]
  clear HW10 c5 f5
  go_wp2_with fail
  refine HOW.out.mono ?_
  rintro e w11 ⟨rfl, S11, hT11, mv11⟩
  have g2 := hT11.cells.c2
  have g3 := hT11.cells.c3
  have f2 := hT11.cells.fr 2
  have f3 := hT11.cells.fr 3
  obtain ⟨hT12, mv12⟩ := hT11.put (t' := { t with last := l1.bytes.length + 1 }) 2 (.int .u64 ((l1.bytes.length : Int) + 1)) rfl (fun dv => rfl)
  obtain ⟨hT13, mv13⟩ := hT12.put (t' := { t with last := l1.bytes.length + 1, next := l1.bytes.length + 1 }) 3 (.int .u64 ((l1.bytes.length : Int) + 1)) rfl (fun dv => rfl)
  obtain ⟨A13, h13, mvA13⟩ := HST9.out _ _ _ hT13 rfl ((HMV10.out.trans mv11).trans (mv12.trans mv13))
  have HF := hidx (⟨A13, h13, MV9.out.trans mvA13⟩ : ∃ A', MSys ((w11.setCell ⟨X n, 2, none⟩ (.int .u64 ((l1.bytes.length : Int) + 1))).setCell ⟨X n, 3, none⟩ (.int .u64 ((l1.bytes.length : Int) + 1))) m p X A' (putP P1 { q with lsn := l1.bytes.length + 1 }) (putG l1 s) d1 (M.set n { t with last := l1.bytes.length + 1, next := l1.bytes.length + 1 }) ∧ Moves A A' w ((w11.setCell ⟨X n, 2, none⟩ (.int .u64 ((l1.bytes.length : Int) + 1))).setCell ⟨X n, 3, none⟩ (.int .u64 ((l1.bytes.length : Int) + 1))))
  clear hT11 hT12 hT13 mv11 mv12 mv13 h13 mvA13 HST9 HMV10 MV9 HOW HT HH HA HPAR HXM HBW
  go_wp2
  go_ret2
  exact ⟨rfl, HF.out⟩

end

end Go.Proofs.YtdhphbokkmofaaaGreat
