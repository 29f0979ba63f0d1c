/-
  The walk of (*txn.Manager).change, whatever Get and Apply do (where they tell no error).
  The walk of (*txn.Manager).change, where Get or Apply tells an error.
-/
import Derived.Test.YtjemeopafkafgaaGreatTxChangeV
namespace Go.Proofs.YtjemeopafkafgaaGreat
open Go.RowKit Go.Sort
set_option linter.unusedVariables false
set_option linter.unusedSimpArgs false

/-- What Get hands back: the page x, the system behind it. -/
structure GtOut (wx : World) (m p : Nat) (X : Int → Nat) (A : Nat → Prop) (x : SheetV) (P1 : PG) (l1 : LG) (d1 : DG) (M : MgG) (e : Ending) (w' : World) : Prop where
  out : ∃ a c A', e = .returned (.tuple #[x.val a c, .int .i64 0]) ∧ StrsFrom wx.heap.size w' a x.slots ∧ MSys w' m p X A' P1 l1 d1 M ∧ Moves A A' wx w'

/-- What Apply hands back: the page q. -/
structure ApOut (wx : World) (q : SheetV) (lsn : Nat) (e : Ending) (w' : World) : Prop where
  out : ∃ a' c', e = .returned (.tuple #[.agg #[.int .u32 q.num, .int .u64 lsn, .int .i64 q.kind, .string q.head, .slice a' q.slots.length c'], .int .i64 0]) ∧ Below wx.heap.size wx w' ∧ StrsFrom wx.heap.size w' a' q.slots ∧ (∀ g o, a' = some ⟨g, o, none⟩ → wx.heap.size ≤ g ∧ g < w'.heap.size)

/-- Where change stands behind Get: the page in block xb. -/
structure ChgAt (w W wx : World) (m p : Nat) (X : Int → Nat) (A : Nat → Prop) (P1 : PG) (l1 : LG) (d1 : DG) (M : MgG) (rc : Array Value) (xb : Nat) (x : SheetV) (lsn : Nat) (a : Option Addr) (c : Nat) : Prop where
  ex : ∃ A1, MSys wx m p X A1 P1 l1 d1 M ∧ Moves A A1 w wx ∧ ¬ A1 xb
  rbox : Blk wx w.heap.size rc 56
  xge : W.heap.size ≤ xb
  xbox : Blk wx xb #[.int .u32 x.num, .int .u64 lsn, .int .i64 x.kind, .string x.head, .slice a x.slots.length c] 100
  strs : StrsFrom W.heap.size wx a x.slots

theorem ch_after {w W w2 : World} {m p : Nat} {X : Int → Nat} {A : Nat → Prop} {P1 : PG} {l1 : LG} {d1 : DG} {M : MgG} {rc : Array Value} {x : SheetV} {a : Option Addr} {c : Nat} (bW : Below w.heap.size w W) (hA : ∀ k, A k → k < w.heap.size) (xW : Blk W w.heap.size rc 56) (h2 : ∃ A', StrsFrom W.drew.heap.size w2 a x.slots ∧ MSys w2 m p X A' P1 l1 d1 M ∧ Moves A A' W.drew w2) :
    Hid (ChgAt w W (w2.alloc (.cells #[.int .u32 x.num, .int .u64 x.lsn, .int .i64 x.kind, .string x.head, .slice a x.slots.length c] 100)) m p X A P1 l1 d1 M rc w2.heap.size x x.lsn a c) := by
  obtain ⟨A', s2, g2, mv2⟩ := h2
  have hz : W.heap.size ≤ w2.heap.size := mv2.1.size
  have hr : ¬ A w.heap.size := fun y => by have := hA _ y; omega
  have bA : Below w2.heap.size w2 (w2.alloc (.cells #[.int .u32 x.num, .int .u64 x.lsn, .int .i64 x.kind, .string x.head, .slice a x.slots.length c] 100)) := (Below.refl _ _).alloc (Nat.le_refl _) _
  have x2 : Blk w2 w.heap.size rc 56 := xW.same (mv2.off (w := W.drew) xW.lt hr).1
  refine hidx ⟨⟨A', g2.below bA, ((Moves.of_kept (Kept.of_below bW.drew)).trans mv2).trans (Moves.of_kept (Kept.of_below bA)), fun y => by have := g2.lt _ y; omega⟩, x2.same (bA.block _ x2.lt), hz, Blk.made _ _ _, ?_⟩
  rcases s2 with h | ⟨g, o, e, h1, h2, hc⟩
  · exact .inl h
  · exact .inr ⟨g, o, e, h1, by simp; omega, fun i hi => (World.cell?_of_block (w := w2) (a := ⟨g, o + i, none⟩) (heap_old _ _ h2)).trans (hc i hi)⟩

theorem ch_ahead {w W w2 : World} {m p : Nat} {X : Int → Nat} {A : Nat → Prop} {P1 : PG} {l1 : LG} {d1 : DG} {M : MgG} {rc : Array Value} {x : SheetV} {a : Option Addr} {c : Nat} (bW : Below w.heap.size w W) (hA : ∀ k, A k → k < w.heap.size) (xW : Blk W w.heap.size rc 56)
    (h2 : ∃ A', StrsFrom (W.alloc (.cells #[.int .u32 0, .int .u64 0, .int .i64 0, .string ⟨#[]⟩, .slice none 0 0] 100)).drew.heap.size w2 a x.slots ∧ MSys w2 m p X A' P1 l1 d1 M ∧ Moves A A' (W.alloc (.cells #[.int .u32 0, .int .u64 0, .int .i64 0, .string ⟨#[]⟩, .slice none 0 0] 100)).drew w2) :
    Hid (ChgAt w W (((((w2.setCell ⟨W.heap.size, 0, none⟩ (.int .u32 x.num)).setCell ⟨W.heap.size, 1, none⟩ (.int .u64 x.lsn)).setCell ⟨W.heap.size, 2, none⟩ (.int .i64 x.kind)).setCell ⟨W.heap.size, 3, none⟩ (.string x.head)).setCell ⟨W.heap.size, 4, none⟩ (.slice a x.slots.length c)) m p X A P1 l1 d1 M rc W.heap.size x x.lsn a c) ∧ Blk w2 W.heap.size #[.int .u32 0, .int .u64 0, .int .i64 0, .string ⟨#[]⟩, .slice none 0 0] 100 := by
  obtain ⟨A', s2, g2, mv2⟩ := h2
  have z : (W.alloc (.cells #[.int .u32 0, .int .u64 0, .int .i64 0, .string ⟨#[]⟩, .slice none 0 0] 100)).drew.heap.size = W.heap.size + 1 := by show (W.alloc _).heap.size = _; simp
  have hz := mv2.1.size
  rw [z] at hz
  have bws := bW.size
  have hr : ¬ A w.heap.size := fun y => by have := hA _ y; omega
  have hx : ¬ A W.heap.size := fun y => by have := hA _ y; omega
  have bA : Below W.heap.size W (W.alloc (.cells #[.int .u32 0, .int .u64 0, .int .i64 0, .string ⟨#[]⟩, .slice none 0 0] 100)).drew := ((Below.refl _ _).alloc (Nat.le_refl _) _).drew
  have hx0 : Blk (W.alloc (.cells #[.int .u32 0, .int .u64 0, .int .i64 0, .string ⟨#[]⟩, .slice none 0 0] 100)).drew W.heap.size #[.int .u32 0, .int .u64 0, .int .i64 0, .string ⟨#[]⟩, .slice none 0 0] 100 := Blk.made _ _ _
  have hoX := mv2.off hx0.lt hx
  have hx2 := hx0.same hoX.1
  have xWA := xW.same (bA.block _ xW.lt)
  have x2 : Blk w2 w.heap.size rc 56 := xWA.same (mv2.off xWA.lt hr).1
  have hne : w.heap.size ≠ W.heap.size := fun e => by have := xW.lt; omega
  have ho : ∀ k, k ≠ W.heap.size → (store5 w2 W.heap.size (.int .u32 x.num) (.int .u64 x.lsn) (.int .i64 x.kind) (.string x.head) (.slice a x.slots.length c)).heap[k]? = w2.heap[k]? := fun k hk => store5_block w2 W.heap.size _ _ _ _ _ hk
  have hsz : (store5 w2 W.heap.size (.int .u32 x.num) (.int .u64 x.lsn) (.int .i64 x.kind) (.string x.head) (.slice a x.slots.length c)).heap.size = w2.heap.size := store5_size _ _ _ _ _ _ _
  have mvw : Moves A A' w w2 := (Moves.of_kept (Kept.of_below (below_chain bW bA))).trans mv2
  have kS : Kept (fun k => k = W.heap.size) w2 (store5 w2 W.heap.size (.int .u32 x.num) (.int .u64 x.lsn) (.int .i64 x.kind) (.string x.head) (.slice a x.slots.length c)) := ((((Kept.setCell (fun k => k = W.heap.size) w2 W.heap.size 0 _ rfl).trans (Kept.setCell _ _ W.heap.size 1 _ rfl)).trans (Kept.setCell _ _ W.heap.size 2 _ rfl)).trans (Kept.setCell _ _ W.heap.size 3 _ rfl)).trans (Kept.setCell _ _ W.heap.size 4 _ rfl)
  refine ⟨hidx (show ChgAt w W (store5 w2 W.heap.size (.int .u32 x.num) (.int .u64 x.lsn) (.int .i64 x.kind) (.string x.head) (.slice a x.slots.length c)) m p X A P1 l1 d1 M rc W.heap.size x x.lsn a c from ⟨⟨A', g2.same (fun i hi => ho i fun e => hoX.2 (e ▸ hi)) (by omega), ?_, hoX.2⟩, x2.same (ho _ hne), Nat.le_refl _, hx2.store5 _ _ _ _ _, ?_⟩), hx2⟩
  · exact mvw.late kS (fun b e => by rw [e]; omega)
  · have s3 := s2.stored W.heap.size (.inl (by rw [z]; omega)) (.int .u32 x.num) (.int .u64 x.lsn) (.int .i64 x.kind) (.string x.head) (.slice a x.slots.length c)
    rcases s3 with h | ⟨g, o, e, h1, h2, hc⟩
    · exact .inl h
    · exact .inr ⟨g, o, e, by rw [z] at h1; omega, h2, hc⟩

end Go.Proofs.YtjemeopafkafgaaGreat

namespace Go.Proofs.YtjemeopafkafgaaGreat
open Go.RowKit Go.Sort
set_option linter.unusedVariables false
set_option linter.unusedSimpArgs false

section
variable {w : World} {m p : Nat} {X : Int → Nat} {A : Nat → Prop} {P P1 : PG} {l l1 : LG} {d d1 : DG} {M : MgG}

set_option maxHeartbeats 3200000 in
set_option maxRecDepth 20000 in
theorem tchange_noap (h : MSys w m p X A P l d M) (r : RecV) (ta da : Option Addr) (tc dc : Nat) (x : SheetV) (hfit : x.Fits) (h1 : 1 ≤ r.page) (h2 : r.page ≤ 2048)
    (hget : ∀ wx, Below w.heap.size w wx → Calls Tryz.prog 92 #[.pointer (some ⟨p, 0, none⟩), .int .u32 r.page] wx (GtOut wx m p X A x P1 l1 d1 M))
    {E : Int} (hE : (E != 0) = true) (hap : ∀ wx a c, x.Ok wx a → Calls Tryz.prog 110 #[x.val a c, r.op.val, .int .u64 ((l1.bytes.length + 1 : Nat) : Int)] wx fun e w' => e = .returned (.tuple #[.agg #[.int .u32 0, .int .u64 0, .int .i64 0, .string ⟨#[]⟩, .slice none 0 0], .int .i64 E]) ∧ Below wx.heap.size wx w')
    (hb : l1.bytes.length ≤ 4194304) (fn : FuncId) (caps : Array Value) :
    Calls Tryz.prog 54 #[.pointer (some ⟨m, 0, none⟩), .agg (r.cells ta da tc dc), .func (.func fn) #[] caps] w fun e w' => e = .returned (.tuple #[.int .u64 0, .int .i64 E]) ∧ ∃ A', MSys w' m p X A' P1 l1 d1 M ∧ Moves A A' w w' := by
  obtain ⟨W, HW⟩ : ∃ W, Hid (W = w.alloc (.cells (r.cells ta da tc dc) 56)) := ⟨_, rfl⟩
  have bW : Below w.heap.size w W := by rw [HW.out]; exact (Below.refl _ _).alloc (Nat.le_refl _) _
  have xW : Blk W w.heap.size (r.cells ta da tc dc) 56 := by rw [HW.out]; exact Blk.made _ _ _
  have HPAR : Hid (r.cells ta da tc dc = #[.int .i64 r.kind, .int .i64 r.tx, .int .u64 r.prev, .int .u64 r.next, .int .u32 r.page, .int .i64 r.op.kind, .int .i64 r.op.at', .string r.op.S, .string r.op.old, .int .i64 r.undo, .int .i64 r.index, .string r.key, .int .u32 r.rpage, .int .i64 r.rslot, .bool r.live, .slice ta r.txs.length tc, .slice da r.dirty.length dc]) := rfl
  have HC : Hid (∀ wx, Below w.heap.size w wx → wx.cell? ⟨m, 0, none⟩ = some (.pointer (some ⟨p, 0, none⟩))) := fun wx bx => by
    obtain ⟨tb, c0, _⟩ := (h.below bx).reads; exact c0
  have cm0 := HC.out W bW
  have r4 : W.cell? ⟨w.heap.size, 4, none⟩ = some (.int .u32 r.page) := xW.cell 4
  have HV : Hid (∀ a c, x.val a c = .agg #[.int .u32 x.num, .int .u64 x.lsn, .int .i64 x.kind, .string x.head, .slice a x.slots.length c]) := fun a c => rfl
  have HG := hidx hget
  have H := hidx h
  have HAPP := hidx hap
  have HB := hidx bW
  have HXW := hidx xW
  have HAL := hidx (fun k (y : A k) => h.lt k y)
  clear h hap bW xW hget
  rw [HPAR.out]
  go_enter Tryz.func54, Tryz.ntmps54
  go_upto_region 1 with fail
  rw [← HPAR.out, show w.alloc (.cells (r.cells ta da tc dc) 56) = W from HW.out.symm]
  clear HW HPAR
  go_cut [8, 9] from 12 to 21 (fun v8 v9 wx => ∃ xb a c, v8 = .pointer (some ⟨xb, 0, none⟩) ∧ v9 = .int .i64 0 ∧ Hid (ChgAt w W wx m p X A P1 l1 d1 M (r.cells ta da tc dc) xb x x.lsn a c))
  case first =>
    as_aux_lemma =>
    have bD : RowKit.Below w.heap.size w W.drew := HB.out.drew
    have bD2 : RowKit.Below w.heap.size w (W.alloc (.cells #[.int .u32 0, .int .u64 0, .int .i64 0, .string ⟨#[]⟩, .slice none 0 0] 100)).drew := (HB.out.alloc HB.out.size _).drew
    have bA : RowKit.Below W.heap.size W (W.alloc (.cells #[.int .u32 0, .int .u64 0, .int .i64 0, .string ⟨#[]⟩, .slice none 0 0] 100)) := (Below.refl _ _).alloc (Nat.le_refl _) _
    have r4a : (W.alloc (.cells #[.int .u32 0, .int .u64 0, .int .i64 0, .string ⟨#[]⟩, .slice none 0 0] 100)).cell? ⟨w.heap.size, 4, none⟩ = some (.int .u32 r.page) := (HXW.out.same (bA.block _ HXW.out.lt)).cell 4
    have cm0a : (W.alloc (.cells #[.int .u32 0, .int .u64 0, .int .i64 0, .string ⟨#[]⟩, .slice none 0 0] 100)).cell? ⟨m, 0, none⟩ = some (.pointer (some ⟨p, 0, none⟩)) := HC.out _ (HB.out.alloc HB.out.size _)
    have HG1 : Hid (Calls Tryz.prog 92 #[.pointer (some ⟨p, 0, none⟩), .int .u32 r.page] W.drew fun e w2 => ∃ a2 c2, e = .returned (.tuple #[.agg #[.int .u32 x.num, .int .u64 x.lsn, .int .i64 x.kind, .string x.head, .slice a2 x.slots.length c2], .int .i64 0]) ∧ Hid (ChgAt w W (w2.alloc (.cells #[.int .u32 x.num, .int .u64 x.lsn, .int .i64 x.kind, .string x.head, .slice a2 x.slots.length c2] 100)) m p X A P1 l1 d1 M (r.cells ta da tc dc) w2.heap.size x x.lsn a2 c2)) := by
      refine (HG.out W.drew bD).mono ?_
      rintro e w2 ⟨⟨a2, c2, A', he, s2, g2, mv2⟩⟩
      exact ⟨a2, c2, he, ch_after HB.out HAL.out HXW.out ⟨A', s2, g2, mv2⟩⟩
    have HG2 : Hid (Calls Tryz.prog 92 #[.pointer (some ⟨p, 0, none⟩), .int .u32 r.page] (W.alloc (.cells #[.int .u32 0, .int .u64 0, .int .i64 0, .string ⟨#[]⟩, .slice none 0 0] 100)).drew fun e w2 => ∃ a2 c2, e = .returned (.tuple #[.agg #[.int .u32 x.num, .int .u64 x.lsn, .int .i64 x.kind, .string x.head, .slice a2 x.slots.length c2], .int .i64 0]) ∧ Blk w2 W.heap.size #[.int .u32 0, .int .u64 0, .int .i64 0, .string ⟨#[]⟩, .slice none 0 0] 100 ∧ Hid (ChgAt w W (((((w2.setCell ⟨W.heap.size, 0, none⟩ (.int .u32 x.num)).setCell ⟨W.heap.size, 1, none⟩ (.int .u64 x.lsn)).setCell ⟨W.heap.size, 2, none⟩ (.int .i64 x.kind)).setCell ⟨W.heap.size, 3, none⟩ (.string x.head)).setCell ⟨W.heap.size, 4, none⟩ (.slice a2 x.slots.length c2)) m p X A P1 l1 d1 M (r.cells ta da tc dc) W.heap.size x x.lsn a2 c2)) := by
      refine (HG.out _ bD2).mono ?_
      rintro e w2 ⟨⟨a2, c2, A', he, s2, g2, mv2⟩⟩
      have := ch_ahead (c := c2) HB.out HAL.out HXW.out ⟨A', s2, g2, mv2⟩
      exact ⟨a2, c2, he, this.2, this.1⟩
    clear HG bA
    go_region_law (first
      | (go_simp; go_at_call 92; refine HG1.out.mono ?_; rintro e w2 ⟨a2, c2, rfl, HK⟩)
      | (go_simp; go_at_call 92; refine HG2.out.mono ?_; rintro e w2 ⟨a2, c2, rfl, xB, HK⟩; have x0 := xB.cell 0; have x1 := xB.cell 1; have x2 := xB.cell 2; have x3 := xB.cell 3; have x4 := xB.cell 4; have y0 := xB.frozen 0; have y1 := xB.frozen 1; have y2 := xB.frozen 2; have y3 := xB.frozen 3; have y4 := xB.frozen 4))
    all_goals
      go_wp2
      go_meet
      case rel => exact ⟨_, a2, c2, rfl, rfl, HK⟩
  obtain ⟨xb, a2, c2, rfl, rfl, H2⟩ := hcut
  clear cm0 r4 HG
  obtain ⟨A1, g1, mv1, hxA⟩ := H2.out.ex
  have bcd : Below wc.heap.size wc wc.drew := (Below.refl _ _).drew
  have HLG : Hid (Calls Tryz.prog 48 #[.pointer (some ⟨m, 0, none⟩)] wc.drew fun e w' => e = .returned (.pointer (some ⟨P1.lp, 0, none⟩)) ∧ wc.drew = w') := mlog_any (g1.below bcd)
  have HEN : Hid (Calls Tryz.prog 10 #[.pointer (some ⟨P1.lp, 0, none⟩)] wc.drew fun e w' => e = .returned (.int .u64 ((l1.bytes.length + 1 : Nat) : Int)) ∧ wc.drew = w') := by
    obtain ⟨L, hL, _, _⟩ := (g1.below bcd).log
    exact (end_out hL hb).mono fun e w' hh => ⟨hh.1, hh.2.symm⟩
  have HAP : Hid (Calls Tryz.prog 110 #[.agg #[.int .u32 x.num, .int .u64 x.lsn, .int .i64 x.kind, .string x.head, .slice a2 x.slots.length c2], .agg #[.int .i64 r.op.kind, .int .i64 r.op.at', .string r.op.S, .string r.op.old], .int .u64 ((l1.bytes.length + 1 : Nat) : Int)] wc.drew fun e w' => e = .returned (.tuple #[.agg #[.int .u32 0, .int .u64 0, .int .i64 0, .string ⟨#[]⟩, .slice none 0 0], .int .i64 E]) ∧
      Blk w' xb #[.int .u32 x.num, .int .u64 x.lsn, .int .i64 x.kind, .string x.head, .slice a2 x.slots.length c2] 100 ∧ Hid (Below wc.heap.size wc w')) := by
    have hok : x.Ok wc.drew a2 := hfit.ok (H2.out.strs.at.below bcd)
    have := HAPP.out wc.drew a2 c2 hok
    rw [HV.out] at this
    refine this.mono ?_
    rintro e w' ⟨rfl, bx⟩
    have bx' : Below wc.heap.size wc w' := bcd.trans bx
    exact ⟨rfl, H2.out.xbox.same (bx'.block _ H2.out.xbox.lt), hidx bx'⟩
  have xR := hidx H2.out.rbox
  have r5 : wc.cell? ⟨w.heap.size, 5, none⟩ = some (.int .i64 r.op.kind) := xR.out.cell 5
  have r6 : wc.cell? ⟨w.heap.size, 6, none⟩ = some (.int .i64 r.op.at') := xR.out.cell 6
  have r7 : wc.cell? ⟨w.heap.size, 7, none⟩ = some (.string r.op.S) := xR.out.cell 7
  have r8 : wc.cell? ⟨w.heap.size, 8, none⟩ = some (.string r.op.old) := xR.out.cell 8
  have xB := hidx H2.out.xbox
  have x0 := xB.out.cell 0
  have x1 := xB.out.cell 1
  have x2 := xB.out.cell 2
  have x3 := xB.out.cell 3
  have x4 := xB.out.cell 4
  obtain ⟨tbx, cmx, _⟩ := g1.reads
  have G1 := hidx g1
  have MV1 := hidx mv1
  have HXA := hidx hxA
  have HXG := hidx H2.out.xge
  clear bcd g1 mv1 hxA
  go_upto_region 4 with fail
  go_cut [9] from 25 to 34 (fun v9 wx => v9 = .int .i64 E ∧ Hid (MSys wx m p X A1 P1 l1 d1 M ∧ Moves A A1 w wx))
  case first =>
    as_aux_lemma =>
    have hxl : xb < wc.heap.size := xB.out.lt
    have hfin : ∀ (w3 : World) (v0 v1 v2 v3 v4 : Value), Hid (Below wc.heap.size wc w3) → Hid (MSys (((((w3.setCell ⟨xb, 0, none⟩ v0).setCell ⟨xb, 1, none⟩ v1).setCell ⟨xb, 2, none⟩ v2).setCell ⟨xb, 3, none⟩ v3).setCell ⟨xb, 4, none⟩ v4) m p X A1 P1 l1 d1 M ∧ Moves A A1 w (((((w3.setCell ⟨xb, 0, none⟩ v0).setCell ⟨xb, 1, none⟩ v1).setCell ⟨xb, 2, none⟩ v2).setCell ⟨xb, 3, none⟩ v3).setCell ⟨xb, 4, none⟩ v4)) := by
      intro w3 v0 v1 v2 v3 v4 h3
      have b3 := h3.out
      have g3 := G1.out.below b3
      have mv3 : Moves A A1 w w3 := MV1.out.trans (Moves.of_kept (Kept.of_below b3))
      have kS : Kept (fun k => k = xb) w3 (store5 w3 xb v0 v1 v2 v3 v4) := ((((Kept.setCell (fun k => k = xb) w3 xb 0 _ rfl).trans (Kept.setCell _ _ xb 1 _ rfl)).trans (Kept.setCell _ _ xb 2 _ rfl)).trans (Kept.setCell _ _ xb 3 _ rfl)).trans (Kept.setCell _ _ xb 4 _ rfl)
      have hsz : (store5 w3 xb v0 v1 v2 v3 v4).heap.size = w3.heap.size := store5_size _ _ _ _ _ _ _
      have hxw : w.heap.size ≤ xb := by have := HXG.out; have := HB.out.size; omega
      exact hidx ⟨g3.same (fun i hi => store5_block w3 xb _ _ _ _ _ fun e => HXA.out (e ▸ hi)) (by show w3.heap.size ≤ (store5 w3 xb v0 v1 v2 v3 v4).heap.size; omega), mv3.late kS (fun b e => by rw [e]; exact hxw)⟩
    have HFIN := hidx hfin
    clear hfin
    go_region_law (first
      | (go_simp; go_at_call 48; refine HLG.out.mono ?_; rintro e w3 ⟨rfl, rfl⟩)
      | (go_simp; go_at_call 10; refine HEN.out.mono ?_; rintro e w3 ⟨rfl, rfl⟩)
      | (go_simp; go_at_call 110; refine HAP.out.mono ?_; rintro e w3 ⟨rfl, xb3, H3⟩; have z0 := xb3.cell 0; have z1 := xb3.cell 1; have z2 := xb3.cell 2; have z3 := xb3.cell 3; have z4 := xb3.cell 4; have y0 := xb3.frozen 0; have y1 := xb3.frozen 1; have y2 := xb3.frozen 2; have y3 := xb3.frozen 3; have y4 := xb3.frozen 4))
    all_goals
      go_wp2
      go_meet
      case rel => exact ⟨rfl, HFIN.out w3 _ _ _ _ _ H3⟩
  obtain ⟨rfl, H4⟩ := hcut
  clear HLG HEN HAP xB x0 x1 x2 x3 x4 r5 r6 r7 r8 H2 HC HV xR cmx HAPP G1 MV1 H HB hfit HXA
  go_wp2
  go_ret2
  exact ⟨rfl, A1, H4.out⟩

set_option maxHeartbeats 3200000 in
set_option maxRecDepth 20000 in
theorem tchange_noget (h : MSys w m p X A P l d M) (r : RecV) (ta da : Option Addr) (tc dc : Nat) {E : Int} (hE : (E != 0) = true)
    (hget : ∀ wx, Below w.heap.size w wx → Calls Tryz.prog 92 #[.pointer (some ⟨p, 0, none⟩), .int .u32 r.page] wx fun e w' => e = .returned (.tuple #[.agg #[.int .u32 0, .int .u64 0, .int .i64 0, .string ⟨#[]⟩, .slice none 0 0], .int .i64 E]) ∧ Below wx.heap.size wx w')
    (fn : FuncId) (caps : Array Value) :
    Calls Tryz.prog 54 #[.pointer (some ⟨m, 0, none⟩), .agg (r.cells ta da tc dc), .func (.func fn) #[] caps] w fun e w' => e = .returned (.tuple #[.int .u64 0, .int .i64 E]) ∧ Below w.heap.size w w' := by
  obtain ⟨W, HW⟩ : ∃ W, Hid (W = w.alloc (.cells (r.cells ta da tc dc) 56)) := ⟨_, rfl⟩
  have bW : Below w.heap.size w W := by rw [HW.out]; exact (Below.refl _ _).alloc (Nat.le_refl _) _
  have xW : Blk W w.heap.size (r.cells ta da tc dc) 56 := by rw [HW.out]; exact Blk.made _ _ _
  have HPAR : Hid (r.cells ta da tc dc = #[.int .i64 r.kind, .int .i64 r.tx, .int .u64 r.prev, .int .u64 r.next, .int .u32 r.page, .int .i64 r.op.kind, .int .i64 r.op.at', .string r.op.S, .string r.op.old, .int .i64 r.undo, .int .i64 r.index, .string r.key, .int .u32 r.rpage, .int .i64 r.rslot, .bool r.live, .slice ta r.txs.length tc, .slice da r.dirty.length dc]) := rfl
  have HC : Hid (∀ wx, Below w.heap.size w wx → wx.cell? ⟨m, 0, none⟩ = some (.pointer (some ⟨p, 0, none⟩))) := fun wx bx => by
    obtain ⟨tb, c0, _⟩ := (h.below bx).reads; exact c0
  have cm0 := HC.out W bW
  have r4 : W.cell? ⟨w.heap.size, 4, none⟩ = some (.int .u32 r.page) := xW.cell 4
  have HG := hidx hget
  have H := hidx h
  have HB := hidx bW
  have HXW := hidx xW
  have HAL := hidx (fun k (y : A k) => h.lt k y)
  clear h bW xW hget
  rw [HPAR.out]
  go_enter Tryz.func54, Tryz.ntmps54
  go_upto_region 1 with fail
  rw [← HPAR.out, show w.alloc (.cells (r.cells ta da tc dc) 56) = W from HW.out.symm]
  clear HW HPAR
  go_cut [8, 9] from 12 to 21 (fun v8 v9 wx => (∃ xb, v8 = .pointer (some ⟨xb, 0, none⟩)) ∧ v9 = .int .i64 E ∧ Hid (Below w.heap.size w wx))
  case first =>
    as_aux_lemma =>
    have bD : RowKit.Below w.heap.size w W.drew := HB.out.drew
    have bD2 : RowKit.Below w.heap.size w (W.alloc (.cells #[.int .u32 0, .int .u64 0, .int .i64 0, .string ⟨#[]⟩, .slice none 0 0] 100)).drew := (HB.out.alloc HB.out.size _).drew
    have bA : RowKit.Below W.heap.size W (W.alloc (.cells #[.int .u32 0, .int .u64 0, .int .i64 0, .string ⟨#[]⟩, .slice none 0 0] 100)) := (Below.refl _ _).alloc (Nat.le_refl _) _
    have r4a : (W.alloc (.cells #[.int .u32 0, .int .u64 0, .int .i64 0, .string ⟨#[]⟩, .slice none 0 0] 100)).cell? ⟨w.heap.size, 4, none⟩ = some (.int .u32 r.page) := (HXW.out.same (bA.block _ HXW.out.lt)).cell 4
    have cm0a : (W.alloc (.cells #[.int .u32 0, .int .u64 0, .int .i64 0, .string ⟨#[]⟩, .slice none 0 0] 100)).cell? ⟨m, 0, none⟩ = some (.pointer (some ⟨p, 0, none⟩)) := HC.out _ (HB.out.alloc HB.out.size _)
    have HG1 : Hid (Calls Tryz.prog 92 #[.pointer (some ⟨p, 0, none⟩), .int .u32 r.page] W.drew fun e w2 => e = .returned (.tuple #[.agg #[.int .u32 0, .int .u64 0, .int .i64 0, .string ⟨#[]⟩, .slice none 0 0], .int .i64 E]) ∧ Hid (Below w.heap.size w (w2.alloc (.cells #[.int .u32 0, .int .u64 0, .int .i64 0, .string ⟨#[]⟩, .slice none 0 0] 100)))) := by
      refine (HG.out W.drew bD).mono ?_
      rintro e w2 ⟨rfl, b2⟩
      have b3 : Below w.heap.size w w2 := below_chain bD b2
      exact ⟨rfl, hidx (b3.alloc b3.size _)⟩
    have HG2 : Hid (Calls Tryz.prog 92 #[.pointer (some ⟨p, 0, none⟩), .int .u32 r.page] (W.alloc (.cells #[.int .u32 0, .int .u64 0, .int .i64 0, .string ⟨#[]⟩, .slice none 0 0] 100)).drew fun e w2 => e = .returned (.tuple #[.agg #[.int .u32 0, .int .u64 0, .int .i64 0, .string ⟨#[]⟩, .slice none 0 0], .int .i64 E]) ∧ Blk w2 W.heap.size #[.int .u32 0, .int .u64 0, .int .i64 0, .string ⟨#[]⟩, .slice none 0 0] 100 ∧ Hid (Below w.heap.size w (((((w2.setCell ⟨W.heap.size, 0, none⟩ (.int .u32 0)).setCell ⟨W.heap.size, 1, none⟩ (.int .u64 0)).setCell ⟨W.heap.size, 2, none⟩ (.int .i64 0)).setCell ⟨W.heap.size, 3, none⟩ (.string ⟨#[]⟩)).setCell ⟨W.heap.size, 4, none⟩ (.slice none 0 0)))) := by
      refine (HG.out _ bD2).mono ?_
      rintro e w2 ⟨rfl, b2⟩
      have hx0 : Blk (W.alloc (.cells #[.int .u32 0, .int .u64 0, .int .i64 0, .string ⟨#[]⟩, .slice none 0 0] 100)).drew W.heap.size #[.int .u32 0, .int .u64 0, .int .i64 0, .string ⟨#[]⟩, .slice none 0 0] 100 := Blk.made _ _ _
      have b3 : Below w.heap.size w w2 := below_chain bD2 b2
      exact ⟨rfl, hx0.same (b2.block _ hx0.lt), hidx (below_set5 b3 HB.out.size _ _ _ _ _)⟩
    clear HG bA
    go_region_law (first
      | (go_simp; go_at_call 92; refine HG1.out.mono ?_; rintro e w2 ⟨rfl, HK⟩)
      | (go_simp; go_at_call 92; refine HG2.out.mono ?_; rintro e w2 ⟨rfl, xB, HK⟩; have x0 := xB.cell 0; have x1 := xB.cell 1; have x2 := xB.cell 2; have x3 := xB.cell 3; have x4 := xB.cell 4; have y0 := xB.frozen 0; have y1 := xB.frozen 1; have y2 := xB.frozen 2; have y3 := xB.frozen 3; have y4 := xB.frozen 4))
    all_goals
      go_wp2
      go_meet
      case rel => exact ⟨⟨_, rfl⟩, rfl, HK⟩
  obtain ⟨⟨xb, rfl⟩, rfl, HK⟩ := hcut
  clear cm0 r4 HG H HC HXW HB
  go_wp2
  go_ret2
  exact ⟨rfl, HK.out⟩

end

end Go.Proofs.YtjemeopafkafgaaGreat
