/-
  The walk of (*txn.Manager).change, whatever Get and Apply do (where they tell no error).
-/
import Derived.Test.YtjemeopafkafgaaGreatTxChg0Q
namespace Go.Proofs.YtjemeopafkafgaaGreat
open Go.RowKit Go.Sort
set_option linter.unusedVariables false
set_option linter.unusedSimpArgs false

section
variable {w : World} {m p : Nat} {X : Int → Nat} {A : Nat → Prop} {P P1 : PG} {l l1 : LG} {d d1 : DG} {M : MgG}

set_option maxHeartbeats 3200000 in
set_option maxRecDepth 20000 in
theorem tchange_gen (h : MSys w m p X A P l d M) (r : RecV) (ta da : Option Addr) (tc dc : Nat) (x : SheetV) (hfit : x.Fits) (h1 : 1 ≤ r.page) (h2 : r.page ≤ 2048)
    (hget : ∀ wx, Below w.heap.size w wx → Calls Tryz.prog 92 #[.pointer (some ⟨p, 0, none⟩), .int .u32 r.page] wx (GtOut wx m p X A x P1 l1 d1 M))
    {q : SheetV} (hap : ∀ wx a c, x.Ok wx a → Calls Tryz.prog 110 #[x.val a c, r.op.val, .int .u64 ((l1.bytes.length + 1 : Nat) : Int)] wx (ApOut wx q (l1.bytes.length + 1)))
    (hq : ({ q with lsn := l1.bytes.length + 1 } : SheetV).Fits) (hqn : q.num = r.page) (hz : P1.z ≤ 1000000) (hPF : P1.F r.page ≠ none) (hb : l1.bytes.length ≤ 4194304) (fn : FuncId) (caps : Array Value) (l' : LG) (M' : MgG) (X' : Int → Nat)
    (hcf : ∀ wx, (callFunc fn caps).run Tryz.prog wx = .ok (.enter fn caps) wx) (hput : ∀ wx A1, MSys wx m p X A1 P1 l1 d1 M → Moves A A1 w wx → Calls Tryz.prog fn caps wx fun e w' => e = .returned (.tuple #[.int .u64 ((l1.bytes.length + 1 : Nat) : Int), .int .i64 0]) ∧ ∃ A', MSys w' m p X' A' P1 l' d1 M' ∧ Moves A1 A' wx w') :
    Calls Tryz.prog 54 #[.pointer (some ⟨m, 0, none⟩), .agg (r.cells ta da tc dc), .func (.func fn) #[] caps] w fun e w' => e = .returned (.tuple #[.int .u64 ((l1.bytes.length + 1 : Nat) : Int), .int .i64 0]) ∧ ∃ A', MSys w' m p X' A' (putP P1 { q with lsn := l1.bytes.length + 1 }) l' d1 M' ∧ Moves A A' w w' := by
  obtain ⟨W, HW⟩ : ∃ W, Hid (W = w.alloc (.cells (r.cells ta da tc dc) 56)) := ⟨_, rfl⟩
  have bW : Below w.heap.size w W := by rw [HW.out]; exact (Below.refl _ _).alloc (Nat.le_refl _) _
  have xW : Blk W w.heap.size (r.cells ta da tc dc) 56 := by rw [HW.out]; exact Blk.made _ _ _
  have HPAR : Hid (r.cells ta da tc dc = #[.int .i64 r.kind, .int .i64 r.tx, .int .u64 r.prev, .int .u64 r.next, .int .u32 r.page, .int .i64 r.op.kind, .int .i64 r.op.at', .string r.op.S, .string r.op.old, .int .i64 r.undo, .int .i64 r.index, .string r.key, .int .u32 r.rpage, .int .i64 r.rslot, .bool r.live, .slice ta r.txs.length tc, .slice da r.dirty.length dc]) := rfl
  have HC : Hid (∀ wx, Below w.heap.size w wx → wx.cell? ⟨m, 0, none⟩ = some (.pointer (some ⟨p, 0, none⟩))) := fun wx bx => by
    obtain ⟨tb, c0, _⟩ := (h.below bx).reads; exact c0
  have cm0 := HC.out W bW
  have r4 : W.cell? ⟨w.heap.size, 4, none⟩ = some (.int .u32 r.page) := xW.cell 4
  have HV : Hid (∀ a c, x.val a c = .agg #[.int .u32 x.num, .int .u64 x.lsn, .int .i64 x.kind, .string x.head, .slice a x.slots.length c]) := fun a c => rfl
  have HG := hidx hget
  have H := hidx h
  have HP := hidx hput
  have HAPP := hidx hap
  have HQ := hidx hq
  have HB := hidx bW
  have HXW := hidx xW
  have HQN := hidx hqn
  have HPF := hidx hPF
  have HAL := hidx (fun k (y : A k) => h.lt k y)
  clear h hput hap hq bW xW hqn hPF hget
  rw [HPAR.out]
  go_enter Tryz.func54, Tryz.ntmps54
  go_upto_region 1 with fail
  rw [← HPAR.out, show w.alloc (.cells (r.cells ta da tc dc) 56) = W from HW.out.symm]
  clear HW HPAR
  go_cut [8, 9] from 12 to 21 (fun v8 v9 wx => ∃ xb a c, v8 = .pointer (some ⟨xb, 0, none⟩) ∧ v9 = .int .i64 0 ∧ Hid (ChgAt w W wx m p X A P1 l1 d1 M (r.cells ta da tc dc) xb x x.lsn a c))
  case first =>
    as_aux_lemma =>
    have bD : RowKit.Below w.heap.size w W.drew := HB.out.drew
    have bD2 : RowKit.Below w.heap.size w (W.alloc (.cells #[.int .u32 0, .int .u64 0, .int .i64 0, .string ⟨#[]⟩, .slice none 0 0] 100)).drew := (HB.out.alloc HB.out.size _).drew
    have bA : RowKit.Below W.heap.size W (W.alloc (.cells #[.int .u32 0, .int .u64 0, .int .i64 0, .string ⟨#[]⟩, .slice none 0 0] 100)) := (Below.refl _ _).alloc (Nat.le_refl _) _
    have r4a : (W.alloc (.cells #[.int .u32 0, .int .u64 0, .int .i64 0, .string ⟨#[]⟩, .slice none 0 0] 100)).cell? ⟨w.heap.size, 4, none⟩ = some (.int .u32 r.page) := (HXW.out.same (bA.block _ HXW.out.lt)).cell 4
    have cm0a : (W.alloc (.cells #[.int .u32 0, .int .u64 0, .int .i64 0, .string ⟨#[]⟩, .slice none 0 0] 100)).cell? ⟨m, 0, none⟩ = some (.pointer (some ⟨p, 0, none⟩)) := HC.out _ (HB.out.alloc HB.out.size _)
    have HG1 : Hid (Calls Tryz.prog 92 #[.pointer (some ⟨p, 0, none⟩), .int .u32 r.page] W.drew fun e w2 => ∃ a2 c2, e = .returned (.tuple #[.agg #[.int .u32 x.num, .int .u64 x.lsn, .int .i64 x.kind, .string x.head, .slice a2 x.slots.length c2], .int .i64 0]) ∧ Hid (ChgAt w W (w2.alloc (.cells #[.int .u32 x.num, .int .u64 x.lsn, .int .i64 x.kind, .string x.head, .slice a2 x.slots.length c2] 100)) m p X A P1 l1 d1 M (r.cells ta da tc dc) w2.heap.size x x.lsn a2 c2)) := by
      refine (HG.out W.drew bD).mono ?_
      rintro e w2 ⟨⟨a2, c2, A', he, s2, g2, mv2⟩⟩
      exact ⟨a2, c2, he, ch_after HB.out HAL.out HXW.out ⟨A', s2, g2, mv2⟩⟩
    have HG2 : Hid (Calls Tryz.prog 92 #[.pointer (some ⟨p, 0, none⟩), .int .u32 r.page] (W.alloc (.cells #[.int .u32 0, .int .u64 0, .int .i64 0, .string ⟨#[]⟩, .slice none 0 0] 100)).drew fun e w2 => ∃ a2 c2, e = .returned (.tuple #[.agg #[.int .u32 x.num, .int .u64 x.lsn, .int .i64 x.kind, .string x.head, .slice a2 x.slots.length c2], .int .i64 0]) ∧ Blk w2 W.heap.size #[.int .u32 0, .int .u64 0, .int .i64 0, .string ⟨#[]⟩, .slice none 0 0] 100 ∧ Hid (ChgAt w W (((((w2.setCell ⟨W.heap.size, 0, none⟩ (.int .u32 x.num)).setCell ⟨W.heap.size, 1, none⟩ (.int .u64 x.lsn)).setCell ⟨W.heap.size, 2, none⟩ (.int .i64 x.kind)).setCell ⟨W.heap.size, 3, none⟩ (.string x.head)).setCell ⟨W.heap.size, 4, none⟩ (.slice a2 x.slots.length c2)) m p X A P1 l1 d1 M (r.cells ta da tc dc) W.heap.size x x.lsn a2 c2)) := by
      refine (HG.out _ bD2).mono ?_
      rintro e w2 ⟨⟨a2, c2, A', he, s2, g2, mv2⟩⟩
      have := ch_ahead (c := c2) HB.out HAL.out HXW.out ⟨A', s2, g2, mv2⟩
      exact ⟨a2, c2, he, this.2, this.1⟩
    clear HG bA
    go_region_law (first
      | (go_simp; go_at_call 92; refine HG1.out.mono ?_; rintro e w2 ⟨a2, c2, rfl, HK⟩)
      | (go_simp; go_at_call 92; refine HG2.out.mono ?_; rintro e w2 ⟨a2, c2, rfl, xB, HK⟩; have x0 := xB.cell 0; have x1 := xB.cell 1; have x2 := xB.cell 2; have x3 := xB.cell 3; have x4 := xB.cell 4; have y0 := xB.frozen 0; have y1 := xB.frozen 1; have y2 := xB.frozen 2; have y3 := xB.frozen 3; have y4 := xB.frozen 4))
    all_goals
      go_wp2
      go_meet
      case rel => exact ⟨_, a2, c2, rfl, rfl, HK⟩
  obtain ⟨xb, a2, c2, rfl, rfl, H2⟩ := hcut
  clear cm0 r4 HG
  obtain ⟨A1, g1, mv1, hxA⟩ := H2.out.ex
  have bcd : Below wc.heap.size wc wc.drew := (Below.refl _ _).drew
  have HLG : Hid (Calls Tryz.prog 48 #[.pointer (some ⟨m, 0, none⟩)] wc.drew fun e w' => e = .returned (.pointer (some ⟨P1.lp, 0, none⟩)) ∧ wc.drew = w') := mlog_any (g1.below bcd)
  have HEN : Hid (Calls Tryz.prog 10 #[.pointer (some ⟨P1.lp, 0, none⟩)] wc.drew fun e w' => e = .returned (.int .u64 ((l1.bytes.length + 1 : Nat) : Int)) ∧ wc.drew = w') := by
    obtain ⟨L, hL, _, _⟩ := (g1.below bcd).log
    exact (end_out hL hb).mono fun e w' hh => ⟨hh.1, hh.2.symm⟩
  have HAP : Hid (Calls Tryz.prog 110 #[.agg #[.int .u32 x.num, .int .u64 x.lsn, .int .i64 x.kind, .string x.head, .slice a2 x.slots.length c2], .agg #[.int .i64 r.op.kind, .int .i64 r.op.at', .string r.op.S, .string r.op.old], .int .u64 ((l1.bytes.length + 1 : Nat) : Int)] wc.drew fun e w' => ∃ a' c', e = .returned (.tuple #[.agg #[.int .u32 q.num, .int .u64 ((l1.bytes.length + 1 : Nat) : Int), .int .i64 q.kind, .string q.head, .slice a' q.slots.length c'], .int .i64 0]) ∧
      Blk w' xb #[.int .u32 x.num, .int .u64 x.lsn, .int .i64 x.kind, .string x.head, .slice a2 x.slots.length c2] 100 ∧ Hid (Below wc.heap.size wc w' ∧ StrsFrom wc.heap.size w' a' q.slots ∧ (∀ g o, a' = some ⟨g, o, none⟩ → wc.heap.size ≤ g ∧ g < w'.heap.size))) := by
    have hok : x.Ok wc.drew a2 := hfit.ok (H2.out.strs.at.below bcd)
    have := HAPP.out wc.drew a2 c2 hok
    rw [HV.out] at this
    refine this.mono ?_
    rintro e w' ⟨⟨a', c', rfl, bx, hs, hnil⟩⟩
    have bx' : Below wc.heap.size wc w' := bcd.trans bx
    exact ⟨a', c', rfl, H2.out.xbox.same (bx'.block _ H2.out.xbox.lt), hidx ⟨bx', hs, hnil⟩⟩
  have xR := hidx H2.out.rbox
  have r5 : wc.cell? ⟨w.heap.size, 5, none⟩ = some (.int .i64 r.op.kind) := xR.out.cell 5
  have r6 : wc.cell? ⟨w.heap.size, 6, none⟩ = some (.int .i64 r.op.at') := xR.out.cell 6
  have r7 : wc.cell? ⟨w.heap.size, 7, none⟩ = some (.string r.op.S) := xR.out.cell 7
  have r8 : wc.cell? ⟨w.heap.size, 8, none⟩ = some (.string r.op.old) := xR.out.cell 8
  have xB := hidx H2.out.xbox
  have x0 := xB.out.cell 0
  have x1 := xB.out.cell 1
  have x2 := xB.out.cell 2
  have x3 := xB.out.cell 3
  have x4 := xB.out.cell 4
  obtain ⟨tbx, cmx, _⟩ := g1.reads
  have G1 := hidx g1
  have MV1 := hidx mv1
  have HXA := hidx hxA
  have HXG := hidx H2.out.xge
  clear bcd g1 mv1 hxA
  go_upto_region 4 with fail
  go_cut [9] from 25 to 34 (fun v9 wx => v9 = .int .i64 0 ∧ ∃ a' c', Hid (MSys wx m p X A1 P1 l1 d1 M ∧ Moves A A1 w wx ∧ Blk wx xb #[.int .u32 q.num, .int .u64 ((l1.bytes.length : Int) + 1), .int .i64 q.kind, .string q.head, .slice a' q.slots.length c'] 100 ∧ StrsFrom W.heap.size wx a' q.slots ∧ ∀ g o, a' = some ⟨g, o, none⟩ → ¬ A1 g ∧ g ≠ xb ∧ g < wx.heap.size))
  case first =>
    as_aux_lemma =>
    have hxl : xb < wc.heap.size := xB.out.lt
    have hfin : ∀ (w3 : World) a' (v0 v1 v2 v3 v4 : Value), Hid (Below wc.heap.size wc w3 ∧ StrsFrom wc.heap.size w3 a' q.slots ∧ (∀ g o, a' = some ⟨g, o, none⟩ → wc.heap.size ≤ g ∧ g < w3.heap.size)) → Blk w3 xb #[.int .u32 x.num, .int .u64 x.lsn, .int .i64 x.kind, .string x.head, .slice a2 x.slots.length c2] 100 → Hid (MSys (((((w3.setCell ⟨xb, 0, none⟩ v0).setCell ⟨xb, 1, none⟩ v1).setCell ⟨xb, 2, none⟩ v2).setCell ⟨xb, 3, none⟩ v3).setCell ⟨xb, 4, none⟩ v4) m p X A1 P1 l1 d1 M ∧ Moves A A1 w (((((w3.setCell ⟨xb, 0, none⟩ v0).setCell ⟨xb, 1, none⟩ v1).setCell ⟨xb, 2, none⟩ v2).setCell ⟨xb, 3, none⟩ v3).setCell ⟨xb, 4, none⟩ v4) ∧ Blk (((((w3.setCell ⟨xb, 0, none⟩ v0).setCell ⟨xb, 1, none⟩ v1).setCell ⟨xb, 2, none⟩ v2).setCell ⟨xb, 3, none⟩ v3).setCell ⟨xb, 4, none⟩ v4) xb #[v0, v1, v2, v3, v4] 100 ∧ StrsFrom W.heap.size (((((w3.setCell ⟨xb, 0, none⟩ v0).setCell ⟨xb, 1, none⟩ v1).setCell ⟨xb, 2, none⟩ v2).setCell ⟨xb, 3, none⟩ v3).setCell ⟨xb, 4, none⟩ v4) a' q.slots ∧ ∀ g o, a' = some ⟨g, o, none⟩ → ¬ A1 g ∧ g ≠ xb ∧ g < (((((w3.setCell ⟨xb, 0, none⟩ v0).setCell ⟨xb, 1, none⟩ v1).setCell ⟨xb, 2, none⟩ v2).setCell ⟨xb, 3, none⟩ v3).setCell ⟨xb, 4, none⟩ v4).heap.size) := by
      intro w3 a' v0 v1 v2 v3 v4 h3 hB
      obtain ⟨b3, s3, hn3⟩ := h3.out
      have g3 := G1.out.below b3
      have mv3 : Moves A A1 w w3 := MV1.out.trans (Moves.of_kept (Kept.of_below b3))
      have kS : Kept (fun k => k = xb) w3 (store5 w3 xb v0 v1 v2 v3 v4) := ((((Kept.setCell (fun k => k = xb) w3 xb 0 _ rfl).trans (Kept.setCell _ _ xb 1 _ rfl)).trans (Kept.setCell _ _ xb 2 _ rfl)).trans (Kept.setCell _ _ xb 3 _ rfl)).trans (Kept.setCell _ _ xb 4 _ rfl)
      have hsz : (store5 w3 xb v0 v1 v2 v3 v4).heap.size = w3.heap.size := store5_size _ _ _ _ _ _ _
      have hxw : w.heap.size ≤ xb := by have := HXG.out; have := HB.out.size; omega
      refine hidx ⟨g3.same (fun i hi => store5_block w3 xb _ _ _ _ _ fun e => HXA.out (e ▸ hi)) (by show w3.heap.size ≤ (store5 w3 xb v0 v1 v2 v3 v4).heap.size; omega), mv3.late kS (fun b e => by rw [e]; exact hxw), hB.store5 _ _ _ _ _, ?_, ?_⟩
      · rcases s3.stored xb (.inl hxl) v0 v1 v2 v3 v4 with h | ⟨g, o, e, k1, k2, hc⟩
        · exact .inl h
        · exact .inr ⟨g, o, e, by have := HXG.out; omega, k2, hc⟩
      · intro g o e
        obtain ⟨k1, k2⟩ := hn3 g o e
        exact ⟨fun y => by have := G1.out.lt g y; omega, by omega, by show g < (store5 w3 xb v0 v1 v2 v3 v4).heap.size; omega⟩
    have HFIN := hidx hfin
    clear hfin
    go_region_law (first
      | (go_simp; go_at_call 48; refine HLG.out.mono ?_; rintro e w3 ⟨rfl, rfl⟩)
      | (go_simp; go_at_call 10; refine HEN.out.mono ?_; rintro e w3 ⟨rfl, rfl⟩)
      | (go_simp; go_at_call 110; refine HAP.out.mono ?_; rintro e w3 ⟨a', c', rfl, xb3, H3⟩; have z0 := xb3.cell 0; have z1 := xb3.cell 1; have z2 := xb3.cell 2; have z3 := xb3.cell 3; have z4 := xb3.cell 4; have y0 := xb3.frozen 0; have y1 := xb3.frozen 1; have y2 := xb3.frozen 2; have y3 := xb3.frozen 3; have y4 := xb3.frozen 4))
    all_goals
      go_wp2
      go_meet
      case rel => exact ⟨rfl, a', c', HFIN.out w3 a' _ _ _ _ _ H3 xb3⟩
  obtain ⟨rfl, a4, c4, H4⟩ := hcut
  clear HLG HEN HAP xB x0 x1 x2 x3 x4 r5 r6 r7 r8 H2 HC HV xR cmx HAPP G1 MV1
  obtain ⟨g4, mv4, xb4, s4, hoff4⟩ := H4.out
  have HPC := hidx (HP.out wc A1 g4 mv4)
  have XB4 := hidx xb4
  have S4 := hidx s4
  have HO4 := hidx hoff4
  have MV4 := hidx mv4
  clear HP g4 mv4 xb4 s4 hoff4 H4
  go_upto_region 7 with fail
  go_wp2_with fail
  refine HPC.out.mono ?_
  rintro e w5 ⟨rfl, A5, g5, m5⟩
  have hxb5 := m5.off XB4.out.lt HXA.out
  have x5 : Blk w5 xb #[.int .u32 q.num, .int .u64 ((l1.bytes.length : Int) + 1), .int .i64 q.kind, .string q.head, .slice a4 q.slots.length c4] 100 := XB4.out.same hxb5.1
  have s5 : StrsFrom W.heap.size w5 a4 q.slots := by
    rcases S4.out with e | ⟨g, o, e, q1, q2, q3⟩
    · exact .inl e
    · have hg := m5.off q2 (HO4.out g o e).1
      exact .inr ⟨g, o, e, q1, Nat.lt_of_lt_of_le q2 m5.1.size, fun i hi => (World.cell?_of_block (w := wc) (a := ⟨g, o + i, none⟩) hg.1).trans (q3 i hi)⟩
  have hoff5 : ∀ g o, a4 = some ⟨g, o, none⟩ → ¬ A5 g := by
    intro g o e
    exact (m5.off (HO4.out g o e).2.2 (HO4.out g o e).1).2
  have HPU : Hid (Calls Tryz.prog 33 #[.pointer (some ⟨p, 0, none⟩), .agg #[.int .u32 q.num, .int .u64 ((l1.bytes.length : Int) + 1), .int .i64 q.kind, .string q.head, .slice a4 q.slots.length c4]] w5.drew fun e w' => e = .returned (.int .i64 0) ∧ Hid (∃ A', MSys w' m p X' A' (putP P1 { q with lsn := l1.bytes.length + 1 }) l' d1 M' ∧ Moves A A' w w')) := by
    have gd : MSys w5.drew m p X' A5 P1 l' d1 M' := g5.same (fun _ _ => rfl) (Nat.le_refl _)
    obtain ⟨A2, hS, hA2, sstep⟩ := gd.sys
    have hsa : StrsAt w5.drew a4 q.slots := s5.at
    have hok : ({ q with lsn := l1.bytes.length + 1 } : SheetV).Ok w5.drew a4 := HQ.out.ok hsa
    have hE := (encE_fits hok).2 HQ.out
    refine (poolPut_any (P1 := P1) (l1 := l') (d1 := d1) hS { q with lsn := l1.bytes.length + 1 } a4 c4 hok (fun g o e y => hoff5 g o e (hA2 g y)) (by show 1 ≤ q.num; rw [HQN.out]; exact h1) (by show q.num ≤ 2048; rw [HQN.out]; exact h2) hE (fun e => ?_) (fun _ => ⟨rfl, rfl, rfl⟩) hz).mono ?_
    · have e : P1.F q.num = none := e
      rw [HQN.out] at e; exact absurd e HPF.out
    · rintro e w' ⟨rfl, A', k1, k2⟩
      obtain ⟨A'', k3, k4⟩ := sstep w' A' _ _ _ k1 k2
      exact ⟨rfl, hidx ⟨A'', k3, (MV4.out.trans (m5.kept ((Kept.refl _ _).drew))).trans k4⟩⟩
  obtain ⟨tb, c0, _, _, _, _⟩ := g5.reads
  have x0 := x5.cell 0
  have x1 := x5.cell 1
  have x2 := x5.cell 2
  have x3 := x5.cell 3
  have x4 := x5.cell 4
  clear g5 m5 hxb5 x5 s5 hoff5 HPC H HB HQ hfit XB4 S4 HO4 MV4 HXA
  go_upto_region 10 with fail
  go_region_law (go_simp; go_at_call 33; refine HPU.out.mono ?_; rintro e w6 ⟨rfl, HF⟩)
  all_goals
    go_wp2
    go_ret2
    exact ⟨rfl, HF.out⟩

end

end Go.Proofs.YtjemeopafkafgaaGreat
