/-
  The walk of Release.
-/
import Derived.Test.YthagomibjlcfmaaDoorLkRelC
namespace Go.Proofs.YthagomibjlcfmaaDoor
open Go.RowKit
set_option linter.unusedVariables false
set_option linter.unusedSimpArgs false

/-- Where the first loop of Release stands. -/
structure Re1 (S Sj : Nat → Prop) (w wr : World) (b : Nat) (T : Tab) (tx : Int) (v : Value) (NL : List NameV) (j : Nat) : Prop where
  tab : IsTab Sj wr b (outT T tx (NL.take j))
  mv : MovesL S Sj w wr
  nms : NamesAt (w.heap.size + 1) wr v NL
  off : ∀ g, v.ownBlock = some g → ¬ Sj g

/-- Where the second loop of Release stands. -/
structure Re2 (S Sj : Nat → Prop) (w wr : World) (b : Nat) (T Tj : Tab) (v u : Value) (NL : List NameV) (j : Nat) (zs : List Int) : Prop where
  rel : RelR (NL.take j) T zs Tj
  tab : IsTab Sj wr b Tj
  mv : MovesL S Sj w wr
  nms : NamesAt (w.heap.size + 1) wr v NL
  off : ∀ g, v.ownBlock = some g → ¬ Sj g
  who : IntsAt (w.heap.size + 1) wr u zs
  woff : ∀ g, u.ownBlock = some g → ¬ Sj g
  len : zs.length ≤ j * 100000

/-- What Release leaves. -/
def Released (S : Nat → Prop) (w w' : World) (b : Nat) (T : Tab) (tx : Int) (v : Value) : Prop :=
  ∃ S' NL zs T', NamesOf T tx NL ∧ RelR NL ((outT T tx NL).delW tx) zs T' ∧ IntsAt (w.heap.size + 1) w' v zs ∧ IsTab S' w' b T' ∧ MovesL S S' w w' ∧ ∀ g, v.ownBlock = some g → ¬ S' g

theorem MovesL.zero {S S' : Nat → Prop} {w w' : World} (h : MovesL S S' w w') (hw : 2 ≤ w.heap.size) (h0 : ¬ S 0 ∧ ¬ S 1) : ¬ S' 0 ∧ ¬ S' 1 :=
  ⟨fun x => by rcases h.2 0 x with a | a; exact h0.1 a; omega, fun x => by rcases h.2 1 x with a | a; exact h0.2 a; omega⟩

theorem MovesL.laid {S S' : Nat → Prop} {w w' : World} (h : MovesL S S' w w') (hl : LkLaid w) (h0 : ¬ S 0 ∧ ¬ S 1) : LkLaid w' :=
  hl.same h.1.size (h.1.block 0 (by have := hl.lt; omega) h0.1) (h.1.block 1 (by have := hl.lt; omega) h0.2)

theorem nm_ne_ints {B B' : Nat} {w : World} {v v' : Value} {L : List NameV} {zs : List Int} (h : NamesAt B w v L) (h' : IntsAt B' w v' zs) : ∀ g, v.ownBlock = some g → v'.ownBlock ≠ some g := by
  intro g h1 h2
  rcases h.2 with ⟨rfl, _⟩ | ⟨g1, cap, cur, rfl, _, hb, _⟩
  · cases h1
  rcases h'.2 with ⟨rfl, _⟩ | ⟨g2, cap', cur', rfl, _, hb', _⟩
  · cases h2
  obtain rfl : g1 = g := Option.some.inj h1
  obtain rfl : g2 = g1 := Option.some.inj h2
  rw [hb] at hb'
  cases hb'

/-- One lock more is granted. -/
theorem Re2.next {S Sj S' : Nat → Prop} {w wr wb w3 w4 : World} {b : Nat} {T2 Tj : Tab} {v u v3 u4 : Value} {NL : List NameV} {j : Nat} {zs : List Int} {k : Nat} (h : Re2 S Sj w wr b T2 Tj v u NL j zs) (hlt : j < NL.length) (bb : Below wr.heap.size wr wb)
    (hg : GrantR (Tj.Q NL[j]) k) (hi : IntsAt (wb.heap.size + 1) w3 v3 (whoF (Tj.Q NL[j]) k)) (ht : IsTab S' w3 b ((Tj.delWs (whoF (Tj.Q NL[j]) k)).setQ NL[j] (stateL (Tj.Q NL[j]) (waitF (Tj.Q NL[j])) k))) (hm : MovesL Sj S' wb w3)
    (hS' : ∀ x, S' x → x < w3.heap.size) (h4 : IntsAt (w.heap.size + 1) w4 u4 (zs ++ whoF (Tj.Q NL[j]) k)) (hgr : w3.grownBy w4 u.ownBlock) (hat : u4.ownBlock = u.ownBlock ∨ u4.ownBlock = some w3.heap.size) (hl : (Tj.Q NL[j]).length ≤ 100000) : Re2 S S' w w4 b T2 ((Tj.delWs (whoF (Tj.Q NL[j]) k)).setQ NL[j] (stateL (Tj.Q NL[j]) (waitF (Tj.Q NL[j])) k)) v u4 NL (j + 1) (zs ++ whoF (Tj.Q NL[j]) k) := by
  have mw : MovesL Sj S' wr w3 := (MovesL.of_below bb : MovesL Sj Sj wr wb).trans hm
  have uoff : ∀ g, u.ownBlock = some g → g < wr.heap.size ∧ w.heap.size + 1 ≤ g ∧ ¬ S' g := fun g hg => ⟨(h.who.lt g hg).2, (h.who.lt g hg).1, (mw.off (h.who.lt g hg).2 (h.woff g hg)).2⟩
  have m34 : MovesL S' S' w3 w4 → True := fun _ => trivial
  have mvw := h.mv.trans mw
  refine ⟨?_, ?_, ?_, ?_, ?_, h4, ?_, ?_⟩
  · rw [List.take_succ_eq_append_getElem hlt]
    exact RelR_snoc h.rel hg
  · exact ht.keep hgr.size fun g hg' => hgr.block g (hS' g hg') fun e => (uoff g e.symm).2.2 hg'
  · refine ⟨⟨hgr.os.trans mvw.1.os, hgr.tape.trans mvw.1.tape, hgr.output.trans mvw.1.output, Nat.le_trans mvw.1.size hgr.size, fun x hx hs => ?_⟩, mvw.2⟩
    rw [hgr.block x (Nat.lt_of_lt_of_le hx mvw.1.size) (fun e => by have := (uoff x e.symm).2.1; omega)]
    exact mvw.1.block x hx hs
  · have n3 : NamesAt (w.heap.size + 1) w3 v NL := h.nms.same fun g hg' => (mw.off (h.nms.lt g hg').2 (h.off g hg')).1
    have i3 : IntsAt (w.heap.size + 1) w3 u zs := h.who.same fun g hg' => (mw.off (h.who.lt g hg').2 (h.woff g hg')).1
    exact n3.same fun g hg' => hgr.block g (n3.lt g hg').2 fun e => nm_ne_ints n3 i3 g hg' e.symm
  · intro g hg'
    exact (mw.off (h.nms.lt g hg').2 (h.off g hg')).2
  · intro g hg' x
    rcases hat with e | e
    · exact (uoff g (e ▸ hg')).2.2 x
    · have : w3.heap.size = g := Option.some.inj (e.symm.trans hg')
      have := hS' g x
      omega
  · rw [List.length_append]
    have := whoF_len (Tj.Q NL[j]) k
    have := h.len
    omega

set_option maxHeartbeats 4000000 in
set_option maxRecDepth 20000 in
theorem release_any {S : Nat → Prop} {w : World} {b : Nat} {T : Tab} (hl : LkLaid w) (h : IsTab S w b T) (tx : Int) (hr : i64R tx) (hz : T.z ≤ 1000) (hL : ∀ n, (T.Q n).length ≤ 100000) (hR : ∀ n, ∀ p ∈ T.Q n, i64R p.1) (hS0 : ¬ S 0 ∧ ¬ S 1) (hNS : NSorts T.z) :
    Calls Tryd.prog 8 #[ptr b, .int .i64 tx] w fun e w' => ∃ v, e = .returned v ∧ Released S w w' b T tx v := by
  have HN := names_any h tx (by omega) (fun n => by have := hL n; omega) hNS
  have HT0 : Hid (IsTab S w b T) := h
  have HLL : Hid (∀ n, (T.Q n).length ≤ 100000) := hL
  have HRR : Hid (∀ n, ∀ p ∈ T.Q n, i64R p.1) := hR
  have HLD : Hid (LkLaid w ∧ 2 ≤ w.heap.size) := ⟨hl, hl.lt⟩
  have hSlt : ∀ k, S k → k < w.heap.size := by obtain ⟨bq, bw, DQ, DW, h⟩ := h; exact h.lt
  have hblt : b < w.heap.size := by obtain ⟨bq, bw, DQ, DW, h⟩ := h; exact h.lt b h.sb
  clear h hl hL hR hNS
  unfold ptr at HN ⊢
  go_enter Tryd.func8, Tryd.ntmps8
  go_wp2_with fail
  refine HN.mono ?_
  rintro e w1 ⟨v5, NL, rfl, hnm, hno, hnl, b1⟩
  have HNO : Hid (NamesOf T tx NL) := hno
  have H10 : Hid (∃ Sj, Re1 S Sj w w1 b T tx v5 NL 0) := ⟨S, HT0.out.below b1, MovesL.of_below b1, hnm, fun g hg x => by have := hSlt g x; have := (hnm.lt g hg).1; omega⟩
  obtain ⟨a5, c5, rfl⟩ := hnm.val
  clear hno hnm b1 HN HT0
  go_wp2_with fail
  go_loopw [18] (fun i wr => ∃ j : Nat, j ≤ NL.length ∧ i = .int .i64 j ∧ Hid (∃ Sj, Re1 S Sj w wr b T tx (.slice a5 NL.length c5) NL j)) (fun i _ => NL.length - (intOf i).toNat)
  case atStart => exact ⟨0, by omega, rfl, H10⟩
  case round =>
    obtain ⟨j, hj, rfl, HA⟩ := hrel
    clear H10
    by_cases hlt : j < NL.length
    · obtain ⟨Sj, hA⟩ := HA.out
      clear HA
      obtain ⟨g, cap, e5, hgB, hg, hnm⟩ := hA.nms.open j hlt
      cases e5
      obtain ⟨nm, HNM⟩ : ∃ nm, Hid (NL[j] = nm) := ⟨NL[j], rfl⟩
      rw [HNM.out] at hnm
      obtain ⟨l, hn⟩ := HNO.out.key nm (by rw [← HNM.out]; exact List.getElem_mem hlt)
      obtain ⟨bq, bw, DQ, DW, ht⟩ := hA.tab
      have hQn : (outT T tx (NL.take j)).Q nm = T.Q nm := outT_Q _ _ _ _ (by rw [← HNM.out]; exact not_mem_take HNO.out.nd hlt)
      have hTz : (outT T tx (NL.take j)).z ≤ 1000000 := by have := outT_z T tx (NL.take j); simp at this; omega
      have W1 : Below wr.heap.size wr (wr.alloc (.cells #[.int .i64 nm.1, .int .i64 nm.2.1, .int .u32 nm.2.2.1, .int .i64 nm.2.2.2] 33)).drew := ((Below.refl _ _).alloc (Nat.le_refl _) _).drew
      have htd := ht.below W1
      have HLK := htd.mq.look nameKeyed Tryd.underlying52 (zeroQueue _) hn
      have hwl := with_lay2 hn htd (tx, 0, 0, false) hTz (by rw [hQn]; have := HLL.out nm; omega)
      have hb0 := (ht.below ((Below.refl wr.heap.size wr).alloc (Nat.le_refl _) (.cells #[.int .i64 nm.1, .int .i64 nm.2.1, .int .u32 nm.2.2.1, .int .i64 nm.2.2.2] 33))).c0
      have hblr : b < wr.heap.size := ht.lt b ht.sb
      obtain ⟨n0, n1, n2, n3⟩ := nm
      simp only at W1 htd HLK hwl hb0 hnm
      obtain ⟨z0, z1, z2, z3⟩ := hnm
      simp only at z0 z1 z2 z3
      have hbx : (wr.alloc (.cells #[.int .i64 n0, .int .i64 n1, .int .u32 n2, .int .i64 n3] 33)).drew.heap[wr.heap.size]? = some (.cells #[.int .i64 n0, .int .i64 n1, .int .u32 n2, .int .i64 n3] 33) := heap_alloc_new wr _
      have hszd : (wr.alloc (.cells #[.int .i64 n0, .int .i64 n1, .int .u32 n2, .int .i64 n3] 33)).drew.heap.size = wr.heap.size + 1 := by simp [World.drew]
      have hcl : ∀ wy : World, wy.heap[wr.heap.size]? = (wr.alloc (.cells #[.int .i64 n0, .int .i64 n1, .int .u32 n2, .int .i64 n3] 33)).drew.heap[wr.heap.size]? → wy.cell? ⟨b, 0, none⟩ = some (.map (some bq)) → (fun wy => (wy.cell? ⟨wr.heap.size, 0, none⟩ = some (.int .i64 n0) ∧ wy.cell? ⟨wr.heap.size, 1, none⟩ = some (.int .i64 n1) ∧ wy.cell? ⟨wr.heap.size, 2, none⟩ = some (.int .u32 n2) ∧ wy.cell? ⟨wr.heap.size, 3, none⟩ = some (.int .i64 n3)) ∧ wy.cell? ⟨b, 0, none⟩ = some (.map (some bq))) wy := fun wy e1 e2 => by
        have x1 := e1.trans hbx
        exact ⟨⟨by simp [World.cell?, x1], by simp [World.cell?, x1], by simp [World.cell?, x1], by simp [World.cell?, x1]⟩, e2⟩
      have HFIN : Hid (∀ w4 S', IsTab S' w4 b ((outT T tx (NL.take j)).setQ (n0, n1, n2, n3) (withF ((outT T tx (NL.take j)).Q (n0, n1, n2, n3)) (tx, 0, 0, false))) → MovesL Sj S' (wr.alloc (.cells #[.int .i64 n0, .int .i64 n1, .int .u32 n2, .int .i64 n3] 33)).drew w4 → ∃ S', Re1 S S' w w4 b T tx (.slice (some ⟨g, 0, none⟩) NL.length c5) NL (j + 1)) := fun w4 S' h4 m4 => by
        have mw : MovesL Sj S' wr w4 := (MovesL.of_below W1 : MovesL Sj Sj wr (wr.alloc (.cells #[.int .i64 n0, .int .i64 n1, .int .u32 n2, .int .i64 n3] 33)).drew).trans m4
        refine ⟨S', ?_, hA.mv.trans mw, hA.nms.same fun g' hg' => (mw.off (hA.nms.lt g' hg').2 (hA.off g' hg')).1, fun g' hg' => (mw.off (hA.nms.lt g' hg').2 (hA.off g' hg')).2⟩
        rw [List.take_succ_eq_append_getElem hlt, HNM.out, outT_snoc]
        exact h4
      have hd1 : Hid (Calls Tryd.prog 20 #[getV DQ l nilS, .agg #[.int .i64 tx, .int .i64 0, .int .i64 0, .bool false]] (wr.alloc (.cells #[.int .i64 n0, .int .i64 n1, .int .u32 n2, .int .i64 n3] 33)).drew fun e w2 => ∃ v2, e = .returned v2 ∧ (fun wy => (wy.cell? ⟨wr.heap.size, 0, none⟩ = some (.int .i64 n0) ∧ wy.cell? ⟨wr.heap.size, 1, none⟩ = some (.int .i64 n1) ∧ wy.cell? ⟨wr.heap.size, 2, none⟩ = some (.int .u32 n2) ∧ wy.cell? ⟨wr.heap.size, 3, none⟩ = some (.int .i64 n3)) ∧ wy.cell? ⟨b, 0, none⟩ = some (.map (some bq))) w2 ∧ Hid (Calls Tryd.prog 19 #[.pointer (some ⟨b, 0, none⟩), .agg #[.int .i64 n0, .int .i64 n1, .int .u32 n2, .int .i64 n3], v2] w2 fun e w4 => e = .returned (.tuple #[]) ∧ (fun wy => (wy.cell? ⟨wr.heap.size, 0, none⟩ = some (.int .i64 n0) ∧ wy.cell? ⟨wr.heap.size, 1, none⟩ = some (.int .i64 n1) ∧ wy.cell? ⟨wr.heap.size, 2, none⟩ = some (.int .u32 n2) ∧ wy.cell? ⟨wr.heap.size, 3, none⟩ = some (.int .i64 n3)) ∧ wy.cell? ⟨b, 0, none⟩ = some (.map (some bq))) w4 ∧ Hid (∃ S', Re1 S S' w w4 b T tx (.slice (some ⟨g, 0, none⟩) NL.length c5) NL (j + 1)))) := by
        refine hwl.mono ?_
        rintro e w2 ⟨v2, rfl, k2, hb2, hly⟩
        have hSj := ht.lt
        have hno : ¬ Sj wr.heap.size := fun x => by have := hSj _ x; omega
        have f2 : w2.heap[wr.heap.size]? = (wr.alloc (.cells #[.int .i64 n0, .int .i64 n1, .int .u32 n2, .int .i64 n3] 33)).drew.heap[wr.heap.size]? := k2.block _ (by omega) hno
        refine ⟨v2, rfl, hcl w2 f2 hb2, ?_⟩
        refine hly.out.mono ?_
        rintro e w4 ⟨rfl, hb4, S', h4, m4⟩
        have f4 : w4.heap[wr.heap.size]? = (wr.alloc (.cells #[.int .i64 n0, .int .i64 n1, .int .u32 n2, .int .i64 n3] 33)).drew.heap[wr.heap.size]? := m4.1.block _ (by omega) hno
        exact ⟨rfl, hcl w4 f4 hb4, HFIN.out w4 S' h4 m4⟩
      obtain ⟨⟨x0, x1, x2, x3⟩, _⟩ := hcl (wr.alloc (.cells #[.int .i64 n0, .int .i64 n1, .int .u32 n2, .int .i64 n3] 33)) rfl hb0
      have HLK' : (Instr.lookup 52 (.map (some bq)) (.agg #[.int .i64 n0, .int .i64 n1, .int .u32 n2, .int .i64 n3]) false).run Tryd.prog (wr.alloc (.cells #[.int .i64 n0, .int .i64 n1, .int .u32 n2, .int .i64 n3] 33)).drew = .ok (getV DQ l nilS) (wr.alloc (.cells #[.int .i64 n0, .int .i64 n1, .int .u32 n2, .int .i64 n3] 33)).drew := HLK
      have hi0 : (0 : Int) ≤ j := by omega
      have hi1 : (j : Int) < NL.length := by omega
      clear HLK hcl HFIN hwl hbx htd W1 ht hA hQn hTz HNM hszd
      generalize getV DQ l nilS = V at *
      go_wp2_with fail
      go_region_held3 (fun wy => (wy.cell? ⟨wr.heap.size, 0, none⟩ = some (.int .i64 n0) ∧ wy.cell? ⟨wr.heap.size, 1, none⟩ = some (.int .i64 n1) ∧ wy.cell? ⟨wr.heap.size, 2, none⟩ = some (.int .u32 n2) ∧ wy.cell? ⟨wr.heap.size, 3, none⟩ = some (.int .i64 n3)) ∧ wy.cell? ⟨b, 0, none⟩ = some (.map (some bq))) (first | go_keep | exact sb | exact sc)
        (first
          | (go_at_call 20; refine hd1.out.mono ?_; rintro x wb ⟨v2, rfl, sb, hd3⟩)
          | (go_at_call 19; refine hd3.out.mono ?_; rintro x wc ⟨rfl, sc, HF⟩))
      clear hd1 hd3 sb sc x0 x1 x2 x3 hb0
      go_wp2
      go_roundw
      case rel => exact ⟨j + 1, by omega, by go_num, HF⟩
      case measure => simp [intOf]; omega
    · obtain rfl : j = NL.length := by omega
      obtain ⟨Sj, hA⟩ := HA.out
      clear HA
      obtain ⟨bq, bw, DQ, DW, ht⟩ := hA.tab
      rw [List.take_length] at ht
      obtain ⟨u, hu⟩ := del_ex 3 53 33 bw (.int .i64 tx) 0
      obtain ⟨hru, hm, htn⟩ := hu wr _ _ _ ht.mw txKeyed Tryd.underlying53 (tkey_key hr.1 hr.2)
      have HU := ht.unwaited (Below.refl wr.heap.size wr) htn hm
      have hc1 := ht.c1
      have hblr : b < wr.heap.size := ht.lt b ht.sb
      have H20 : Hid (∃ Sj Tj zs, Re2 S Sj w (u wr) b ((outT T tx NL).delW tx) Tj (.slice a5 NL.length c5) (.slice none 0 0) NL 0 zs) := by
        have mw : MovesL Sj Sj wr (u wr) := ⟨HU.2.mono fun x e => e ▸ ht.sw, fun k x => .inl x⟩
        exact ⟨Sj, _, [], ⟨rfl, rfl⟩, ⟨bq, bw, DQ, _, HU.1⟩, hA.mv.trans mw, hA.nms.same fun g' hg' => (mw.off (hA.nms.lt g' hg').2 (hA.off g' hg')).1, hA.off, IntsAt.nil _ _, fun g hg => (by cases hg), by simp⟩
      have HQ2 : Hid (∀ n ∈ NL, ((outT T tx NL).delW tx).Q n = withF (T.Q n) (tx, 0, 0, false)) := fun n hn => outT_Q_mem T tx NL n hn HNO.out.nd
      have HZ2 : Hid (((outT T tx NL).delW tx).z ≤ 2000) := by have := outT_z T tx NL; show (outT T tx NL).z ≤ 2000; omega
      obtain ⟨T2, HT2⟩ : ∃ T2, Hid ((outT T tx NL).delW tx = T2) := ⟨_, rfl⟩
      rw [HT2.out] at H20 HQ2 HZ2
      clear HU hu hm htn ht hA
      go_wp2_with fail
      generalize u wr = w2 at *
      clear hru hc1 hblr
      go_loopw [42, 8] (fun i t8 wx => ∃ j : Nat, j ≤ NL.length ∧ i = .int .i64 j ∧ Hid (∃ Sj Tj zs, Re2 S Sj w wx b T2 Tj (.slice a5 NL.length c5) t8 NL j zs)) (fun i _ _ => NL.length - (intOf i).toNat)
      case atStart => exact ⟨0, by omega, rfl, H20⟩
      case round =>
        obtain ⟨j, hj, rfl, HA⟩ := hrel
        clear H20
        by_cases hlt : j < NL.length
        · obtain ⟨Sj, Tj, zs, hA⟩ := HA.out
          clear HA
          obtain ⟨g, cap, e5, hgB, hg, hnm⟩ := hA.nms.open j hlt
          cases e5
          obtain ⟨l, hn⟩ := HNO.out.key NL[j] (List.getElem_mem hlt)
          have hQj : Tj.Q NL[j] = withF (T.Q NL[j]) (tx, 0, 0, false) := by
            rw [RelR_Q hA.rel (not_mem_take HNO.out.nd hlt)]
            exact HQ2.out _ (List.getElem_mem hlt)
          have hQl : (Tj.Q NL[j]).length ≤ 100000 := by rw [hQj]; exact Nat.le_trans (withF_out_len _ _) (HLL.out _)
          have hTz : Tj.z ≤ 1000000 := by
            have q1 := RelR_z hA.rel
            have q2 := HZ2.out
            have q3 : (NL.take j).length ≤ NL.length := by rw [List.length_take]; omega
            omega
          have W1 : Below wr.heap.size wr (wr.alloc (.cells (ncellsA NL[j]) 33)) := (Below.refl _ _).alloc (Nat.le_refl _) _
          have HGC : Hid (Calls Tryd.prog 21 #[.pointer (some ⟨b, 0, none⟩), nval NL[j]] (wr.alloc (.cells (ncellsA NL[j]) 33)) fun e w' => ∃ v, e = .returned v ∧ Granted Sj (wr.alloc (.cells (ncellsA NL[j]) 33)) w' b Tj NL[j] v) := by
            refine grant_any ((hA.mv.laid HLD.out.1 hS0).below (by have := HLD.out.2; have := hA.mv.1.size; omega) W1) (hA.tab.below W1) NL[j] l hn hTz (by omega) (fun p hp => ?_) (hA.mv.zero HLD.out.2 hS0)
            rw [hQj] at hp
            exact HRR.out _ p (withF_out_mem hp)
          have HNX : Hid (∀ S' k w3 v3 w4 u4, GrantR (Tj.Q NL[j]) k → IntsAt ((wr.alloc (.cells (ncellsA NL[j]) 33)).heap.size + 1) w3 v3 (whoF (Tj.Q NL[j]) k) → IsTab S' w3 b ((Tj.delWs (whoF (Tj.Q NL[j]) k)).setQ NL[j] (stateL (Tj.Q NL[j]) (waitF (Tj.Q NL[j])) k)) → MovesL Sj S' (wr.alloc (.cells (ncellsA NL[j]) 33)) w3 → IntsAt (w.heap.size + 1) w4 u4 (zs ++ whoF (Tj.Q NL[j]) k) → w3.grownBy w4 u8.ownBlock → (u4.ownBlock = u8.ownBlock ∨ u4.ownBlock = some w3.heap.size) → ∃ Sj Tj zs, Re2 S Sj w w4 b T2 Tj (.slice (some ⟨g, 0, none⟩) NL.length c5) u4 NL (j + 1) zs) := fun S' k w3 v3 w4 u4 q1 q2 q3 q4 q5 q6 q7 =>
            ⟨S', _, _, hA.next hlt W1 q1 q2 q3 q4 (by obtain ⟨_, _, _, _, hh⟩ := q3; exact hh.lt) q5 q6 q7 hQl⟩
          have HWO : Hid (∀ S' w3, MovesL Sj S' (wr.alloc (.cells (ncellsA NL[j]) 33)) w3 → IntsAt (w.heap.size + 1) w3 u8 zs ∧ w.heap.size + 1 ≤ w3.heap.size) := fun S' w3 q => by
            have mw : MovesL Sj S' wr w3 := (MovesL.of_below W1 : MovesL Sj Sj wr _).trans q
            refine ⟨hA.who.same fun g' hg' => (mw.off (hA.who.lt g' hg').2 (hA.woff g' hg')).1, ?_⟩
            have := mw.1.size
            omega
          have hzl : zs.length ≤ 100000000 := by have := hA.len; have : j * 100000 ≤ 1000 * 100000 := Nat.mul_le_mul_right _ (by omega); omega
          have hwl2 : ∀ k, (whoF (Tj.Q NL[j]) k).length ≤ 100000 := fun k => Nat.le_trans (whoF_len _ _) hQl
          have hi0 : (0 : Int) ≤ j := by omega
          have hi1 : (j : Int) < NL.length := by omega
          clear hA hQj hTz W1
          generalize NL[j] = nm at *
          obtain ⟨n0, n1, n2, n3⟩ := nm
          unfold ncellsA at HGC HNX HWO
          unfold nval at HGC
          simp only at HGC HNX HWO
          obtain ⟨z0, z1, z2, z3⟩ := hnm
          simp only at z0 z1 z2 z3
          go_wp2_with fail
          refine HGC.out.mono ?_
          rintro e w3 ⟨v3, rfl, S', k, hgr, hi3, ht3, hm3, hoff3⟩
          obtain ⟨i8, hsz3⟩ := HWO.out S' w3 hm3
          go_wp2_with (at_builtin; refine wpList_append_ints _ rfl _ _ rfl u8 v3 zs (whoF (Tj.Q (n0, n1, n2, n3)) k) rfl rfl i8 hi3 (by have := hwl2 k; omega) hsz3 ?_; intro u4 w4 h4 hgr4 hat4)
          have HR4 : Hid (∃ Sj Tj zs, Re2 S Sj w w4 b T2 Tj (.slice (some ⟨g, 0, none⟩) NL.length c5) u4 NL (j + 1) zs) := HNX.out S' k w3 v3 w4 u4 hgr hi3 ht3 hm3 h4 hgr4 hat4
          clear HNX HWO h4 hgr4 hat4 i8 hi3 ht3 hm3 hoff3 hgr HGC
          go_wp2
          go_roundw
          case rel => exact ⟨j + 1, by omega, by go_num, HR4⟩
          case measure => simp [intOf]; omega
        · obtain rfl : j = NL.length := by omega
          obtain ⟨Sj, Tj, zs, hA⟩ := HA.out
          have HFN : Hid (Released S w wr b T tx u8) := ⟨Sj, NL, zs, Tj, HNO.out, by rw [HT2.out]; have := hA.rel; rw [List.take_length] at this; exact this, hA.who, hA.tab, hA.mv, hA.woff⟩
          clear hA HA
          go_wp2
          go_ret
          exact ⟨u8, rfl, HFN.out⟩

end Go.Proofs.YthagomibjlcfmaaDoor
