/-
  The walk of rec.Long of a record that may be.
-/
import Derived.Test.YtdhphbokkmofaaaGreatRecPutsJ
import Derived.Test.YtdhphbokkmofaaaGreatUnTurnedJ
import Derived.Test.YtdhphbokkmofaaaGreatTxPlJ
import Derived.Test.YtdhphbokkmofaaaGreatWalRoomJ
import Derived.Test.YtdhphbokkmofaaaGreatTxPartJ
import Derived.Test.YtdhphbokkmofaaaGreatTxLineJ
import Derived.Test.YtdhphbokkmofaaaGreatBackMathJ
import Derived.Test.YtdhphbokkmofaaaGreatTxGJ
import Derived.Test.YtdhphbokkmofaaaGreatHpFreeC
set_option linter.unusedVariables false
set_option linter.unusedSimpArgs false
namespace Go.Proofs.YtdhphbokkmofaaaGreat
open Go.RowKit Go.Sort

set_option maxHeartbeats 800000 in
set_option maxRecDepth 8000 in
theorem rlong_ok (r : RecV) (ta da : Option Addr) (tc dc : Nat) (w : World) (h : r.Ok w ta da) (hm : mayR r = true) (hwd : r.Wide) (hle : (encR r).length ≤ 1000000) :
    Calls Tryz.prog 145 #[.agg (r.cells ta da tc dc)] w fun e w' => e = .returned (.tuple #[.int .i64 ((12 : Int) + (encR r).length), .int .i64 0]) ∧ Below w.heap.size w w' := by
  have HE : Hid (∀ wx, Below w.heap.size w wx → Calls Tryz.prog 96 #[.agg (r.cells ta da tc dc)] wx fun e w' => e = .returned (.tuple #[.string ⟨(encR r).toArray⟩, .int .i64 0]) ∧ Below wx.heap.size wx w') := fun wx b => renc_ok r ta da tc dc wx (h.below b) hm hwd
  obtain ⟨W, HW⟩ : ∃ W, Hid (W = w.alloc (.cells (r.cells ta da tc dc) 54)) := ⟨_, rfl⟩
  have HB : Hid (Below w.heap.size w W ∧ w.heap.size < W.heap.size ∧ BlkR W w.heap.size (r.cells ta da tc dc) 54) := by rw [HW.out]; exact ⟨(Below.refl _ _).alloc (Nat.le_refl _) _, by simp, heap_alloc_new w _⟩
  have HPAR : Hid (r.cells ta da tc dc = #[.int .i64 r.kind, .int .i64 r.tx, .int .u64 r.prev, .int .u64 r.next, .int .u32 r.page, .int .i64 r.op.kind, .int .i64 r.op.at', .string r.op.S, .string r.op.old, .int .i64 r.undo, .int .i64 r.index, .string r.key, .int .u32 r.rpage, .int .i64 r.rslot, .bool r.live, .slice ta r.txs.length tc, .slice da r.dirty.length dc]) := rfl
  clear h hm hwd
  obtain ⟨S, HS⟩ : ∃ S, Hid (ByteArray.mk (encR r).toArray = S) := ⟨_, rfl⟩
  have hSz : S.size = (encR r).length := by rw [← HS.out]; show (encR r).toArray.size = _; simp
  rw [HS.out] at HE
  rw [← hSz] at hle ⊢
  clear HS hSz
  rw [HPAR.out]
  go_enter Tryz.func145, Tryz.ntmps145
  go_upto_region 1 with fail
  rw [← HPAR.out, show w.alloc (.cells (r.cells ta da tc dc) 54) = W from HW.out.symm]
  clear HW
  refine wp_region_lit ?_
  refine wpList_loadRow rfl _ _ rfl w.heap.size rfl (r.cells ta da tc dc) _ (0, 0) HB.out.2.2 _ Tryz.underlying54 rfl (by kernel_rfl) ?_
  go_wp2_with fail
  refine (HE.out _ HB.out.1).mono ?_
  rintro e w3 ⟨rfl, b3⟩
  go_wp2
  go_ret2
  exact ⟨rfl, below_chain HB.out.1 b3⟩

end Go.Proofs.YtdhphbokkmofaaaGreat

namespace Go.Proofs.YtdhphbokkmofaaaGreat
open Go.RowKit Go.Sort

def hrParts (n pg : Nat) (o : OpV) : List (Nat × Value) := [(0, .int .i64 1), (1, .int .i64 n), (4, .int .u32 pg), (5, .agg #[.int .i64 o.kind, .int .i64 o.at', .string o.S, .string o.old]), (6, .int .i64 1)]
theorem built_hr (n pg : Nat) (o : OpV) : Tryz.prog.built 54 (hrParts n pg o) = some ((recN n 0 (chgU pg o)).cells none none 0 0) := by kernel_rfl

section
variable {w : World} {m p : Nat} {X : Int → Nat} {A : Nat → Prop} {P : PG} {l : LG} {d : DG} {M : MgG}

theorem hlog_any (h : MSys w m p X A P l d M) (hl : l.bytes.length ≤ 4194304) :
    (∀ wx, Below w.heap.size w wx → Calls Tryz.prog 118 #[.pointer (some ⟨p, 0, none⟩)] wx fun r w' => r = .returned (.pointer (some ⟨P.lp, 0, none⟩)) ∧ wx = w')
    ∧ (∀ wx, Below w.heap.size w wx → Calls Tryz.prog 119 #[.pointer (some ⟨P.lp, 0, none⟩)] wx fun r w' => r = .returned (.int .i64 ((4194304 : Int) - (l.bytes.length : Int))) ∧ wx = w')
    ∧ ∀ wx, Below w.heap.size w wx → Calls Tryz.prog 146 #[.pointer (some ⟨P.lp, 0, none⟩)] wx fun r w' => r = .returned (.int .i64 l.kept) ∧ wx = w' := by
  refine ⟨fun wx b => ?_, fun wx b => ?_, fun wx b => ?_⟩
  · obtain ⟨tb, c0, c1, c2, c3, _⟩ := (h.below b).reads
    exact plog_any c3
  · obtain ⟨L, hL, _⟩ := (h.below b).log
    refine (room_out hL hl).mono ?_
    rintro e w' ⟨rfl, rfl⟩
    exact ⟨rfl, rfl⟩
  · obtain ⟨L, hL, _⟩ := (h.below b).log
    refine (kept_out hL).mono ?_
    rintro e w' ⟨rfl, rfl⟩
    exact ⟨rfl, rfl⟩

set_option maxHeartbeats 6400000 in
set_option maxRecDepth 20000 in
theorem hroom1_any (h : MSys w m p X A P l d M) (n pg : Nat) (o : OpV) (hok : RecOk n (recN n 0 (chgU pg o))) (hS : o.S.size + o.old.size ≤ 1024) (hlen : (encR (recN n 0 (chgU pg o))).length = 25 + o.S.size + o.old.size) (g : Nat) (hg : BlkR w g (chgU pg o).cells 88) (hfit : 234 + 2 * (o.S.size + o.old.size) + l.bytes.length + l.kept ≤ 4194304) :
    Calls Tryz.prog 87 #[.pointer (some ⟨m, 0, none⟩), .int .i64 n, .slice (some ⟨g, 0, none⟩) 1 1] w fun e w' => e = .returned (.bool true) ∧ Below w.heap.size w w' := by
  have HPL : Hid (∀ wx, Below w.heap.size w wx → Calls Tryz.prog 33 #[.pointer (some ⟨m, 0, none⟩)] wx fun e w' => e = .returned (.pointer (some ⟨p, 0, none⟩)) ∧ wx = w') := fun wx b => mpool_any (h.below b)
  have HLG := hidx (hlog_any h (by omega))
  have HG : Hid (∀ wx, Below w.heap.size w wx → BlkR wx g (chgU pg o).cells 88) := fun wx b => hg.under b hg.lt
  obtain ⟨q, Hq⟩ : ∃ q, Hid (o.S.size + o.old.size = q) := ⟨_, rfl⟩
  have HLO : Hid (∀ wx, Calls Tryz.prog 145 #[.agg ((recN n 0 (chgU pg o)).cells none none 0 0)] wx fun e w' => e = .returned (.tuple #[.int .i64 ((37 + q : Nat) : Int), .int .i64 0]) ∧ Below wx.heap.size wx w') := fun wx => by
    have := rlong_ok _ none none 0 0 wx (hok.ok wx none none (.inl rfl) (.inl rfl)) hok.may hok.wide (by rw [hlen]; omega)
    rw [hlen, show ((12 : Int) + ((25 + o.S.size + o.old.size : Nat) : Int)) = ((37 + q : Nat) : Int) by have := Hq.out; omega] at this
    exact this
  rw [Hq.out] at hS hfit
  clear h hok hlen hg
  go_enter Tryz.func87, Tryz.ntmps87
  go_wp2_with fail
  go_loopw [7, 15] (fun v7 v15 wr => ∃ k : Nat, k ≤ 1 ∧ v15 = .int .i64 (k : Int) ∧ v7 = .int .i64 ((k * (234 + 2 * q) : Nat) : Int) ∧ Hid (Below w.heap.size w wr)) (fun _ v _ => 2 - (intOf v).toNat)
  case atStart => exact ⟨0, by omega, rfl, by simp, hidu (Below.refl _ _)⟩
  case round =>
    obtain ⟨k, hk, rfl, rfl, HB⟩ := hrel
    have hk' : k = 0 ∨ k = 1 := by omega
    rcases hk' with rfl | rfl
    · have HR := hidx (HG.out _ HB.out)
      have c0 : wr.cell? ⟨g, 0, none⟩ = some (.int .u32 pg) := BlkR.cell HR.out 0
      have c1 : wr.cell? ⟨g, 1, none⟩ = some (.int .i64 o.kind) := BlkR.cell HR.out 1
      have c2 : wr.cell? ⟨g, 2, none⟩ = some (.int .i64 o.at') := BlkR.cell HR.out 2
      have c3 : wr.cell? ⟨g, 3, none⟩ = some (.string o.S) := BlkR.cell HR.out 3
      have c4 : wr.cell? ⟨g, 4, none⟩ = some (.string o.old) := BlkR.cell HR.out 4
      have c5 : wr.cell? ⟨g, 5, none⟩ = some (.int .i64 1) := BlkR.cell HR.out 5
      have c6 : wr.cell? ⟨g, 6, none⟩ = some (.int .i64 0) := BlkR.cell HR.out 6
      have c7 : wr.cell? ⟨g, 7, none⟩ = some (.string ⟨#[]⟩) := BlkR.cell HR.out 7
      have c8 : wr.cell? ⟨g, 8, none⟩ = some (.int .u32 0) := BlkR.cell HR.out 8
      have c9 : wr.cell? ⟨g, 9, none⟩ = some (.int .i64 0) := BlkR.cell HR.out 9
      have c10 : wr.cell? ⟨g, 10, none⟩ = some (.bool false) := BlkR.cell HR.out 10
      go_upto_region 5 with fail
      obtain ⟨W5, HW5⟩ : ∃ W', Hid (W' = wr.alloc (.cells #[.int .u32 pg, .int .i64 o.kind, .int .i64 o.at', .string o.S, .string o.old, .int .i64 1, .int .i64 0, .string ⟨#[]⟩, .int .u32 0, .int .i64 0, .bool false] 88)) := ⟨_, rfl⟩
      rw [← HW5.out]
      have b5 : Below wr.heap.size wr W5 := by rw [HW5.out]; exact (Below.refl _ _).alloc (Nat.le_refl _) _
      have x5 : BlkR W5 wr.heap.size (chgU pg o).cells 88 := by rw [HW5.out]; exact heap_alloc_new wr _
      have HB5 := hidx (below_chain HB.out b5)
      have HX5 := hidx x5
      have hl5 := x5.lt
      clear HB HW5 b5 HR HG HPL HLG c0 c1 c2 c3 c4 c5 c6 c7 c8 c9 c10
      have c0 : W5.cell? ⟨wr.heap.size, 0, none⟩ = some (.int .u32 pg) := BlkR.cell x5 0
      have c1 : W5.cell? ⟨wr.heap.size, 1, none⟩ = some (.int .i64 o.kind) := BlkR.cell x5 1
      have c2 : W5.cell? ⟨wr.heap.size, 2, none⟩ = some (.int .i64 o.at') := BlkR.cell x5 2
      have c3 : W5.cell? ⟨wr.heap.size, 3, none⟩ = some (.string o.S) := BlkR.cell x5 3
      have c4 : W5.cell? ⟨wr.heap.size, 4, none⟩ = some (.string o.old) := BlkR.cell x5 4
      have c5 : W5.cell? ⟨wr.heap.size, 5, none⟩ = some (.int .i64 1) := BlkR.cell x5 5
      clear x5
      generalize wr.heap.size = g5 at HX5 hl5 c0 c1 c2 c3 c4 c5 ⊢
      refine wp_region_lit ?_
      refine wpList_plain rfl fun K hK => ?_
      go_simp
      refine hK _ _ ?_
      clear hK K
      refine wpList_plain rfl fun K hK => ?_
      go_simp
      refine hK _ _ ?_
      clear hK K
      refine wpList_plain rfl fun K hK => ?_
      go_simp
      refine hK _ _ ?_
      clear hK K
      refine wpList_plain rfl fun K hK => ?_
      go_simp
      refine hK _ _ ?_
      clear hK K
      refine wpList_plain rfl fun K hK => ?_
      go_simp
      refine hK _ _ ?_
      clear hK K
      refine wpList_plain rfl fun K hK => ?_
      go_simp
      refine hK _ _ ?_
      clear hK K
      refine wpList_plain rfl fun K hK => ?_
      go_simp
      refine hK _ _ ?_
      clear hK K
      refine wpList_buildAny rfl 54 _ rfl (hrParts n pg o) (by simp only [List.map_toArray, List.map_cons, List.map_nil]; rfl) _ (built_hr n pg o) ?_
      go_wp2_with fail
      refine (HLO.out _).mono ?_
      rintro e w6 ⟨rfl, b6⟩
      have HB6 := hidx (below_chain HB5.out b6)
      have u5 : w6.cell? ⟨g5, 5, none⟩ = some (.int .i64 1) := BlkR.cell (HX5.out.under b6 hl5) 5
      clear HB5 HX5 hl5 b6 c0 c1 c2 c3 c4 c5 HLO
      go_wp2_with fail
      go_roundw
      case rel => exact ⟨1, by omega, by go_num, by simp; omega, HB6⟩
      case measure => simp [intOf]
    · have HB2 := HB
      go_wp2_with fail
      refine (HPL.out _ HB.out).mono ?_
      rintro e wx ⟨rfl, rfl⟩
      go_wp2_with fail
      refine (HLG.out.1 _ HB.out).mono ?_
      rintro e wx ⟨rfl, rfl⟩
      go_wp2_with fail
      refine (HLG.out.2.1 _ HB.out).mono ?_
      rintro e wx ⟨rfl, rfl⟩
      go_wp2_with fail
      refine (HLG.out.2.2 _ HB.out).mono ?_
      rintro e wx ⟨rfl, rfl⟩
      go_wp2_with fail
      rw [decide_eq_true (show (234 + 2 * (q : Int)) ≤ 4194304 - (l.bytes.length : Int) - (l.kept : Int) by omega)]
      refine bodyPost_ret (v := .bool true) (by simp [results, Tryz.results87, go_sem]) rfl ?_
      exact ⟨rfl, HB.out⟩

end

end Go.Proofs.YtdhphbokkmofaaaGreat

namespace Go.Proofs.YtdhphbokkmofaaaGreat
open Go.RowKit Go.Sort

section
variable {w : World} {m p : Nat} {X : Int → Nat} {A : Nat → Prop} {P : PG} {l : LG} {d : DG} {M : MgG}

set_option maxHeartbeats 1600000 in
set_option maxRecDepth 20000 in
theorem state_any (h : MSys w m p X A P l d M) (n : Int) (hn1 : -9223372036854775808 ≤ n) (hn2 : n ≤ 9223372036854775807) {t : MtV} (ht : M.T n = some t) :
    Calls Tryz.prog 86 #[.pointer (some ⟨m, 0, none⟩), .int .i64 n] w fun e w' => e = .returned (.tuple #[.agg #[.int .i64 t.tx, .int .i64 t.state, .int .u64 t.last, .int .u64 t.next], .bool true]) ∧ Below w.heap.size w w' := by
  obtain ⟨W, HW⟩ : ∃ W, Hid (W = w.alloc (.cells #[.int .i64 0, .int .i64 0, .int .u64 0, .int .u64 0] 101)) := ⟨_, rfl⟩
  have bW : Below w.heap.size w W := by rw [HW.out]; exact (Below.refl _ _).alloc (Nat.le_refl _) _
  have r : RowV W w.heap.size 4 (four (.int .i64 0) (.int .i64 0) (.int .u64 0) (.int .u64 0)) := by rw [HW.out]; exact RowV.four_new w _ _ _ _ _
  have h1 := h.below bW
  have HFI := hidx (find_yes h1 n hn1 hn2 ht)
  obtain ⟨S, hT, _, _⟩ := h1.tx ht
  have c0 := hT.cells.c0
  have c1 := hT.cells.c1
  have c2 := hT.cells.c2
  have c3 := hT.cells.c3
  obtain ⟨z0, z1, z2, z3⟩ := r.cells4
  obtain ⟨g0, g1, g2, g3⟩ := r.open4
  have hr := r.put4 (.int .i64 t.tx) (.int .i64 t.state) (.int .u64 t.last) (.int .u64 t.next)
  have br := below_set4 bW (b := w.heap.size) (Nat.le_refl _) (.int .i64 t.tx) (.int .i64 t.state) (.int .u64 t.last) (.int .u64 t.next)
  obtain ⟨WX, HWX⟩ : ∃ WX, Hid (WX = store4 W w.heap.size (.int .i64 t.tx) (.int .i64 t.state) (.int .u64 t.last) (.int .u64 t.next)) := ⟨_, rfl⟩
  rw [← HWX.out] at hr br
  have HR := hidx hr
  have HB := hidx br
  clear h h1 ht hT bW r hr br
  go_enter Tryz.func86, Tryz.ntmps86
  go_upto_region 1 with fail
  rw [← HW.out]
  clear HW
  go_wp2_with fail
  refine HFI.out.mono ?_
  rintro e w1 ⟨rfl, rfl⟩
  clear HFI
  go_wp2
  rw [show ((((W.setCell ⟨w.heap.size, 0, none⟩ (.int .i64 t.tx)).setCell ⟨w.heap.size, 1, none⟩ (.int .i64 t.state)).setCell ⟨w.heap.size, 2, none⟩ (.int .u64 t.last)).setCell ⟨w.heap.size, 3, none⟩ (.int .u64 t.next)) = WX from HWX.out.symm]
  obtain ⟨r0, r1, r2, r3⟩ := HR.out.cells4
  refine bodyPost_ret (v := .tuple #[.agg #[.int .i64 t.tx, .int .i64 t.state, .int .u64 t.last, .int .u64 t.next], .bool true]) (by simp [results, Tryz.results86, go_sem, r0, r1, r2, r3]) rfl ?_
  exact ⟨rfl, HB.out⟩

end

end Go.Proofs.YtdhphbokkmofaaaGreat

namespace Go.Proofs.YtdhphbokkmofaaaGreat
open Go.RowKit Go.Sort

section
variable {w0 w wx wy : World} {m p lp z : Nat} {X : Int → Nat} {A0 : Nat → Prop} {d : DG} {M0 : MgG} {rs0 : List ByteArray} {n K0 F : Nat} {e0 : Prop} {D : Nat → Prop} {V V' : Nat → SheetV} {J : List ByteArray → Nat → List UpN → Prop} {L : List UpN}

structure HdOut (w0 w' : World) (m p : Nat) (X : Int → Nat) (A0 : Nat → Prop) (lp z : Nat) (d : DG) (M0 : MgG) (rs0 : List ByteArray) (n K0 F : Nat) (D : Nat → Prop) (V' : Nat → SheetV) (J : List ByteArray → Nat → List UpN → Prop) (L : List UpN) (pg : Nat) (o inv : OpV) : Prop where
  ex : ∃ pl prev, GN w0 w' m p X A0 lp z d M0 rs0 n K0 (F + 234 + 2 * (o.S.size + o.old.size)) 1 True D V' J (⟨⟨pl, o.S, o.old⟩, recN n prev (chgU pg o), inv⟩ :: L)

set_option maxHeartbeats 6400000 in
set_option maxRecDepth 20000 in
theorem hdo1_any (hJ : JOk n J) (h : GN w0 w m p X A0 lp z d M0 rs0 n K0 F 1 e0 D V J L) (pg : Nat) (o inv : OpV) (h1 : 1 ≤ pg) (h2 : pg ≤ 2048) (ho : o.Ok) (hc : chkB o = true) (hi : inv.Ok) (hic : chkB inv = true) (hsz : inv.S.size + inv.old.size ≤ o.S.size + o.old.size) (hD : DoesN D V pg o V') (hz : z ≤ 1000000) (hF : F + 234 + 2 * (o.S.size + o.old.size) ≤ 4194304) (g : Nat) (hg : BlkR w g (chgU pg o).cells 88) :
    Calls Tryz.prog 32 #[.pointer (some ⟨m, 0, none⟩), .int .i64 n, .slice (some ⟨g, 0, none⟩) 1 1] w fun e w' => e = .returned (.int .i64 0) ∧ HdOut w0 w' m p X A0 lp z d M0 rs0 n K0 F D V' J L pg o inv := by
  obtain ⟨hS, hT, _⟩ := chk_parts hc
  have hup : ∀ last pl, last < 18446744073709551616 → UpOk n ⟨⟨pl, o.S, o.old⟩, recN n last (chgU pg o), inv⟩ := fun last pl hl => by
    obtain ⟨A, P, l, rs, t, ext, hM, hR, hG, hst, hq, hbF, hP, mv, hext, hlo, hj, he⟩ := h.ex
    exact chgP_up hG.nn h1 h2 ho hc hi hic hsz hl
  have hok : RecOk n (recN n 0 (chgU pg o)) := (hup 0 0 (by omega)).ok
  have hlen : (encR (recN n 0 (chgU pg o))).length = 25 + o.S.size + o.old.size := chgP_len hS hT (.inr rfl)
  have HSV : Hid (∃ t1 t2 t3 : Nat, ∀ wx, Below w.heap.size w wx → Calls Tryz.prog 86 #[.pointer (some ⟨m, 0, none⟩), .int .i64 n] wx fun e w' => e = .returned (.tuple #[.agg #[.int .i64 t1, .int .i64 1, .int .u64 t2, .int .u64 t3], .bool true]) ∧ Below wx.heap.size wx w') := by
    obtain ⟨A, P, l, rs, t, ext, hM, hR, hG, hst, hq, hbF, hP, mv, hext, hlo, hj, he⟩ := h.ex
    have hnn := hG.nn
    refine hidx ⟨t.tx, t.last, t.next, fun wx b => ?_⟩
    have := state_any (hM.below b) n (by omega) (by omega) (MgG.set_get M0 n t)
    rw [hst] at this
    exact this
  have HRM : Hid (∀ wx, Below w.heap.size w wx → Calls Tryz.prog 87 #[.pointer (some ⟨m, 0, none⟩), .int .i64 n, .slice (some ⟨g, 0, none⟩) 1 1] wx fun e w' => e = .returned (.bool true) ∧ Below wx.heap.size wx w') := fun wx b => by
    obtain ⟨A, P, l, rs, t, ext, hM, hR, hG, hst, hq, hbF, hP, mv, hext, hlo, hj, he⟩ := h.ex
    exact hroom1_any (hM.below b) n pg o hok (by omega) hlen g (hg.under b hg.lt) (by omega)
  have HSA : Hid (∃ t3 : Nat, ∀ wx, Below w.heap.size w wx → Calls Tryz.prog 88 #[.pointer (some ⟨m, 0, none⟩), .int .i64 n] wx fun e w' => e = .returned (.tuple #[.int .u64 t3, .int .i64 0]) ∧ wx = w') := by
    obtain ⟨A, P, l, rs, t, ext, hM, hR, hG, hst, hq, hbF, hP, mv, hext, hlo, hj, he⟩ := h.ex
    have hnn := hG.nn
    exact hidx ⟨t.next, fun wx b => save_any (hM.below b) n (by omega) (by omega) (MgG.set_get M0 n t)⟩
  have HLG : Hid (∀ wx, Below w.heap.size w wx → Calls Tryz.prog 75 #[.pointer (some ⟨m, 0, none⟩), .int .i64 n, .agg (chgU pg o).cells] wx fun e w' => ∃ pl : Nat, e = .returned (.tuple #[.int .u64 pl, .int .i64 0]) ∧ HdOut w0 w' m p X A0 lp z d M0 rs0 n K0 F D V' J L pg o inv) := fun wx b => by
    refine (gn_log hJ (h.below b) (chgU pg o) o.S o.old inv hup hD ho hc hz (by omega)).mono ?_
    rintro e w' ⟨pl, prev, rfl, _, hg'⟩
    exact ⟨pl, rfl, ⟨pl, prev, hg'⟩⟩
  have HG : Hid (∀ wx, Below w.heap.size w wx → BlkR wx g (chgU pg o).cells 88) := fun wx b => hg.under b hg.lt
  have HCC : Hid ((chgU pg o).cells = #[.int .u32 pg, .int .i64 o.kind, .int .i64 o.at', .string o.S, .string o.old, .int .i64 1, .int .i64 0, .string ⟨#[]⟩, .int .u32 0, .int .i64 0, .bool false]) := rfl
  rw [HCC.out] at HLG
  obtain ⟨t1, t2, t3, HST⟩ := HSV.out
  obtain ⟨t4, HSE⟩ := HSA.out
  have HST := hidu HST
  have HSE := hidu HSE
  clear HSV HSA hJ h h1 h2 ho hc hi hic hsz hD hz hF hg hS hT hup hok hlen
  go_enter Tryz.func32, Tryz.ntmps32
  go_wp2_with fail
  refine (HST.out _ (Below.refl _ _)).mono ?_
  rintro e w1 ⟨rfl, b1⟩
  obtain ⟨W2, HW2⟩ : ∃ W', Hid (W' = w1.alloc (.cells #[.int .i64 t1, .int .i64 1, .int .u64 t2, .int .u64 t3] 101)) := ⟨_, rfl⟩
  have bx : Below w1.heap.size w1 W2 := by rw [HW2.out]; exact (Below.refl _ _).alloc (Nat.le_refl _) _
  have c1 : W2.cell? ⟨w1.heap.size, 1, none⟩ = some (.int .i64 1) := by rw [HW2.out]; exact (RowV.four_new w1 (.int .i64 t1) (.int .i64 1) (.int .u64 t2) (.int .u64 t3) 101).cells4.2.1
  have HB2 := hidx (below_chain b1 bx)
  clear b1 bx HST
  go_upto_region 2 with fail
  rw [← HW2.out]
  clear HW2
  generalize w1.heap.size = sb at c1 ⊢
  go_wp2_with fail
  refine (HRM.out _ HB2.out).mono ?_
  rintro e w3 ⟨rfl, b3⟩
  have HB3 := hidx (below_chain HB2.out b3)
  clear b3 HB2 HRM c1
  go_wp2_with fail
  refine (HSE.out _ HB3.out).mono ?_
  rintro e wz ⟨rfl, rfl⟩
  go_wp2_with fail
  go_loopw [39] (fun v39 wr => ∃ k : Nat, k ≤ 1 ∧ v39 = .int .i64 (k : Int) ∧ Hid ((k = 0 → Below w.heap.size w wr) ∧ (k = 1 → HdOut w0 wr m p X A0 lp z d M0 rs0 n K0 F D V' J L pg o inv))) (fun v _ => 2 - (intOf v).toNat)
  case atStart => exact ⟨0, by omega, rfl, hidu ⟨fun _ => HB3.out, fun e => by omega⟩⟩
  case round =>
    obtain ⟨k, hk, rfl, HB⟩ := hrel
    have hk' : k = 0 ∨ k = 1 := by omega
    clear HB3 HSE
    rcases hk' with rfl | rfl
    · have HB0 := hidu (HB.out.1 rfl)
      have HR := hidx (HG.out _ HB0.out)
      have c0 : wr.cell? ⟨g, 0, none⟩ = some (.int .u32 pg) := BlkR.cell HR.out 0
      have c1 : wr.cell? ⟨g, 1, none⟩ = some (.int .i64 o.kind) := BlkR.cell HR.out 1
      have c2 : wr.cell? ⟨g, 2, none⟩ = some (.int .i64 o.at') := BlkR.cell HR.out 2
      have c3 : wr.cell? ⟨g, 3, none⟩ = some (.string o.S) := BlkR.cell HR.out 3
      have c4 : wr.cell? ⟨g, 4, none⟩ = some (.string o.old) := BlkR.cell HR.out 4
      have c5 : wr.cell? ⟨g, 5, none⟩ = some (.int .i64 1) := BlkR.cell HR.out 5
      have c6 : wr.cell? ⟨g, 6, none⟩ = some (.int .i64 0) := BlkR.cell HR.out 6
      have c7 : wr.cell? ⟨g, 7, none⟩ = some (.string ⟨#[]⟩) := BlkR.cell HR.out 7
      have c8 : wr.cell? ⟨g, 8, none⟩ = some (.int .u32 0) := BlkR.cell HR.out 8
      have c9 : wr.cell? ⟨g, 9, none⟩ = some (.int .i64 0) := BlkR.cell HR.out 9
      have c10 : wr.cell? ⟨g, 10, none⟩ = some (.bool false) := BlkR.cell HR.out 10
      obtain ⟨W5, HW5⟩ : ∃ W', Hid (W' = wr.alloc (.cells #[.int .u32 pg, .int .i64 o.kind, .int .i64 o.at', .string o.S, .string o.old, .int .i64 1, .int .i64 0, .string ⟨#[]⟩, .int .u32 0, .int .i64 0, .bool false] 88)) := ⟨_, rfl⟩
      have b5 : Below wr.heap.size wr W5 := by rw [HW5.out]; exact (Below.refl _ _).alloc (Nat.le_refl _) _
      have x5 : BlkR W5 wr.heap.size (chgU pg o).cells 88 := by rw [HW5.out]; exact heap_alloc_new wr _
      have HB5 := hidx (below_chain HB0.out b5)
      have HX5 := hidx x5
      clear HB HB0 b5 x5 HG HR
      go_upto_region 8 with fail
      rw [← HW5.out]
      clear HW5 c0 c1 c2 c3 c4 c5 c6 c7 c8 c9 c10
      have c0 : W5.cell? ⟨wr.heap.size, 0, none⟩ = some (.int .u32 pg) := BlkR.cell HX5.out 0
      have c1 : W5.cell? ⟨wr.heap.size, 1, none⟩ = some (.int .i64 o.kind) := BlkR.cell HX5.out 1
      have c2 : W5.cell? ⟨wr.heap.size, 2, none⟩ = some (.int .i64 o.at') := BlkR.cell HX5.out 2
      have c3 : W5.cell? ⟨wr.heap.size, 3, none⟩ = some (.string o.S) := BlkR.cell HX5.out 3
      have c4 : W5.cell? ⟨wr.heap.size, 4, none⟩ = some (.string o.old) := BlkR.cell HX5.out 4
      have c5 : W5.cell? ⟨wr.heap.size, 5, none⟩ = some (.int .i64 1) := BlkR.cell HX5.out 5
      have c6 : W5.cell? ⟨wr.heap.size, 6, none⟩ = some (.int .i64 0) := BlkR.cell HX5.out 6
      have c7 : W5.cell? ⟨wr.heap.size, 7, none⟩ = some (.string ⟨#[]⟩) := BlkR.cell HX5.out 7
      have c8 : W5.cell? ⟨wr.heap.size, 8, none⟩ = some (.int .u32 0) := BlkR.cell HX5.out 8
      have c9 : W5.cell? ⟨wr.heap.size, 9, none⟩ = some (.int .i64 0) := BlkR.cell HX5.out 9
      have c10 : W5.cell? ⟨wr.heap.size, 10, none⟩ = some (.bool false) := BlkR.cell HX5.out 10
      clear HX5
      generalize wr.heap.size = g5 at c0 c1 c2 c3 c4 c5 c6 c7 c8 c9 c10 ⊢
      go_wp2_with fail
      refine (HLG.out _ HB5.out).mono ?_
      rintro e w6 ⟨pl, rfl, h6⟩
      have H6 := hidx h6
      clear HLG h6 HB5 c0 c1 c2 c3 c4 c5 c6 c7 c8 c9 c10
      go_wp2_with fail
      go_roundw
      case rel => exact ⟨1, by omega, by go_num, hidu ⟨fun e => by omega, fun _ => H6.out⟩⟩
      case measure => simp [intOf]
    · have HB1 := hidu (HB.out.2 rfl)
      clear HB
      go_wp2_with fail
      refine bodyPost_ret (v := .int .i64 0) (by simp [results, Tryz.results32, go_sem]) rfl ?_
      exact ⟨rfl, HB1.out⟩

end

end Go.Proofs.YtdhphbokkmofaaaGreat

namespace Go.Proofs.YtdhphbokkmofaaaGreat
open Go.RowKit Go.Sort

def flipV (V : Nat → SheetV) (s : ByteArray) (k : Nat) : Nat → SheetV := fun pg => if pg = 1 then mapV 0 (flipS s k) else V pg

theorem turnO_does {D : Nat → Prop} {V : Nat → SheetV} {s : ByteArray} {k : Nat} (hD : D 1) (hV : V 1 = mapV 0 s) (hs : s.size = 256) (hk : k ≤ 2048) : DoesN D V 1 (turnO s k) (flipV V s k) := by
  refine ⟨hD, fun x hx hn hsame => ?_, fun j hj => if_neg hj⟩
  rw [hV] at hsame
  have hsl : x.slots = [s] := hsame.slots
  have hd := turnO_do (p := x) (n := k) hsl hs hk
  have := does hx (turnO_ok s k hk) (turnO_chk s k hk) (turnO_kind s k)
  rw [hd.1, hd.2] at this
  have hfs := flip_size hs hk
  refine ⟨_, this, hn, by simp, ?_, fun lsn hl => ?_⟩
  · show SameC _ (if 1 = 1 then mapV 0 (flipS s k) else V 1)
    rw [if_pos rfl]
    exact ⟨hsame.kind, hsame.head, rfl⟩
  · have hh : x.head = ⟨#[]⟩ := hsame.head
    have hkk : x.kind = 1 := hsame.kind
    refine ⟨hx.num, hl, hx.kind0, hx.kind1, hx.head, by show 1 ≤ 64; omega, ?_⟩
    show x.head.size + slotSum [flipS s k] ≤ 485
    rw [hh]
    show 0 + _ ≤ _
    simp only [slotSum]
    omega

theorem turnO_sz (s : ByteArray) (k : Nat) : (turnO s k).S.size = 1 ∧ (turnO s k).old.size = 1 := ⟨rfl, rfl⟩

theorem turnO_inv (s : ByteArray) (k : Nat) : invO (turnO s k) = ⟨6, (atN k : Nat), one (bytN s (atN k)), one (bytN s (atN k) ^^^ pwN k)⟩ := rfl

theorem turnO_ichk (s : ByteArray) (k : Nat) (hk : k ≤ 2048) : chkB (invO (turnO s k)) = true := by
  rw [turnO_inv]
  have := atN_lt hk
  have h1 : (one (bytN s (atN k))).size = 1 := rfl
  have h2 : (one (bytN s (atN k) ^^^ pwN k)).size = 1 := rfl
  simp [chkB, mayB, h1, h2]
  omega

section
variable {w0 w : World} {m p lp z : Nat} {X : Int → Nat} {A0 : Nat → Prop} {d : DG} {M0 : MgG} {rs0 : List ByteArray} {n K0 F : Nat} {e0 : Prop} {D : Nat → Prop} {V V' : Nat → SheetV} {J : List ByteArray → Nat → List UpN → Prop} {L : List UpN}

set_option maxHeartbeats 6400000 in
set_option maxRecDepth 20000 in
theorem halloc_any (hJ : JOk n J) (h : GN w0 w m p X A0 lp z d M0 rs0 n K0 F 1 e0 D V J L) (hD : D 1) (s : ByteArray) (hV : V 1 = mapV 0 s) (hs : s.size = 256) (hr1 : 0 ≤ d.room) (hr2 : d.room ≤ 4611686018427387904) (k : Nat) (hk : freeF s (roomN d.room) 0 = k) (hk0 : k ≠ 0) (hk2 : k ≤ 2048) (hz : z ≤ 1000000) (hF : F + 238 ≤ 4194304) :
    Calls Tryz.prog 8 #[.pointer (some ⟨m, 0, none⟩), .int .i64 n] w fun e w' => e = .returned (.tuple #[.int .u32 k, .int .i64 0]) ∧ HdOut w0 w' m p X A0 lp z d M0 rs0 n K0 F D (flipV V s k) J L 1 (turnO s k) (invO (turnO s k)) := by
  obtain ⟨z1, z2⟩ := turnO_sz s k
  have HFP : Hid (Calls Tryz.prog 31 #[.pointer (some ⟨m, 0, none⟩)] w fun e w' => e = .returned (.tuple #[.int .u32 k, .agg (chgU 1 (turnO s k)).cells, .int .i64 0]) ∧ Below w.heap.size w w') := by
    obtain ⟨A, P, l, rs, t, ext, hM, hR, hG, hst, hq, hbF, hP, mv, hext, hlo, hj, he⟩ := h.ex
    obtain ⟨f, hf, hfit, hnum, hsame⟩ := hP.at' 1 hD
    rw [hV] at hsame
    have hsl : f.sh.slots = [s] := hsame.slots
    have hkd : f.sh.kind = 1 := hsame.kind
    have hs0 : slot0 f.sh = s := by unfold slot0; rw [hsl]; rfl
    have hb : isB f.sh = true := by
      unfold isB
      rw [decide_eq_true_eq]
      exact ⟨hkd, by rw [hsl]; rfl, by rw [hs0]; exact hs⟩
    have := hfree_any hM hf hfit hb hr1 hr2 k (by unfold takeN; rw [hs0]; exact hk) hk0
    rw [hs0] at this
    exact this
  have HDO : Hid (∀ wx g, Below w.heap.size w wx → BlkR wx g (chgU 1 (turnO s k)).cells 88 → Calls Tryz.prog 32 #[.pointer (some ⟨m, 0, none⟩), .int .i64 n, .slice (some ⟨g, 0, none⟩) 1 1] wx fun e w' => e = .returned (.int .i64 0) ∧ HdOut w0 w' m p X A0 lp z d M0 rs0 n K0 F D (flipV V s k) J L 1 (turnO s k) (invO (turnO s k))) := fun wx g b hg => by
    have hio : (invO (turnO s k)).Ok := inv_ok (turnO_ok s k hk2)
    have hic : chkB (invO (turnO s k)) = true := turnO_ichk s k hk2
    have his : (invO (turnO s k)).S.size + (invO (turnO s k)).old.size ≤ (turnO s k).S.size + (turnO s k).old.size := by rw [turnO_inv]; exact Nat.le_of_eq (Nat.add_comm _ _)
    exact hdo1_any hJ (h.below b) 1 (turnO s k) (invO (turnO s k)) (by omega) (by omega) (turnO_ok s k hk2) (turnO_chk s k hk2) hio hic his (turnO_does hD hV hs hk2) hz (by rw [z1, z2]; omega) g hg
  generalize turnO s k = o at HFP HDO ⊢
  have HCC : Hid ((chgU 1 o).cells = #[.int .u32 1, .int .i64 o.kind, .int .i64 o.at', .string o.S, .string o.old, .int .i64 1, .int .i64 0, .string ⟨#[]⟩, .int .u32 0, .int .i64 0, .bool false]) := rfl
  rw [HCC.out] at HFP
  clear hJ h hD hV hs hr1 hr2 hk hk0 hk2 hz hF z1 z2
  go_enter Tryz.func8, Tryz.ntmps8
  go_wp2_with fail
  refine HFP.out.mono ?_
  rintro e w1 ⟨rfl, b1⟩
  have HB1 := hidx b1
  clear HFP b1
  go_upto_region 4 with fail
  obtain ⟨W5, HW5⟩ : ∃ W', Hid (W' = w1.alloc (.cells #[.int .u32 1, .int .i64 o.kind, .int .i64 o.at', .string o.S, .string o.old, .int .i64 1, .int .i64 0, .string ⟨#[]⟩, .int .u32 0, .int .i64 0, .bool false] 88)) := ⟨_, rfl⟩
  have b5 : Below w1.heap.size w1 W5 := by rw [HW5.out]; exact (Below.refl _ _).alloc (Nat.le_refl _) _
  have x5 : BlkR W5 w1.heap.size (chgU 1 o).cells 88 := by rw [HW5.out]; exact heap_alloc_new w1 _
  have B5 := below_chain HB1.out b5
  have b6 : Below W5.heap.size W5 (W5.alloc (.cells #[.int .u32 1, .int .i64 o.kind, .int .i64 o.at', .string o.S, .string o.old, .int .i64 1, .int .i64 0, .string ⟨#[]⟩, .int .u32 0, .int .i64 0, .bool false] 88)) := (Below.refl _ _).alloc (Nat.le_refl _) _
  have HDD := hidx (HDO.out _ W5.heap.size (below_chain B5 b6) (heap_alloc_new W5 _))
  rw [← HW5.out]
  have c0 : W5.cell? ⟨w1.heap.size, 0, none⟩ = some (.int .u32 1) := BlkR.cell x5 0
  have c1 : W5.cell? ⟨w1.heap.size, 1, none⟩ = some (.int .i64 o.kind) := BlkR.cell x5 1
  have c2 : W5.cell? ⟨w1.heap.size, 2, none⟩ = some (.int .i64 o.at') := BlkR.cell x5 2
  have c3 : W5.cell? ⟨w1.heap.size, 3, none⟩ = some (.string o.S) := BlkR.cell x5 3
  have c4 : W5.cell? ⟨w1.heap.size, 4, none⟩ = some (.string o.old) := BlkR.cell x5 4
  have c5 : W5.cell? ⟨w1.heap.size, 5, none⟩ = some (.int .i64 1) := BlkR.cell x5 5
  have c6 : W5.cell? ⟨w1.heap.size, 6, none⟩ = some (.int .i64 0) := BlkR.cell x5 6
  have c7 : W5.cell? ⟨w1.heap.size, 7, none⟩ = some (.string ⟨#[]⟩) := BlkR.cell x5 7
  have c8 : W5.cell? ⟨w1.heap.size, 8, none⟩ = some (.int .u32 0) := BlkR.cell x5 8
  have c9 : W5.cell? ⟨w1.heap.size, 9, none⟩ = some (.int .i64 0) := BlkR.cell x5 9
  have c10 : W5.cell? ⟨w1.heap.size, 10, none⟩ = some (.bool false) := BlkR.cell x5 10
  clear x5 b5 HW5 B5 b6 HDO HB1
  generalize w1.heap.size = g5 at c0 c1 c2 c3 c4 c5 c6 c7 c8 c9 c10 ⊢
  go_wp2_with fail
  refine HDD.out.mono ?_
  rintro e w6 ⟨rfl, h6⟩
  have H6 := hidx h6
  clear HDD h6 c0 c1 c2 c3 c4 c5 c6 c7 c8 c9 c10
  go_wp2_with fail
  refine bodyPost_ret (v := .tuple #[.int .u32 k, .int .i64 0]) (by simp [results, Tryz.results8, go_sem]) rfl ?_
  exact ⟨rfl, H6.out⟩

end

end Go.Proofs.YtdhphbokkmofaaaGreat
