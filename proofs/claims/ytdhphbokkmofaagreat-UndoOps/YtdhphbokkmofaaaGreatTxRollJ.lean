/-
  The walk of (*txn.Manager).Rollback: any number of records, each taken back by what is asked.
-/
import Derived.Test.YtdhphbokkmofaaaGreatTxReadJ
set_option linter.unusedVariables false
set_option linter.unusedSimpArgs false
namespace Go.Proofs.YtdhphbokkmofaaaGreat
open Go.RowKit Go.Sort

structure RollOn (m : Nat) (n : Int) (fn : FuncId) (cap : Value) (r : RecV) (ta da : Option Addr) (tc dc : Nat) (at' : Nat) (w : World) (Q : World → Prop) : Prop where
  out : ∀ wy, wy = w.alloc (.cells (r.cells ta da tc dc) 54) → Calls Tryz.prog 101 #[.func (.func fn) #[] #[cap], .int .i64 n, .agg (r.cells ta da tc dc)] wy fun e w2 => e = .returned (.int .i64 0) ∧ BlkR w2 w.heap.size (r.cells ta da tc dc) 54 ∧
    Hid (Calls Tryz.prog 102 #[.pointer (some ⟨m, 0, none⟩), .int .i64 n, .int .u64 at', .int .u64 r.prev] w2 fun e w3 => e = .returned (.int .i64 0) ∧ Q w3)

structure RollNx (m : Nat) (n : Int) (to' : Nat) (fn : FuncId) (cap : Value) (Q : World → Prop) (e : Ending) (w' : World) : Prop where
  out : ∃ (r : RecV) (ta da : Option Addr) (tc dc at' : Nat), e = .returned (.tuple #[.agg (r.cells ta da tc dc), .int .u64 at', .int .i64 0]) ∧ to' < at' ∧ RollOn m n fn cap r ta da tc dc at' w' Q

structure RollEnd (to' : Nat) (R : World → Prop) (e : Ending) (w' : World) : Prop where
  out : ∃ (r : RecV) (ta da : Option Addr) (tc dc at' : Nat), e = .returned (.tuple #[.agg (r.cells ta da tc dc), .int .u64 at', .int .i64 0]) ∧ at' ≤ to' ∧ R (w'.alloc (.cells (r.cells ta da tc dc) 54))

set_option maxHeartbeats 6400000 in
set_option maxRecDepth 20000 in
theorem roll_any (m : Nat) (n : Int) (to' : Nat) (fn : FuncId) (cap : Value) (w : World) (fp : Addr) (k : Nat) (Q : Nat → World → Prop) (R : World → Prop)
    (hfind : Calls Tryz.prog 37 #[.pointer (some ⟨m, 0, none⟩), .int .i64 n] w fun r w' => r = .returned (.tuple #[.pointer (some fp), .int .i64 0]) ∧ w = w')
    (h0 : Q 0 w)
    (hstep : ∀ i, i < k → ∀ wx, Q i wx → Calls Tryz.prog 100 #[.pointer (some ⟨m, 0, none⟩), .int .i64 n] wx (RollNx m n to' fn cap (Q (i + 1))))
    (hend : ∀ wx, Q k wx → Calls Tryz.prog 100 #[.pointer (some ⟨m, 0, none⟩), .int .i64 n] wx (RollEnd to' R)) :
    Calls Tryz.prog 41 #[.pointer (some ⟨m, 0, none⟩), .int .i64 n, .int .u64 to', .func (.func fn) #[] #[cap]] w fun e w' => e = .returned (.int .i64 0) ∧ R w' := by
  have HFI := hidx hfind
  have HQ := hidx h0
  have HST := hidx hstep
  have HEN := hidx hend
  have hnf : ∀ wx : World, (binOp .eql 37 (.func (.func fn) #[] #[cap]) .nilFunc).run Tryz.prog wx = .ok (.bool false) wx := fun _ => rfl
  clear hfind h0 hstep hend
  go_enter Tryz.func41, Tryz.ntmps41
  go_wp2_with fail
  refine HFI.out.mono ?_
  rintro e w1 ⟨rfl, rfl⟩
  clear HFI
  go_wp2_with fail
  go_loopg [] k (fun g wr => ∃ i : Nat, i + g = k ∧ Hid (Q i wr))
  case atStart => exact ⟨0, by omega, HQ⟩
  case round =>
    obtain ⟨i, hi, HQi⟩ := hrel
    clear HQ
    by_cases hik : i < k
    · have HN := hidx (HST.out i hik _ HQi.out)
      go_wp2_with fail
      refine HN.out.mono ?_
      rintro e w1 ⟨⟨r, ta, da, tc, dc, at', rfl, hlt, HON⟩⟩
      clear HN HQi
      have HRC : Hid (r.cells ta da tc dc = #[.int .i64 r.kind, .int .i64 r.tx, .int .u64 r.prev, .int .u64 r.next, .int .u32 r.page, .int .i64 r.op.kind, .int .i64 r.op.at', .string r.op.S, .string r.op.old, .int .i64 r.undo, .int .i64 r.index, .string r.key, .int .u32 r.rpage, .int .i64 r.rslot, .bool r.live, .slice ta r.txs.length tc, .slice da r.dirty.length dc]) := rfl
      obtain ⟨W4, HW4⟩ : ∃ W', Hid (W' = w1.alloc (.cells (r.cells ta da tc dc) 54)) := ⟨_, rfl⟩
      have X4 : Hid (BlkR W4 w1.heap.size (r.cells ta da tc dc) 54) := by show BlkR _ _ _ _; rw [HW4.out]; exact Blk.made _ _ _
      have HAS := hidx (HON.out W4 HW4.out)
      have hlt' : (to' : Int) < (at' : Int) := by omega
      clear HON hlt
      rw [HRC.out]
      go_upto_region 7 with fail
      rw [← HRC.out, ← HW4.out]
      clear HW4
      go_upto_region 9 with fail
      refine wp_region_lit ?_
      refine wpList_plain rfl fun K hK => ?_
      go_simp
      refine hK _ _ ?_
      clear hK K
      refine wpList_plain rfl fun K hK => ?_
      go_simp
      refine hK _ _ ?_
      clear hK K
      refine wpList_loadRow rfl _ _ rfl w1.heap.size rfl (r.cells ta da tc dc) _ (0, 0) X4.out _ Tryz.underlying54 rfl (by kernel_rfl) ?_
      clear HRC
      go_wp2_with fail
      refine HAS.out.mono ?_
      rintro e w2 ⟨rfl, x2, HPS⟩
      have c2 : w2.cell? ⟨w1.heap.size, 2, none⟩ = some (.int .u64 r.prev) := x2.cell 2
      clear HAS X4 x2
      go_wp2_with fail
      refine HPS.out.mono ?_
      rintro e w3 ⟨rfl, hQ3⟩
      have HQ3 := hidx hQ3
      clear hQ3 HPS
      go_wp2_with fail
      go_roundg (k - (i + 1))
      case measure => omega
      case rel => exact ⟨i + 1, by omega, HQ3⟩
    · obtain rfl : i = k := by omega
      have HN := hidx (HEN.out _ HQi.out)
      go_wp2_with fail
      refine HN.out.mono ?_
      rintro e w1 ⟨⟨r, ta, da, tc, dc, at', rfl, hle, HR⟩⟩
      have HR' := hidx HR
      clear HN HQi HR
      have HRC : Hid (r.cells ta da tc dc = #[.int .i64 r.kind, .int .i64 r.tx, .int .u64 r.prev, .int .u64 r.next, .int .u32 r.page, .int .i64 r.op.kind, .int .i64 r.op.at', .string r.op.S, .string r.op.old, .int .i64 r.undo, .int .i64 r.index, .string r.key, .int .u32 r.rpage, .int .i64 r.rslot, .bool r.live, .slice ta r.txs.length tc, .slice da r.dirty.length dc]) := rfl
      obtain ⟨W4, HW4⟩ : ∃ W', Hid (W' = w1.alloc (.cells (r.cells ta da tc dc) 54)) := ⟨_, rfl⟩
      have hle' : (at' : Int) ≤ (to' : Int) := by omega
      rw [← HW4.out] at HR'
      clear hle
      rw [HRC.out]
      go_upto_region 7 with fail
      rw [← HRC.out, ← HW4.out]
      clear HW4 HRC
      go_wp2
      go_ret
      exact ⟨rfl, HR'.out⟩

end Go.Proofs.YtdhphbokkmofaaaGreat

namespace Go.Proofs.YtdhphbokkmofaaaGreat
open Go.RowKit Go.Sort

def abN (t : MtV) : Nat := wayN t 3 (owedN t.debts (standN t.debts t.next))
def abL (l : LG) (t : MtV) : LG := spendL l t (markS 5 t) (abN t)
def abT (l : LG) (t : MtV) : MtV := { spendT l t (markS 5 t) (abN t) with state := 3 }

structure EndOk (l : LG) (t : MtV) : Prop where
  tx : t.tx ≤ 2147483647
  last : t.last < 18446744073709551616
  kept : t.kept ≤ 10000000
  bytes : 25 + l.bytes.length ≤ 4194304
  starts : l.starts.length ≤ 10000000
  lkept : l.kept + (25 - t.kept) ≤ 4194304
  room : 25 ≤ t.kept ∨ l.kept + (25 - t.kept) + l.bytes.length ≤ 4194304

structure RollTo (m p : Nat) (X : Int → Nat) (n : Int) (A1 : Nat → Prop) (wx w' : World) (Z : PG → LG → DG → MgG → MtV → Prop) (P2 : PG) (l2 : LG) (d2 : DG) (M2 : MgG) (t2 : MtV) : Prop where
  sys : ∃ A2, MSys w' m p X A2 P2 l2 d2 M2 ∧ Moves A1 A2 wx w'
  get : M2.T n = some t2
  ok : EndOk l2 t2
  z : Z P2 l2 d2 M2 t2

structure AbortTo (m p : Nat) (X : Int → Nat) (n : Int) (A : Nat → Prop) (w w' : World) (Z : PG → LG → DG → MgG → MtV → Prop) : Prop where
  ex : ∃ A' P2 l2 d2 M2 t2, MSys w' m p X A' P2 (endL l2 t2) d2 (M2.gone n) ∧ Moves A A' w w' ∧ M2.T n = some t2 ∧ EndOk l2 t2 ∧ Z P2 l2 d2 M2 t2

section
variable {w : World} {m p : Nat} {X : Int → Nat} {A : Nat → Prop} {P : PG} {l : LG} {d : DG} {M : MgG} {Z : PG → LG → DG → MgG → MtV → Prop}

set_option maxHeartbeats 6400000 in
set_option maxRecDepth 20000 in
theorem abort_any (h : MSys w m p X A P l d M) (n : Int) (hn1 : -9223372036854775808 ≤ n) (hn2 : n ≤ 9223372036854775807) {t : MtV} (ht : M.T n = some t) (hst : t.state = 1) (fn : FuncId) (cap : Value) (htx : t.tx ≤ 2147483647) (hla : t.last < 18446744073709551616) (hr : RisesD t.debts) (hdl : t.debts.length ≤ 1000000) (hod : owedN t.debts (standN t.debts t.next) ≤ 9000000) (hk : t.kept ≤ 10000000) (hb : 25 + l.bytes.length ≤ 4194304) (hs : l.starts.length ≤ 10000000) (hl : l.kept + ((25 + abN t) - t.kept) ≤ 4194304) (hm : 25 + abN t ≤ t.kept ∨ l.kept + ((25 + abN t) - t.kept) + l.bytes.length ≤ 4194304)
    (hroll : ∀ wx A1, MSys wx m p X A1 P (abL l t) d (M.set n (abT l t)) → Moves A A1 w wx → Calls Tryz.prog 41 #[.pointer (some ⟨m, 0, none⟩), .int .i64 n, .int .u64 0, .func (.func fn) #[] #[cap]] wx fun e w' => e = .returned (.int .i64 0) ∧ ∃ P2 l2 d2 M2 t2, RollTo m p X n A1 wx w' Z P2 l2 d2 M2 t2) :
    Calls Tryz.prog 10 #[.pointer (some ⟨m, 0, none⟩), .int .i64 n, .func (.func fn) #[] #[cap]] w fun e w' => e = .returned (.int .i64 0) ∧ AbortTo m p X n A w w' Z := by
  have HFI := hidx (find_yes h n hn1 hn2 ht)
  obtain ⟨S, hT, hSA, _⟩ := h.tx ht
  have c1 : w.cell? ⟨X n, 1, none⟩ = some (.int .i64 1) := by have := hT.cells.c1; rw [hst] at this; exact this
  have c3 := hT.cells.c3
  obtain ⟨o, Ho⟩ : ∃ o, Hid (owedN t.debts (standN t.debts t.next) = o) := ⟨_, rfl⟩
  have Hn : Hid (abN t = wayN t 3 o) := by show abN t = _; unfold abN; rw [Ho.out]
  obtain ⟨lf, Hlf⟩ : ∃ lf, Hid (abN t = lf) := ⟨_, rfl⟩
  have ho9 : o ≤ 9000000 := by rw [← Ho.out]; exact hod
  have hlf : lf ≤ 10000000 := by
    rw [← Hlf.out, Hn.out]
    unfold wayN
    split
    · split <;> omega
    · omega
  have HOW : Hid (Calls Tryz.prog 40 #[.pointer (some ⟨X n, 0, none⟩), .int .u64 t.next] w fun r w' => r = .returned (.int .i64 o) ∧ w'.cell? ⟨X n, 3, none⟩ = some (.int .u64 t.next) ∧ Hid (Below w.heap.size w w')) := by
    have := owes_any hT hr (by omega) t.next
    rw [Ho.out] at this
    refine this.mono ?_
    rintro e w' ⟨rfl, b⟩
    have b' : Below w.heap.size w w' := b
    exact ⟨rfl, (b'.cell (p := ⟨X n, 3, none⟩) (World.block_lt_of_cell? _ _ c3)).trans c3, hidx b'⟩
  have HWB : Hid (∀ wx, Hid (Below w.heap.size w wx) → Calls Tryz.prog 39 #[.pointer (some ⟨X n, 0, none⟩), .int .i64 3, .int .i64 o] wx fun r w' => r = .returned (.int .i64 lf) ∧ wx = w') := fun wx bx => by
    obtain ⟨Sx, hTx, _, _⟩ := (h.below bx.out).tx ht
    have := wayBack_any hTx 3 o (by omega)
    rw [← Hn.out, Hlf.out] at this
    exact this
  have HMK : Hid (∀ wx, Hid (Below w.heap.size w wx) → Calls Tryz.prog 38 #[.pointer (some ⟨m, 0, none⟩), .pointer (some ⟨X n, 0, none⟩), .int .i64 5, .int .i64 lf] wx fun r w' => r = .returned (.tuple #[.int .u64 ((l.bytes.length + 1 : Nat) : Int), .int .i64 0]) ∧ w'.cell? ⟨X n, 3, none⟩ = some (.int .u64 t.next) ∧ Hid (∃ A', MSys w' m p X A' P (spendL l t (markS 5 t) lf) d (M.set n (spendT l t (markS 5 t) lf)) ∧ Moves A A' w w')) := fun wx bx => by
    refine (mark_any (h.below bx.out) ht 5 (by omega) lf htx hla hlf hk hb hs (by rw [← Hlf.out]; exact hl) (by rw [← Hlf.out]; exact hm)).mono ?_
    rintro e w' ⟨rfl, A', k1, k2⟩
    obtain ⟨Sx, hTx, _, _⟩ := k1.tx (MgG.set_get M n (spendT l t (markS 5 t) lf))
    exact ⟨rfl, hTx.cells.c3, hidx ⟨A', k1, (Moves.of_kept (Kept.of_below bx.out)).trans k2⟩⟩
  have HRO : Hid (∀ wx A1, MSys wx m p X A1 P (spendL l t (markS 5 t) lf) d (M.set n { spendT l t (markS 5 t) lf with state := 3 }) → Moves A A1 w wx → Calls Tryz.prog 41 #[.pointer (some ⟨m, 0, none⟩), .int .i64 n, .int .u64 0, .func (.func fn) #[] #[cap]] wx fun e w' => e = .returned (.int .i64 0) ∧ ∃ P2 l2 d2 M2 t2, RollTo m p X n A1 wx w' Z P2 l2 d2 M2 t2) := by
    have := hroll
    unfold abL abT at this
    rw [Hlf.out] at this
    exact this
  obtain ⟨t1, Ht1⟩ : ∃ q, Hid (spendT l t (markS 5 t) lf = q) := ⟨_, rfl⟩
  obtain ⟨l1, Hl1⟩ : ∃ q, Hid (spendL l t (markS 5 t) lf = q) := ⟨_, rfl⟩
  rw [Ht1.out, Hl1.out] at HMK HRO
  have Hst1 : Hid (t1.state = 1) := by show t1.state = 1; rw [← Ht1.out]; exact hst
  clear h ht hT hSA hst htx hla hr hdl hod hk hb hs hl hm hroll Ho Hn Hlf Ht1 Hl1
  have hnf : ∀ wx : World, (binOp .eql 37 (.func (.func fn) #[] #[cap]) .nilFunc).run Tryz.prog wx = .ok (.bool false) wx := fun _ => rfl
  go_enter Tryz.func10, Tryz.ntmps10
  go_wp2_with fail
  refine HFI.out.mono ?_
  rintro e w1 ⟨rfl, rfl⟩
  clear HFI
  go_wp2_with fail
  refine HOW.out.mono ?_
  rintro x w3 ⟨rfl, c3', b3⟩
  have hwo : IntKind.i64.wrap (o : Int) = (o : Int) := by rw [IntKind.wrap_i64]; omega
  go_wp2_with fail
  refine (HWB.out _ b3).mono ?_
  rintro x w4 ⟨rfl, rfl⟩
  clear hwo
  go_wp2_with fail
  refine (HMK.out _ b3).mono ?_
  rintro x w5 ⟨rfl, c3'', HF⟩
  obtain ⟨A5, g5, mv5⟩ := HF.out
  obtain ⟨S5, hT5, _, step5⟩ := g5.tx (MgG.set_get M n t1)
  have d1 := hT5.cells.c1
  have f1 := hT5.cells.fr 1
  obtain ⟨q1, q2⟩ := hT5.put (t' := { t1 with state := 3 }) 1 (.int .i64 3) rfl (fun dv => rfl)
  obtain ⟨A6, g6, mv6⟩ := step5 _ _ _ q1 rfl q2
  rw [MgG.set_set] at g6
  obtain ⟨W6, HW6⟩ : ∃ W', Hid (W' = w5.setCell ⟨X n, 1, none⟩ (.int .i64 3)) := ⟨_, rfl⟩
  rw [← HW6.out] at g6 mv6
  have MV6 := hidx (mv5.trans mv6)
  have HR6 := hidx (HRO.out W6 A6 g6 MV6.out)
  clear HF g5 mv5 hT5 step5 q1 q2 g6 mv6 HRO HMK HWB HOW c3 c3' c3'' c1
  go_upto_region 13 with fail
  rw [← HW6.out]
  clear HW6 d1 f1
  go_wp2_with fail
  refine HR6.out.mono ?_
  rintro e w7 ⟨rfl, P2, l2, d2, M2, t2, hRT⟩
  obtain ⟨A7, g7, mv7⟩ := hRT.sys
  have HRT := hidx hRT
  have MV7 := hidx (MV6.out.trans mv7)
  have HF7 := hidx (find_yes g7 n hn1 hn2 hRT.get)
  have HE7 := hidx (mend_any g7 hn1 hn2 hRT.get hRT.ok.tx hRT.ok.last hRT.ok.kept hRT.ok.bytes hRT.ok.starts hRT.ok.lkept hRT.ok.room)
  clear HR6 g7 mv7 MV6 hRT
  go_wp2_with fail
  refine HF7.out.mono ?_
  rintro e w8 ⟨rfl, rfl⟩
  go_wp2_with fail
  refine HE7.out.mono ?_
  rintro e w9 ⟨rfl, A9, g9, mv9⟩
  have HF9 : Hid (AbortTo m p X n A w w9 Z) := hidx ⟨A9, P2, l2, d2, M2, t2, g9, MV7.out.trans mv9, HRT.out.get, HRT.out.ok, HRT.out.z⟩
  clear g9 mv9 HE7 HF7 HRT
  go_wp2
  go_ret
  exact ⟨rfl, HF9.out⟩

end

end Go.Proofs.YtdhphbokkmofaaaGreat
