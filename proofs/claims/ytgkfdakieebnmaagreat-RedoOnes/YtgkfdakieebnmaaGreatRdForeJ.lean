/-
  What a pool tells of its disk, its log and its frames; the walk of (redo.ahead).get.
-/
import Derived.Test.YtgkfdakieebnmaaGreatRdOneC
import Derived.Deep.MidRow
set_option linter.unusedVariables false
set_option linter.unusedSimpArgs false
namespace Go.Proofs.YtgkfdakieebnmaaGreat
open Go.RowKit Go.Sort Go.Shelf Go.Lib

theorem rdisk_any (w : World) (p dp : Nat) (h0 : w.cell? ⟨p, 0, none⟩ = some (.pointer (some ⟨dp, 0, none⟩))) :
    Calls Tryz.prog 99 #[.pointer (some ⟨p, 0, none⟩)] w fun r w' => r = .returned (.pointer (some ⟨dp, 0, none⟩)) ∧ w' = w := by
  go_enter Tryz.func99, Tryz.ntmps99
  go_wp2_with fail
  go_ret
  exact ⟨rfl, rfl⟩

theorem rlog_any (w : World) (p lp : Nat) (h0 : w.cell? ⟨p, 1, none⟩ = some (.pointer (some ⟨lp, 0, none⟩))) :
    Calls Tryz.prog 40 #[.pointer (some ⟨p, 0, none⟩)] w fun r w' => r = .returned (.pointer (some ⟨lp, 0, none⟩)) ∧ w' = w := by
  go_enter Tryz.func40, Tryz.ntmps40
  go_wp2_with fail
  go_ret
  exact ⟨rfl, rfl⟩

theorem PoAt.pcell {w W : World} {A : Nat → Prop} {p q pp : Nat} {S : Nat → Prop} {P : PG} (h : PoAt w W A p q pp S P) : W.cell? ⟨pp, 0, none⟩ = some (.pointer (some ⟨p, 0, none⟩)) ∧ W.cell? ⟨pp, 1, none⟩ = some (.pointer (some ⟨q, 0, none⟩)) ∧ pp < W.heap.size := by
  obtain ⟨fb, pv, M, hP⟩ := h.pool
  have c := hP.cells
  exact ⟨by rw [← h.dp]; exact c.c0, by rw [← h.lp]; exact c.c1, hP.lt pp hP.sp⟩

set_option maxHeartbeats 1600000 in
set_option maxRecDepth 60000 in
theorem rhas_no {w W : World} {A : Nat → Prop} {p q pp : Nat} {S : Nat → Prop} {P : PG} (h : PoAt w W A p q pp S P) (n : Nat) (hn : n < 4294967296) (hF : P.F n = none) :
    Calls Tryz.prog 198 #[.pointer (some ⟨pp, 0, none⟩), .int .u32 n] W fun r w' => r = .returned (.bool false) ∧ Below W.heap.size W w' := by
  obtain ⟨fb, pv, M, hP⟩ := h.pool
  have hlk := (hP.look hn).1 hF
  have c3 := hP.cells.c3
  have HB : Hid (Below W.heap.size W W) := Below.refl _ _
  unfold zeroF at hlk
  clear hP
  go_enter Tryz.func198, Tryz.ntmps198
  go_wp2_with fail
  go_ret
  exact ⟨rfl, HB.out.alloc (Nat.le_refl _) _⟩

def ahVal (pp rp mb : Nat) : Value := .agg #[.pointer (some ⟨pp, 0, none⟩), .pointer (some ⟨rp, 0, none⟩), .map (some mb)]

def zeroSh : Value := .agg #[.int .u32 0, .int .u64 0, .int .i64 0, .string ⟨#[]⟩, .slice none 0 0]

def NoSh (W : World) (mb : Nat) : Prop := MapV 49 W mb 0 (.map [])

theorem NoSh.look {W : World} {mb : Nat} (h : NoSh W mb) (n : Nat) (hn : n < 4294967296) : (Instr.lookup 180 (.map (some mb)) (.int .u32 n) true).run Tryz.prog W = .ok (.tuple #[zeroSh, .bool false]) W := by
  have hr := MapV.lookOk (e := 52) h pageKeyed Tryz.underlying180 (z := zeroSh) (Tryz.zeroValue52 W) (apkey_key hn)
  rw [hr]
  rw [getV_none (show Maps.has (.map []) (apkey (n : Int)) = false from rfl)]
  rfl

end Go.Proofs.YtgkfdakieebnmaaGreat

namespace Go.Proofs.YtgkfdakieebnmaaGreat
open Go.RowKit Go.Sort Go.Shelf Go.Lib

structure AhAt (w W : World) (p q : Nat) (A : Nat → Prop) (l : LG) (d : DG) (rs : List ByteArray) (sure j pp : Nat) (S : Nat → Prop) (P : PG) (rp : Nat) (S2 : Nat → Prop) (P2 : PG) : Prop where
  rd : RdS w W p q A l d rs sure j
  po : PoAt w W A p q pp S P
  re : PoAt w W A p q rp S2 P2
  off : ∀ k, S k → ¬ S2 k

section
variable {w W W' : World} {p q pp rp : Nat} {A A' S S2 S' : Nat → Prop} {l : LG} {d : DG} {rs : List ByteArray} {sure j : Nat} {P P2 P' : PG}

theorem AhAt.below (h : AhAt w W p q A l d rs sure j pp S P rp S2 P2) (k : Below W.heap.size W W') : AhAt w W' p q A l d rs sure j pp S P rp S2 P2 :=
  ⟨h.rd.below k, h.po.below k, h.re.below k, h.off⟩

theorem AhAt.step (h : AhAt w W p q A l d rs sure j pp S P rp S2 P2) (s : Stp w W W' p q rp A S2 l d rs sure j P') : ∃ A' S', AhAt w W' p q A' l d rs sure j pp S P rp S' P' ∧ Moves (fun k => S2 k ∨ A k) (fun k => S' k ∨ A' k) W W' := by
  obtain ⟨A', S', h1, h2, hm⟩ := s
  obtain ⟨h3, h4⟩ := h.po.beside h.off hm
  exact ⟨A', S', ⟨h1, h3, h2, h4⟩, hm⟩

end

section
variable {w W W' : World} {p q pp : Nat} {A S T : Nat → Prop} {l : LG} {d : DG} {rs : List ByteArray} {sure j : Nat} {P : PG}

theorem RdS.kept (h : RdS w W p q A l d rs sure j) (k : Kept T W W') (hT : ∀ i, T i → ¬ A i ∧ w.heap.size ≤ i) : RdS w W' p q A l d rs sure j := by
  have hlt := fun i (x : A i) => h.lt x
  obtain ⟨hb, ⟨S0, D, hw, hA⟩, hlo, hbr⟩ := h
  have hk : ∀ i, A i → W'.heap[i]? = W.heap[i]? := fun i x => k.block i (hlt i x) fun y => (hT i y).1 x
  exact ⟨below_kept hb k fun i x => (hT i x).2, ⟨S0, D, ⟨hw.log.same (fun i x => hk i ((hA i).2 (.inl x))) k.size, hw.disk.same (fun i x => hk i ((hA i).2 (.inr x))) k.size, hw.dp, hw.off, hw.bytes, hw.recs, hw.half, hw.keeps, hw.fits, hw.sz, hw.cnt, hw.su, hw.fl, hw.dlog, hw.dead, hw.plan, hw.calls, hw.ok, hw.loose, hw.sl, hw.nS, hw.mrk, hw.sm, hw.mkp, hw.mz⟩, hA⟩, hlo, hbr⟩
theorem PoAt.kept (h : PoAt w W A p q pp S P) (k : Kept T W W') (hT : ∀ i, T i → ¬ S i) : PoAt w W' A p q pp S P :=
  ⟨h.pool.same (fun i x => k.block i (h.pool.lt x) fun y => hT i y x) k.size, h.dp, h.lp, h.off, h.lo⟩

end

structure AgOut (w W : World) (p q : Nat) (A : Nat → Prop) (l : LG) (d : DG) (rs : List ByteArray) (sure j rp : Nat) (S2 : Nat → Prop) (P2 : PG) (n : Nat) (e : Ending) (w' : World) : Prop where
  ex : ∃ a c, e = .returned (.tuple #[(shOf P2 n).val a c, .int .i64 0]) ∧ StrsAt w' a (shOf P2 n).slots ∧ Stp w W w' p q rp A S2 l d rs sure j (ofG P2 n)

set_option maxHeartbeats 6400000 in
set_option maxRecDepth 20000 in
theorem ahget_any {w W : World} {p q pp rp mb : Nat} {A S S2 : Nat → Prop} {l : LG} {d : DG} {rs : List ByteArray} {sure j : Nat} {P P2 : PG} (h : AhAt w W p q A l d rs sure j pp S P rp S2 P2) (hmb : NoSh W mb) (n : Nat) (h1 : 1 ≤ n) (h2 : n ≤ 64) (hF : P.F n = none) (hz : P2.F n = none → P2.z < P2.most) (hm : P2.most ≤ 256) (hf : P2.fetched ≤ 100000) :
    Calls Tryz.prog 152 #[ahVal pp rp mb, .int .u32 n] W (AgOut w W p q A l d rs sure j rp S2 P2 n) := by
  unfold ahVal
  obtain ⟨W1, HW1⟩ : ∃ W1, Hid (W1 = (W.alloc (.cells #[.pointer (some ⟨pp, 0, none⟩), .pointer (some ⟨rp, 0, none⟩), .map (some mb)] 182)).alloc (.cells #[.int .u32 0, .int .u64 0, .int .i64 0, .string ⟨#[]⟩, .slice none 0 0] 52)) := ⟨_, rfl⟩
  have b1 : Below W.heap.size W W1 := by rw [HW1.out]; exact ((Below.refl _ _).alloc (Nat.le_refl _) _).alloc (by simp) _
  have hA1 : Blk W1 W.heap.size #[.pointer (some ⟨pp, 0, none⟩), .pointer (some ⟨rp, 0, none⟩), .map (some mb)] 182 := by
    rw [HW1.out]
    have k1 : Blk (W.alloc (.cells #[.pointer (some ⟨pp, 0, none⟩), .pointer (some ⟨rp, 0, none⟩), .map (some mb)] 182)) W.heap.size #[.pointer (some ⟨pp, 0, none⟩), .pointer (some ⟨rp, 0, none⟩), .map (some mb)] 182 := Blk.made _ _ _
    exact k1.same (((Below.refl _ _).alloc (Nat.le_refl _) _).block _ k1.lt)
  have hR1 : Blk W1 (W.heap.size + 1) #[.int .u32 0, .int .u64 0, .int .i64 0, .string ⟨#[]⟩, .slice none 0 0] 52 := by
    rw [HW1.out]
    have k1 := Blk.made (W.alloc (.cells #[.pointer (some ⟨pp, 0, none⟩), .pointer (some ⟨rp, 0, none⟩), .map (some mb)] 182)) #[.int .u32 0, .int .u64 0, .int .i64 0, .string ⟨#[]⟩, .slice none 0 0] 52
    rw [show (W.alloc (.cells #[.pointer (some ⟨pp, 0, none⟩), .pointer (some ⟨rp, 0, none⟩), .map (some mb)] 182)).heap.size = W.heap.size + 1 by simp] at k1
    exact k1
  have hlk : (Instr.lookup 180 (.map (some mb)) (.int .u32 n) true).run Tryz.prog W1 = .ok (.tuple #[.agg #[.int .u32 0, .int .u64 0, .int .i64 0, .string ⟨#[]⟩, .slice none 0 0], .bool false]) W1 := (show NoSh W1 mb from MapV.same hmb (b1.block _ (MapV.lt hmb))).look n (by omega)
  have H1 := hida (show AhAt w W1 p q A l d rs sure j pp S P rp S2 P2 ∧ Below W.heap.size W W1 ∧ Blk W1 W.heap.size #[.pointer (some ⟨pp, 0, none⟩), .pointer (some ⟨rp, 0, none⟩), .map (some mb)] 182 ∧ Blk W1 (W.heap.size + 1) #[.int .u32 0, .int .u64 0, .int .i64 0, .string ⟨#[]⟩, .slice none 0 0] 52 from ⟨h.below b1, b1, hA1, hR1⟩)
  have HLT := hida (show (∀ k, S2 k ∨ A k → k < W.heap.size) from fun k x => by
    rcases x with x | x
    · exact h.re.pool.lt x
    · exact h.rd.lt x)
  have m2 : W1.cell? ⟨W.heap.size, 2, none⟩ = some (.map (some mb)) := hA1.cell 2
  have HZ := hida hz
  have HLW := hida h.rd.bel.size
  clear b1 hA1 hR1 h hmb hz
  go_enter Tryz.func152, Tryz.ntmps152
  go_upto_region 1 with fail
  rw [← HW1.out]
  clear HW1
  obtain ⟨W2, HW2⟩ : ∃ W2, Hid (W2 = W1.alloc (.cells #[.int .u32 0, .int .u64 0, .int .i64 0, .string ⟨#[]⟩, .slice none 0 0] 52)) := ⟨_, rfl⟩
  have b2 : Below W1.heap.size W1 W2 := by rw [HW2.out]; exact (Below.refl _ _).alloc (Nat.le_refl _) _
  have H2 := hida (show AhAt w W2 p q A l d rs sure j pp S P rp S2 P2 ∧ Below W.heap.size W W2 ∧ Blk W2 W.heap.size #[.pointer (some ⟨pp, 0, none⟩), .pointer (some ⟨rp, 0, none⟩), .map (some mb)] 182 ∧ Blk W2 (W.heap.size + 1) #[.int .u32 0, .int .u64 0, .int .i64 0, .string ⟨#[]⟩, .slice none 0 0] 52 from ⟨H1.out.1.below b2, below_chain H1.out.2.1 b2, H1.out.2.2.1.same (b2.block _ H1.out.2.2.1.lt), H1.out.2.2.2.same (b2.block _ H1.out.2.2.2.lt)⟩)
  clear b2 H1
  go_upto_region 2 with fail
  rw [← HW2.out]
  clear HW2 hlk m2
  have HHA := hida (rhas_no H2.out.1.po n (by omega) hF)
  have m0 : W2.cell? ⟨W.heap.size, 0, none⟩ = some (.pointer (some ⟨pp, 0, none⟩)) := H2.out.2.2.1.cell 0
  go_wp2_with fail
  refine HHA.out.mono ?_
  rintro e w3 ⟨rfl, b3⟩
  have H3 := hida (show AhAt w w3 p q A l d rs sure j pp S P rp S2 P2 ∧ Below W.heap.size W w3 ∧ Blk w3 W.heap.size #[.pointer (some ⟨pp, 0, none⟩), .pointer (some ⟨rp, 0, none⟩), .map (some mb)] 182 ∧ Blk w3 (W.heap.size + 1) #[.int .u32 0, .int .u64 0, .int .i64 0, .string ⟨#[]⟩, .slice none 0 0] 52 from ⟨H2.out.1.below b3, below_chain H2.out.2.1 b3, H2.out.2.2.1.same (b3.block _ H2.out.2.2.1.lt), H2.out.2.2.2.same (b3.block _ H2.out.2.2.2.lt)⟩)
  clear HHA H2 b3 m0
  have m1 : w3.cell? ⟨W.heap.size, 1, none⟩ = some (.pointer (some ⟨rp, 0, none⟩)) := H3.out.2.2.1.cell 1
  have HGE := hida (rd_get H3.out.1.rd H3.out.1.re n h1 h2 HZ.out hm hf)
  go_wp2_with fail
  refine HGE.out.mono ?_
  rintro e w4 ⟨a, c, rfl, hst, A4, S4, r4, p4, mv4⟩
  obtain ⟨x, hx⟩ : ∃ x, shOf P2 n = x := ⟨_, rfl⟩
  rw [hx] at hst ⊢
  have hres : Blk w4 (W.heap.size + 1) #[.int .u32 0, .int .u64 0, .int .i64 0, .string ⟨#[]⟩, .slice none 0 0] 52 := H3.out.2.2.2.same (mv4.1.block _ H3.out.2.2.2.lt fun y => by have := HLT.out _ y; omega)
  have H4 := hida (show RdS w w4 p q A4 l d rs sure j ∧ PoAt w w4 A4 p q rp S4 (ofG P2 n) ∧ Moves (fun k => S2 k ∨ A k) (fun k => S4 k ∨ A4 k) W w4 ∧ Blk w4 (W.heap.size + 1) #[.int .u32 0, .int .u64 0, .int .i64 0, .string ⟨#[]⟩, .slice none 0 0] 52 ∧ StrsFrom w3.heap.size w4 a x.slots ∧ W.heap.size + 1 < w3.heap.size from ⟨r4, p4, (Moves.of_kept (Kept.of_below H3.out.2.1)).trans mv4, hres, hst, H3.out.2.2.2.lt⟩)
  have HNO := hida (show ¬ (S4 (W.heap.size + 1) ∨ A4 (W.heap.size + 1)) from fun y => by
    rcases mv4.2 _ y with z | z
    · have := HLT.out _ z; omega
    · have := H3.out.2.2.2.lt; omega)
  clear HGE H3 hst r4 p4 mv4 hres m1
  have z0 := H4.out.2.2.2.1.frozen 0
  have z1 := H4.out.2.2.2.1.frozen 1
  have z2 := H4.out.2.2.2.1.frozen 2
  have z3 := H4.out.2.2.2.1.frozen 3
  have z4 := H4.out.2.2.2.1.frozen 4
  have y0 : w4.cell? ⟨W.heap.size + 1, 0, none⟩ = some (.int .u32 0) := H4.out.2.2.2.1.cell 0
  have y1 : w4.cell? ⟨W.heap.size + 1, 1, none⟩ = some (.int .u64 0) := H4.out.2.2.2.1.cell 1
  have y2 : w4.cell? ⟨W.heap.size + 1, 2, none⟩ = some (.int .i64 0) := H4.out.2.2.2.1.cell 2
  have y3 : w4.cell? ⟨W.heap.size + 1, 3, none⟩ = some (.string ⟨#[]⟩) := H4.out.2.2.2.1.cell 3
  have y4 : w4.cell? ⟨W.heap.size + 1, 4, none⟩ = some (.slice none 0 0) := H4.out.2.2.2.1.cell 4
  rw [show x.val a c = .agg #[.int .u32 x.num, .int .u64 x.lsn, .int .i64 x.kind, .string x.head, .slice a x.slots.length c] from rfl]
  obtain ⟨WX, HWX⟩ : ∃ WX, Hid (fset5 w4 (W.heap.size + 1) (.int .u32 x.num) (.int .u64 x.lsn) (.int .i64 x.kind) (.string x.head) (.slice a x.slots.length c) = WX) := ⟨_, rfl⟩
  have HFI := hida (show Blk WX (W.heap.size + 1) #[.int .u32 x.num, .int .u64 x.lsn, .int .i64 x.kind, .string x.head, .slice a x.slots.length c] 52 ∧ Kept (fun k => k = W.heap.size + 1) w4 WX from by
    rw [← HWX.out]
    exact ⟨fset5_blk H4.out.2.2.2.1 _ _ _ _ _, fset5_kept _ _ _ _ _ _ _⟩)
  go_wp2_with fail
  rw [show (((((w4.setCell ⟨W.heap.size + 1, 0, none⟩ (.int .u32 x.num)).setCell ⟨W.heap.size + 1, 1, none⟩ (.int .u64 x.lsn)).setCell ⟨W.heap.size + 1, 2, none⟩ (.int .i64 x.kind)).setCell ⟨W.heap.size + 1, 3, none⟩ (.string x.head)).setCell ⟨W.heap.size + 1, 4, none⟩ (.slice a x.slots.length c)) = WX from HWX.out]
  have t0 : WX.cell? ⟨W.heap.size + 1, 0, none⟩ = some (.int .u32 (x.num : Nat)) := HFI.out.1.cell 0
  have t1 : WX.cell? ⟨W.heap.size + 1, 1, none⟩ = some (.int .u64 (x.lsn : Nat)) := HFI.out.1.cell 1
  have t2 : WX.cell? ⟨W.heap.size + 1, 2, none⟩ = some (.int .i64 x.kind) := HFI.out.1.cell 2
  have t3 : WX.cell? ⟨W.heap.size + 1, 3, none⟩ = some (.string x.head) := HFI.out.1.cell 3
  have t4 : WX.cell? ⟨W.heap.size + 1, 4, none⟩ = some (.slice a x.slots.length c) := HFI.out.1.cell 4
  refine bodyPost_ret (v := .tuple #[.agg #[.int .u32 x.num, .int .u64 x.lsn, .int .i64 x.kind, .string x.head, .slice a x.slots.length c], .int .i64 0]) (by simp [results, Tryz.results152, go_sem, t0, t1, t2, t3, t4]) rfl ?_
  have hk : ∀ k, S4 k ∨ A4 k → WX.heap[k]? = w4.heap[k]? := fun k y => HFI.out.2.block k (by
    rcases y with y | y
    · exact H4.out.2.1.pool.lt y
    · exact H4.out.1.lt y) fun e => HNO.out (by rw [← e]; exact y)
  refine ⟨a, c, by rw [hx]; rfl, ?_, ?_⟩
  · rw [hx]
    rcases H4.out.2.2.2.2.1 with hh | ⟨b, o, e, g1, g2, g3⟩
    · exact .inl hh
    · exact .inr ⟨b, o, e, Nat.lt_of_lt_of_le g2 HFI.out.2.size, fun i hi => (World.cell?_of_block (w := w4) (a := ⟨b, o + i, none⟩) (HFI.out.2.block b g2 (by have := H4.out.2.2.2.2.2; omega))).trans (g3 i hi)⟩
  · exact ⟨A4, S4, H4.out.1.kept HFI.out.2 fun i e => by subst e; exact ⟨fun y => HNO.out (.inr y), by have := H4.out.1.bel.size; have := HLW.out; omega⟩, H4.out.2.1.kept HFI.out.2 fun i e y => by subst e; exact HNO.out (.inl y), H4.out.2.2.1.late HFI.out.2 fun i e => by subst e; omega⟩

end Go.Proofs.YtgkfdakieebnmaaGreat

namespace Go.Proofs.YtgkfdakieebnmaaGreat
open Go.RowKit Go.Sort Go.Shelf Go.Lib

def plArr (at' : Nat) (r : RecV) (ta da : Option Addr) (tc dc : Nat) : Array Value := #[.int .u64 (at' : Nat), .int .i64 r.kind, .int .i64 r.tx, .int .u64 r.prev, .int .u64 r.next, .int .u32 r.page, .int .i64 r.op.kind, .int .i64 r.op.at', .string r.op.S, .string r.op.old, .int .i64 r.undo, .int .i64 r.index, .string r.key, .int .u32 r.rpage, .int .i64 r.rslot, .bool r.live, .slice ta r.txs.length tc, .slice da r.dirty.length dc]

theorem wpList_load_midR {P : Program} {ops : Array Oper} {rest : List Oper} {op : Oper} {a : Act} {w : World} {Q : Exit → Act → World → Prop} (hgd : op.guard = none) (ty : TypeId) (x : Operand) (ho : op.op = .load ty x)
    (b o : Nat) (hx : a.eval x = .pointer (some ⟨b, o, none⟩)) (cs : Array Value) (d : TypeDesc) (hc : w.rangeAt b o cs.toList)
    (hu : P.underlying ty = some d) (hd : d.isRow = true) (hi : (P.info? ty).map (·.size) = some cs.size)
    (h : wpList P ops Q rest (a.put op.dst (.agg cs)) w) : wpList P ops Q (op :: rest) a w := by
  refine wpList_load_mid hgd ty x ho b o hx cs.toList d hc hu hd (by simpa using hi) ?_
  rw [Array.toArray_toList]
  exact h

theorem pl_row {w : World} {b at' : Nat} {r : RecV} {ta da : Option Addr} {tc dc : Nat} {t : TypeId} (h : Blk w b (plArr at' r ta da tc dc) t) : w.rangeAt b 1 (r.cells ta da tc dc).toList := fun j v hv => by
  have e : (plArr at' r ta da tc dc)[1 + j]? = (r.cells ta da tc dc)[j]? := by
    rw [← Array.getElem?_toList, ← Array.getElem?_toList, show (plArr at' r ta da tc dc).toList = .int .u64 (at' : Nat) :: (r.cells ta da tc dc).toList from rfl, Nat.add_comm, List.getElem?_cons_succ]
  rw [Array.getElem?_toList] at hv
  exact (h.cell (1 + j)).trans (e.trans hv)

theorem two_boxes (w : World) (c1 c2 : Array Value) (s1 s2 : TypeId) : Blk ((w.alloc (.cells c1 s1)).alloc (.cells c2 s2)) w.heap.size c1 s1 ∧ Blk ((w.alloc (.cells c1 s1)).alloc (.cells c2 s2)) (w.heap.size + 1) c2 s2 ∧ Below w.heap.size w ((w.alloc (.cells c1 s1)).alloc (.cells c2 s2)) := by
  have s1' : (w.alloc (.cells c1 s1)).heap.size = w.heap.size + 1 := by simp
  have h1 : Blk (w.alloc (.cells c1 s1)) w.heap.size c1 s1 := Blk.made _ _ _
  have b1 : Below (w.alloc (.cells c1 s1)).heap.size (w.alloc (.cells c1 s1)) ((w.alloc (.cells c1 s1)).alloc (.cells c2 s2)) := (Below.refl _ _).alloc (Nat.le_refl _) _
  refine ⟨h1.same (b1.block _ h1.lt), ?_, below_chain ((Below.refl _ _).alloc (Nat.le_refl _) _) b1⟩
  rw [← s1']
  exact Blk.made _ _ _

set_option maxHeartbeats 6400000 in
set_option maxRecDepth 20000 in
theorem ahone_any {w W : World} {p q pp rp mb : Nat} {A S S2 : Nat → Prop} {l : LG} {d : DG} {rs : List ByteArray} {sure j : Nat} {P P2 : PG} (h : AhAt w W p q A l d rs sure j pp S P rp S2 P2) (hmb : NoSh W mb) (hmo : ¬ (S mb ∨ S2 mb ∨ A mb) ∧ w.heap.size ≤ mb) (r : RecV) (ta da : Option Addr) (tc dc at' : Nat) (h1 : 1 ≤ r.page) (h2 : r.page ≤ 64) (hF : P.F r.page = none) (hz : P2.F r.page = none → P2.z < P2.most) (hm : P2.most ≤ 256) (hf : P2.fetched ≤ 100000)
    {y : SheetV} (hA : ApplyIs (shOf P2 r.page) r.op 0 y) (hfit : (shOf P2 r.page).Fits) (hls : (shOf P2 r.page).lsn < at') :
    Calls Tryz.prog 100 #[ahVal pp rp mb, .agg (plArr at' r ta da tc dc)] W fun e w' => e = .returned (.int .i64 0) ∧ ∃ A' S2' P2', AhAt w w' p q A' l d rs sure j pp S P rp S2' P2' ∧ ∀ k, k < W.heap.size → ¬ A k → ¬ S2 k → k ≠ mb → w'.heap[k]? = W.heap[k]? := by
  obtain ⟨W1, HW1⟩ : ∃ W1, Hid (W1 = (W.alloc (.cells #[.pointer (some ⟨pp, 0, none⟩), .pointer (some ⟨rp, 0, none⟩), .map (some mb)] 182)).alloc (.cells (plArr at' r ta da tc dc) 178)) := ⟨_, rfl⟩
  have H1 := hida (show Blk W1 W.heap.size #[.pointer (some ⟨pp, 0, none⟩), .pointer (some ⟨rp, 0, none⟩), .map (some mb)] 182 ∧ Blk W1 (W.heap.size + 1) (plArr at' r ta da tc dc) 178 ∧ Below W.heap.size W W1 from by rw [HW1.out]; exact two_boxes _ _ _ _ _)
  have HPA : Hid (plArr at' r ta da tc dc = #[.int .u64 (at' : Nat), .int .i64 r.kind, .int .i64 r.tx, .int .u64 r.prev, .int .u64 r.next, .int .u32 r.page, .int .i64 r.op.kind, .int .i64 r.op.at', .string r.op.S, .string r.op.old, .int .i64 r.undo, .int .i64 r.index, .string r.key, .int .u32 r.rpage, .int .i64 r.rslot, .bool r.live, .slice ta r.txs.length tc, .slice da r.dirty.length dc]) := rfl
  have HAH := hida (h.below H1.out.2.2)
  have HNS : Hid (NoSh W1 mb) := MapV.same hmb (H1.out.2.2.block _ (MapV.lt hmb))
  have HMO := hida (show ¬ (S mb ∨ S2 mb ∨ A mb) ∧ w.heap.size ≤ mb ∧ mb < W.heap.size from ⟨hmo.1, hmo.2, MapV.lt hmb⟩)
  have HLT := hida (show (∀ k, S2 k ∨ A k → k < W.heap.size) from fun k x => by
    rcases x with x | x
    · exact h.re.pool.lt x
    · exact h.rd.lt x)
  have HAI := hida hA
  have HFT := hida hfit
  have m5 : W1.cell? ⟨W.heap.size + 1, 5, none⟩ = some (.int .u32 (r.page : Nat)) := H1.out.2.1.cell 5
  have k0 : W1.cell? ⟨W.heap.size, 0, none⟩ = some (.pointer (some ⟨pp, 0, none⟩)) := H1.out.1.cell 0
  have k1 : W1.cell? ⟨W.heap.size, 1, none⟩ = some (.pointer (some ⟨rp, 0, none⟩)) := H1.out.1.cell 1
  have k2 : W1.cell? ⟨W.heap.size, 2, none⟩ = some (.map (some mb)) := H1.out.1.cell 2
  have HG : Hid (Calls Tryz.prog 152 #[.agg #[.pointer (some ⟨pp, 0, none⟩), .pointer (some ⟨rp, 0, none⟩), .map (some mb)], .int .u32 r.page] W1 (AgOut w W1 p q A l d rs sure j rp S2 P2 r.page)) := ahget_any HAH.out HNS.out r.page h1 h2 hF hz hm hf
  clear h hmb hmo hA hfit hz
  unfold ahVal
  rw [HPA.out]
  go_enter Tryz.func100, Tryz.ntmps100
  go_upto_region 1 with fail
  rw [← HPA.out, show (W.alloc (.cells #[.pointer (some ⟨pp, 0, none⟩), .pointer (some ⟨rp, 0, none⟩), .map (some mb)] 182)).alloc (.cells (plArr at' r ta da tc dc) 178) = W1 from HW1.out.symm]
  clear HW1 HPA
  go_wp2_with fail
  refine HG.out.mono ?_
  rintro e w2 ⟨a, c, rfl, hst, hstp⟩
  obtain ⟨A2, S3, ha2, mv2⟩ := HAH.out.step hstp
  obtain ⟨x, hx⟩ : ∃ x, shOf P2 r.page = x := ⟨_, rfl⟩
  rw [hx] at hst HAI HFT hls ⊢
  have hno : ∀ k, W.heap.size ≤ k → k < W1.heap.size → w2.heap[k]? = W1.heap[k]? := fun k g1 g2 => mv2.1.block k g2 fun y => by have := HLT.out _ y; omega
  have hW1 : W.heap.size + 1 < W1.heap.size := H1.out.2.1.lt
  have HK2 : Hid (W.heap.size ≤ w2.heap.size ∧ ∀ k, k < W.heap.size → ¬ A k → ¬ S2 k → w2.heap[k]? = W.heap[k]?) := ⟨by have := mv2.1.size; omega, fun k g1 g2 g3 => (mv2.1.block k (by omega) (by
    rintro (z | z)
    · exact g3 z
    · exact g2 z)).trans (H1.out.2.2.block k g1)⟩
  have hmb2 : NoSh w2 mb ∧ ¬ (S3 mb ∨ A2 mb) := by
    have hm1 : mb < W1.heap.size := by have := HMO.out.2.2; omega
    have hn : ¬ (S2 mb ∨ A mb) := fun y => HMO.out.1 (by rcases y with y | y; exact .inr (.inl y); exact .inr (.inr y))
    have := mv2.off hm1 hn
    exact ⟨MapV.same HNS.out this.1, this.2⟩
  have H2 := hida (show AhAt w w2 p q A2 l d rs sure j pp S P rp S3 (ofG P2 r.page) ∧ NoSh w2 mb ∧ ¬ (S3 mb ∨ A2 mb) ∧ Blk w2 W.heap.size #[.pointer (some ⟨pp, 0, none⟩), .pointer (some ⟨rp, 0, none⟩), .map (some mb)] 182 ∧ Blk w2 (W.heap.size + 1) (plArr at' r ta da tc dc) 178 ∧ StrsAt w2 a x.slots from ⟨ha2, hmb2.1, hmb2.2, H1.out.1.same (hno _ (Nat.le_refl _) (by omega)), H1.out.2.1.same (hno _ (by omega) hW1), hst⟩)
  clear HG HAH HNS H1 hst hstp ha2 mv2 hno hW1 hmb2 m5 k0 k1 k2 HLT
  rw [show x.val a c = .agg #[.int .u32 x.num, .int .u64 x.lsn, .int .i64 x.kind, .string x.head, .slice a x.slots.length c] from rfl]
  obtain ⟨W3, HW3⟩ : ∃ W3, Hid (W3 = w2.alloc (.cells #[.int .u32 x.num, .int .u64 x.lsn, .int .i64 x.kind, .string x.head, .slice a x.slots.length c] 52)) := ⟨_, rfl⟩
  have b3 : Below w2.heap.size w2 W3 := by rw [HW3.out]; exact (Below.refl _ _).alloc (Nat.le_refl _) _
  have H3 := hida (show AhAt w W3 p q A2 l d rs sure j pp S P rp S3 (ofG P2 r.page) ∧ NoSh W3 mb ∧ Blk W3 W.heap.size #[.pointer (some ⟨pp, 0, none⟩), .pointer (some ⟨rp, 0, none⟩), .map (some mb)] 182 ∧ Blk W3 (W.heap.size + 1) (plArr at' r ta da tc dc) 178 ∧ BlkR W3 w2.heap.size #[.int .u32 x.num, .int .u64 x.lsn, .int .i64 x.kind, .string x.head, .slice a x.slots.length c] 52 ∧ x.Ok W3 a from ⟨H2.out.1.below b3, MapV.same H2.out.2.1 (b3.block _ (MapV.lt H2.out.2.1)), H2.out.2.2.2.1.same (b3.block _ H2.out.2.2.2.1.lt), H2.out.2.2.2.2.1.same (b3.block _ H2.out.2.2.2.2.1.lt), by rw [HW3.out]; exact heap_alloc_new w2 _, HFT.out.ok (H2.out.2.2.2.2.2.below b3)⟩)
  have HNM := hida H2.out.2.2.1
  have HK3 : Hid (W.heap.size ≤ W3.heap.size ∧ ∀ k, k < W.heap.size → ¬ A k → ¬ S2 k → W3.heap[k]? = W.heap[k]?) := ⟨Nat.le_trans HK2.out.1 b3.size, fun k g1 g2 g3 => (b3.block k (Nat.lt_of_lt_of_le g1 HK2.out.1)).trans (HK2.out.2 k g1 g2 g3)⟩
  clear H2 b3 HK2
  go_upto_region 5 with fail
  rw [← HW3.out]
  clear HW3
  have n0 : W3.cell? ⟨W.heap.size + 1, 0, none⟩ = some (.int .u64 (at' : Nat)) := H3.out.2.2.2.1.cell 0
  have HROW := hida (pl_row H3.out.2.2.2.1)
  have HRP : Hid (Calls Tryz.prog 51 #[.agg #[.int .u32 x.num, .int .u64 x.lsn, .int .i64 x.kind, .string x.head, .slice a x.slots.length c], .int .u64 (at' : Nat), .agg (r.cells ta da tc dc)] W3 (RpOut W3 x 0 y at' a c)) := repeat_any HAI.out at' a ta da c tc dc W3 H3.out.2.2.2.2.2
  refine wp_region_lit ?_
  refine wpList_loadRow rfl _ _ rfl w2.heap.size rfl #[.int .u32 x.num, .int .u64 x.lsn, .int .i64 x.kind, .string x.head, .slice a x.slots.length c] _ (0, 0) H3.out.2.2.2.2.1 _ Tryz.underlying52 rfl (by kernel_rfl) ?_
  go_wp2_with (refine wpList_load_midR rfl 64 (.tmp 26) rfl (W.heap.size + 1) 1 rfl (r.cells ta da tc dc) _ HROW.out Tryz.underlying64 rfl (by kernel_rfl) ?_)
  refine HRP.out.mono ?_
  rintro e w4 hrp
  have b4 := hrp.bel
  obtain ⟨a', c', rfl, hst, how⟩ := hrp.yes hls rfl
  rw [show (({ y with lsn := at' } : SheetV).val a' c') = .agg #[.int .u32 y.num, .int .u64 (at' : Nat), .int .i64 y.kind, .string y.head, .slice a' y.slots.length c'] from rfl]
  obtain ⟨W5, HW5⟩ : ∃ W5, Hid (W5 = w4.alloc (.cells #[.int .u32 y.num, .int .u64 (at' : Nat), .int .i64 y.kind, .string y.head, .slice a' y.slots.length c'] 52)) := ⟨_, rfl⟩
  have b5 : Below w4.heap.size w4 W5 := by rw [HW5.out]; exact (Below.refl _ _).alloc (Nat.le_refl _) _
  have b35 := below_chain b4 b5
  have HYB : Hid (Blk W5 w4.heap.size #[.int .u32 y.num, .int .u64 (at' : Nat), .int .i64 y.kind, .string y.head, .slice a' y.slots.length c'] 52) := by rw [HW5.out]; exact Blk.made _ _ _
  obtain ⟨u, hu⟩ := put_ex 49 180 52 mb (.int .u32 r.page) (.agg #[.int .u32 y.num, .int .u64 (at' : Nat), .int .i64 y.kind, .string y.head, .slice a' y.slots.length c'])
  obtain ⟨hrun, hm5, ht5⟩ := hu W5 0 (.map []) (apkey r.page) (MapV.same H3.out.2.1 (b35.block _ (MapV.lt H3.out.2.1))) pageKeyed Tryz.underlying180 (by omega) (apkey_key (by omega))
  have hk5 : Kept (fun k => k = mb) W5 (u W5) := mapTurned_kept ht5 rfl
  have HF := hida (show AhAt w (u W5) p q A2 l d rs sure j pp S P rp S3 (ofG P2 r.page) from by
    have h5 := H3.out.1.below b35
    exact ⟨h5.rd.kept hk5 fun i e => by subst e; exact ⟨fun z => HNM.out (.inr z), HMO.out.2.1⟩, h5.po.kept hk5 fun i e z => by subst e; exact HMO.out.1 (.inl z), h5.re.kept hk5 fun i e z => by subst e; exact HNM.out (.inl z), h5.off⟩)
  have HK5 : Hid (∀ k, k < W.heap.size → ¬ A k → ¬ S2 k → k ≠ mb → (u W5).heap[k]? = W.heap[k]?) := fun k g1 g2 g3 g4 => (hk5.block k (by have := HK3.out.1; have := b35.size; omega) g4).trans ((b35.block k (by have := HK3.out.1; omega)).trans (HK3.out.2 k g1 g2 g3))
  have k2 : W5.cell? ⟨W.heap.size, 2, none⟩ = some (.map (some mb)) := (H3.out.2.2.1.same (b35.block _ H3.out.2.2.1.lt)).cell 2
  clear hrp hst how b4 b5 b35 hu hm5 ht5 hk5 H3 HRP HROW HAI n0
  go_upto_region 6 with fail
  rw [← HW5.out]
  clear HW5
  generalize w4.heap.size = yb at *
  have y0 : W5.cell? ⟨yb, 0, none⟩ = some (.int .u32 (y.num : Nat)) := HYB.out.cell 0
  have y1 : W5.cell? ⟨yb, 1, none⟩ = some (.int .u64 (at' : Nat)) := HYB.out.cell 1
  have y2 : W5.cell? ⟨yb, 2, none⟩ = some (.int .i64 y.kind) := HYB.out.cell 2
  have y3 : W5.cell? ⟨yb, 3, none⟩ = some (.string y.head) := HYB.out.cell 3
  have y4 : W5.cell? ⟨yb, 4, none⟩ = some (.slice a' y.slots.length c') := HYB.out.cell 4
  clear HYB
  go_wp2_with fail
  go_ret
  exact ⟨rfl, A2, S3, _, HF.out, HK5.out⟩

end Go.Proofs.YtgkfdakieebnmaaGreat
