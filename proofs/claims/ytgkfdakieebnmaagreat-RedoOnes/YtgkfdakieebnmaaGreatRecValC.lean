/-
  Records as plain data and as values; the walk of rec.Same.
-/
import Derived.Test.YtgkfdakieebnmaaGreatRecMemC
import Derived.Lib.QuietBelow
set_option linter.unusedVariables false
set_option linter.unusedSimpArgs false
namespace Go.Proofs.YtgkfdakieebnmaaGreat
open Go.RowKit Go.Sort

structure RecV where
  kind : Int
  tx : Int
  prev : Nat
  next : Nat
  page : Nat
  op : OpV
  undo : Int
  index : Int
  key : ByteArray
  rpage : Nat
  rslot : Int
  live : Bool
  txs : List TxV
  dirty : List DiV

def RecV.cells (r : RecV) (ta da : Option Addr) (tc dc : Nat) : Array Value :=
  #[.int .i64 r.kind, .int .i64 r.tx, .int .u64 r.prev, .int .u64 r.next, .int .u32 r.page, .int .i64 r.op.kind, .int .i64 r.op.at', .string r.op.S, .string r.op.old, .int .i64 r.undo, .int .i64 r.index, .string r.key, .int .u32 r.rpage, .int .i64 r.rslot, .bool r.live, .slice ta r.txs.length tc, .slice da r.dirty.length dc]

structure RecV.Ok (r : RecV) (w : World) (ta da : Option Addr) : Prop where
  kind : -9223372036854775808 ≤ r.kind ∧ r.kind ≤ 9223372036854775807
  tx : -9223372036854775808 ≤ r.tx ∧ r.tx ≤ 9223372036854775807
  prev : r.prev < 18446744073709551616
  next : r.next < 18446744073709551616
  page : r.page < 4294967296
  op : r.op.Ok
  undo : -9223372036854775808 ≤ r.undo ∧ r.undo ≤ 9223372036854775807
  index : -9223372036854775808 ≤ r.index ∧ r.index ≤ 9223372036854775807
  key : r.key.size ≤ 140737488351232
  rpage : r.rpage < 4294967296
  rslot : -9223372036854775808 ≤ r.rslot ∧ r.rslot ≤ 9223372036854775807
  tlen : r.txs.length * 32 ≤ 140737488351232
  dlen : r.dirty.length * 16 ≤ 140737488351232
  txs : TxsAt w ta r.txs
  dirty : DisAt w da r.dirty

theorem RecV.Ok.below {r : RecV} {w w' : World} {ta da : Option Addr} (h : r.Ok w ta da) (k : Below w.heap.size w w') : r.Ok w' ta da :=
  ⟨h.kind, h.tx, h.prev, h.next, h.page, h.op, h.undo, h.index, h.key, h.rpage, h.rslot, h.tlen, h.dlen, h.txs.below k, h.dirty.below k⟩

def sameR (a b : RecV) : Bool :=
  decide (a.kind = b.kind) && decide (a.tx = b.tx) && decide (a.prev = b.prev) && decide (a.next = b.next) && decide (a.page = b.page) && decide (a.op.kind = b.op.kind ∧ a.op.at' = b.op.at' ∧ a.op.S = b.op.S ∧ a.op.old = b.op.old) && decide (a.undo = b.undo) && decide (a.index = b.index) &&
    decide (a.key = b.key ∧ a.rpage = b.rpage ∧ a.rslot = b.rslot) && decide (a.live = b.live) && decide (a.txs = b.txs) && decide (a.dirty = b.dirty)

set_option maxHeartbeats 16000000 in
set_option maxRecDepth 60000 in
theorem recSame_any (a b : RecV) (ta da tb db : Option Addr) (tc dc uc vc : Nat) (w : World) (ha : a.Ok w ta da) (hb : b.Ok w tb db) :
    Calls Tryz.prog 131 #[.agg (a.cells ta da tc dc), .agg (b.cells tb db uc vc)] w fun e w' => e = .returned (.bool (sameR a b)) ∧ Below w.heap.size w w' := by
  have HT : Hid (∀ wx, Below w.heap.size w wx → Calls Tryz.prog 171 #[.slice ta a.txs.length tc, .slice tb b.txs.length uc] wx fun e w' => e = .returned (.bool (decide (a.txs = b.txs))) ∧ Below wx.heap.size wx w') := fun wx hw => equalTx ta tb tc uc a.txs b.txs wx (ha.txs.below hw) (hb.txs.below hw) (by have := ha.tlen; omega) (by have := hb.tlen; omega)
  have HD : Hid (∀ wx, Below w.heap.size w wx → Calls Tryz.prog 172 #[.slice da a.dirty.length dc, .slice db b.dirty.length vc] wx fun e w' => e = .returned (.bool (decide (a.dirty = b.dirty))) ∧ Below wx.heap.size wx w') := fun wx hw => equalDi da db dc vc a.dirty b.dirty wx (ha.dirty.below hw) (hb.dirty.below hw) (by have := ha.dlen; omega) (by have := hb.dlen; omega)
  clear ha hb
  obtain ⟨R, HR⟩ : ∃ R, Hid (sameR a b = R) := ⟨_, rfl⟩
  rw [HR.out]
  have HS := HR.out
  unfold sameR at HS
  have HS : Hid _ := HS
  clear HR
  simp only [RecV.cells]
  obtain ⟨k1, t1, p1, n1, g1, ⟨ok1, oa1, oS1, oT1⟩, u1, i1, ky1, rp1, rs1, lv1, T1, D1⟩ := a
  obtain ⟨k2, t2, p2, n2, g2, ⟨ok2, oa2, oS2, oT2⟩, u2, i2, ky2, rp2, rs2, lv2, T2, D2⟩ := b
  simp only at HS HT HD ⊢
  by_cases e : k1 = k2
  rotate_left
  · have HR' : Hid (R = false) := by show _ = _; rw [← HS.out]; simp [e]
    clear HS HT HD
    have ne1 : (k1 == k2) = false := by rw [beq_eq_false_iff_ne]; exact e
    go_enter Tryz.func131, Tryz.ntmps131
    go_wp2_with fail
    go_ret
    exact ⟨by rw [HR'.out]; rfl, ((Below.refl _ _).alloc (Nat.le_refl _) _).alloc (by simp) _⟩
  subst e
  by_cases e : t1 = t2
  rotate_left
  · have HR' : Hid (R = false) := by show _ = _; rw [← HS.out]; simp [e]
    clear HS HT HD
    have ne1 : (t1 == t2) = false := by rw [beq_eq_false_iff_ne]; exact e
    go_enter Tryz.func131, Tryz.ntmps131
    go_wp2_with fail
    go_ret
    exact ⟨by rw [HR'.out]; rfl, ((Below.refl _ _).alloc (Nat.le_refl _) _).alloc (by simp) _⟩
  subst e
  by_cases e : p1 = p2
  rotate_left
  · have HR' : Hid (R = false) := by show _ = _; rw [← HS.out]; simp [e]
    clear HS HT HD
    have ne1 : ((p1 : Int) == (p2 : Int)) = false := by rw [beq_eq_false_iff_ne]; omega
    have ne2 : ¬ (p1 : Int) = (p2 : Int) := by omega
    go_enter Tryz.func131, Tryz.ntmps131
    go_wp2_with fail
    go_ret
    exact ⟨by rw [HR'.out]; rfl, ((Below.refl _ _).alloc (Nat.le_refl _) _).alloc (by simp) _⟩
  subst e
  by_cases e : n1 = n2
  rotate_left
  · have HR' : Hid (R = false) := by show _ = _; rw [← HS.out]; simp [e]
    clear HS HT HD
    have ne1 : ((n1 : Int) == (n2 : Int)) = false := by rw [beq_eq_false_iff_ne]; omega
    have ne2 : ¬ (n1 : Int) = (n2 : Int) := by omega
    go_enter Tryz.func131, Tryz.ntmps131
    go_wp2_with fail
    go_ret
    exact ⟨by rw [HR'.out]; rfl, ((Below.refl _ _).alloc (Nat.le_refl _) _).alloc (by simp) _⟩
  subst e
  by_cases e : g1 = g2
  rotate_left
  · have HR' : Hid (R = false) := by show _ = _; rw [← HS.out]; simp [e]
    clear HS HT HD
    have ne1 : ((g1 : Int) == (g2 : Int)) = false := by rw [beq_eq_false_iff_ne]; omega
    have ne2 : ¬ (g1 : Int) = (g2 : Int) := by omega
    go_enter Tryz.func131, Tryz.ntmps131
    go_wp2_with fail
    go_ret
    exact ⟨by rw [HR'.out]; rfl, ((Below.refl _ _).alloc (Nat.le_refl _) _).alloc (by simp) _⟩
  subst e
  by_cases e : ok1 = ok2
  rotate_left
  · have HR' : Hid (R = false) := by show _ = _; rw [← HS.out]; simp [e]
    clear HS HT HD
    have ne1 : (ok1 == ok2) = false := by rw [beq_eq_false_iff_ne]; exact e
    go_enter Tryz.func131, Tryz.ntmps131
    go_wp2_with fail
    go_ret
    exact ⟨by rw [HR'.out]; rfl, ((Below.refl _ _).alloc (Nat.le_refl _) _).alloc (by simp) _⟩
  subst e
  by_cases e : oa1 = oa2
  rotate_left
  · have HR' : Hid (R = false) := by show _ = _; rw [← HS.out]; simp [e]
    clear HS HT HD
    have ne1 : (oa1 == oa2) = false := by rw [beq_eq_false_iff_ne]; exact e
    go_enter Tryz.func131, Tryz.ntmps131
    go_wp2_with fail
    go_ret
    exact ⟨by rw [HR'.out]; rfl, ((Below.refl _ _).alloc (Nat.le_refl _) _).alloc (by simp) _⟩
  subst e
  by_cases e : oS1 = oS2
  rotate_left
  · have HR' : Hid (R = false) := by show _ = _; rw [← HS.out]; simp [e]
    clear HS HT HD
    have ne1 := str_ne e
    have ne2 : ¬ oS1.toList = oS2.toList := by rw [beq_eq_false_iff_ne] at ne1; exact ne1
    go_enter Tryz.func131, Tryz.ntmps131
    go_wp2_with fail
    go_ret
    exact ⟨by rw [HR'.out]; rfl, ((Below.refl _ _).alloc (Nat.le_refl _) _).alloc (by simp) _⟩
  subst e
  by_cases e : oT1 = oT2
  rotate_left
  · have HR' : Hid (R = false) := by show _ = _; rw [← HS.out]; simp [e]
    clear HS HT HD
    have ne1 := str_ne e
    have ne2 : ¬ oT1.toList = oT2.toList := by rw [beq_eq_false_iff_ne] at ne1; exact ne1
    go_enter Tryz.func131, Tryz.ntmps131
    go_wp2_with fail
    go_ret
    exact ⟨by rw [HR'.out]; rfl, ((Below.refl _ _).alloc (Nat.le_refl _) _).alloc (by simp) _⟩
  subst e
  by_cases e : u1 = u2
  rotate_left
  · have HR' : Hid (R = false) := by show _ = _; rw [← HS.out]; simp [e]
    clear HS HT HD
    have ne1 : (u1 == u2) = false := by rw [beq_eq_false_iff_ne]; exact e
    go_enter Tryz.func131, Tryz.ntmps131
    go_wp2_with fail
    go_ret
    exact ⟨by rw [HR'.out]; rfl, ((Below.refl _ _).alloc (Nat.le_refl _) _).alloc (by simp) _⟩
  subst e
  by_cases e : i1 = i2
  rotate_left
  · have HR' : Hid (R = false) := by show _ = _; rw [← HS.out]; simp [e]
    clear HS HT HD
    have ne1 : (i1 == i2) = false := by rw [beq_eq_false_iff_ne]; exact e
    go_enter Tryz.func131, Tryz.ntmps131
    go_wp2_with fail
    go_ret
    exact ⟨by rw [HR'.out]; rfl, ((Below.refl _ _).alloc (Nat.le_refl _) _).alloc (by simp) _⟩
  subst e
  by_cases e : ky1 = ky2
  rotate_left
  · have HR' : Hid (R = false) := by show _ = _; rw [← HS.out]; simp [e]
    clear HS HT HD
    have ne1 := str_ne e
    have ne2 : ¬ ky1.toList = ky2.toList := by rw [beq_eq_false_iff_ne] at ne1; exact ne1
    go_enter Tryz.func131, Tryz.ntmps131
    go_wp2_with fail
    go_ret
    exact ⟨by rw [HR'.out]; rfl, ((Below.refl _ _).alloc (Nat.le_refl _) _).alloc (by simp) _⟩
  subst e
  by_cases e : rp1 = rp2
  rotate_left
  · have HR' : Hid (R = false) := by show _ = _; rw [← HS.out]; simp [e]
    clear HS HT HD
    have ne1 : ((rp1 : Int) == (rp2 : Int)) = false := by rw [beq_eq_false_iff_ne]; omega
    have ne2 : ¬ (rp1 : Int) = (rp2 : Int) := by omega
    go_enter Tryz.func131, Tryz.ntmps131
    go_wp2_with fail
    go_ret
    exact ⟨by rw [HR'.out]; rfl, ((Below.refl _ _).alloc (Nat.le_refl _) _).alloc (by simp) _⟩
  subst e
  by_cases e : rs1 = rs2
  rotate_left
  · have HR' : Hid (R = false) := by show _ = _; rw [← HS.out]; simp [e]
    clear HS HT HD
    have ne1 : (rs1 == rs2) = false := by rw [beq_eq_false_iff_ne]; exact e
    go_enter Tryz.func131, Tryz.ntmps131
    go_wp2_with fail
    go_ret
    exact ⟨by rw [HR'.out]; rfl, ((Below.refl _ _).alloc (Nat.le_refl _) _).alloc (by simp) _⟩
  subst e
  by_cases e : lv1 = lv2
  rotate_left
  · have HR' : Hid (R = false) := by show _ = _; rw [← HS.out]; simp [e]
    clear HS HT HD
    have ne1 : (lv1 == lv2) = false := by rw [beq_eq_false_iff_ne]; exact e
    go_enter Tryz.func131, Tryz.ntmps131
    go_wp2_with fail
    go_ret
    exact ⟨by rw [HR'.out]; rfl, ((Below.refl _ _).alloc (Nat.le_refl _) _).alloc (by simp) _⟩
  subst e
  have HR' : Hid (R = (decide (T1 = T2) && decide (D1 = D2))) := by show _ = _; rw [← HS.out]; simp
  clear HS
  have bel : Below w.heap.size w ((w.alloc (.cells #[.int .i64 k1, .int .i64 t1, .int .u64 p1, .int .u64 n1, .int .u32 g1, .int .i64 ok1, .int .i64 oa1, .string oS1, .string oT1, .int .i64 u1, .int .i64 i1, .string ky1, .int .u32 rp1, .int .i64 rs1, .bool lv1, .slice ta T1.length tc, .slice da D1.length dc] 64)).alloc (.cells #[.int .i64 k1, .int .i64 t1, .int .u64 p1, .int .u64 n1, .int .u32 g1, .int .i64 ok1, .int .i64 oa1, .string oS1, .string oT1, .int .i64 u1, .int .i64 i1, .string ky1, .int .u32 rp1, .int .i64 rs1, .bool lv1, .slice tb T2.length uc, .slice db D2.length vc] 64)) := ((Below.refl _ _).alloc (Nat.le_refl _) _).alloc (by simp) _
  obtain ⟨W, HW⟩ : ∃ W, Hid (W = (w.alloc (.cells #[.int .i64 k1, .int .i64 t1, .int .u64 p1, .int .u64 n1, .int .u32 g1, .int .i64 ok1, .int .i64 oa1, .string oS1, .string oT1, .int .i64 u1, .int .i64 i1, .string ky1, .int .u32 rp1, .int .i64 rs1, .bool lv1, .slice ta T1.length tc, .slice da D1.length dc] 64)).alloc (.cells #[.int .i64 k1, .int .i64 t1, .int .u64 p1, .int .u64 n1, .int .u32 g1, .int .i64 ok1, .int .i64 oa1, .string oS1, .string oT1, .int .i64 u1, .int .i64 i1, .string ky1, .int .u32 rp1, .int .i64 rs1, .bool lv1, .slice tb T2.length uc, .slice db D2.length vc] 64)) := ⟨_, rfl⟩
  have c1 : W.cell? ⟨w.heap.size, 16, none⟩ = some (.slice da D1.length dc) := by rw [HW.out]; simp
  have c2 : W.cell? ⟨w.heap.size + 1, 16, none⟩ = some (.slice db D2.length vc) := by rw [HW.out]; simp
  rw [← HW.out] at bel
  go_enter Tryz.func131, Tryz.ntmps131
  go_wp2_with fail
  rw [← HW.out]
  refine (HT.out _ bel).mono ?_
  rintro e w1 ⟨rfl, b1⟩
  have zW : w.heap.size + 1 < W.heap.size := by rw [HW.out]; simp
  have d1 := (b1.cell (p := ⟨w.heap.size, 16, none⟩) (by show w.heap.size < _; omega)).trans c1
  have d2 := (b1.cell (p := ⟨w.heap.size + 1, 16, none⟩) (by show w.heap.size + 1 < _; omega)).trans c2
  have bel1 := below_chain bel b1
  clear HW c1 c2 HT
  by_cases eT : T1 = T2
  · have hT : decide (T1 = T2) = true := decide_eq_true eT
    rw [hT]
    go_wp2_with fail
    refine (HD.out _ bel1).mono ?_
    rintro e w2 ⟨rfl, b2⟩
    go_wp2
    go_ret
    exact ⟨by rw [HR'.out, hT]; rfl, below_chain bel1 b2⟩
  · have hT : decide (T1 = T2) = false := decide_eq_false eT
    rw [hT]
    go_wp2
    go_ret
    exact ⟨by rw [HR'.out, hT]; rfl, bel1⟩

end Go.Proofs.YtgkfdakieebnmaaGreat
