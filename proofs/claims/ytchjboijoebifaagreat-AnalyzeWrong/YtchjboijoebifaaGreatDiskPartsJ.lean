/-
  The walks of the disk's inner methods: cut, settle, keep, sureBytes, keepPart.
-/
import Derived.Test.YtchjboijoebifaaGreatAnMJ
import Derived.RegionTactic
import Derived.ChangeAlike
import Derived.Test.YtchjboijoebifaaGreatProg
import Derived.Shelf.SlSortCmp.WholeK
import Derived.Shelf.Small.Bits
set_option linter.unusedVariables false
set_option linter.unusedSimpArgs false
namespace Go.Proofs.YtchjboijoebifaaGreat
open Go.RowKit

theorem heap_set (w : World) (p i : Nat) (v : Value) {k : Nat} (hk : k ≠ p) : (w.setCell ⟨p, i, none⟩ v).heap[k]? = w.heap[k]? := Below.heap_setCell _ _ _ _ hk

theorem heap_old (w : World) (o : Obj) {k : Nat} (hk : k < w.heap.size) : (w.alloc o).heap[k]? = w.heap[k]? := (Kept.alloc (fun _ => False) w o).block k hk id

theorem cellsOf_take (l : List UInt8) (n : Nat) : dcellsOf (l.take n) = (dcellsOf l).take n := by simp [dcellsOf, List.map_take]

theorem owns_take {w : World} {e : TypeId} {n : Nat} {g c : Nat} {xs : List Value} (h : w.ownsRow 0 e 1 (.slice (some ⟨g, 0, none⟩) n c) n xs) {k : Nat} (hk : k ≤ n) :
    w.ownsRow 0 e 1 (.slice (some ⟨g, 0, none⟩) k c) k (xs.take k) := by
  rcases h.2 with ⟨e, _⟩ | ⟨g', cap, cur, e, h0, hb, h1, h2, h3, h4⟩
  · cases e
  · cases e
    refine ⟨?_, .inr ⟨g, c, cur, rfl, h0, hb, by omega, h2, h3, ?_⟩⟩
    · rw [List.length_take, h.1]; omega
    · rw [← h4, List.take_take]; congr 1; omega

section
variable {w : World} {p : Nat} {m : Mem} {d : DG}

theorem DiskAt.rest_lt (h : DiskAt w p m d) {k : Nat} (hk : m.rest k) : k < w.heap.size := by
  have hP := h.parts
  rcases hk with rfl | rfl | hk | hk | hk
  · obtain ⟨f, hf, _⟩ := hP.sure; exact hf.lt
  · exact hP.fresh.lt
  · obtain ⟨cur, e⟩ := owns_block hP.loose hk; exact e.lt
  · obtain ⟨cur, e⟩ := owns_block hP.log hk; exact e.lt
  · obtain ⟨cur, e⟩ := hP.plan.block hk; exact e.lt

theorem DiskAt.set2 (h : DiskAt w p m d) (i j : Nat) (u v : Value) :
    Blk ((w.setCell ⟨p, i, none⟩ u).setCell ⟨p, j, none⟩ v) p (((dvals m d).setIfInBounds i u).setIfInBounds j v) 123 ∧ Parts ((w.setCell ⟨p, i, none⟩ u).setCell ⟨p, j, none⟩ v) m d :=
  ⟨(h.blk.set i u).set j v, h.parts.same fun k hk => (heap_set _ _ _ _ (h.off hk)).trans (heap_set _ _ _ _ (h.off hk))⟩

theorem kept_set2 (w : World) (p i j : Nat) (u v : Value) : Kept (· = p) w ((w.setCell ⟨p, i, none⟩ u).setCell ⟨p, j, none⟩ v) :=
  (Kept.setCell (· = p) w p i u rfl).trans (Kept.setCell (· = p) _ p j v rfl)

set_option maxHeartbeats 800000 in
set_option maxRecDepth 60000 in
theorem cut_any (h : DiskAt w p m d) (n : Nat) (hn : n ≤ d.log.length) (hl : d.log.length ≤ 1000000000) :
    Calls Tryz.prog 96 #[.pointer (some ⟨p, 0, none⟩), .int .i64 n] w fun x w' => x = .returned (.tuple #[]) ∧
      (∃ v, DiskAt w' p { m with logV := v } { d with log := d.log.take n, sl := n } ∧ (v.ownBlock = none ∨ v.ownBlock = m.logV.ownBlock)) ∧ Kept (· = p) w w' := by
  have hc := h.blk.cells
  have c9 := hc.c9
  have f9 := hc.fr 9
  have c10 := hc.c10
  have f10 := hc.fr 10
  obtain ⟨m1, m2, m3, m4, m5⟩ := m
  have hlog := h.parts.log
  have hsure := h.parts.sure
  rcases hlog.2 with ⟨e, e0⟩ | ⟨g, cap, cur, e, h0, hb, h1, h2, h3, h4⟩
  · simp only at e
    subst e
    have hn0 : n = 0 := by omega
    subst hn0
    go_enter Tryz.func96, Tryz.ntmps96
    go_wp2
    go_end0
    have hp := h.set2 9 10 (.slice none 0 0) (.int .i64 0)
    exact ⟨rfl, ⟨_, ⟨hp.1, ⟨hp.2.plan, hp.2.sure, hp.2.fresh, hp.2.ne, hp.2.loose, World.ownsRow_nil _ _ _ _⟩⟩, .inl rfl⟩, kept_set2 _ _ _ _ _ _⟩
  · simp only at e
    subst e
    unfold maxLen at h2
    go_enter Tryz.func96, Tryz.ntmps96
    go_wp2
    go_end0
    have hp := h.set2 9 10 (.slice (some ⟨g, 0, none⟩) n cap) (.int .i64 n)
    have hlen : (d.log.take n).length = n := by rw [List.length_take]; omega
    refine ⟨rfl, ⟨.slice (some ⟨g, 0, none⟩) n cap, ⟨hp.1, ⟨hp.2.plan, hp.2.sure, hp.2.fresh, hp.2.ne, hp.2.loose, ?_⟩⟩, .inr rfl⟩, kept_set2 _ _ _ _ _ _⟩
    show World.ownsRow _ _ _ _ _ (d.log.take n).length _
    rw [hlen, cellsOf_take]
    exact owns_take hp.2.log hn

set_option maxHeartbeats 800000 in
set_option maxRecDepth 60000 in
theorem settle_any (h : DiskAt w p m d) :
    Calls Tryz.prog 99 #[.pointer (some ⟨p, 0, none⟩)] w fun x w' => x = .returned (.tuple #[]) ∧
      (∃ b, DiskAt w' p { m with looseV := .slice none 0 0, fresh := b } { d with loose := [], fresh := fun _ => none, nF := 0, mark := d.sm } ∧ w.heap.size ≤ b) ∧ Kept (· = p) w w' := by
  have hc := h.blk.cells
  have c5 := hc.c5
  have c6 := hc.c6
  have c7 := hc.c7
  have c8 := hc.c8
  have f6 := hc.fr 6
  have f7 := hc.fr 7
  have f8 := hc.fr 8
  have hmm := @run_makeMap Tryz.prog
  have hlt := h.lt
  go_enter Tryz.func99, Tryz.ntmps99
  go_wp2
  go_end0
  have e1 : ∀ (k : Nat), k ≠ p → k < w.heap.size → ((((w.setCell ⟨p, 6, none⟩ (.slice none 0 0)).setCell ⟨p, 7, none⟩ (.map (some w.heap.size))).setCell ⟨p, 8, none⟩ (.int .u64 d.sm)).alloc (.map #[] 0)).heap[k]? = w.heap[k]? := fun k hk hk' =>
    (heap_old _ _ (by simpa using hk')).trans ((heap_set _ _ _ _ hk).trans ((heap_set _ _ _ _ hk).trans (heap_set _ _ _ _ hk)))
  have hr : ∀ {k : Nat}, m.rest k → k < w.heap.size := fun hk => h.rest_lt hk
  have hP := h.parts
  obtain ⟨f, hf, hz⟩ := hP.sure
  have hmd := IsPages.made (((w.setCell ⟨p, 6, none⟩ (.slice none 0 0)).setCell ⟨p, 7, none⟩ (.map (some w.heap.size))).setCell ⟨p, 8, none⟩ (.int .u64 d.sm))
  have es : (((w.setCell ⟨p, 6, none⟩ (.slice none 0 0)).setCell ⟨p, 7, none⟩ (.map (some w.heap.size))).setCell ⟨p, 8, none⟩ (.int .u64 d.sm)).heap.size = w.heap.size := by simp
  rw [es] at hmd
  refine ⟨rfl, ⟨w.heap.size, ⟨?_, ⟨hP.plan.same fun g k => e1 g (h.off (.inr (.inr (.inr (.inr k))))) (hr (.inr (.inr (.inr (.inr k))))), ⟨f, hf.same (e1 _ (h.off (.inl rfl)) (hr (.inl rfl))), hz⟩, hmd,
    fun e => by have := hr (.inl rfl : m.rest m.sure); simp only at e; omega, World.ownsRow_nil _ _ _ _, owns_same hP.log fun g k => e1 g (h.off (.inr (.inr (.inr (.inl k))))) (hr (.inr (.inr (.inr (.inl k)))))⟩⟩, Nat.le_refl _⟩, ?_⟩
  · exact (((h.blk.set 6 _).set 7 _).set 8 _).same (heap_old _ _ (by simpa using hlt))
  · exact ((kept_set2 _ _ _ _ _ _).trans (Kept.setCell (· = p) _ p _ _ rfl)).trans (Kept.alloc _ _ _)

theorem DiskAt.turned (h : DiskAt w p m d) {W W' : World} (hB : Below w.heap.size w W) {f : Nat → Option ByteArray} (hz : ∀ q, 1 ≤ q → q < 4294967296 → (f q).getD zerosS = d.sure q) {pg : Nat} {s : ByteArray}
    (h1 : IsPages W' m.sure (d.nS + 1) (setF f pg s)) (h2 : W.mapTurned W' m.sure) :
    DiskAt W' p m { d with sure := fun q => if q = pg then s else d.sure q, nS := d.nS + 1 } ∧ Kept (fun k => k = p ∨ k = m.sure) w W' := by
  have hg := h2.grown
  have hb : ∀ k, k < w.heap.size → k ≠ m.sure → W'.heap[k]? = w.heap[k]? := fun k hk hn =>
    (hg.block k (Nat.lt_of_lt_of_le hk hB.size) (fun e => hn (by cases e; rfl))).trans (hB.block k hk)
  have hP := h.parts
  have ha := hP.apart
  refine ⟨⟨h.blk.same (hb p h.lt (fun e => h.off (.inl rfl) e.symm)), ⟨hP.plan.same fun g k => hb g (h.rest_lt (.inr (.inr (.inr (.inr k))))) (ha.2.2 g k).1, ⟨setF f pg s, h1, ?_⟩,
    hP.fresh.same (hb _ (h.rest_lt (.inr (.inl rfl))) (fun e => hP.ne e.symm)), hP.ne, owns_same hP.loose fun g k => hb g (h.rest_lt (.inr (.inr (.inl k)))) (ha.1 g k).1,
    owns_same hP.log fun g k => hb g (h.rest_lt (.inr (.inr (.inr (.inl k))))) (ha.2.1 g k).1⟩⟩, (Kept.of_below hB).trans (Kept.of_grown hg fun b e => by cases e; exact .inr rfl)⟩
  intro q h0 hq
  show (setF f pg s q).getD zerosS = if q = pg then s else d.sure q
  unfold setF
  by_cases c : q = pg
  · rw [if_pos c, if_pos c]; rfl
  · rw [if_neg c, if_neg c]; exact hz q h0 hq

def keepF (x : LW) (f : Nat → ByteArray) : Nat → ByteArray := if x.page = 0 then f else fun q => if q = x.page then x.s else f q
def keepM (x : LW) (n : Nat) : Nat := if x.page = 0 then x.mark else n

set_option maxHeartbeats 800000 in
set_option maxRecDepth 8000 in
theorem keep_any (hD : DiskAt w p m d) (x : LW) (hx : x.page < 4294967296) (hs : x.s.size ≤ 512) (hn : d.nS ≤ 1000000) :
    Calls Tryz.prog 98 #[.pointer (some ⟨p, 0, none⟩), .agg (wcells x).toArray] w fun e w' => e = .returned (.tuple #[]) ∧
      DiskAt w' p m { d with sure := keepF x d.sure, sm := keepM x d.sm, nS := d.nS + 1 } ∧ Kept (fun k => k = p ∨ k = m.sure) w w' := by
  have hc := hD.blk.cells
  have c4 := hc.c4
  have c5 := hc.c5
  have f5 := hc.fr 5
  have hlt := hD.lt
  obtain ⟨f, hf, hz⟩ := hD.parts.sure
  obtain ⟨pg, s, mk⟩ := x
  unfold wcells keepF keepM
  simp only at hx hs ⊢
  by_cases h0 : pg = 0
  · subst h0
    go_enter Tryz.func98, Tryz.ntmps98
    go_wp2
    refine bodyPost_ret (results_none rfl _ _ _) rfl ?_
    have hp := hD.set 5 (.int .u64 mk)
    have e1 : Parts ((w.setCell ⟨p, 5, none⟩ (.int .u64 mk)).alloc (.cells #[.int .u32 0, .string s, .int .u64 mk] 160)) m d := hp.2.same fun k hk => heap_old _ _ (by simpa using hD.rest_lt hk)
    refine ⟨rfl, ⟨hp.1.same (heap_old _ _ (by simpa using hlt)), ⟨e1.plan, ?_, e1.fresh, e1.ne, e1.loose, e1.log⟩⟩, ((Kept.setCell _ w p 5 _ (.inl rfl)).trans (Kept.alloc _ _ _))⟩
    obtain ⟨f, hf, hz⟩ := e1.sure
    exact ⟨f, hf.mono (Nat.le_succ _), hz⟩
  · rw [if_neg h0, if_neg h0]
    obtain ⟨u, hu⟩ := putP_ex m.sure pg s
    have hp := hu ((w.alloc (.cells #[.int .u32 pg, .string s, .int .u64 mk] 160)).drew) d.nS f (hf.same (heap_old _ _ hf.lt)) (by omega) hx (by omega)
    obtain ⟨hr, hp1, hp2⟩ := hp
    have h0' : ((pg : Int) == 0) = false := by simpa using h0
    have H : Hid (DiskAt w p m d ∧ IsPages w m.sure d.nS f ∧ (∀ q, 1 ≤ q → q < 4294967296 → (f q).getD zerosS = d.sure q) ∧ IsPages (u (w.alloc (.cells #[.int .u32 pg, .string s, .int .u64 mk] 160)).drew) m.sure (d.nS + 1) (setF f pg s) ∧
      (w.alloc (.cells #[.int .u32 pg, .string s, .int .u64 mk] 160)).drew.mapTurned (u (w.alloc (.cells #[.int .u32 pg, .string s, .int .u64 mk] 160)).drew) m.sure) := ⟨hD, hf, hz, hp1, hp2⟩
    clear hD hf hz hp1 hp2 hu hc h0
    go_enter Tryz.func98, Tryz.ntmps98
    go_wp2
    go_region
    go_end0
    obtain ⟨hD, hf, hz, hp1, hp2⟩ := H.out
    have hq := hD.turned (W := (w.alloc (.cells #[.int .u32 pg, .string s, .int .u64 mk] 160)).drew) ((Below.refl _ _).alloc (Nat.le_refl _) _).drew hz hp1 hp2
    exact ⟨rfl, hq.1, hq.2⟩

end

end Go.Proofs.YtchjboijoebifaaGreat

namespace Go.Proofs.YtchjboijoebifaaGreat
open Go.RowKit Go.Sort

theorem hida {p : Prop} (h : p) : Hid p := h

theorem aiKeyed : Maps.Keyed Tryz.prog 3 := Maps.int_keyed (q := .i64) Tryz.underlying3
def aikey (n : Int) : Lit := .int .i64 n
theorem aikey_key {n : Int} (h1 : -9223372036854775808 ≤ n) (h2 : n ≤ 9223372036854775807) : keyOf Tryz.prog 3 (.int .i64 n) = some (aikey n) := Maps.keyOf_int_mk Tryz.underlying3 (WalkArith.wf_i64 (by omega))
theorem aikey_ne {a b : Int} (h : a ≠ b) : aikey a ≠ aikey b := fun e => h (by simpa [aikey] using e)
theorem aikey_lit (n : Int) : WideAt.IsKeyLit (aikey n) := by simp [aikey, WideAt.IsKeyLit]

def apkey (n : Int) : Lit := .int .u32 n
theorem apkey_key {n : Nat} (h : n < 4294967296) : keyOf Tryz.prog 48 (.int .u32 n) = some (apkey n) := Maps.keyOf_int_mk Tryz.underlying48 (keyL_wf h)
theorem apkey_ne {a b : Int} (h : a ≠ b) : apkey a ≠ apkey b := fun e => h (by simpa [apkey] using e)
theorem apkey_lit (n : Int) : WideAt.IsKeyLit (apkey n) := by simp [apkey, WideAt.IsKeyLit]

def txVal (x : TxV) : Value := .agg #[.int .i64 x.1, .int .i64 x.2.1, .int .u64 x.2.2.1, .int .u64 x.2.2.2]
def zeroTx : Value := .agg #[.int .i64 0, .int .i64 0, .int .u64 0, .int .u64 0]
def zeroLs : Value := .int .u64 0

def hearCells (tb db : Nat) (g : HearG) : Array Value := #[.map (some tb), .map (some db), .int .i64 g.most, .int .i64 g.recs]

structure HearIn (w : World) (hb tb db : Nat) (TD DD : DataW Value) (nt nd N : Nat) (g : HearG) : Prop where
  blk : Blk w hb (hearCells tb db g) 81
  tm : MapV 3 w tb nt TD
  dm : MapV 48 w db nd DD
  tno : ∀ n, g.T n = none → Maps.has TD (aikey n) = false
  tyes : ∀ n x, g.T n = some x → Maps.has TD (aikey n) = true ∧ getV TD (aikey n) zeroTx = txVal x ∧ 0 ≤ n ∧ n ≤ 2147483647
  tkeys : ∀ l, Maps.has TD l = true → ∃ n, l = aikey n ∧ g.T n ≠ none
  dno : ∀ n, g.D n = none → Maps.has DD (apkey n) = false
  dyes : ∀ n x, g.D n = some x → Maps.has DD (apkey n) = true ∧ getV DD (apkey n) zeroLs = .int .u64 x.2 ∧ 0 ≤ n ∧ n < 4294967296
  dkeys : ∀ l, Maps.has DD l = true → ∃ n, l = apkey n ∧ g.D n ≠ none
  ne : tb ≠ db
  nt : nt ≤ N
  nd : nd ≤ N

def HearAt (w : World) (hb tb db N : Nat) (g : HearG) : Prop := ∃ TD DD nt nd, HearIn w hb tb db TD DD nt nd N g

def HB (hb tb db : Nat) : Nat → Prop := fun k => k = hb ∨ k = tb ∨ k = db

section
variable {w w' : World} {hb tb db N nt nd : Nat} {TD DD : DataW Value} {g : HearG}

theorem HearIn.nh (h : HearIn w hb tb db TD DD nt nd N g) : tb ≠ hb ∧ db ≠ hb := by
  constructor
  · rintro rfl
    obtain ⟨es, c, e⟩ := h.tm.isMap
    have := h.blk
    unfold Blk at this
    rw [e] at this
    cases this
  · rintro rfl
    obtain ⟨es, c, e⟩ := h.dm.isMap
    have := h.blk
    unfold Blk at this
    rw [e] at this
    cases this

theorem HearIn.same (h : HearIn w hb tb db TD DD nt nd N g) (k : ∀ i, HB hb tb db i → w'.heap[i]? = w.heap[i]?) : HearIn w' hb tb db TD DD nt nd N g :=
  ⟨h.blk.same (k _ (.inl rfl)), h.tm.same (k _ (.inr (.inl rfl))), h.dm.same (k _ (.inr (.inr rfl))), h.tno, h.tyes, h.tkeys, h.dno, h.dyes, h.dkeys, h.ne, h.nt, h.nd⟩

theorem HearAt.same (h : HearAt w hb tb db N g) (k : ∀ i, HB hb tb db i → w'.heap[i]? = w.heap[i]?) : HearAt w' hb tb db N g := by
  obtain ⟨TD, DD, nt, nd, h⟩ := h
  exact ⟨TD, DD, nt, nd, h.same k⟩

theorem HearAt.lt (h : HearAt w hb tb db N g) : ∀ i, HB hb tb db i → i < w.heap.size := by
  obtain ⟨TD, DD, nt, nd, h⟩ := h
  rintro i (rfl | rfl | rfl)
  · exact h.blk.lt
  · exact h.tm.lt
  · exact h.dm.lt

theorem HearAt.below (h : HearAt w hb tb db N g) (k : Below w.heap.size w w') : HearAt w' hb tb db N g := h.same fun i hi => k.block i (h.lt i hi)

theorem HearAt.more (h : HearAt w hb tb db N g) {M : Nat} (k : N ≤ M) : HearAt w hb tb db M g := by
  obtain ⟨TD, DD, nt, nd, h⟩ := h
  exact ⟨TD, DD, nt, nd, h.blk, h.tm, h.dm, h.tno, h.tyes, h.tkeys, h.dno, h.dyes, h.dkeys, h.ne, Nat.le_trans h.nt k, Nat.le_trans h.nd k⟩

theorem HearAt.cells (h : HearAt w hb tb db N g) {g' : HearG} (hb' : Blk w' hb (hearCells tb db g') 81) (eT : g'.T = g.T) (eD : g'.D = g.D) (k : Kept (fun i => i = hb) w w') : HearAt w' hb tb db N g' := by
  obtain ⟨TD, DD, nt, nd, h⟩ := h
  have n := h.nh
  exact ⟨TD, DD, nt, nd, hb', h.tm.same (k.block _ h.tm.lt n.1), h.dm.same (k.block _ h.dm.lt n.2), by rw [eT]; exact h.tno, by rw [eT]; exact h.tyes, by rw [eT]; exact h.tkeys, by rw [eD]; exact h.dno, by rw [eD]; exact h.dyes, by rw [eD]; exact h.dkeys, h.ne, h.nt, h.nd⟩

theorem size_put_le {D : DataW Value} (h : Maps.Tidy D) (l : Lit) (v : DataW Value) : Maps.size (D.put l v) ≤ Maps.size D + 1 := by
  rw [Maps.size_put h]
  split <;> omega

theorem HearAt.putT (h : HearAt w hb tb db N g) (x : TxV) (h1 : 0 ≤ x.1) (h2 : x.1 ≤ 2147483647) (hN : N ≤ 900000) :
    ∃ u : World → World, ∀ V : World, (∀ i, HB hb tb db i → V.heap[i]? = w.heap[i]?) → (Instr.mapUpdate 78 (.map (some tb)) (.int .i64 x.1) (txVal x)).run Tryz.prog V = .ok () (u V) ∧ HearAt (u V) hb tb db (N + 1) (g.setT x) ∧ Kept (fun k => k = tb) V (u V) := by
  obtain ⟨TD, DD, nt, nd, h⟩ := h
  obtain ⟨u, hu⟩ := put_ex 3 78 44 tb (.int .i64 x.1) (txVal x)
  refine ⟨u, fun V hV => ?_⟩
  have hv := h.same hV
  obtain ⟨hrun, hm, ht⟩ := hu V nt TD (aikey x.1) hv.tm aiKeyed Tryz.underlying78 (by have := h.nt; omega) (aikey_key (by omega) (by omega))
  have hk : Kept (fun k => k = tb) V (u V) := mapTurned_kept ht rfl
  have hD := hv.tm.tidy aiKeyed
  have hn := h.nh
  refine ⟨hrun, ⟨_, DD, _, nd, hv.blk.same (hk.block _ hv.blk.lt (fun e => hn.1 e.symm)), hm, hv.dm.same (hk.block _ hv.dm.lt (fun e => h.ne e.symm)), fun n hn => ?_, fun n y hn => ?_, fun l hl => ?_, h.dno, h.dyes, h.dkeys, h.ne, ?_, by have := h.nd; omega⟩, hk⟩
  · change turnF g.T x.1 (some x) n = none at hn
    unfold turnF at hn
    by_cases e : n = x.1
    · rw [if_pos e] at hn; cases hn
    · rw [if_neg e] at hn
      rw [Maps.has_put_other (aikey_ne e)]
      exact h.tno n hn
  · change turnF g.T x.1 (some x) n = some y at hn
    unfold turnF at hn
    by_cases e : n = x.1
    · rw [if_pos e] at hn
      cases hn
      subst e
      exact ⟨Maps.has_put_same hD.isMap (aikey_lit _) _, getV_put_same hD.isMap (aikey_lit _) _ _, h1, h2⟩
    · rw [if_neg e] at hn
      have := h.tyes n y hn
      exact ⟨by rw [Maps.has_put_other (aikey_ne e)]; exact this.1, by rw [getV_put_other (aikey_ne e)]; exact this.2.1, this.2.2⟩
  · by_cases e : l = aikey x.1
    · exact ⟨x.1, e, by show turnF g.T x.1 (some x) x.1 ≠ none; unfold turnF; rw [if_pos rfl]; exact Option.some_ne_none _⟩
    · rw [Maps.has_put_other e] at hl
      obtain ⟨n, rfl, hT⟩ := h.tkeys l hl
      refine ⟨n, rfl, ?_⟩
      show turnF g.T x.1 (some x) n ≠ none
      unfold turnF
      split
      · exact Option.some_ne_none _
      · exact hT
  · have := size_put_le hD (aikey x.1) (.held (txVal x))
    have := h.tm.2
    have := h.nt
    omega

theorem HearAt.delT (h : HearAt w hb tb db N g) (n0 : Int) (h1 : 0 ≤ n0) (h2 : n0 ≤ 2147483647) (ty : TypeId) :
    ∃ u : World → World, ∀ V : World, (∀ i, HB hb tb db i → V.heap[i]? = w.heap[i]?) → (Builtin.delete_ #[78, 3] ty #[.map (some tb), .int .i64 n0]).run Tryz.prog V = .ok (.tuple #[]) (u V) ∧ HearAt (u V) hb tb db N (g.delT n0) ∧ Kept (fun k => k = tb) V (u V) := by
  obtain ⟨TD, DD, nt, nd, h⟩ := h
  obtain ⟨u, hu⟩ := del_ex 3 78 44 tb (.int .i64 n0) ty
  refine ⟨u, fun V hV => ?_⟩
  have hv := h.same hV
  obtain ⟨hrun, hm, ht⟩ := hu V nt TD (aikey n0) hv.tm aiKeyed Tryz.underlying78 (aikey_key (by omega) (by omega))
  have hk : Kept (fun k => k = tb) V (u V) := mapTurned_kept ht rfl
  have hn := h.nh
  refine ⟨hrun, ⟨_, DD, _, nd, hv.blk.same (hk.block _ hv.blk.lt (fun e => hn.1 e.symm)), hm, hv.dm.same (hk.block _ hv.dm.lt (fun e => h.ne e.symm)), fun n hn => ?_, fun n y hn => ?_, fun l hl => ?_, h.dno, h.dyes, h.dkeys, h.ne, ?_, h.nd⟩, hk⟩
  · change turnF g.T n0 none n = none at hn
    unfold turnF at hn
    by_cases e : n = n0
    · subst e; exact Maps.has_del_same
    · rw [if_neg e] at hn
      rw [Maps.has_del_other (aikey_ne e)]
      exact h.tno n hn
  · change turnF g.T n0 none n = some y at hn
    unfold turnF at hn
    by_cases e : n = n0
    · rw [if_pos e] at hn; cases hn
    · rw [if_neg e] at hn
      have := h.tyes n y hn
      exact ⟨by rw [Maps.has_del_other (aikey_ne e)]; exact this.1, by rw [getV_del_other (aikey_ne e)]; exact this.2.1, this.2.2⟩
  · by_cases e : l = aikey n0
    · rw [e, Maps.has_del_same] at hl; cases hl
    · rw [Maps.has_del_other e] at hl
      obtain ⟨n, rfl, hT⟩ := h.tkeys l hl
      refine ⟨n, rfl, ?_⟩
      show turnF g.T n0 none n ≠ none
      unfold turnF
      rw [if_neg (fun q => e (by rw [q]))]
      exact hT
  · have := Maps.size_del (hv.tm.tidy aiKeyed) (k := aikey n0)
    have := h.tm.2
    have := h.nt
    omega

theorem HearAt.putD (h : HearAt w hb tb db N g) (x : DiV) (h2 : x.1 < 4294967296) (hN : N ≤ 900000) :
    ∃ u : World → World, ∀ V : World, (∀ i, HB hb tb db i → V.heap[i]? = w.heap[i]?) → (Instr.mapUpdate 79 (.map (some db)) (.int .u32 x.1) (.int .u64 x.2)).run Tryz.prog V = .ok () (u V) ∧ HearAt (u V) hb tb db (N + 1) (g.setD x) ∧ Kept (fun k => k = db) V (u V) := by
  obtain ⟨TD, DD, nt, nd, h⟩ := h
  obtain ⟨u, hu⟩ := put_ex 48 79 31 db (.int .u32 x.1) (.int .u64 x.2)
  refine ⟨u, fun V hV => ?_⟩
  have hv := h.same hV
  obtain ⟨hrun, hm, ht⟩ := hu V nd DD (apkey x.1) hv.dm pageKeyed Tryz.underlying79 (by have := h.nd; omega) (apkey_key h2)
  have hk : Kept (fun k => k = db) V (u V) := mapTurned_kept ht rfl
  have hD := hv.dm.tidy pageKeyed
  have hn := h.nh
  refine ⟨hrun, ⟨TD, _, nt, _, hv.blk.same (hk.block _ hv.blk.lt (fun e => hn.2 e.symm)), hv.tm.same (hk.block _ hv.tm.lt h.ne), hm, h.tno, h.tyes, h.tkeys, fun n hn => ?_, fun n y hn => ?_, fun l hl => ?_, h.ne, by have := h.nt; omega, ?_⟩, hk⟩
  · change turnF g.D x.1 (some x) n = none at hn
    unfold turnF at hn
    by_cases e : n = (x.1 : Int)
    · rw [if_pos e] at hn; cases hn
    · rw [if_neg e] at hn
      rw [Maps.has_put_other (apkey_ne e)]
      exact h.dno n hn
  · change turnF g.D x.1 (some x) n = some y at hn
    unfold turnF at hn
    by_cases e : n = (x.1 : Int)
    · rw [if_pos e] at hn
      cases hn
      subst e
      exact ⟨Maps.has_put_same hD.isMap (apkey_lit _) _, getV_put_same hD.isMap (apkey_lit _) _ _, by omega, by omega⟩
    · rw [if_neg e] at hn
      have := h.dyes n y hn
      exact ⟨by rw [Maps.has_put_other (apkey_ne e)]; exact this.1, by rw [getV_put_other (apkey_ne e)]; exact this.2.1, this.2.2⟩
  · by_cases e : l = apkey x.1
    · exact ⟨x.1, e, by show turnF g.D x.1 (some x) x.1 ≠ none; unfold turnF; rw [if_pos rfl]; exact Option.some_ne_none _⟩
    · rw [Maps.has_put_other e] at hl
      obtain ⟨n, rfl, hT⟩ := h.dkeys l hl
      refine ⟨n, rfl, ?_⟩
      show turnF g.D x.1 (some x) n ≠ none
      unfold turnF
      split
      · exact Option.some_ne_none _
      · exact hT
  · have := size_put_le hD (apkey x.1) (.held (.int .u64 x.2))
    have := h.dm.2
    have := h.nd
    omega

theorem HearAt.lookT (h : HearAt w hb tb db N g) (n : Int) (h1 : -9223372036854775808 ≤ n) (h2 : n ≤ 9223372036854775807) :
    (Instr.lookup 78 (.map (some tb)) (.int .i64 n) true).run Tryz.prog w = .ok (.tuple #[match g.T n with | some x => txVal x | none => zeroTx, .bool (g.T n).isSome]) w := by
  obtain ⟨TD, DD, nt, nd, h⟩ := h
  have hr := h.tm.lookOk (e := 44) aiKeyed Tryz.underlying78 (z := zeroTx) (Tryz.zeroValue44 w) (aikey_key h1 h2)
  rw [hr]
  cases e : g.T n with
  | none => rw [h.tno n e, getV_none (h.tno n e)]; rfl
  | some x => rw [(h.tyes n x e).1, (h.tyes n x e).2.1]; rfl

theorem HearAt.lookD (h : HearAt w hb tb db N g) (p : Nat) (h2 : p < 4294967296) :
    (Instr.lookup 79 (.map (some db)) (.int .u32 p) true).run Tryz.prog w = .ok (.tuple #[.int .u64 (match g.D p with | some x => x.2 | none => 0 : Nat), .bool (g.D p).isSome]) w := by
  obtain ⟨TD, DD, nt, nd, h⟩ := h
  have hr := h.dm.lookOk (e := 31) pageKeyed Tryz.underlying79 (z := zeroLs) (Tryz.zeroValue31 w) (apkey_key h2)
  rw [hr]
  cases e : g.D p with
  | none => rw [show apkey (p : Int) = apkey ((p : Nat) : Int) from rfl, h.dno p e, getV_none (h.dno p e)]; rfl
  | some x => rw [(h.dyes p x e).1, (h.dyes p x e).2.1]; rfl

end

end Go.Proofs.YtchjboijoebifaaGreat

namespace Go.Proofs.YtchjboijoebifaaGreat
open Go.Shelf

def tsortLays_ren : Go.Shelf.Ren := ⟨fun | 6 => 64 | 15 => 103 | 14 => 102 | 28 => 127 | 29 => 128 | 20 => 119 | 21 => 120 | 22 => 121 | 23 => 122 | 24 => 123 | 25 => 124 | 26 => 125 | 27 => 126 | 46 => 141 | 47 => 142 | 48 => 143 | 49 => 144 | 50 => 145 | 57 => 152 | n => n, fun | 22 => 28 | 24 => 44 | 25 => 134 | 3 => 3 | 39 => 168 | 0 => 0 | 53 => 47 | 55 => 30 | 4 => 4 | 46 => 186 | 45 => 185 | 50 => 116 | 5 => 5 | 9 => 9 | 66 => 202 | 70 => 206 | 76 => 211 | 77 => 212 | n => n, fun | n => n⟩
theorem tsortLays : Go.Proofs.SlLaysF0.n6 Tryz.prog tsortLays_ren := {
  mixed := by kernel_rfl
  f6 := ⟨Tryz.f64.name, by decide, Tryz.func64.trans (congrArg some (by kernel_rfl))⟩
  f14 := ⟨Tryz.f102.name, by decide, Tryz.func102.trans (congrArg some (by kernel_rfl))⟩
  f15 := Tryz.func103.trans (congrArg some (by kernel_rfl))
  f20 := ⟨Tryz.f119.name, by decide, Tryz.func119.trans (congrArg some (by kernel_rfl))⟩
  f21 := ⟨Tryz.f120.name, by decide, Tryz.func120.trans (congrArg some (by kernel_rfl))⟩
  f22 := ⟨Tryz.f121.name, by decide, Tryz.func121.trans (congrArg some (by kernel_rfl))⟩
  f23 := ⟨Tryz.f122.name, by decide, Tryz.func122.trans (congrArg some (by kernel_rfl))⟩
  f24 := ⟨Tryz.f123.name, by decide, Tryz.func123.trans (congrArg some (by kernel_rfl))⟩
  f25 := ⟨Tryz.f124.name, by decide, Tryz.func124.trans (congrArg some (by kernel_rfl))⟩
  f26 := ⟨Tryz.f125.name, by decide, Tryz.func125.trans (congrArg some (by kernel_rfl))⟩
  f27 := ⟨Tryz.f126.name, by decide, Tryz.func126.trans (congrArg some (by kernel_rfl))⟩
  f28 := Tryz.func127.trans (congrArg some (by kernel_rfl))
  f29 := Tryz.func128.trans (congrArg some (by kernel_rfl))
  f46 := ⟨Tryz.f141.name, by decide, Tryz.func141.trans (congrArg some (by kernel_rfl))⟩
  f47 := Tryz.func142.trans (congrArg some (by kernel_rfl))
  f48 := Tryz.func143.trans (congrArg some (by kernel_rfl))
  f49 := ⟨Tryz.f144.name, by decide, Tryz.func144.trans (congrArg some (by kernel_rfl))⟩
  f50 := ⟨Tryz.f145.name, by decide, Tryz.func145.trans (congrArg some (by kernel_rfl))⟩
  f57 := ⟨Tryz.f152.name, by decide, Tryz.func152.trans (congrArg some (by kernel_rfl))⟩
  t0 := Tryz.underlying0
  a0 := Tryz.isAgg0
  z0 := Tryz.sizeOf0
  v0 := Tryz.zeroValue0
  t3 := Tryz.underlying3
  a3 := Tryz.isAgg3
  z3 := Tryz.sizeOf3
  v3 := Tryz.zeroValue3
  t4 := Tryz.underlying4
  a4 := Tryz.isAgg4
  z4 := Tryz.sizeOf4
  v4 := Tryz.zeroValue4
  t5 := Tryz.underlying5
  a5 := Tryz.isAgg5
  z5 := Tryz.sizeOf5
  v5 := Tryz.zeroValue5
  t9 := Tryz.underlying9
  a9 := Tryz.isAgg9
  z9 := Tryz.sizeOf9
  v9 := Tryz.zeroValue9
  t22 := Tryz.underlying28
  a22 := Tryz.isAgg28
  z22 := Tryz.sizeOf28
  v22 := Tryz.zeroValue28
  t25 := Tryz.underlying134
  a25 := Tryz.isAgg134
  z25 := Tryz.sizeOf134
  v25 := Tryz.zeroValue134
  t39 := Tryz.underlying168
  a39 := Tryz.isAgg168
  z39 := Tryz.sizeOf168
  v39 := Tryz.zeroValue168
  t45 := Tryz.underlying185
  a45 := Tryz.isAgg185
  z45 := Tryz.sizeOf185
  v45 := Tryz.zeroValue185
  t46 := Tryz.underlying186
  a46 := Tryz.isAgg186
  z46 := Tryz.sizeOf186
  v46 := Tryz.zeroValue186
  t50 := Tryz.underlying116
  a50 := Tryz.isAgg116
  z50 := Tryz.sizeOf116
  v50 := Tryz.zeroValue116
  t53 := Tryz.underlying47
  a53 := Tryz.isAgg47
  z53 := Tryz.sizeOf47
  v53 := Tryz.zeroValue47
  t55 := Tryz.underlying30
  a55 := Tryz.isAgg30
  z55 := Tryz.sizeOf30
  v55 := Tryz.zeroValue30
  t66 := Tryz.underlying202
  a66 := Tryz.isAgg202
  z66 := Tryz.sizeOf202
  v66 := Tryz.zeroValue202
  t70 := Tryz.underlying206
  a70 := Tryz.isAgg206
  z70 := Tryz.sizeOf206
  v70 := Tryz.zeroValue206
  t76 := Tryz.underlying211
  a76 := Tryz.isAgg211
  z76 := Tryz.sizeOf211
  v76 := Tryz.zeroValue211
  t77 := Tryz.underlying212
  a77 := Tryz.isAgg212
  z77 := Tryz.sizeOf212
  v77 := Tryz.zeroValue212 }

end Go.Proofs.YtchjboijoebifaaGreat

namespace Go.Proofs.YtchjboijoebifaaGreat
open Go.Shelf

def dsortLays_ren : Go.Shelf.Ren := ⟨fun | 6 => 67 | 15 => 103 | 14 => 105 | 28 => 127 | 29 => 128 | 20 => 129 | 21 => 130 | 22 => 131 | 23 => 132 | 24 => 133 | 25 => 134 | 26 => 135 | 27 => 136 | 46 => 146 | 47 => 142 | 48 => 143 | 49 => 147 | 50 => 148 | 57 => 153 | n => n, fun | 22 => 29 | 24 => 50 | 25 => 137 | 3 => 3 | 39 => 168 | 0 => 0 | 53 => 47 | 55 => 30 | 4 => 4 | 46 => 186 | 45 => 185 | 50 => 116 | 5 => 5 | 9 => 9 | 66 => 202 | 70 => 206 | 76 => 211 | 77 => 212 | n => n, fun | n => n⟩
theorem dsortLays : Go.Proofs.SlLaysF0.n6 Tryz.prog dsortLays_ren := {
  mixed := by kernel_rfl
  f6 := ⟨Tryz.f67.name, by decide, Tryz.func67.trans (congrArg some (by kernel_rfl))⟩
  f14 := ⟨Tryz.f105.name, by decide, Tryz.func105.trans (congrArg some (by kernel_rfl))⟩
  f15 := Tryz.func103.trans (congrArg some (by kernel_rfl))
  f20 := ⟨Tryz.f129.name, by decide, Tryz.func129.trans (congrArg some (by kernel_rfl))⟩
  f21 := ⟨Tryz.f130.name, by decide, Tryz.func130.trans (congrArg some (by kernel_rfl))⟩
  f22 := ⟨Tryz.f131.name, by decide, Tryz.func131.trans (congrArg some (by kernel_rfl))⟩
  f23 := ⟨Tryz.f132.name, by decide, Tryz.func132.trans (congrArg some (by kernel_rfl))⟩
  f24 := ⟨Tryz.f133.name, by decide, Tryz.func133.trans (congrArg some (by kernel_rfl))⟩
  f25 := ⟨Tryz.f134.name, by decide, Tryz.func134.trans (congrArg some (by kernel_rfl))⟩
  f26 := ⟨Tryz.f135.name, by decide, Tryz.func135.trans (congrArg some (by kernel_rfl))⟩
  f27 := ⟨Tryz.f136.name, by decide, Tryz.func136.trans (congrArg some (by kernel_rfl))⟩
  f28 := Tryz.func127.trans (congrArg some (by kernel_rfl))
  f29 := Tryz.func128.trans (congrArg some (by kernel_rfl))
  f46 := ⟨Tryz.f146.name, by decide, Tryz.func146.trans (congrArg some (by kernel_rfl))⟩
  f47 := Tryz.func142.trans (congrArg some (by kernel_rfl))
  f48 := Tryz.func143.trans (congrArg some (by kernel_rfl))
  f49 := ⟨Tryz.f147.name, by decide, Tryz.func147.trans (congrArg some (by kernel_rfl))⟩
  f50 := ⟨Tryz.f148.name, by decide, Tryz.func148.trans (congrArg some (by kernel_rfl))⟩
  f57 := ⟨Tryz.f153.name, by decide, Tryz.func153.trans (congrArg some (by kernel_rfl))⟩
  t0 := Tryz.underlying0
  a0 := Tryz.isAgg0
  z0 := Tryz.sizeOf0
  v0 := Tryz.zeroValue0
  t3 := Tryz.underlying3
  a3 := Tryz.isAgg3
  z3 := Tryz.sizeOf3
  v3 := Tryz.zeroValue3
  t4 := Tryz.underlying4
  a4 := Tryz.isAgg4
  z4 := Tryz.sizeOf4
  v4 := Tryz.zeroValue4
  t5 := Tryz.underlying5
  a5 := Tryz.isAgg5
  z5 := Tryz.sizeOf5
  v5 := Tryz.zeroValue5
  t9 := Tryz.underlying9
  a9 := Tryz.isAgg9
  z9 := Tryz.sizeOf9
  v9 := Tryz.zeroValue9
  t22 := Tryz.underlying29
  a22 := Tryz.isAgg29
  z22 := Tryz.sizeOf29
  v22 := Tryz.zeroValue29
  t25 := Tryz.underlying137
  a25 := Tryz.isAgg137
  z25 := Tryz.sizeOf137
  v25 := Tryz.zeroValue137
  t39 := Tryz.underlying168
  a39 := Tryz.isAgg168
  z39 := Tryz.sizeOf168
  v39 := Tryz.zeroValue168
  t45 := Tryz.underlying185
  a45 := Tryz.isAgg185
  z45 := Tryz.sizeOf185
  v45 := Tryz.zeroValue185
  t46 := Tryz.underlying186
  a46 := Tryz.isAgg186
  z46 := Tryz.sizeOf186
  v46 := Tryz.zeroValue186
  t50 := Tryz.underlying116
  a50 := Tryz.isAgg116
  z50 := Tryz.sizeOf116
  v50 := Tryz.zeroValue116
  t53 := Tryz.underlying47
  a53 := Tryz.isAgg47
  z53 := Tryz.sizeOf47
  v53 := Tryz.zeroValue47
  t55 := Tryz.underlying30
  a55 := Tryz.isAgg30
  z55 := Tryz.sizeOf30
  v55 := Tryz.zeroValue30
  t66 := Tryz.underlying202
  a66 := Tryz.isAgg202
  z66 := Tryz.sizeOf202
  v66 := Tryz.zeroValue202
  t70 := Tryz.underlying206
  a70 := Tryz.isAgg206
  z70 := Tryz.sizeOf206
  v70 := Tryz.zeroValue206
  t76 := Tryz.underlying211
  a76 := Tryz.isAgg211
  z76 := Tryz.sizeOf211
  v76 := Tryz.zeroValue211
  t77 := Tryz.underlying212
  a77 := Tryz.isAgg212
  z77 := Tryz.sizeOf212
  v77 := Tryz.zeroValue212 }

end Go.Proofs.YtchjboijoebifaaGreat

namespace Go.Proofs.YtchjboijoebifaaGreat
open Go.Shelf

def lenLays_ren : Go.Shelf.Ren := ⟨fun | 125 => 103 | 128 => 127 | 129 => 128 | n => n, fun | 46 => 168 | 3 => 3 | 51 => 47 | 53 => 30 | 4 => 4 | 5 => 5 | 9 => 9 | n => n, fun | n => n⟩
theorem lenLays : Go.Proofs.Lays.n125 Tryz.prog lenLays_ren := {
  mixed := by kernel_rfl
  f125 := Tryz.func103.trans (congrArg some (by kernel_rfl))
  f128 := Tryz.func127.trans (congrArg some (by kernel_rfl))
  f129 := Tryz.func128.trans (congrArg some (by kernel_rfl))
  t3 := Tryz.underlying3
  a3 := Tryz.isAgg3
  z3 := Tryz.sizeOf3
  v3 := Tryz.zeroValue3
  t4 := Tryz.underlying4
  a4 := Tryz.isAgg4
  z4 := Tryz.sizeOf4
  v4 := Tryz.zeroValue4
  t5 := Tryz.underlying5
  a5 := Tryz.isAgg5
  z5 := Tryz.sizeOf5
  v5 := Tryz.zeroValue5
  t9 := Tryz.underlying9
  a9 := Tryz.isAgg9
  z9 := Tryz.sizeOf9
  v9 := Tryz.zeroValue9
  t46 := Tryz.underlying168
  a46 := Tryz.isAgg168
  z46 := Tryz.sizeOf168
  v46 := Tryz.zeroValue168
  t51 := Tryz.underlying47
  a51 := Tryz.isAgg47
  z51 := Tryz.sizeOf47
  v51 := Tryz.zeroValue47
  t53 := Tryz.underlying30
  a53 := Tryz.isAgg30
  z53 := Tryz.sizeOf30
  v53 := Tryz.zeroValue30 }

end Go.Proofs.YtchjboijoebifaaGreat
