/-
  The walks of the disk's inner methods: cut, settle, keep, sureBytes, keepPart.
-/
import Derived.Test.YtgmfgkdecpldeaaGreatDiskSmallC
import Derived.RegionTactic
import Derived.ChangeAlike
namespace Go.Proofs.YtgmfgkdecpldeaaGreat
open Go.RowKit
set_option linter.unusedVariables false

theorem heap_set (w : World) (p i : Nat) (v : Value) {k : Nat} (hk : k ≠ p) : (w.setCell ⟨p, i, none⟩ v).heap[k]? = w.heap[k]? := Below.heap_setCell _ _ _ _ hk

theorem heap_old (w : World) (o : Obj) {k : Nat} (hk : k < w.heap.size) : (w.alloc o).heap[k]? = w.heap[k]? := (Kept.alloc (fun _ => False) w o).block k hk id

theorem cellsOf_take (l : List UInt8) (n : Nat) : dcellsOf (l.take n) = (dcellsOf l).take n := by simp [dcellsOf, List.map_take]

theorem owns_take {w : World} {e : TypeId} {n : Nat} {g c : Nat} {xs : List Value} (h : w.ownsRow 0 e 1 (.slice (some ⟨g, 0, none⟩) n c) n xs) {k : Nat} (hk : k ≤ n) :
    w.ownsRow 0 e 1 (.slice (some ⟨g, 0, none⟩) k c) k (xs.take k) := by
  rcases h.2 with ⟨e, _⟩ | ⟨g', cap, cur, e, h0, hb, h1, h2, h3, h4⟩
  · cases e
  · cases e
    refine ⟨?_, .inr ⟨g, c, cur, rfl, h0, hb, by omega, h2, h3, ?_⟩⟩
    · rw [List.length_take, h.1]; omega
    · rw [← h4, List.take_take]; congr 1; omega

section
variable {w : World} {p : Nat} {m : Mem} {d : DG}

theorem DiskAt.rest_lt (h : DiskAt w p m d) {k : Nat} (hk : m.rest k) : k < w.heap.size := by
  have hP := h.parts
  rcases hk with rfl | rfl | hk | hk | hk
  · obtain ⟨f, hf, _⟩ := hP.sure; exact hf.lt
  · exact hP.fresh.lt
  · obtain ⟨cur, e⟩ := owns_block hP.loose hk; exact e.lt
  · obtain ⟨cur, e⟩ := owns_block hP.log hk; exact e.lt
  · obtain ⟨cur, e⟩ := hP.plan.block hk; exact e.lt

theorem DiskAt.set2 (h : DiskAt w p m d) (i j : Nat) (u v : Value) :
    Blk ((w.setCell ⟨p, i, none⟩ u).setCell ⟨p, j, none⟩ v) p (((dvals m d).setIfInBounds i u).setIfInBounds j v) 98 ∧ Parts ((w.setCell ⟨p, i, none⟩ u).setCell ⟨p, j, none⟩ v) m d :=
  ⟨(h.blk.set i u).set j v, h.parts.same fun k hk => (heap_set _ _ _ _ (h.off hk)).trans (heap_set _ _ _ _ (h.off hk))⟩

theorem kept_set2 (w : World) (p i j : Nat) (u v : Value) : Kept (· = p) w ((w.setCell ⟨p, i, none⟩ u).setCell ⟨p, j, none⟩ v) :=
  (Kept.setCell (· = p) w p i u rfl).trans (Kept.setCell (· = p) _ p j v rfl)

set_option maxHeartbeats 800000 in
set_option maxRecDepth 60000 in
theorem cut_any (h : DiskAt w p m d) (n : Nat) (hn : n ≤ d.log.length) (hl : d.log.length ≤ 1000000000) :
    Calls Tryz.prog 89 #[.pointer (some ⟨p, 0, none⟩), .int .i64 n] w fun x w' => x = .returned (.tuple #[]) ∧
      (∃ v, DiskAt w' p { m with logV := v } { d with log := d.log.take n, sl := n } ∧ (v.ownBlock = none ∨ v.ownBlock = m.logV.ownBlock)) ∧ Kept (· = p) w w' := by
  have hc := h.blk.cells
  have c9 := hc.c9
  have f9 := hc.fr 9
  have c10 := hc.c10
  have f10 := hc.fr 10
  obtain ⟨m1, m2, m3, m4, m5⟩ := m
  have hlog := h.parts.log
  have hsure := h.parts.sure
  rcases hlog.2 with ⟨e, e0⟩ | ⟨g, cap, cur, e, h0, hb, h1, h2, h3, h4⟩
  · simp only at e
    subst e
    have hn0 : n = 0 := by omega
    subst hn0
    go_enter Tryz.func89, Tryz.ntmps89
    go_wp2
    go_end0
    have hp := h.set2 9 10 (.slice none 0 0) (.int .i64 0)
    exact ⟨rfl, ⟨_, ⟨hp.1, ⟨hp.2.plan, hp.2.sure, hp.2.fresh, hp.2.ne, hp.2.loose, World.ownsRow_nil _ _ _ _⟩⟩, .inl rfl⟩, kept_set2 _ _ _ _ _ _⟩
  · simp only at e
    subst e
    unfold maxLen at h2
    go_enter Tryz.func89, Tryz.ntmps89
    go_wp2
    go_end0
    have hp := h.set2 9 10 (.slice (some ⟨g, 0, none⟩) n cap) (.int .i64 n)
    have hlen : (d.log.take n).length = n := by rw [List.length_take]; omega
    refine ⟨rfl, ⟨.slice (some ⟨g, 0, none⟩) n cap, ⟨hp.1, ⟨hp.2.plan, hp.2.sure, hp.2.fresh, hp.2.ne, hp.2.loose, ?_⟩⟩, .inr rfl⟩, kept_set2 _ _ _ _ _ _⟩
    show World.ownsRow _ _ _ _ _ (d.log.take n).length _
    rw [hlen, cellsOf_take]
    exact owns_take hp.2.log hn

set_option maxHeartbeats 800000 in
set_option maxRecDepth 60000 in
theorem settle_any (h : DiskAt w p m d) :
    Calls Tryz.prog 88 #[.pointer (some ⟨p, 0, none⟩)] w fun x w' => x = .returned (.tuple #[]) ∧
      (∃ b, DiskAt w' p { m with looseV := .slice none 0 0, fresh := b } { d with loose := [], fresh := fun _ => none, nF := 0, mark := d.sm } ∧ w.heap.size ≤ b) ∧ Kept (· = p) w w' := by
  have hc := h.blk.cells
  have c5 := hc.c5
  have c6 := hc.c6
  have c7 := hc.c7
  have c8 := hc.c8
  have f6 := hc.fr 6
  have f7 := hc.fr 7
  have f8 := hc.fr 8
  have hmm := @run_makeMap Tryz.prog
  have hlt := h.lt
  go_enter Tryz.func88, Tryz.ntmps88
  go_wp2
  go_end0
  have e1 : ∀ (k : Nat), k ≠ p → k < w.heap.size → ((((w.setCell ⟨p, 6, none⟩ (.slice none 0 0)).setCell ⟨p, 7, none⟩ (.map (some w.heap.size))).setCell ⟨p, 8, none⟩ (.int .u64 d.sm)).alloc (.map #[] 0)).heap[k]? = w.heap[k]? := fun k hk hk' =>
    (heap_old _ _ (by simpa using hk')).trans ((heap_set _ _ _ _ hk).trans ((heap_set _ _ _ _ hk).trans (heap_set _ _ _ _ hk)))
  have hr : ∀ {k : Nat}, m.rest k → k < w.heap.size := fun hk => h.rest_lt hk
  have hP := h.parts
  obtain ⟨f, hf, hz⟩ := hP.sure
  have hmd := IsPages.made (((w.setCell ⟨p, 6, none⟩ (.slice none 0 0)).setCell ⟨p, 7, none⟩ (.map (some w.heap.size))).setCell ⟨p, 8, none⟩ (.int .u64 d.sm))
  have es : (((w.setCell ⟨p, 6, none⟩ (.slice none 0 0)).setCell ⟨p, 7, none⟩ (.map (some w.heap.size))).setCell ⟨p, 8, none⟩ (.int .u64 d.sm)).heap.size = w.heap.size := by simp
  rw [es] at hmd
  refine ⟨rfl, ⟨w.heap.size, ⟨?_, ⟨hP.plan.same fun g k => e1 g (h.off (.inr (.inr (.inr (.inr k))))) (hr (.inr (.inr (.inr (.inr k))))), ⟨f, hf.same (e1 _ (h.off (.inl rfl)) (hr (.inl rfl))), hz⟩, hmd,
    fun e => by have := hr (.inl rfl : m.rest m.sure); simp only at e; omega, World.ownsRow_nil _ _ _ _, owns_same hP.log fun g k => e1 g (h.off (.inr (.inr (.inr (.inl k))))) (hr (.inr (.inr (.inr (.inl k)))))⟩⟩, Nat.le_refl _⟩, ?_⟩
  · exact (((h.blk.set 6 _).set 7 _).set 8 _).same (heap_old _ _ (by simpa using hlt))
  · exact ((kept_set2 _ _ _ _ _ _).trans (Kept.setCell (· = p) _ p _ _ rfl)).trans (Kept.alloc _ _ _)

/-- A page was made sure. -/
theorem DiskAt.turned (h : DiskAt w p m d) {W W' : World} (hB : Below w.heap.size w W) {f : Nat → Option ByteArray} (hz : ∀ q, 1 ≤ q → q < 4294967296 → (f q).getD zerosS = d.sure q) {pg : Nat} {s : ByteArray}
    (h1 : IsPages W' m.sure (d.nS + 1) (setF f pg s)) (h2 : W.mapTurned W' m.sure) :
    DiskAt W' p m { d with sure := fun q => if q = pg then s else d.sure q, nS := d.nS + 1 } ∧ Kept (fun k => k = p ∨ k = m.sure) w W' := by
  have hg := h2.grown
  have hb : ∀ k, k < w.heap.size → k ≠ m.sure → W'.heap[k]? = w.heap[k]? := fun k hk hn =>
    (hg.block k (Nat.lt_of_lt_of_le hk hB.size) (fun e => hn (by cases e; rfl))).trans (hB.block k hk)
  have hP := h.parts
  have ha := hP.apart
  refine ⟨⟨h.blk.same (hb p h.lt (fun e => h.off (.inl rfl) e.symm)), ⟨hP.plan.same fun g k => hb g (h.rest_lt (.inr (.inr (.inr (.inr k))))) (ha.2.2 g k).1, ⟨setF f pg s, h1, ?_⟩,
    hP.fresh.same (hb _ (h.rest_lt (.inr (.inl rfl))) (fun e => hP.ne e.symm)), hP.ne, owns_same hP.loose fun g k => hb g (h.rest_lt (.inr (.inr (.inl k)))) (ha.1 g k).1,
    owns_same hP.log fun g k => hb g (h.rest_lt (.inr (.inr (.inr (.inl k))))) (ha.2.1 g k).1⟩⟩, (Kept.of_below hB).trans (Kept.of_grown hg fun b e => by cases e; exact .inr rfl)⟩
  intro q h0 hq
  show (setF f pg s q).getD zerosS = if q = pg then s else d.sure q
  unfold setF
  by_cases c : q = pg
  · rw [if_pos c, if_pos c]; rfl
  · rw [if_neg c, if_neg c]; exact hz q h0 hq

/-- What a write makes sure. -/
def keepF (x : LW) (f : Nat → ByteArray) : Nat → ByteArray := if x.page = 0 then f else fun q => if q = x.page then x.s else f q
def keepM (x : LW) (n : Nat) : Nat := if x.page = 0 then x.mark else n

set_option maxHeartbeats 800000 in
set_option maxRecDepth 8000 in
theorem keep_any (hD : DiskAt w p m d) (x : LW) (hx : x.page < 4294967296) (hs : x.s.size ≤ 512) (hn : d.nS ≤ 1000000) :
    Calls Tryz.prog 87 #[.pointer (some ⟨p, 0, none⟩), .agg (wcells x).toArray] w fun e w' => e = .returned (.tuple #[]) ∧
      DiskAt w' p m { d with sure := keepF x d.sure, sm := keepM x d.sm, nS := d.nS + 1 } ∧ Kept (fun k => k = p ∨ k = m.sure) w w' := by
  have hc := hD.blk.cells
  have c4 := hc.c4
  have c5 := hc.c5
  have f5 := hc.fr 5
  have hlt := hD.lt
  obtain ⟨f, hf, hz⟩ := hD.parts.sure
  obtain ⟨pg, s, mk⟩ := x
  unfold wcells keepF keepM
  simp only at hx hs ⊢
  by_cases h0 : pg = 0
  · subst h0
    go_enter Tryz.func87, Tryz.ntmps87
    go_wp2
    refine bodyPost_ret (results_none rfl _ _ _) rfl ?_
    have hp := hD.set 5 (.int .u64 mk)
    have e1 : Parts ((w.setCell ⟨p, 5, none⟩ (.int .u64 mk)).alloc (.cells #[.int .u32 0, .string s, .int .u64 mk] 128)) m d := hp.2.same fun k hk => heap_old _ _ (by simpa using hD.rest_lt hk)
    refine ⟨rfl, ⟨hp.1.same (heap_old _ _ (by simpa using hlt)), ⟨e1.plan, ?_, e1.fresh, e1.ne, e1.loose, e1.log⟩⟩, ((Kept.setCell _ w p 5 _ (.inl rfl)).trans (Kept.alloc _ _ _))⟩
    obtain ⟨f, hf, hz⟩ := e1.sure
    exact ⟨f, hf.mono (Nat.le_succ _), hz⟩
  · rw [if_neg h0, if_neg h0]
    obtain ⟨u, hu⟩ := putP_ex m.sure pg s
    have hp := hu ((w.alloc (.cells #[.int .u32 pg, .string s, .int .u64 mk] 128)).drew) d.nS f (hf.same (heap_old _ _ hf.lt)) (by omega) hx (by omega)
    obtain ⟨hr, hp1, hp2⟩ := hp
    have h0' : ((pg : Int) == 0) = false := by simpa using h0
    have H : Hid (DiskAt w p m d ∧ IsPages w m.sure d.nS f ∧ (∀ q, 1 ≤ q → q < 4294967296 → (f q).getD zerosS = d.sure q) ∧ IsPages (u (w.alloc (.cells #[.int .u32 pg, .string s, .int .u64 mk] 128)).drew) m.sure (d.nS + 1) (setF f pg s) ∧
      (w.alloc (.cells #[.int .u32 pg, .string s, .int .u64 mk] 128)).drew.mapTurned (u (w.alloc (.cells #[.int .u32 pg, .string s, .int .u64 mk] 128)).drew) m.sure) := ⟨hD, hf, hz, hp1, hp2⟩
    clear hD hf hz hp1 hp2 hu hc h0
    go_enter Tryz.func87, Tryz.ntmps87
    go_wp2
    go_region
    go_end0
    obtain ⟨hD, hf, hz, hp1, hp2⟩ := H.out
    have hq := hD.turned (W := (w.alloc (.cells #[.int .u32 pg, .string s, .int .u64 mk] 128)).drew) ((Below.refl _ _).alloc (Nat.le_refl _) _).drew hz hp1 hp2
    exact ⟨rfl, hq.1, hq.2⟩

set_option maxHeartbeats 800000 in
set_option maxRecDepth 8000 in
theorem sureBytes_any (hD : DiskAt w p m d) (q : Nat) (h0 : 1 ≤ q) (hq : q < 4294967296) :
    Calls Tryz.prog 59 #[.pointer (some ⟨p, 0, none⟩), .int .u32 q] w fun e w' => e = .returned (.string (d.sure q)) ∧ Below w.heap.size w w' := by
  have hc := hD.blk.cells
  have c4 := hc.c4
  obtain ⟨f, hf, hz⟩ := hD.parts.sure
  have hl := hf.look h0 hq
  have hzq := hz q h0 hq
  cases e : f q with
  | none =>
    rw [e] at hl hzq
    simp only [Option.getD, Option.isSome] at hl hzq
    rw [← hzq]
    clear hzq hz hf hc hD e
    go_enter Tryz.func59, Tryz.ntmps59
    go_wp2_with fail
    refine (dzeros_any _).mono ?_
    rintro x w1 ⟨rfl, hb⟩
    go_wp2
    go_ret
    exact ⟨rfl, hb⟩
  | some s =>
    rw [e] at hl hzq
    simp only [Option.getD, Option.isSome] at hl hzq
    rw [← hzq]
    clear hzq hz hf hc hD e
    go_enter Tryz.func59, Tryz.ntmps59
    go_wp2
    go_ret
    exact ⟨rfl, Below.refl _ _⟩

end

end Go.Proofs.YtgmfgkdecpldeaaGreat
