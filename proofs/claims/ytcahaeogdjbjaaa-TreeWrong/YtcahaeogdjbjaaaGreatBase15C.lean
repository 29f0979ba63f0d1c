/-
  tree.firstFrom, Seek and Behind in a tree of a root over leaves.
  tree.Check of a tree that girderlaw13.laid made; such a tree as Seek takes it.
-/
import Derived.Test.YtcahaeogdjbjaaaGreatBase14C
import Derived.Test.YtcahaeogdjbjaaaGreatBase13C
namespace Go.Proofs.YtcahaeogdjbjaaaGreat
open Go.RowKit Go.Sort
set_option linter.unusedVariables false
set_option linter.unusedSimpArgs false

def zeroI : ItemV := ⟨⟨⟨#[]⟩, 0, 0⟩, false⟩

/-- A root over N leaves, in frames. -/
structure TreeAt (P : PG) (root N : Nat) (C : List ChildV) (M : Nat → List ItemV) : Prop where
  rt : ∃ f, P.F root = some f ∧ f.sh.Fits ∧ leafB f.sh = false ∧ innerB f.sh = true ∧ innerL f.sh = C
  r1 : 1 ≤ root
  r2 : root ≤ 2048
  pos : 0 < N
  len : C.length = N
  page : ∀ i (h : i < C.length), C[i].page = 4 + i
  lvs : LeavesAt P N M
  short : ∀ i, (M i).length ≤ 64

/-- What firstFrom tells. -/
structure FirstOut (w : World) (C : List ChildV) (e : EntV) (q : ItemV → Bool) (M : Nat → List ItemV) (N : Nat) (r : Ending) (w' : World) : Prop where
  out : ∃ (D : Nat) (y : ItemV) (fd : Bool), DownIs C e D ∧ r = .returned (.tuple #[y.val, .bool fd, .int .i64 0]) ∧ (((fromL M D (N - D)).find? q = none ∧ y = zeroI ∧ fd = false) ∨ ((fromL M D (N - D)).find? q = some y ∧ fd = true))
  bel : Below w.heap.size w w'

section
variable {w : World} {p : Nat} {A : Nat → Prop} {P : PG} {l : LG} {d : DG} {root N : Nat} {C : List ChildV} {M : Nat → List ItemV}

theorem TreeAt.down (h : TreeAt P root N C M) (hS : Sys w p A P l d) (e : EntV) :
    Calls Tryz.prog 34 #[.pointer (some ⟨p, 0, none⟩), .int .u32 root, e.val] w fun r w' => (∃ (D n nx : Nat) (a : Option Addr) (c : Nat) (way : Value), D < N ∧ DownIs C e D ∧ n = 4 + D ∧ (nx = if D + 1 < N then 5 + D else 0) ∧ r = .returned (.tuple #[way, leafS n nx a (M D).length c, .int .i64 0]) ∧ w'.ownsRow (w.heap.size + 2) 24 1 way 2 [.int .u32 root, .int .u32 n] ∧ RowsFrom w.heap.size 4 ItemV.enc w' a (M D)) ∧ Below w.heap.size w w' := by
  obtain ⟨f, e1, e2, e3, e4, e5⟩ := h.rt
  have hlen := h.len
  have hpos := h.pos
  have hN := h.lvs.le
  have hget : ∀ D x, C[D]? = some x → D < N ∧ x.page = 4 + D := fun D x hx => by
    obtain ⟨hD, rfl⟩ := List.getElem?_eq_some_iff.1 hx
    exact ⟨by omega, h.page D hD⟩
  refine (goDown_any hS root h.r1 h.r2 e1 e2 e3 e4 (by rw [e5]; intro q; rw [q] at hlen; simp at hlen; omega) ?_ e).mono ?_
  · rw [e5]
    intro x hx
    obtain ⟨D, hD⟩ := List.mem_iff_getElem?.1 hx
    obtain ⟨q1, q2⟩ := hget D x hD
    obtain ⟨f', g1, g2, g3, _⟩ := h.lvs.fr D q1
    rw [q2]
    exact ⟨by omega, f', g1, g2, g3⟩
  · rw [e5]
    rintro r w' ⟨⟨D, x, f', a, c, way, hx, hD, hf', rfl, ho, hr⟩, b⟩
    obtain ⟨q1, q2⟩ := hget D x hx
    obtain ⟨f2, g1, g2, g3, g4, g5⟩ := h.lvs.fr D q1
    rw [q2, g1] at hf'
    simp only [Option.some.injEq] at hf'
    subst hf'
    refine ⟨⟨D, x.page, nextF f2.sh, a, c, way, q1, hD, q2, g5, ?_, ho, by rw [← g4]; exact hr⟩, b⟩
    rw [← g4, leafL_length]

set_option maxHeartbeats 1600000 in
set_option maxRecDepth 20000 in
theorem firstFrom_any (h : TreeAt P root N C M) (hS : Sys w p A P l d) (e : EntV) {fn : Nat} {q : ItemV → Bool} (hI : IdxDoes fn e q) {B : Nat} (hB : EBox w B e) :
    Calls Tryz.prog 30 #[.pointer (some ⟨p, 0, none⟩), .int .u32 root, e.val, .func (.func fn) #[] #[.pointer (some ⟨B, 0, none⟩)]] w (FirstOut w C e q M N) := by
  obtain ⟨W, HW⟩ : ∃ W, Hid (W = ((w.alloc (.cells #[.string e.key, .int .u32 e.page, .int .i64 e.slot] 28)).alloc (.cells #[.func (.func fn) #[] #[.pointer (some ⟨B, 0, none⟩)]] 91)).alloc (.cells #[.string ⟨#[]⟩, .int .u32 0, .int .i64 0, .bool false] 42)) := ⟨_, rfl⟩
  have bW : Below w.heap.size w W := by rw [HW.out]; exact (((Below.refl _ _).alloc (Nat.le_refl _) _).alloc (by simp) _).alloc (by simp; omega) _
  have zW : W.heap.size = w.heap.size + 3 := by rw [HW.out]; simp
  have hE := hB.below bW hB.lt
  have hC : W.cell? ⟨w.heap.size + 1, 0, none⟩ = some (.func (.func fn) #[] #[.pointer (some ⟨B, 0, none⟩)]) := by
    have := Blk.made (w.alloc (.cells #[.string e.key, .int .u32 e.page, .int .i64 e.slot] 28)) #[.func (.func fn) #[] #[.pointer (some ⟨B, 0, none⟩)]] 91
    have := Blk.same this (heap_old _ (.cells #[.string ⟨#[]⟩, .int .u32 0, .int .i64 0, .bool false] 42) (by simp))
    rw [← HW.out] at this
    have h0 := this.cell 0
    rw [show (w.alloc (.cells #[.string e.key, .int .u32 e.page, .int .i64 e.slot] 28)).heap.size = w.heap.size + 1 by simp] at h0
    exact h0
  have hR : Blk W (w.heap.size + 2) #[.string ⟨#[]⟩, .int .u32 0, .int .i64 0, .bool false] 42 := by
    rw [HW.out]
    have := Blk.made ((w.alloc (.cells #[.string e.key, .int .u32 e.page, .int .i64 e.slot] 28)).alloc (.cells #[.func (.func fn) #[] #[.pointer (some ⟨B, 0, none⟩)]] 91)) #[.string ⟨#[]⟩, .int .u32 0, .int .i64 0, .bool false] 42
    simpa using this
  have HGD := hidn (h.down (hS.below bW) e)
  have hbl := hB.lt
  simp only [EntV.val, leafS] at HGD ⊢
  go_enter Tryz.func30, Tryz.ntmps30
  go_wp2_with fail
  rw [← HW.out]
  clear HW
  refine HGD.out.mono ?_
  rintro r w2 ⟨⟨D, n, nx, a, c, way, hD, hDI, hn, hnx, rfl, ho, hr⟩, b2⟩
  have HDI := hidn hDI
  have Hn := hidn hn
  have Hnx := hidn hnx
  clear hDI hn hnx ho HGD
  obtain ⟨W5, HW5⟩ : ∃ W5, Hid (W5 = ((w2.alloc (.cells #[.int .u32 n, .int .i64 0, .slice none 0 0, .int .u32 nx, .slice a (M D).length c] 82)).alloc (.cells #[.string ⟨#[]⟩, .int .u32 0, .int .i64 0, .bool false] 42)).alloc (.cells #[.bool false] 4)) := ⟨_, rfl⟩
  have b5 : Below w2.heap.size w2 W5 := by rw [HW5.out]; exact (((Below.refl _ _).alloc (Nat.le_refl _) _).alloc (by simp) _).alloc (by simp; omega) _
  have z5 : W5.heap.size = w2.heap.size + 3 := by rw [HW5.out]; simp
  have B5 := below_chain b2 b5
  have z2 := b2.size
  have BB5 := below_chain bW B5
  have r5 : RowV W5 w2.heap.size 5 (five (.int .u32 n) (.int .i64 0) (.slice none 0 0) (.int .u32 nx) (.slice a (M D).length c)) := by
    rw [HW5.out]
    exact ((RowV.five_new w2 _ _ _ _ _ _).below ((Below.refl _ _).alloc (Nat.le_refl _) _) (by simp)).below ((Below.refl _ _).alloc (Nat.le_refl _) _) (by simp; omega)
  have f5 : FfAt W5 (w.heap.size + 1) (w2.heap.size + 1) (w2.heap.size + 2) e B fn zeroI false := by
    refine ⟨hE.below B5 hE.lt, (B5.cell (p := ⟨w.heap.size + 1, 0, none⟩) (by show w.heap.size + 1 < _; omega)).trans hC, ?_, ?_, by omega, by omega, by omega, by omega, by omega⟩
    · rw [HW5.out]
      have := Blk.made (w2.alloc (.cells #[.int .u32 n, .int .i64 0, .slice none 0 0, .int .u32 nx, .slice a (M D).length c] 82)) #[.string ⟨#[]⟩, .int .u32 0, .int .i64 0, .bool false] 42
      have := Blk.same this (heap_old _ (.cells #[.bool false] 4) (by simp))
      simpa [zeroI] using this
    · rw [HW5.out]
      have := Blk.made ((w2.alloc (.cells #[.int .u32 n, .int .i64 0, .slice none 0 0, .int .u32 nx, .slice a (M D).length c] 82)).alloc (.cells #[.string ⟨#[]⟩, .int .u32 0, .int .i64 0, .bool false] 42)) #[.bool false] 4
      simpa using this
  have a5 : ItemsAt W5 a (M D) := (hr.belowF b5).at
  have hoff : ∀ b' o, a = some ⟨b', o, none⟩ → M D ≠ [] → b' ≠ w2.heap.size + 1 ∧ b' ≠ w2.heap.size + 2 := fun b' o e1 h0 => by
    rcases hr with q | ⟨b3, o3, e3, _, hb3, _⟩
    · exact absurd q h0
    · rw [e1] at e3
      simp only [Option.some.injEq, Addr.mk.injEq, and_true] at e3
      obtain ⟨rfl, rfl⟩ := e3
      exact ⟨by omega, by omega⟩
  have HON := hidn (goOn_any hI ((hS.below bW).below B5) h.lvs hD f5 n nx Hn.out Hnx.out a c a5 hoff h.short)
  have R5 : Blk W5 (w.heap.size + 2) #[.string ⟨#[]⟩, .int .u32 0, .int .i64 0, .bool false] 42 := hR.same (B5.block _ (by omega))
  simp only [leafS] at HON
  clear hI hB hE hC hR hr a5 hoff b2 b5
  go_upto_region 6 with fail
  rw [← HW5.out]
  clear HW5
  obtain ⟨x0, x1, x2, x3, x4⟩ := r5.cells5
  go_wp2_with fail
  refine HON.out.mono ?_
  rintro r w6 ⟨rfl, hno, hyes, hk⟩
  obtain ⟨y, fd, hff, hspec⟩ : ∃ y fd, FfAt w6 (w.heap.size + 1) (w2.heap.size + 1) (w2.heap.size + 2) e B fn y fd ∧ (((fromL M D (N - D)).find? q = none ∧ y = zeroI ∧ fd = false) ∨ ((fromL M D (N - D)).find? q = some y ∧ fd = true)) := by
    cases hq : (fromL M D (N - D)).find? q with
    | none => exact ⟨zeroI, false, hno hq, .inl ⟨rfl, rfl, rfl⟩⟩
    | some y => exact ⟨y, true, hyes y hq, .inr ⟨rfl, rfl⟩⟩
  have HSP := hidn hspec
  have R6 : Blk w6 (w.heap.size + 2) #[.string ⟨#[]⟩, .int .u32 0, .int .i64 0, .bool false] 42 := R5.same (hk.block _ (by omega) (by rintro (q | q) <;> omega))
  have B6 : Below w.heap.size w w6 := ⟨hk.os.trans BB5.os, hk.tape.trans BB5.tape, hk.output.trans BB5.output, Nat.le_trans BB5.size hk.size, fun k hk' => (hk.block k (by omega) (by rintro (q | q) <;> omega)).trans (BB5.block k hk')⟩
  clear hspec hno hyes HON x0 x1 x2 x3 x4 r5 f5
  have g0 : w6.cell? ⟨w2.heap.size + 1, 0, none⟩ = some (.string y.e.key) := hff.first.cell 0
  have g1 : w6.cell? ⟨w2.heap.size + 1, 1, none⟩ = some (.int .u32 y.e.page) := hff.first.cell 1
  have g2 : w6.cell? ⟨w2.heap.size + 1, 2, none⟩ = some (.int .i64 y.e.slot) := hff.first.cell 2
  have g3 : w6.cell? ⟨w2.heap.size + 1, 3, none⟩ = some (.bool y.live) := hff.first.cell 3
  have g4 : w6.cell? ⟨w2.heap.size + 2, 0, none⟩ = some (.bool fd) := hff.found.cell 0
  have p0 := R6.frozen 0
  have p1 := R6.frozen 1
  have p2 := R6.frozen 2
  have p3 := R6.frozen 3
  have o0 : w6.cell? ⟨w.heap.size + 2, 0, none⟩ = some (.string ⟨#[]⟩) := R6.cell 0
  have o1 : w6.cell? ⟨w.heap.size + 2, 1, none⟩ = some (.int .u32 0) := R6.cell 1
  have o2 : w6.cell? ⟨w.heap.size + 2, 2, none⟩ = some (.int .i64 0) := R6.cell 2
  have o3 : w6.cell? ⟨w.heap.size + 2, 3, none⟩ = some (.bool false) := R6.cell 3
  have R7 := (((R6.set 0 (.string y.e.key)).set 1 (.int .u32 y.e.page)).set 2 (.int .i64 y.e.slot)).set 3 (.bool y.live)
  obtain ⟨V, HV⟩ : ∃ V, Hid (V = (((w6.setCell ⟨w.heap.size + 2, 0, none⟩ (.string y.e.key)).setCell ⟨w.heap.size + 2, 1, none⟩ (.int .u32 y.e.page)).setCell ⟨w.heap.size + 2, 2, none⟩ (.int .i64 y.e.slot)).setCell ⟨w.heap.size + 2, 3, none⟩ (.bool y.live)) := ⟨_, rfl⟩
  have BV : Below w.heap.size w V := by
    rw [HV.out]
    exact (((B6.setCell (p := ⟨w.heap.size + 2, 0, none⟩) (by show w.heap.size ≤ w.heap.size + 2; omega) _).setCell (p := ⟨w.heap.size + 2, 1, none⟩) (by show w.heap.size ≤ w.heap.size + 2; omega) _).setCell (p := ⟨w.heap.size + 2, 2, none⟩) (by show w.heap.size ≤ w.heap.size + 2; omega) _).setCell (p := ⟨w.heap.size + 2, 3, none⟩) (by show w.heap.size ≤ w.heap.size + 2; omega) _
  rw [← HV.out] at R7
  have s0 : V.cell? ⟨w.heap.size + 2, 0, none⟩ = some (.string y.e.key) := R7.cell 0
  have s1 : V.cell? ⟨w.heap.size + 2, 1, none⟩ = some (.int .u32 y.e.page) := R7.cell 1
  have s2 : V.cell? ⟨w.heap.size + 2, 2, none⟩ = some (.int .i64 y.e.slot) := R7.cell 2
  have s3 : V.cell? ⟨w.heap.size + 2, 3, none⟩ = some (.bool y.live) := R7.cell 3
  clear hff hk R5 R6 R7
  go_upto_region 7 with fail
  go_region
  all_goals
    rw [← HV.out]
    clear g0 g1 g2 g3 g4 o0 o1 o2 o3 p0 p1 p2 p3
    go_wp2
    refine bodyPost_ret (v := .tuple #[.agg #[.string y.e.key, .int .u32 y.e.page, .int .i64 y.e.slot, .bool y.live], .bool fd, .int .i64 0]) (by simp [results, Tryz.results30, go_sem, s0, s1, s2, s3]) rfl ?_
    exact ⟨⟨D, y, fd, HDI.out, rfl, HSP.out⟩, BV.drew⟩

set_option maxHeartbeats 1600000 in
theorem seek_any (h : TreeAt P root N C M) (hS : Sys w p A P l d) (e : EntV) :
    Calls Tryz.prog 12 #[.pointer (some ⟨p, 0, none⟩), .int .u32 root, e.val] w (FirstOut w C e (fun x => !ltE x.e e) M N) := by
  obtain ⟨W, HW⟩ : ∃ W, Hid (W = (w.alloc (.cells #[.string e.key, .int .u32 e.page, .int .i64 e.slot] 28)).alloc (.cells #[.string ⟨#[]⟩, .int .u32 0, .int .i64 0, .bool false] 42)) := ⟨_, rfl⟩
  have bW : Below w.heap.size w W := by rw [HW.out]; exact ((Below.refl _ _).alloc (Nat.le_refl _) _).alloc (by simp) _
  have zW : W.heap.size = w.heap.size + 2 := by rw [HW.out]; simp
  have hE : EBox W w.heap.size e := by rw [HW.out]; exact (EBox.new _ _).below ((Below.refl _ _).alloc (Nat.le_refl _) _) (by simp)
  have hR : Blk W (w.heap.size + 1) #[.string ⟨#[]⟩, .int .u32 0, .int .i64 0, .bool false] 42 := by
    rw [HW.out]
    have := Blk.made (w.alloc (.cells #[.string e.key, .int .u32 e.page, .int .i64 e.slot] 28)) #[.string ⟨#[]⟩, .int .u32 0, .int .i64 0, .bool false] 42
    simpa using this
  have HFF := hidn (firstFrom_any h (hS.below bW) e (idxSeek e) hE)
  simp only [EntV.val] at HFF ⊢
  go_enter Tryz.func12, Tryz.ntmps12
  go_wp2_with fail
  rw [← HW.out]
  clear HW
  refine HFF.out.mono ?_
  rintro r w6 ⟨⟨D, y, fd, hD, rfl, hsp⟩, b6⟩
  have HD := hidn hD
  have HSP := hidn hsp
  have R6 : Blk w6 (w.heap.size + 1) #[.string ⟨#[]⟩, .int .u32 0, .int .i64 0, .bool false] 42 := hR.same (b6.block _ (by omega))
  have B6 := below_chain bW b6
  clear hD hsp HFF hE hR
  have p0 := R6.frozen 0
  have p1 := R6.frozen 1
  have p2 := R6.frozen 2
  have p3 := R6.frozen 3
  have o0 : w6.cell? ⟨w.heap.size + 1, 0, none⟩ = some (.string ⟨#[]⟩) := R6.cell 0
  have o1 : w6.cell? ⟨w.heap.size + 1, 1, none⟩ = some (.int .u32 0) := R6.cell 1
  have o2 : w6.cell? ⟨w.heap.size + 1, 2, none⟩ = some (.int .i64 0) := R6.cell 2
  have o3 : w6.cell? ⟨w.heap.size + 1, 3, none⟩ = some (.bool false) := R6.cell 3
  have R7 := (((R6.set 0 (.string y.e.key)).set 1 (.int .u32 y.e.page)).set 2 (.int .i64 y.e.slot)).set 3 (.bool y.live)
  obtain ⟨V, HV⟩ : ∃ V, Hid (V = (((w6.setCell ⟨w.heap.size + 1, 0, none⟩ (.string y.e.key)).setCell ⟨w.heap.size + 1, 1, none⟩ (.int .u32 y.e.page)).setCell ⟨w.heap.size + 1, 2, none⟩ (.int .i64 y.e.slot)).setCell ⟨w.heap.size + 1, 3, none⟩ (.bool y.live)) := ⟨_, rfl⟩
  have BV : Below w.heap.size w V := by
    rw [HV.out]
    exact (((B6.setCell (p := ⟨w.heap.size + 1, 0, none⟩) (by show w.heap.size ≤ w.heap.size + 1; omega) _).setCell (p := ⟨w.heap.size + 1, 1, none⟩) (by show w.heap.size ≤ w.heap.size + 1; omega) _).setCell (p := ⟨w.heap.size + 1, 2, none⟩) (by show w.heap.size ≤ w.heap.size + 1; omega) _).setCell (p := ⟨w.heap.size + 1, 3, none⟩) (by show w.heap.size ≤ w.heap.size + 1; omega) _
  rw [← HV.out] at R7
  have s0 : V.cell? ⟨w.heap.size + 1, 0, none⟩ = some (.string y.e.key) := R7.cell 0
  have s1 : V.cell? ⟨w.heap.size + 1, 1, none⟩ = some (.int .u32 y.e.page) := R7.cell 1
  have s2 : V.cell? ⟨w.heap.size + 1, 2, none⟩ = some (.int .i64 y.e.slot) := R7.cell 2
  have s3 : V.cell? ⟨w.heap.size + 1, 3, none⟩ = some (.bool y.live) := R7.cell 3
  clear R6 R7
  simp only [ItemV.val]
  go_wp2
  rw [← HV.out]
  refine bodyPost_ret (v := .tuple #[.agg #[.string y.e.key, .int .u32 y.e.page, .int .i64 y.e.slot, .bool y.live], .bool fd, .int .i64 0]) (by simp [results, Tryz.results12, go_sem, s0, s1, s2, s3]) rfl ?_
  exact ⟨⟨D, y, fd, HD.out, rfl, HSP.out⟩, BV⟩

end

end Go.Proofs.YtcahaeogdjbjaaaGreat

namespace Go.Proofs.YtcahaeogdjbjaaaGreat
open Go.RowKit Go.Sort
set_option linter.unusedVariables false
set_option linter.unusedSimpArgs false

section
variable {L : List EntV} {k N odd : Nat} {sp : Bool} {w : World} {p : Nat} {A : Nat → Prop} {P : PG} {l : LG} {d : DG}

theorem rootP_N : leafB (rootP L k N odd sp) = false := by
  unfold leafB leafH rootP innerN
  simp

theorem rootP_B (h : SortedE L) (hN : N ≤ 24) : innerB (rootP L k N odd sp) = true := innerN_B (kids_may h hN) _ _ _
theorem rootP_L (h : SortedE L) (hN : N ≤ 24) : innerL (rootP L k N odd sp) = kids L k N odd sp := innerN_L (kids_may h hN) _ _ _
theorem rootP_lv : levelF (rootP L k N odd sp) = if sp = true ∧ odd = 4 then 2 else 1 := innerN_level (by split <;> omega) _ _ _

/-- What Check tells of it. -/
structure Ck13 (w : World) (L : List EntV) (k N odd : Nat) (sp : Bool) (r : Ending) (w' : World) : Prop where
  yes : sp = false → ∃ v, r = .returned (.tuple #[v, .int .i64 0]) ∧ w'.ownsRow w.heap.size 24 1 v (N + 1) ((3 :: (kids L k N odd sp).map ChildV.page).map fun n : Nat => Value.int .u32 (n : Int))
  no : sp = true → r = .returned (.tuple #[.slice none 0 0, .int .i64 120])
  bel : Below w.heap.size w w'

theorem check13 (hL : SortedE L) (hk1 : 1 ≤ k) (hk8 : k ≤ 8) (hc : IsCnt L.length k N) (ho : odd ≤ 7) (hs : sp = spB L k N odd) (hS : Sys w p A P l d) (h3 : P.F 3 = some ⟨rootP L k N odd sp, 1⟩) (h4 : ∀ i, i < N → P.F (4 + i) = some ⟨leafP L k N odd sp i, 1⟩) :
    Calls Tryz.prog 10 #[.pointer (some ⟨p, 0, none⟩), .int .u32 3] w (Ck13 w L k N odd sp) := by
  have hN := hc.le hk1 hL.len
  have hN0 := hc.pos
  have eL := rootP_L (k := k) (odd := odd) (sp := sp) hL hN
  have hP : ∀ x ∈ innerL (rootP L k N odd sp), (1 ≤ x.page ∧ x.page ≤ 2048) ∧ ∃ f' : FrV, P.F x.page = some f' ∧ f'.sh = pageP L k N odd sp x.page ∧ f'.sh.Fits ∧ leafB f'.sh = true := by
    rw [eL]
    intro x hx
    obtain ⟨i, hi⟩ := List.mem_iff_getElem?.1 hx
    obtain ⟨hiN, rfl⟩ := kids_get hi
    obtain ⟨j, hj, e⟩ : ∃ j, j < N ∧ kidP odd sp i = 4 + j := by
      unfold kidP
      split
      · exact ⟨0, by omega, rfl⟩
      · exact ⟨i, hiN, rfl⟩
    show (1 ≤ kidP odd sp i ∧ kidP odd sp i ≤ 2048) ∧ _
    rw [e]
    refine ⟨by omega, ⟨leafP L k N odd sp j, 1⟩, h4 j hj, ?_, leafP_fits hL hk8 (by omega), leafN_B (live_may hL j) _ _ _⟩
    unfold pageP
    rw [Nat.add_sub_cancel_left]
  have hz : (∀ x, (froms (innerL (rootP L k N odd sp)))[0]? = some x → x = zeroE) ∨ (∃ x, (froms (innerL (rootP L k N odd sp)))[0]? = some x ∧ x.key.toList ≠ []) := by
    rw [eL, froms_kids, List.getElem?_map, List.getElem?_range hN0]
    by_cases h6 : sp = true ∧ odd = 6
    · refine .inr ⟨kidE L k odd sp 0, rfl, ?_⟩
      unfold kidE
      rw [if_pos ⟨h6.1, h6.2, rfl⟩, ByteArray.toList_eq]
      simp
    · refine .inl fun x hx => ?_
      have : kidE L k odd sp 0 = x := by simpa using hx
      rw [← this]
      unfold kidE
      rw [if_neg (fun q => h6 ⟨q.1, q.2.1⟩), if_neg (by omega), if_neg (by omega)]
  have h0 : innerL (rootP L k N odd sp) ≠ [] := by rw [eL]; intro q; have := kids_length (L := L) (k := k) (N := N) (odd := odd) (sp := sp); rw [q] at this; simp at this; omega
  have hl : 1 + (innerL (rootP L k N odd sp)).length ≤ 64 := by rw [eL, kids_length]; omega
  have hfit := rootP_fits (k := k) (odd := odd) (sp := sp) hL hN
  by_cases h44 : sp = true ∧ odd = 4
  · refine (check_two (pageP L k N odd sp) hS 3 (by omega) (by omega) h3 hfit rootP_N (rootP_B hL hN) h0 (by show levelF (rootP L k N odd sp) = 2; rw [rootP_lv, if_pos h44]) hl hP hz).mono ?_
    rintro r w' ⟨rfl, b⟩
    exact ⟨fun q => (by rw [h44.1] at q; cases q), fun _ => rfl, b⟩
  · refine (check_root (pageP L k N odd sp) hS 3 (by omega) (by omega) h3 hfit rootP_N (rootP_B hL hN) h0 (by show levelF (rootP L k N odd sp) = 1; rw [rootP_lv, if_neg h44]) hl hP hz).mono ?_
    rintro r w' ⟨hy, hn, b⟩
    simp only [eL] at hy hn
    refine ⟨fun q => ?_, fun q => hn (tree_bad hL hk1 hc ho hs q (fun r => h44 ⟨q, r⟩)), b⟩
    obtain ⟨v, e1, e2⟩ := hy (tree_good hL hk1 hc hs q)
    rw [kids_length] at e2
    exact ⟨v, e1, e2⟩

/-- The tree as Seek takes it. -/
theorem tree13 (hL : SortedE L) (hk1 : 1 ≤ k) (hk8 : k ≤ 8) (hc : IsCnt L.length k N) (hs : sp = spB L k N odd) (h0 : sp = false) (h3 : P.F 3 = some ⟨rootP L k N odd sp, 1⟩) (h4 : ∀ i, i < N → P.F (4 + i) = some ⟨leafP L k N odd sp i, 1⟩) :
    TreeAt P 3 N (kids L k N odd sp) (fun i => live (lvs L k N odd i)) := by
  have hN := hc.le hk1 hL.len
  refine ⟨⟨_, h3, rootP_fits hL hN, rootP_N, rootP_B hL hN, rootP_L hL hN⟩, by omega, by omega, hc.pos, kids_length, fun i hi => ?_, ⟨fun i hi => ⟨_, h4 i hi, leafP_fits hL hk8 (by omega), leafN_B (live_may hL i) _ _ _, leafN_L (live_may hL i) _ _ _, ?_⟩, hN⟩, fun i => ?_⟩
  · rw [kids_length] at hi
    have := kids_at (L := L) (k := k) (N := N) (odd := odd) (sp := sp) hi
    rw [List.getElem?_eq_getElem (by rw [kids_length]; exact hi)] at this
    rw [Option.some.inj this]
    show kidP odd sp i = 4 + i
    unfold kidP
    rw [if_neg (by rw [h0]; simp)]
  · show nextF (leafN (4 + i) 1 (nextN N odd sp i) (live (lvs L k N odd i))) = _
    rw [leafN_next (nextN_lt hN i)]
    unfold nextN
    rw [if_neg (by rw [h0]; simp)]
  · have := lvs_length (L := L) (k := k) (N := N) (odd := odd) i
    unfold live
    rw [List.length_map]
    omega

end

end Go.Proofs.YtcahaeogdjbjaaaGreat
