/-
  tree.Path and tree.Find in a tree of a root over leaves.
  What allLeaves does at each leaf.
  tree.goOn with what allLeaves does at each leaf.
  tree.goOn with allLeaves' visit; tree.allLeaves.
  tree.allLeaves.
  tree.Leaves.
  tree.All.
-/
import Derived.Test.YtpllidadpcahbaaGreatBase15C
namespace Go.Proofs.YtpllidadpcahbaaGreat
open Go.RowKit Go.Sort
set_option linter.unusedVariables false
set_option linter.unusedSimpArgs false

section
variable {w : World} {p : Nat} {A : Nat → Prop} {P : PG} {l : LG} {d : DG} {root N : Nat} {C : List ChildV} {M : Nat → List ItemV}

set_option maxHeartbeats 1600000 in
theorem tpath_any (h : TreeAt P root N C M) (hS : Sys w p A P l d) (e : EntV) :
    Calls Tryz.prog 15 #[.pointer (some ⟨p, 0, none⟩), .int .u32 root, e.val] w fun r w' => (∃ a c, r = .returned (.tuple #[.slice a 2 c, .int .i64 0])) ∧ Below w.heap.size w w' := by
  obtain ⟨W, HW⟩ : ∃ W, Hid (W = w.alloc (.cells #[.string e.key, .int .u32 e.page, .int .i64 e.slot] 28)) := ⟨_, rfl⟩
  have bW : Below w.heap.size w W := by rw [HW.out]; exact (Below.refl _ _).alloc (Nat.le_refl _) _
  have HGD := hidn (h.down (hS.below bW) e)
  simp only [EntV.val, leafS] at HGD ⊢
  go_enter Tryz.func15, Tryz.ntmps15
  go_wp2_with fail
  rw [← HW.out]
  clear HW
  refine HGD.out.mono ?_
  rintro r w2 ⟨⟨D, n, nx, a, c, way, hD, hDI, hn, hnx, rfl, ho, hr⟩, b2⟩
  obtain ⟨wa, wc', rfl⟩ : ∃ wa wc', way = .slice wa 2 wc' := by
    rcases ho.2 with ⟨e1, e2⟩ | ⟨g, cap, cur, e1, _⟩
    · cases e2
    · exact ⟨_, _, e1⟩
  have B2 := hidn (below_chain bW b2)
  clear HGD hDI hn hnx ho hr b2
  go_wp2
  go_ret2
  exact ⟨⟨wa, wc', rfl⟩, B2.out.alloc B2.out.size _⟩

/-- What Find tells. -/
structure FindOut (w : World) (C : List ChildV) (e : EntV) (M : Nat → List ItemV) (r : Ending) (w' : World) : Prop where
  out : ∃ (D : Nat) (y : ItemV) (fd : Bool), DownIs C e D ∧ r = .returned (.tuple #[y.val, .bool fd, .int .i64 0]) ∧ ((fd = true ∧ y ∈ M D ∧ y.e = e) ∨ (fd = false ∧ ∀ x ∈ M D, x.e ≠ e))
  bel : Below w.heap.size w w'

theorem findF_cases (L : List ItemV) (e : EntV) : (∃ (k : Nat) (h : k < L.length), findF L e = ((k : Int), true) ∧ L[k].e = e) ∨ ((findF L e).2 = false ∧ ∀ x ∈ L, x.e ≠ e) := by
  unfold findF
  rcases idxF_cases (fun x : ItemV => eqE x.e e) L with ⟨e1, e2⟩ | ⟨k, hk, e1, e2⟩
  · right
    rw [e1, if_neg (by omega)]
    refine ⟨by split <;> rfl, fun x hx he => ?_⟩
    have := List.find?_eq_none.1 e2 x hx
    exact this ((eqE_iff _ _).2 he)
  · left
    refine ⟨k, hk, by rw [e1, if_pos (by omega)], ?_⟩
    have := List.find?_some e2
    exact (eqE_iff _ _).1 this

set_option maxHeartbeats 3200000 in
set_option maxRecDepth 20000 in
theorem tfind_any (h : TreeAt P root N C M) (hS : Sys w p A P l d) (e : EntV) :
    Calls Tryz.prog 14 #[.pointer (some ⟨p, 0, none⟩), .int .u32 root, e.val] w (FindOut w C e M) := by
  obtain ⟨W, HW⟩ : ∃ W, Hid (W = (w.alloc (.cells #[.string e.key, .int .u32 e.page, .int .i64 e.slot] 28)).alloc (.cells #[.string ⟨#[]⟩, .int .u32 0, .int .i64 0, .bool false] 42)) := ⟨_, rfl⟩
  have bW : Below w.heap.size w W := by rw [HW.out]; exact ((Below.refl _ _).alloc (Nat.le_refl _) _).alloc (by simp) _
  have zW : W.heap.size = w.heap.size + 2 := by rw [HW.out]; simp
  have hE : EBox W w.heap.size e := by rw [HW.out]; exact (EBox.new _ _).below ((Below.refl _ _).alloc (Nat.le_refl _) _) (by simp)
  have hR : Blk W (w.heap.size + 1) #[.string ⟨#[]⟩, .int .u32 0, .int .i64 0, .bool false] 42 := by
    rw [HW.out]
    have := Blk.made (w.alloc (.cells #[.string e.key, .int .u32 e.page, .int .i64 e.slot] 28)) #[.string ⟨#[]⟩, .int .u32 0, .int .i64 0, .bool false] 42
    simpa using this
  have HGD := hidn (h.down (hS.below bW) e)
  have hsh := h.short
  simp only [EntV.val, leafS] at HGD ⊢
  go_enter Tryz.func14, Tryz.ntmps14
  go_wp2_with fail
  rw [← HW.out]
  clear HW
  refine HGD.out.mono ?_
  rintro r w2 ⟨⟨D, n, nx, a, c, way, hD, hDI, hn, hnx, rfl, ho, hr⟩, b2⟩
  have HDI := hidn hDI
  obtain ⟨W3, HW3⟩ : ∃ W, Hid (W = w2.alloc (.cells #[.int .u32 n, .int .i64 0, .slice none 0 0, .int .u32 nx, .slice a (M D).length c] 82)) := ⟨_, rfl⟩
  have b3 : Below w2.heap.size w2 W3 := by rw [HW3.out]; exact (Below.refl _ _).alloc (Nat.le_refl _) _
  have r3 : RowV W3 w2.heap.size 5 (five (.int .u32 n) (.int .i64 0) (.slice none 0 0) (.int .u32 nx) (.slice a (M D).length c)) := by rw [HW3.out]; exact RowV.five_new _ _ _ _ _ _ _
  have z3 : w2.heap.size < W3.heap.size := by rw [HW3.out]; simp
  have B3 := below_chain b2 b3
  have A3 := (hr.belowF b3).at
  have E3 := hE.below B3 hE.lt
  have R3 := hR.same (B3.block _ (by omega))
  have z2 := b2.size
  have BB3 := below_chain bW B3
  have HFI := hidn (find_any a c (M D) e W3 A3 (by have := hsh D; omega))
  simp only [EntV.val] at HFI
  clear hDI hn hnx ho hr HGD hE hR b2 b3
  go_upto_region 4 with fail
  rw [← HW3.out]
  clear HW3
  obtain ⟨x0, x1, x2, x3, x4⟩ := r3.cells5
  obtain ⟨u0, u1, u2, ul⟩ := E3
  go_wp2_with fail
  refine HFI.out.mono ?_
  rintro r w4 ⟨rfl, b4⟩
  have r4 := r3.below b4 z3
  have A4 := A3.below b4
  have R4 := R3.same (b4.block _ (by omega))
  have B4 := below_chain BB3 b4
  clear HFI x0 x1 x2 x3 x4 u0 u1 u2 r3 A3 R3
  obtain ⟨x0, x1, x2, x3, x4⟩ := r4.cells5
  have p0 := R4.frozen 0
  have p1 := R4.frozen 1
  have p2 := R4.frozen 2
  have p3 := R4.frozen 3
  have o0 : w4.cell? ⟨w.heap.size + 1, 0, none⟩ = some (.string ⟨#[]⟩) := R4.cell 0
  have o1 : w4.cell? ⟨w.heap.size + 1, 1, none⟩ = some (.int .u32 0) := R4.cell 1
  have o2 : w4.cell? ⟨w.heap.size + 1, 2, none⟩ = some (.int .i64 0) := R4.cell 2
  have o3 : w4.cell? ⟨w.heap.size + 1, 3, none⟩ = some (.bool false) := R4.cell 3
  obtain ⟨y, fd, hy⟩ : ∃ (y : ItemV) (fd : Bool), (fd = true ∧ ∃ (k : Nat) (hk : k < (M D).length), findF (M D) e = ((k : Int), true) ∧ (M D)[k] = y ∧ y.e = e) ∨ (fd = false ∧ y = zeroI ∧ (findF (M D) e).2 = false ∧ ∀ x ∈ M D, x.e ≠ e) := by
    rcases findF_cases (M D) e with ⟨k, hk, e1, e2⟩ | ⟨e1, e2⟩
    · exact ⟨(M D)[k], true, .inl ⟨rfl, k, hk, e1, rfl, e2⟩⟩
    · exact ⟨zeroI, false, .inr ⟨rfl, rfl, e1, e2⟩⟩
  have R7 := (((R4.set 0 (.string y.e.key)).set 1 (.int .u32 y.e.page)).set 2 (.int .i64 y.e.slot)).set 3 (.bool y.live)
  obtain ⟨V, HV⟩ : ∃ V, Hid (V = (((w4.setCell ⟨w.heap.size + 1, 0, none⟩ (.string y.e.key)).setCell ⟨w.heap.size + 1, 1, none⟩ (.int .u32 y.e.page)).setCell ⟨w.heap.size + 1, 2, none⟩ (.int .i64 y.e.slot)).setCell ⟨w.heap.size + 1, 3, none⟩ (.bool y.live)) := ⟨_, rfl⟩
  have BV : Below w.heap.size w V := by
    rw [HV.out]
    exact (((B4.setCell (p := ⟨w.heap.size + 1, 0, none⟩) (by show w.heap.size ≤ w.heap.size + 1; omega) _).setCell (p := ⟨w.heap.size + 1, 1, none⟩) (by show w.heap.size ≤ w.heap.size + 1; omega) _).setCell (p := ⟨w.heap.size + 1, 2, none⟩) (by show w.heap.size ≤ w.heap.size + 1; omega) _).setCell (p := ⟨w.heap.size + 1, 3, none⟩) (by show w.heap.size ≤ w.heap.size + 1; omega) _
  rw [← HV.out] at R7
  have s0 : V.cell? ⟨w.heap.size + 1, 0, none⟩ = some (.string y.e.key) := R7.cell 0
  have s1 : V.cell? ⟨w.heap.size + 1, 1, none⟩ = some (.int .u32 y.e.page) := R7.cell 1
  have s2 : V.cell? ⟨w.heap.size + 1, 2, none⟩ = some (.int .i64 y.e.slot) := R7.cell 2
  have s3 : V.cell? ⟨w.heap.size + 1, 3, none⟩ = some (.bool y.live) := R7.cell 3
  clear R4 R7 r4
  rcases hy with ⟨rfl, k, hk, e1, e2, e3⟩ | ⟨rfl, hz, e1, e2⟩
  · have HO := hidn (show FindOut w C e M (.returned (.tuple #[.agg #[.string y.e.key, .int .u32 y.e.page, .int .i64 y.e.slot, .bool y.live], .bool true, .int .i64 0])) V from ⟨⟨D, y, true, HDI.out, rfl, .inl ⟨rfl, by rw [← e2]; exact List.getElem_mem hk, e3⟩⟩, BV⟩)
    rw [e1]
    obtain ⟨bk, ok, rfl, hbk, y0, y1, y2, y3⟩ := A4.item hk
    rw [e2] at y0 y1 y2 y3
    have i0 : (0 : Int) ≤ (k : Int) := by omega
    have i1 : (k : Int) < ((M D).length : Int) := by omega
    clear e1 e2 e3 A4
    go_wp2
    rw [← HV.out]
    refine bodyPost_ret (v := .tuple #[.agg #[.string y.e.key, .int .u32 y.e.page, .int .i64 y.e.slot, .bool y.live], .bool true, .int .i64 0]) (by simp [results, Tryz.results14, go_sem, s0, s1, s2, s3]) rfl HO.out
  · subst hz
    have HO := hidn (show FindOut w C e M (.returned (.tuple #[.agg #[.string zeroI.e.key, .int .u32 zeroI.e.page, .int .i64 zeroI.e.slot, .bool zeroI.live], .bool false, .int .i64 0])) V from ⟨⟨D, zeroI, false, HDI.out, rfl, .inr ⟨rfl, e2⟩⟩, BV⟩)
    obtain ⟨q1, hq⟩ : ∃ q1 : Int, findF (M D) e = (q1, false) := ⟨(findF (M D) e).1, by rw [← e1]⟩
    rw [hq]
    clear e1 e2 A4 hq
    simp only [zeroI] at HO HV s0 s1 s2 s3
    go_wp2
    rw [show ((0 : Nat) : Int) = 0 from rfl] at HV s1 HO
    rw [← HV.out]
    refine bodyPost_ret (v := .tuple #[.agg #[.string ⟨#[]⟩, .int .u32 0, .int .i64 0, .bool false], .bool false, .int .i64 0]) (by simp [results, Tryz.results14, go_sem, s0, s1, s2, s3]) rfl HO.out

end

end Go.Proofs.YtpllidadpcahbaaGreat

namespace Go.Proofs.YtpllidadpcahbaaGreat
open Go.RowKit Go.Sort
set_option linter.unusedVariables false
set_option linter.unusedSimpArgs false

/-- A leaf's sheet. -/
structure ShV where
  n : Nat
  nx : Nat
  a : Option Addr
  m : Nat
  c : Nat

def ShV.enc (s : ShV) : List Value := [.int .u32 s.n, .int .i64 0, .slice none 0 0, .int .u32 s.nx, .slice s.a s.m s.c]

theorem infoSh : (Tryz.prog.info? 82).map (fun i => (i.zero, i.size, i.bytes)) = some (some (.agg #[.int .u32 0, .int .i64 0, .slice none 0 0, .int .u32 0, .slice none 0 0]), 5, 72) := by kernel_rfl

/-- The leaves that were met, in the variable in block Lb. -/
structure LsAt (w : World) (Lb : Nat) (lv : Value) (S : List ShV) : Prop where
  cell : Blk w Lb #[lv] 77
  row : w.ownsRow (Lb + 1) 82 5 lv S.length (S.flatMap ShV.enc)

theorem LsAt.same {w w' : World} {Lb : Nat} {lv : Value} {S : List ShV} (h : LsAt w Lb lv S) (k : ∀ b, b = Lb ∨ lv.ownBlock = some b → w'.heap[b]? = w.heap[b]?) : LsAt w' Lb lv S := by
  refine ⟨h.cell.same (k Lb (.inl rfl)), ?_⟩
  obtain ⟨h1, h2⟩ := h.row
  refine ⟨h1, ?_⟩
  rcases h2 with q | ⟨g, cap, cur, e, e1, e2, e3⟩
  · exact .inl q
  · exact .inr ⟨g, cap, cur, e, e1, (k g (.inr (by rw [e]; rfl))).trans e2, e3⟩

theorem LsAt.below {w w' : World} {Lb : Nat} {lv : Value} {S : List ShV} (h : LsAt w Lb lv S) (b : Below w.heap.size w w') : LsAt w' Lb lv S :=
  h.same fun k hk => by
    rcases hk with rfl | q
    · exact b.block _ h.cell.lt
    · exact b.block k (h.row.lt k q).2

/-- What a visit leaves. -/
structure AvOut (w : World) (Lb : Nat) (lv : Value) (S : List ShV) (s : ShV) (r : Ending) (w' : World) : Prop where
  ok : r = .returned (.bool true)
  out : ∃ lv', LsAt w' Lb lv' (S ++ [s]) ∧ ∀ k, lv'.ownBlock = some k → lv.ownBlock = some k ∨ w.heap.size ≤ k
  kept : Kept (fun k => k = Lb ∨ lv.ownBlock = some k) w w'

set_option maxHeartbeats 1600000 in
set_option maxRecDepth 20000 in
theorem visitAll {w : World} {Lb : Nat} {lv : Value} {S : List ShV} (h : LsAt w Lb lv S) (hS : S.length ≤ 1000) (n nx : Nat) (a : Option Addr) (m c : Nat) :
    Calls Tryz.prog 52 #[leafS n nx a m c, .pointer (some ⟨Lb, 0, none⟩)] w (AvOut w Lb lv S ⟨n, nx, a, m, c⟩) := by
  obtain ⟨W, HW⟩ : ∃ W, Hid (W = w.alloc (.cells #[.int .u32 n, .int .i64 0, .slice none 0 0, .int .u32 nx, .slice a m c] 82)) := ⟨_, rfl⟩
  have bW : Below w.heap.size w W := by rw [HW.out]; exact (Below.refl _ _).alloc (Nat.le_refl _) _
  have rW : RowV W w.heap.size 5 (five (.int .u32 n) (.int .i64 0) (.slice none 0 0) (.int .u32 nx) (.slice a m c)) := by rw [HW.out]; exact RowV.five_new _ _ _ _ _ _ _
  have hW := h.below bW
  have hLb := h.cell.lt
  have bV : Below W.heap.size W (W.alloc (.cells #[.int .u32 n, .int .i64 0, .slice none 0 0, .int .u32 nx, .slice a m c] 82)) := (Below.refl _ _).alloc (Nat.le_refl _) _
  have hV := hW.below bV
  have hown := hidn hV.row
  have hbW := bW.size
  obtain ⟨i0, hi, hz0, hz1, hz2⟩ := info_parts infoSh
  have hnews : Hid (∀ j u, ([.int .u32 (n : Int), .int .i64 0, .slice none 0 0, .int .u32 (nx : Int), .slice a m c] : List Value)[j]? = some u → (W.alloc (.cells #[.int .u32 n, .int .i64 0, .slice none 0 0, .int .u32 nx, .slice a m c] 82)).cell? ((⟨W.heap.size, 0, none⟩ : Addr).add j) = some u) := World.news_of_block (heap_alloc_new _ _)
  have HKV := hidn (below_chain bW bV)
  have cL : W.cell? ⟨Lb, 0, none⟩ = some lv := hW.cell.cell 0
  have cV : Hid (∀ w3 : World, (W.alloc (.cells #[.int .u32 n, .int .i64 0, .slice none 0 0, .int .u32 nx, .slice a m c] 82)).grownBy w3 lv.ownBlock → Kept (fun k => lv.ownBlock = some k) w w3 ∧ w3.heap[Lb]? = w.heap[Lb]?) := fun w3 hg => by
    have K : Kept (fun k => lv.ownBlock = some k) w w3 := ⟨hg.os.trans HKV.out.os, hg.tape.trans HKV.out.tape, hg.output.trans HKV.out.output, Nat.le_trans HKV.out.size hg.size, fun k hk hs => (hg.block k (Nat.lt_of_lt_of_le hk HKV.out.size) fun q => hs q.symm).trans (HKV.out.block k hk)⟩
    exact ⟨K, K.block Lb hLb fun q => by have := (h.row.lt Lb q).1; omega⟩
  unfold leafS
  go_enter Tryz.func52, Tryz.ntmps52
  go_upto_region 1 with fail
  rw [← HW.out]
  clear HW
  obtain ⟨x0, x1, x2, x3, x4⟩ := rW.cells5
  go_wp2_with (at_builtin; refine wpList_append_lies _ rfl _ _ 77 rfl (Lb + 1) 82 i0 _ 5 72 Tryz.underlying77 hi hz0 hz1 hz2 rfl (by decide) lv S.length (S.flatMap ShV.enc) rfl hown.out ⟨W.heap.size, 0, none⟩ 1 1 [.int .u32 n, .int .i64 0, .slice none 0 0, .int .u32 nx, .slice a m c] rfl rfl hnews.out (by intro u' hu'; simp at hu'; rcases hu' with rfl | rfl | rfl | rfl | rfl <;> rfl) (by decide) (by unfold maxLen; omega) (by omega) (by simp; omega) _ rfl ?_; intro g3 cap3 w3 hown3 hgrow3 hloc3 hlt3; obtain ⟨K3, e3⟩ := cV.out w3 hgrow3; have k3 := h.cell.same e3; have f3 := k3.frozen 0; have c3 : w3.cell? ⟨Lb, 0, none⟩ = some lv := k3.cell 0)
  have HO := hidn (show AvOut w Lb lv S ⟨n, nx, a, m, c⟩ (.returned (.bool true)) (w3.setCell ⟨Lb, 0, none⟩ (.slice (some ⟨g3, 0, none⟩) (S.length + 1) cap3)) from by
    refine ⟨rfl, ⟨_, ⟨k3.set 0 _, ?_⟩, fun k hk => ?_⟩, ?_⟩
    · have := ownsRow_setCell_below hown3 (a := ⟨Lb, 0, none⟩) (by show Lb < Lb + 1; omega) (.slice (some ⟨g3, 0, none⟩) (S.length + 1) cap3)
      rw [List.flatMap_append, List.length_append]
      exact this
    · have e : g3 = k := by simpa [Value.ownBlock] using hk
      subst e
      rcases hloc3 with q | q
      · exact .inl q
      · right; rw [q]; simp; omega
    · exact (K3.mono fun b q => .inr q).trans (Kept.setCell _ _ Lb 0 _ (.inl rfl)))
  clear hown3 hgrow3 hloc3 hlt3 K3 e3 k3 f3 c3 hown hnews cV cL x0 x1 x2 x3 x4
  go_wp2
  go_ret
  exact HO.out

end Go.Proofs.YtpllidadpcahbaaGreat

namespace Go.Proofs.YtpllidadpcahbaaGreat
open Go.RowKit Go.Sort
set_option linter.unusedVariables false
set_option linter.unusedSimpArgs false

/-- The items of a leaf, in a block that nobody turns. -/
structure ItAt (wr : World) (Lb mb b : Nat) (lv : Value) (s : ShV) (Mj : List ItemV) : Prop where
  items : ItemsAt wr s.a Mj
  m : s.m = Mj.length
  off : ∀ b' o, s.a = some ⟨b', o, none⟩ → Mj ≠ [] → b' < wr.heap.size ∧ b' ≠ Lb ∧ b' ≠ mb ∧ b' ≠ b ∧ ¬ lv.ownBlock = some b'

theorem ItAt.step {wr wx : World} {Lb mb b b2 : Nat} {lv lv2 : Value} {s : ShV} {Mj : List ItemV} (h : ItAt wr Lb mb b lv s Mj) (k : ∀ q, q < wr.heap.size → q ≠ Lb → q ≠ mb → q ≠ b → ¬ lv.ownBlock = some q → wx.heap[q]? = wr.heap[q]?) (hz : wr.heap.size ≤ wx.heap.size) (hl : ∀ k, lv2.ownBlock = some k → lv.ownBlock = some k ∨ wr.heap.size ≤ k) (hb : b2 = b ∨ wr.heap.size ≤ b2) : ItAt wx Lb mb b2 lv2 s Mj := by
  refine ⟨?_, h.m, fun b' o e h0 => ?_⟩
  · rcases h.items with q | ⟨b', o, e, h1, hc⟩
    · exact .inl q
    · by_cases h0 : Mj = []
      · exact .inl h0
      · obtain ⟨o1, o2, o3, o4, o5⟩ := h.off b' o e h0
        exact .inr ⟨b', o, e, Nat.lt_of_lt_of_le h1 hz, fun i hi j v hv => (World.cell?_of_block (w := wr) (a := ⟨b', o + i * 4 + j, none⟩) (k b' h1 o2 o3 o4 o5)).trans (hc i hi j v hv)⟩
  · obtain ⟨o1, o2, o3, o4, o5⟩ := h.off b' o e h0
    refine ⟨Nat.lt_of_lt_of_le o1 hz, o2, o3, ?_, fun q => ?_⟩
    · rcases hb with q | q
      · rw [q]; exact o4
      · omega
    · rcases hl b' q with r | r
      · exact o5 r
      · omega

section
variable {w wr wx : World} {p : Nat} {A : Nat → Prop} {P : PG} {l : LG} {d : DG} {Lb mb : Nat} {L : List Nat} {D : DataW Value} {b n nx : Nat} {a : Option Addr} {m c : Nat} {lv : Value} {S : List ShV} {M : Nat → List ItemV} {i : Nat}

/-- Where goOn stands. -/
structure GaAt (w wr : World) (p : Nat) (A : Nat → Prop) (P : PG) (l : LG) (d : DG) (Lb mb : Nat) (L : List Nat) (D : DataW Value) (b n nx : Nat) (a : Option Addr) (m c : Nat) (lv : Value) (S : List ShV) (M : Nat → List ItemV) (i : Nat) : Prop where
  sys : Sys wr p A P l d
  ls : LsAt wr Lb lv S
  met : MetAt wr mb L D
  box : RowV wr b 5 (five (.int .u32 n) (.int .i64 0) (.slice none 0 0) (.int .u32 nx) (.slice a m c))
  its : ∀ t (h : t < S.length), S[t].n = 4 + (i + t) ∧ ItAt wr Lb mb b lv S[t] (M (i + t))
  kept : Kept (fun k => k = Lb) w wr
  lb : Lb < w.heap.size
  mlo : w.heap.size ≤ mb
  blo : mb < b
  bhi : b < wr.heap.size
  vlo : ∀ k, lv.ownBlock = some k → mb < k ∧ k ≠ b
  all : ∀ k, A k → k < w.heap.size ∧ k ≠ Lb

theorem GaAt.below (h : GaAt w wr p A P l d Lb mb L D b n nx a m c lv S M i) (k : Below wr.heap.size wr wx) : GaAt w wx p A P l d Lb mb L D b n nx a m c lv S M i :=
  ⟨h.sys.below k, h.ls.below k, h.met.same (k.block mb (by have := h.blo; have := h.bhi; omega)), h.box.below k h.bhi, fun t ht => ⟨(h.its t ht).1, (h.its t ht).2.step (fun q hq _ _ _ _ => k.block q hq) k.size (fun _ q => .inl q) (.inl rfl)⟩, h.kept.trans (Kept.of_below k), h.lb, h.mlo, h.blo, Nat.lt_of_lt_of_le h.bhi k.size, h.vlo, h.all⟩

/-- A visit was made. -/
theorem GaAt.visited (h : GaAt w wr p A P l d Lb mb L D b n nx a m c lv S M i) {s : ShV} {lv' : Value} (hn : s.n = 4 + (i + S.length)) (hc : ItAt wr Lb mb b lv s (M (i + S.length))) (hl : LsAt wx Lb lv' (S ++ [s])) (ho : ∀ k, lv'.ownBlock = some k → lv.ownBlock = some k ∨ wr.heap.size ≤ k) (k : Kept (fun k => k = Lb ∨ lv.ownBlock = some k) wr wx) : GaAt w wx p A P l d Lb mb L D b n nx a m c lv' (S ++ [s]) M i := by
  have h1 := h.lb
  have h2 := h.mlo
  have h3 := h.blo
  have h4 := h.bhi
  have hk : ∀ q, q < wr.heap.size → q ≠ Lb → ¬ lv.ownBlock = some q → wx.heap[q]? = wr.heap[q]? := fun q hq e1 e2 => k.block q hq (fun r => r.elim e1 e2)
  have hv : ∀ q, q ≤ mb → ¬ lv.ownBlock = some q := fun q hq r => by have := (h.vlo q r).1; omega
  refine ⟨h.sys.same (fun q hq => hk q (h.sys.lt q hq) (h.all q hq).2 (hv q (by have := (h.all q hq).1; omega))) k.size, hl, h.met.same (hk mb (by omega) (by omega) (hv mb (Nat.le_refl _))), h.box.sameR (hk b h4 (by omega) (fun r => (h.vlo b r).2 rfl)), fun t ht => ?_, ?_, h1, h2, h3, Nat.lt_of_lt_of_le h4 k.size, fun q r => ?_, h.all⟩
  · rw [List.length_append] at ht
    by_cases e : t < S.length
    · rw [List.getElem_append_left e]
      exact ⟨(h.its t e).1, (h.its t e).2.step (fun q hq o1 _ _ o4 => hk q hq o1 o4) k.size ho (.inl rfl)⟩
    · have e2 : t = S.length := by simp at ht; omega
      subst e2
      rw [List.getElem_append_right (Nat.le_refl _)]
      simp only [Nat.sub_self, List.getElem_cons_zero]
      exact ⟨hn, hc.step (fun q hq o1 _ _ o4 => hk q hq o1 o4) k.size ho (.inl rfl)⟩
  · exact ⟨k.os.trans h.kept.os, k.tape.trans h.kept.tape, k.output.trans h.kept.output, Nat.le_trans h.kept.size k.size, fun q hq e => (hk q (Nat.lt_of_lt_of_le hq h.kept.size) e (hv q (by omega))).trans (h.kept.block q hq e)⟩
  · rcases ho q r with s1 | s1
    · exact h.vlo q s1
    · exact ⟨by omega, by omega⟩

/-- The page was put to those met. -/
theorem GaAt.turned (h : GaAt w wr p A P l d Lb mb L D b n nx a m c lv S M i) {L' : List Nat} {D' : DataW Value} (k : Kept (fun k => k = mb) wr wx) (hm : MetAt wx mb L' D') : GaAt w wx p A P l d Lb mb L' D' b n nx a m c lv S M i := by
  have h1 := h.lb
  have h2 := h.mlo
  have h3 := h.blo
  have h4 := h.bhi
  have hk : ∀ q, q < wr.heap.size → q ≠ mb → wx.heap[q]? = wr.heap[q]? := fun q hq e => k.block q hq e
  refine ⟨h.sys.same (fun q hq => hk q (h.sys.lt q hq) (by have := (h.all q hq).1; omega)) k.size, h.ls.same (fun q hq => ?_), hm, h.box.sameR (hk b h4 (by omega)), fun t ht => ⟨(h.its t ht).1, (h.its t ht).2.step (fun q hq _ o2 _ _ => hk q hq o2) k.size (fun _ q => .inl q) (.inl rfl)⟩, ?_, h1, h2, h3, Nat.lt_of_lt_of_le h4 k.size, h.vlo, h.all⟩
  · rcases hq with rfl | r
    · exact hk _ h.ls.cell.lt (by omega)
    · exact hk q (h.ls.row.lt q r).2 (by have := (h.vlo q r).1; omega)
  · exact ⟨k.os.trans h.kept.os, k.tape.trans h.kept.tape, k.output.trans h.kept.output, Nat.le_trans h.kept.size k.size, fun q hq e => (hk q (Nat.lt_of_lt_of_le hq h.kept.size) (by omega)).trans (h.kept.block q hq e)⟩

/-- On to the next leaf. -/
theorem GaAt.moved {w7 V8 : World} {n0 nx0 : Nat} {a0 : Option Addr} {m0 c0 : Nat} (h : GaAt w w7 p A P l d Lb mb L D b n0 nx0 a0 m0 c0 lv S M i) {Mj : List ItemV} (hV : V8 = store5 w7 b (.int .u32 n) (.int .i64 0) (.slice none 0 0) (.int .u32 nx) (.slice a Mj.length c)) {Z : Nat} (hr : RowsFrom Z 4 ItemV.enc w7 a Mj) (hZ : b < Z) (hv : ∀ k, lv.ownBlock = some k → k < Z) :
    GaAt w (V8.alloc (.cells #[.int .u32 n, .int .i64 0, .slice none 0 0, .int .u32 nx, .slice a Mj.length c] 82)) p A P l d Lb mb L D V8.heap.size n nx a Mj.length c lv S M i ∧ ItAt (V8.alloc (.cells #[.int .u32 n, .int .i64 0, .slice none 0 0, .int .u32 nx, .slice a Mj.length c] 82)) Lb mb V8.heap.size lv ⟨n, nx, a, Mj.length, c⟩ Mj := by
  have h1 := h.lb
  have h2 := h.mlo
  have h3 := h.blo
  have h4 := h.bhi
  have hz : V8.heap.size = w7.heap.size := by rw [hV]; unfold store5; simp
  have hk : ∀ k, k ≠ b → V8.heap[k]? = w7.heap[k]? := fun k hk => by
    rw [hV]
    unfold store5
    rw [heap_setCell_other _ _ _ _ (by simpa using hk), heap_setCell_other _ _ _ _ (by simpa using hk), heap_setCell_other _ _ _ _ (by simpa using hk), heap_setCell_other _ _ _ _ (by simpa using hk), heap_setCell_other _ _ _ _ (by simpa using hk)]
  have kS : Kept (fun k => k = b) w7 V8 := by
    rw [hV]
    unfold store5
    exact ((((Kept.setCell (fun k => k = b) _ b 0 _ rfl).trans (Kept.setCell (fun k => k = b) _ b 1 _ rfl)).trans (Kept.setCell (fun k => k = b) _ b 2 _ rfl)).trans (Kept.setCell (fun k => k = b) _ b 3 _ rfl)).trans (Kept.setCell (fun k => k = b) _ b 4 _ rfl)
  have kA : Below V8.heap.size V8 (V8.alloc (.cells #[.int .u32 n, .int .i64 0, .slice none 0 0, .int .u32 nx, .slice a Mj.length c] 82)) := (Below.refl _ _).alloc (Nat.le_refl _) _
  have rows : RowsFrom Z 4 ItemV.enc V8 a Mj := hr.same (fun k g1 g2 => hk k (by omega)) (by omega)
  have lsV : LsAt V8 Lb lv S := h.ls.same fun q hq => by
    rcases hq with rfl | r
    · exact hk _ (by omega)
    · exact hk q (h.vlo q r).2
  refine ⟨⟨(h.sys.same (fun k hb => hk k (by have := (h.all k hb).1; omega)) (by omega)).below kA, lsV.below kA, (h.met.same (hk mb (by omega))).same (kA.block mb (by omega)), RowV.five_new _ _ _ _ _ _ _, fun t ht => ⟨(h.its t ht).1, (((h.its t ht).2.step (wx := V8) (b2 := b) (fun q hq _ _ o3 _ => hk q o3) (by omega) (fun _ q => .inl q) (.inl rfl)).step (fun q hq _ _ _ _ => kA.block q hq) kA.size (fun _ q => .inl q) (.inr (Nat.le_refl _)))⟩, ?_, h1, h2, by omega, by simp, fun k hk' => ⟨(h.vlo k hk').1, by have := (h.ls.row.lt k hk').2; omega⟩, h.all⟩, ⟨rows.at.below kA, rfl, fun b' o' e1 h0 => ?_⟩⟩
  · have k1 : Kept (fun k => k = Lb) w V8 := ⟨kS.os.trans h.kept.os, kS.tape.trans h.kept.tape, kS.output.trans h.kept.output, Nat.le_trans h.kept.size kS.size, fun q hq e => (hk q (by omega)).trans (h.kept.block q hq e)⟩
    exact k1.trans (Kept.of_below kA)
  · rcases rows with q | ⟨b2, o2, e2, g1, g2, _⟩
    · exact absurd q h0
    · have e1' : a = some ⟨b', o', none⟩ := e1
      rw [e1'] at e2
      simp only [Option.some.injEq, Addr.mk.injEq, and_true] at e2
      obtain ⟨rfl, rfl⟩ := e2
      exact ⟨by have := kA.size; omega, by omega, by omega, by omega, fun r => by have := hv _ r; omega⟩

end

end Go.Proofs.YtpllidadpcahbaaGreat

namespace Go.Proofs.YtpllidadpcahbaaGreat
open Go.RowKit Go.Sort
set_option linter.unusedVariables false
set_option linter.unusedSimpArgs false

/-- What goOn leaves. -/
structure AlOut (w : World) (Lb i N : Nat) (M : Nat → List ItemV) (r : Ending) (w' : World) : Prop where
  ok : r = .returned (.int .i64 0)
  out : ∃ (lv : Value) (S : List ShV), LsAt w' Lb lv S ∧ S.length = N - i ∧ (∀ t (h : t < S.length), S[t].n = 4 + (i + t) ∧ S[t].m = (M (i + t)).length ∧ ItemsAt w' S[t].a (M (i + t))) ∧ ∀ k, lv.ownBlock = some k → w.heap.size ≤ k
  kept : Kept (fun k => k = Lb) w w'

section
variable {w : World} {p : Nat} {A : Nat → Prop} {P : PG} {l : LG} {d : DG} {N : Nat} {M : Nat → List ItemV}

set_option maxHeartbeats 1600000 in
set_option maxRecDepth 20000 in
theorem goOnAll (hS : Sys w p A P l d) (hL : LeavesAt P N M) {i : Nat} (hi : i < N) {Lb : Nat} (h : LsAt w Lb (.slice none 0 0) []) (hLA : ¬ A Lb) (n nx : Nat) (hn : n = 4 + i) (hnx : nx = if i + 1 < N then 5 + i else 0) (a : Option Addr) (c : Nat) (hA : ItemsAt w a (M i)) (hoff : ∀ b' o, a = some ⟨b', o, none⟩ → M i ≠ [] → b' ≠ Lb) :
    Calls Tryz.prog 51 #[.pointer (some ⟨p, 0, none⟩), leafS n nx a (M i).length c, .func (.func 52) #[] #[.pointer (some ⟨Lb, 0, none⟩)]] w (AlOut w Lb i N M) := by
  have hmm := @run_makeMap Tryz.prog
  have hN := hL.le
  have HVI : Hid (∀ (wx : World) (lv : Value) (S : List ShV) (n nx : Nat) (a : Option Addr) (m c : Nat), LsAt wx Lb lv S → S.length ≤ 1000 → Calls Tryz.prog 52 #[.agg #[.int .u32 n, .int .i64 0, .slice none 0 0, .int .u32 nx, .slice a m c], .pointer (some ⟨Lb, 0, none⟩)] wx (AvOut wx Lb lv S ⟨n, nx, a, m, c⟩)) := fun wx lv S n nx a m c h1 h2 => visitAll h1 h2 n nx a m c
  have HFL : Hid (∀ (wx : World) (j nx : Nat), j + 1 < N → nx = 5 + j → Sys wx p A P l d → ∃ nx', nx' = (if j + 1 + 1 < N then 5 + (j + 1) else 0) ∧ Calls Tryz.prog 53 #[.pointer (some ⟨p, 0, none⟩), .int .u32 nx] wx fun r w' => ∃ a' c', r = .returned (.tuple #[.agg #[.int .u32 nx, .int .i64 0, .slice none 0 0, .int .u32 nx', .slice a' (M (j + 1)).length c'], .int .i64 0]) ∧ RowsFrom wx.heap.size 4 ItemV.enc w' a' (M (j + 1)) ∧ Below wx.heap.size wx w') := fun wx j nx hj e1 hs => by
    obtain ⟨f, e2, e3, e4, e5, e6⟩ := hL.fr (j + 1) hj
    rw [show 4 + (j + 1) = nx by omega] at e2
    refine ⟨nextF f.sh, e6, ?_⟩
    rw [← e5, leafL_length]
    exact tfetch_leaf hs nx (by omega) (by omega) e2 e3 e4
  have HIL : Hid (∀ (wx : World) (next : Nat) (a : Option Addr) (m c q : Nat), Calls Tryz.prog 55 #[.agg #[.int .u32 q, .int .i64 0, .slice none 0 0, .int .u32 next, .slice a m c]] wx fun r w' => r = .returned (.bool true) ∧ Below wx.heap.size wx w') := fun wx next a m c q => isLeaf_leaf q next a m c wx
  obtain ⟨W, HW⟩ : ∃ W, Hid (W = ((w.alloc (.cells #[.int .u32 n, .int .i64 0, .slice none 0 0, .int .u32 nx, .slice a (M i).length c] 82)).alloc (.map #[] 0)).alloc (.cells #[.int .u32 n, .int .i64 0, .slice none 0 0, .int .u32 nx, .slice a (M i).length c] 82)) := ⟨_, rfl⟩
  have bW : Below w.heap.size w W := by rw [HW.out]; exact (((Below.refl _ _).alloc (Nat.le_refl _) _).alloc (by simp) _).alloc (by simp; omega) _
  have zW : W.heap.size = w.heap.size + 3 := by rw [HW.out]; simp
  have hlb := h.cell.lt
  have G0 : GaAt w W p A P l d Lb (w.heap.size + 1) [] (.map []) (w.heap.size + 2) n nx a (M i).length c (.slice none 0 0) [] M i := by
    have z2 : ((w.alloc (.cells #[.int .u32 n, .int .i64 0, .slice none 0 0, .int .u32 nx, .slice a (M i).length c] 82)).alloc (.map #[] 0)).heap.size = w.heap.size + 2 := by simp
    refine ⟨hS.below bW, h.below bW, ⟨?_, fun q _ => by simp; rfl, fun q _ => rfl, by simp⟩, ?_, fun t ht => (by simp at ht), Kept.of_below bW, hlb, by omega, by omega, by omega, fun k hk => (by cases hk), fun k hk => ⟨hS.lt k hk, fun q => hLA (q ▸ hk)⟩⟩
    · have := MapV.made 24 (w.alloc (.cells #[.int .u32 n, .int .i64 0, .slice none 0 0, .int .u32 nx, .slice a (M i).length c] 82))
      rw [HW.out]
      refine MapV.same (w := ((w.alloc (.cells #[.int .u32 n, .int .i64 0, .slice none 0 0, .int .u32 nx, .slice a (M i).length c] 82)).alloc (.map #[] 0))) (by simpa using this) (heap_old _ _ (by simp))
    · rw [HW.out, ← z2]; exact RowV.five_new _ _ _ _ _ _ _
  have C0 : ItAt W Lb (w.heap.size + 1) (w.heap.size + 2) (.slice none 0 0) ⟨n, nx, a, (M i).length, c⟩ (M i) := by
    refine ⟨hA.below bW, rfl, fun b' o e1 h0 => ?_⟩
    have hb : b' < w.heap.size := by
      rcases hA with q | ⟨b2, o2, e2, hb2, _⟩
      · exact absurd q h0
      · have e1' : a = some ⟨b', o, none⟩ := e1
        rw [e1'] at e2
        simp only [Option.some.injEq, Addr.mk.injEq, and_true] at e2
        obtain ⟨rfl, rfl⟩ := e2
        exact hb2
    exact ⟨by omega, hoff b' o e1 h0, by omega, by omega, fun q => (by cases q)⟩
  unfold leafS
  have Hn0 := hidn hn
  have Hnx0 := hidn hnx
  clear hS hL hA hoff hn hnx
  go_enter Tryz.func51, Tryz.ntmps51
  go_wp2_with fail
  rw [← HW.out]
  clear HW
  go_loopw [8] (fun v8 wr => ∃ (j n nx b : Nat) (a : Option Addr) (c : Nat) (L : List Nat) (D : DataW Value) (lv : Value) (S : List ShV), v8 = .pointer (some ⟨b, 0, none⟩) ∧ i ≤ j ∧ j < N ∧ Hid (GaAt w wr p A P l d Lb (w.heap.size + 1) L D b n nx a (M j).length c lv S M i) ∧ Hid (ItAt wr Lb (w.heap.size + 1) b lv ⟨n, nx, a, (M j).length, c⟩ (M j)) ∧ Hid (n = 4 + j) ∧ Hid (nx = if j + 1 < N then 5 + j else 0) ∧ Hid ((∀ k ∈ L, k < 4 + j) ∧ L.length ≤ j) ∧ Hid (i + S.length = j)) (fun v8 wr => 28 - pgAt wr v8)
  case atStart => exact ⟨i, n, nx, w.heap.size + 2, a, c, [], .map [], .slice none 0 0, [], rfl, Nat.le_refl _, hi, G0, C0, Hn0, Hnx0, ⟨by simp, by simp⟩, rfl⟩
  case round =>
    clear G0 C0 Hn0 Hnx0 bW
    obtain ⟨j, n, nx, b, a, c, L, D, lv, S, rfl, hij, hj, HG, HCu, Hn, Hnx, HLL, HSl⟩ := hrel
    obtain ⟨x0', x1, x2, x3, x4⟩ := HG.out.box.cells5
    have HP0 := hidn (show pgAt wr (.pointer (some ⟨b, 0, none⟩)) = n by simp only [pgAt, x0']; simp)
    have HV := hidn (HVI.out wr lv S n nx a (M j).length c HG.out.ls (by have := HSl.out; omega))
    have hst : Hid (∀ (w2 : World) (lv' : Value), LsAt w2 Lb lv' (S ++ [⟨n, nx, a, (M j).length, c⟩]) → (∀ k, lv'.ownBlock = some k → lv.ownBlock = some k ∨ wr.heap.size ≤ k) → Kept (fun k => k = Lb ∨ lv.ownBlock = some k) wr w2 → GaAt w w2 p A P l d Lb (w.heap.size + 1) L D b n nx a (M j).length c lv' (S ++ [⟨n, nx, a, (M j).length, c⟩]) M i) := fun w2 lv' h1 h2 h3 => HG.out.visited (by rw [HSl.out]; exact Hn.out) (by rw [HSl.out]; exact HCu.out) h1 h2 h3
    by_cases hlast : j + 1 < N
    · have hnx := hidn (show nx = 5 + j by rw [Hnx.out, if_pos hlast])
      have hnx0 : ¬ ((nx : Int) = 0) := by have := hnx.out; omega
      have hn32 : n < 4294967296 := by have := Hn.out; omega
      have hx32 : nx < 4294967296 := by have := hnx.out; omega
      go_wp2_with fail
      refine HV.out.mono ?_
      rintro r w2 ⟨rfl, ⟨lv2, hls, hown⟩, hk2⟩
      have G2 := hidn (hst.out w2 lv2 hls hown hk2)
      have hlv2 := hidn (show ∀ k, lv2.ownBlock = some k → k < w2.heap.size from fun k q => (hls.row.lt k q).2)
      clear HV HG HCu hst x0' x1 x2 x3 x4 hls hown hk2
      have hnL : n ∉ L := fun q => by have := HLL.out.1 n q; have := Hn.out; omega
      have hxL : nx ∉ L ++ [n] := fun q => by
        rcases List.mem_append.1 q with q | q
        · have := HLL.out.1 nx q; have := hnx.out; omega
        · have q' : nx = n := by simpa using q
          have := hnx.out; have := Hn.out; omega
      obtain ⟨u, D', hu⟩ := G2.out.met.meet hn32 hnL (by have := HLL.out.2; omega)
      obtain ⟨hrun, ku, hM3⟩ := hu w2 rfl
      have G3 := hidn (G2.out.turned ku hM3)
      have hlk := hM3.look hx32
      rw [decide_eq_false hxL] at hlk
      obtain ⟨y0, y1, y2, y3, y4⟩ := G2.out.box.cells5
      obtain ⟨z0, z1, z2, z3, z4⟩ := G3.out.box.cells5
      have hkz := ku.size
      clear hu ku hM3
      go_upto_region 8 with fail
      obtain ⟨V4, HV4⟩ : ∃ V4, Hid (V4 = (u w2).alloc (.cells #[] 131)) := ⟨_, rfl⟩
      have k4 : Below (u w2).heap.size (u w2) V4 := by rw [HV4.out]; exact (Below.refl _ _).alloc (Nat.le_refl _) _
      have G4 := hidn (G3.out.below k4)
      have zV4 : w2.heap.size ≤ V4.heap.size := Nat.le_trans hkz k4.size
      rw [← HV4.out]
      clear HV4 G2 G3 y0 y1 y2 y3 y4 z0 z1 z2 z3 z4 hrun hlk k4
      obtain ⟨y0, y1, y2, y3, y4⟩ := G4.out.box.cells5
      obtain ⟨nx', hnx', HC⟩ := HFL.out V4 j nx hlast hnx.out G4.out.sys
      have Hnx' := hidn hnx'
      have HCc := hidn HC
      clear hnx' HC
      go_wp2_with fail
      refine HCc.out.mono ?_
      rintro r w5 ⟨a5, c5, rfl, r5, b5⟩
      obtain ⟨W6, HW6⟩ : ∃ W6, Hid (W6 = w5.alloc (.cells #[.int .u32 nx, .int .i64 0, .slice none 0 0, .int .u32 nx', .slice a5 (M (j + 1)).length c5] 82)) := ⟨_, rfl⟩
      have k6 : Below w5.heap.size w5 W6 := by rw [HW6.out]; exact (Below.refl _ _).alloc (Nat.le_refl _) _
      have q6 : RowV W6 w5.heap.size 5 (five (.int .u32 nx) (.int .i64 0) (.slice none 0 0) (.int .u32 nx') (.slice a5 (M (j + 1)).length c5)) := by rw [HW6.out]; exact RowV.five_new _ _ _ _ _ _ _
      have z6 : w5.heap.size < W6.heap.size := by rw [HW6.out]; simp
      have G6 := hidn (G4.out.below (below_chain b5 k6))
      have r6 := r5.belowF k6
      have z5 := b5.size
      have zb := G4.out.bhi
      clear HCc y0 y1 y2 y3 y4 r5 b5 k6 G4
      go_upto_region 11 with fail
      rw [← HW6.out]
      clear HW6
      obtain ⟨y0, y1, y2, y3, y4⟩ := q6.cells5
      go_wp2_with fail
      refine (HIL.out _ _ _ _ _ _).mono ?_
      rintro r w7 ⟨rfl, b7⟩
      have G7 := hidn (G6.out.below b7)
      have q7 := q6.below b7 z6
      have r7 := r6.belowF b7
      clear y0 y1 y2 y3 y4 q6 r6 G6
      obtain ⟨y0, y1, y2, y3, y4⟩ := q7.cells5
      have r8 := G7.out.box
      obtain ⟨o0, o1, o2, o3, o4⟩ := r8.cells5
      obtain ⟨p0, p1, p2, p3, p4⟩ := r8.open5
      obtain ⟨s0, s1, s2, s3, s4⟩ := (r8.set5 (.int .u32 nx) (.int .i64 0) (.slice none 0 0) (.int .u32 nx') (.slice a5 (M (j + 1)).length c5)).cells5
      obtain ⟨V8, HV8⟩ : ∃ V8, Hid (V8 = store5 w7 b (.int .u32 nx) (.int .i64 0) (.slice none 0 0) (.int .u32 nx') (.slice a5 (M (j + 1)).length c5)) := ⟨_, rfl⟩
      have HAll := hidn (G7.out.moved (Mj := M (j + 1)) (nx := nx') (n := nx) (a := a5) (c := c5) HV8.out r7 (by omega) (fun k hk => by have := hlv2.out k hk; omega))
      have HLL2 : Hid ((∀ k ∈ L ++ [n], k < 4 + (j + 1)) ∧ (L ++ [n]).length ≤ j + 1) := by
        refine hidn ⟨fun k hk => ?_, by rw [List.length_append]; have := HLL.out.2; simp; omega⟩
        rcases List.mem_append.1 hk with qq | qq
        · have := HLL.out.1 k qq; omega
        · have qq' : k = n := by simpa using qq
          have := Hn.out; omega
      have HS2 := hidn (show i + (S ++ [ShV.mk n nx a (M j).length c]).length = j + 1 by rw [List.length_append]; have := HSl.out; simp; omega)
      unfold store5 at s0 s1 s2 s3 s4 HV8
      clear r7 q7 r8
      go_upto_region 15 with fail
      rw [← HV8.out] at s0 s1 s2 s3 s4 ⊢
      clear HV8 y0 y1 y2 y3 y4 o0 o1 o2 o3 o4 p0 p1 p2 p3 p4
      go_wp2
      go_roundw
      case rel => exact ⟨j + 1, nx, nx', V8.heap.size, a5, c5, L ++ [n], D', lv2, S ++ [⟨n, nx, a, (M j).length, c⟩], rfl, by omega, hlast, hidn HAll.out.1, hidn HAll.out.2, (by have := hnx.out; exact hidn (by omega)), Hnx', HLL2, HS2⟩
      case measure =>
        have hbx : pgAt (V8.alloc (.cells #[.int .u32 nx, .int .i64 0, .slice none 0 0, .int .u32 nx', .slice a5 (M (j + 1)).length c5] 82)) (.pointer (some ⟨V8.heap.size, 0, none⟩)) = nx := by
          have := HAll.out.1.box.cells5.1
          simp only [pgAt, this]; simp
        rw [hbx, HP0.out]
        have := hnx.out
        have := Hn.out
        omega
    · have hnx0 : nx = 0 := by rw [Hnx.out, if_neg hlast]
      clear Hnx
      subst hnx0
      go_wp2_with fail
      refine HV.out.mono ?_
      rintro r w2 ⟨rfl, ⟨lv2, hls, hown⟩, hk2⟩
      have G2 := hidn (hst.out w2 lv2 hls hown hk2)
      clear HV HG HCu hst x0' x1 x2 x3 x4 hls hown hk2
      obtain ⟨y0, y1, y2, y3, y4⟩ := G2.out.box.cells5
      go_wp2
      go_ret
      refine ⟨rfl, ⟨lv2, _, G2.out.ls, by rw [List.length_append]; have := HSl.out; simp; omega, fun t ht => ⟨(G2.out.its t ht).1, (G2.out.its t ht).2.m, (G2.out.its t ht).2.items⟩, fun k hk => ?_⟩, G2.out.kept⟩
      have := (G2.out.vlo k hk).1
      omega

end

end Go.Proofs.YtpllidadpcahbaaGreat

namespace Go.Proofs.YtpllidadpcahbaaGreat
open Go.RowKit Go.Sort
set_option linter.unusedVariables false
set_option linter.unusedSimpArgs false

/-- What allLeaves tells. -/
structure LeOut (w : World) (N : Nat) (M : Nat → List ItemV) (r : Ending) (w' : World) : Prop where
  out : ∃ (lv : Value) (S : List ShV), r = .returned (.tuple #[lv, .int .i64 0]) ∧ w'.ownsRow w.heap.size 82 5 lv S.length (S.flatMap ShV.enc) ∧ S.length = N ∧ ∀ t (h : t < S.length), S[t].n = 4 + t ∧ S[t].m = (M t).length ∧ ItemsAt w' S[t].a (M t)
  bel : Below w.heap.size w w'

section
variable {w : World} {p : Nat} {A : Nat → Prop} {P : PG} {l : LG} {d : DG} {root N : Nat} {C : List ChildV} {M : Nat → List ItemV}

set_option maxHeartbeats 1600000 in
set_option maxRecDepth 20000 in
theorem allLeaves_any (h : TreeAt P root N C M) (hS : Sys w p A P l d) (h0 : DownIs C ⟨⟨#[]⟩, 0, 0⟩ 0) :
    Calls Tryz.prog 28 #[.pointer (some ⟨p, 0, none⟩), .int .u32 root] w (LeOut w N M) := by
  have HGD := hidn (h.down hS ⟨⟨#[]⟩, 0, 0⟩)
  simp only [EntV.val, leafS] at HGD
  rw [show ((0 : Nat) : Int) = 0 from rfl] at HGD
  go_enter Tryz.func28, Tryz.ntmps28
  go_wp2_with fail
  refine HGD.out.mono ?_
  rintro r w2 ⟨⟨D, n, nx, a, c, way, hD, hDI, hn, hnx, rfl, ho, hr⟩, b2⟩
  obtain rfl : D = 0 := hDI.unique h0
  have Hn := hidn hn
  have Hnx := hidn hnx
  clear hDI hn hnx ho HGD
  obtain ⟨W5, HW5⟩ : ∃ W5, Hid (W5 = (w2.alloc (.cells #[.int .u32 n, .int .i64 0, .slice none 0 0, .int .u32 nx, .slice a (M 0).length c] 82)).alloc (.cells #[.slice none 0 0] 77)) := ⟨_, rfl⟩
  have b5 : Below w2.heap.size w2 W5 := by rw [HW5.out]; exact ((Below.refl _ _).alloc (Nat.le_refl _) _).alloc (by simp) _
  have z5 : W5.heap.size = w2.heap.size + 2 := by rw [HW5.out]; simp
  have B5 := below_chain b2 b5
  have z2 := b2.size
  have r5 : RowV W5 w2.heap.size 5 (five (.int .u32 n) (.int .i64 0) (.slice none 0 0) (.int .u32 nx) (.slice a (M 0).length c)) := by
    rw [HW5.out]
    exact (RowV.five_new w2 _ _ _ _ _ _).below ((Below.refl _ _).alloc (Nat.le_refl _) _) (by simp)
  have l5 : LsAt W5 (w2.heap.size + 1) (.slice none 0 0) [] := by
    refine ⟨?_, World.ownsRow_nil _ _ _ _⟩
    rw [HW5.out]
    have := Blk.made (w2.alloc (.cells #[.int .u32 n, .int .i64 0, .slice none 0 0, .int .u32 nx, .slice a (M 0).length c] 82)) #[.slice none 0 0] 77
    simpa using this
  have hoff : ∀ b' o, a = some ⟨b', o, none⟩ → M 0 ≠ [] → b' ≠ w2.heap.size + 1 := fun b' o e1 h0 => by
    rcases hr with q | ⟨b3, o3, e3, _, hb3, _⟩
    · exact absurd q h0
    · rw [e1] at e3
      simp only [Option.some.injEq, Addr.mk.injEq, and_true] at e3
      obtain ⟨rfl, rfl⟩ := e3
      omega
  have HON := hidn (goOnAll (hS.below B5) h.lvs hD l5 (fun q => by have := hS.lt _ q; omega) n nx Hn.out Hnx.out a c (hr.belowF b5).at hoff)
  simp only [leafS] at HON
  clear hr hoff l5 b2 b5
  go_upto_region 5 with fail
  rw [← HW5.out]
  clear HW5
  obtain ⟨x0, x1, x2, x3, x4⟩ := r5.cells5
  go_wp2_with fail
  refine HON.out.mono ?_
  rintro r w6 ⟨rfl, ⟨lv, S, hls, hSl, hits, hown⟩, hk⟩
  have c6 : w6.cell? ⟨w2.heap.size + 1, 0, none⟩ = some lv := hls.cell.cell 0
  have HO := hidn (show LeOut w N M (.returned (.tuple #[lv, .int .i64 0])) w6 from by
    refine ⟨⟨lv, S, rfl, ?_, by omega, fun t ht => ?_⟩, ⟨hk.os.trans B5.os, hk.tape.trans B5.tape, hk.output.trans B5.output, Nat.le_trans B5.size hk.size, fun k hk' => (hk.block k (by omega) (by show ¬ k = _; omega)).trans (B5.block k hk')⟩⟩
    · obtain ⟨h1, h2⟩ := hls.row
      refine ⟨h1, ?_⟩
      rcases h2 with q | ⟨g, cap, cur, e, e1, e2⟩
      · exact .inl q
      · exact .inr ⟨g, cap, cur, e, by omega, e2⟩
    · have := hits t ht
      rw [Nat.zero_add] at this
      exact this)
  clear hls hSl hits hown hk HON x0 x1 x2 x3 x4
  go_wp2
  go_ret2
  exact HO.out

end

end Go.Proofs.YtpllidadpcahbaaGreat

namespace Go.Proofs.YtpllidadpcahbaaGreat
open Go.RowKit Go.Sort
set_option linter.unusedVariables false
set_option linter.unusedSimpArgs false

theorem make_pgs (n : Nat) (hn : n ≤ 1000000) (w : World) : ∃ cur : Array Value, cur.size = n * 1 ∧
    (Instr.makeSlice 38 (.int .i64 0) (.int .i64 (n : Int))).run Tryz.prog w = .ok (.slice (some ⟨w.heap.size, 0, none⟩) 0 n) (w.alloc (.cells cur 24)) := by
  obtain ⟨i, hi, hz, hs, hb⟩ := info_parts infoPage
  have hr := run_make (P := Tryz.prog) w 38 24 i _ Tryz.underlying38 hi hz .i64 .i64 0 n (by omega) (by omega) (by rw [hb]; omega) (by omega)
  simp only [Int.toNat_natCast, hs] at hr
  exact ⟨_, by simp [madeCells], hr⟩

def pgEnc (n : Nat) : List Value := [.int .u32 (n : Int)]

theorem rowPg : RowTy Tryz.prog 38 24 1 4 pgEnc := by
  obtain ⟨i0, hi, hz0, hz1, hz2⟩ := info_parts infoPage
  exact ⟨Tryz.underlying38, ⟨i0, _, hi, hz0, hz1, hz2, rfl⟩, by omega, fun x => rfl, fun x u hu => by simp [pgEnc] at hu; subst hu; rfl⟩

theorem row_pg {w : World} {B n : Nat} (h : w.heap[B]? = some (.cells #[.int .u32 (n : Int)] 24 (0, 0))) : RowsAt 1 pgEnc w (some ⟨B, 0, none⟩) [n] := by
  refine .inr ⟨B, 0, rfl, (Array.getElem?_eq_some_iff.1 h).1, fun i hi j v hv => ?_⟩
  have : i = 0 := by simp at hi; exact hi
  subst this
  unfold World.cell?
  simp only [h]
  simpa [pgEnc] using hv

theorem RowsAt.sh {w : World} {g : Nat} {S : List ShV} (h : RowsAt 5 ShV.enc w (some ⟨g, 0, none⟩) S) {i : Nat} (hi : i < S.length) : g < w.heap.size ∧ w.cell? ⟨g, i * 5, none⟩ = some (.int .u32 S[i].n) ∧ w.cell? ⟨g, i * 5 + 1, none⟩ = some (.int .i64 0) ∧ w.cell? ⟨g, i * 5 + 2, none⟩ = some (.slice none 0 0) ∧ w.cell? ⟨g, i * 5 + 3, none⟩ = some (.int .u32 S[i].nx) ∧ w.cell? ⟨g, i * 5 + 4, none⟩ = some (.slice S[i].a S[i].m S[i].c) := by
  rcases h with h | ⟨b, o, e, hb, hc⟩
  · subst h; simp at hi
  · simp only [Option.some.injEq, Addr.mk.injEq, and_true] at e
    obtain ⟨rfl, rfl⟩ := e
    have := fun j v hv => hc i hi j v hv
    simp only [Nat.zero_add] at this
    exact ⟨hb, this 0 _ rfl, this 1 _ rfl, this 2 _ rfl, this 3 _ rfl, this 4 _ rfl⟩

/-- What Leaves tells. -/
structure LvsOut (w : World) (N : Nat) (r : Ending) (w' : World) : Prop where
  out : ∃ g cap, r = .returned (.tuple #[.slice (some ⟨g, 0, none⟩) N cap, .int .i64 0]) ∧ RowsAt 1 pgEnc w' (some ⟨g, 0, none⟩) ((List.range N).map fun t => 4 + t)
  bel : Below w.heap.size w w'

section
variable {w : World} {p : Nat} {A : Nat → Prop} {P : PG} {l : LG} {d : DG} {root N : Nat} {C : List ChildV} {M : Nat → List ItemV}

set_option maxHeartbeats 1600000 in
set_option maxRecDepth 20000 in
theorem tleaves_any (h : TreeAt P root N C M) (hS : Sys w p A P l d) (h0 : DownIs C ⟨⟨#[]⟩, 0, 0⟩ 0) :
    Calls Tryz.prog 9 #[.pointer (some ⟨p, 0, none⟩), .int .u32 root] w (LvsOut w N) := by
  have HAL := hidn (allLeaves_any h hS h0)
  have hN := h.lvs.le
  have hpos := h.pos
  go_enter Tryz.func9, Tryz.ntmps9
  go_wp2_with fail
  refine HAL.out.mono ?_
  rintro r w2 ⟨⟨lv, S, rfl, hown, hSl, hits⟩, b2⟩
  obtain ⟨g, cap, rfl⟩ : ∃ g cap, lv = .slice (some ⟨g, 0, none⟩) S.length cap := by
    rcases hown.2 with ⟨_, e2⟩ | ⟨g, cap, cur, e1, _⟩
    · omega
    · exact ⟨g, cap, e1⟩
  have hO : OwnR 5 ShV.enc 82 w2 w.heap.size g cap S := hown
  have hR := OwnR.rows (k := 5) (enc := ShV.enc) (fun x => rfl) (by omega) hO
  obtain ⟨cur, hcur, hmk⟩ := make_pgs S.length (by omega) w2
  obtain ⟨W3, HW3⟩ : ∃ W, Hid (W = w2.alloc (.cells cur 24)) := ⟨_, rfl⟩
  have b3 : Below w2.heap.size w2 W3 := by rw [HW3.out]; exact (Below.refl _ _).alloc (Nat.le_refl _) _
  have o3 : OwnR 1 pgEnc 24 W3 w2.heap.size w2.heap.size S.length ([] : List Nat) := by rw [HW3.out]; exact OwnR.made w2 (Nat.le_refl _) (by omega) hcur
  have hits' := hidn (show ∀ t (ht : t < S.length), S[t].n = 4 + t from fun t ht => (hits t ht).1)
  have B2 := hidn b2
  have HSN := hidn hSl
  have hS24 : S.length ≤ 24 := by omega
  clear HAL hits hown hO hcur b2 hSl
  go_wp2_with fail
  rw [← HW3.out]
  clear HW3 hmk
  go_loopw [8, 25] (fun v8 v25 wr => ∃ t g8 cap8 : Nat, t ≤ S.length ∧ v25 = .int .i64 t ∧ v8 = .slice (some ⟨g8, 0, none⟩) t cap8 ∧ Hid (OwnR 1 pgEnc 24 wr w2.heap.size g8 cap8 ((List.range t).map fun t => 4 + t)) ∧ Hid (Below w2.heap.size w2 wr)) (fun _ v25 _ => S.length - (intOf v25).toNat)
  case atStart => exact ⟨0, w2.heap.size, S.length, by omega, rfl, rfl, o3, b3⟩
  case round =>
    obtain ⟨t, g8, cap8, ht, rfl, rfl, HO, HB⟩ := hrel
    by_cases hlt : t < S.length
    · have q0 : (0 : Int) ≤ (t : Int) := by omega
      have q1 : (t : Int) < (S.length : Int) := by omega
      obtain ⟨hg, c0, c1, c2, c3, c4⟩ := (hR.below HB.out).sh hlt
      have hn := hits'.out t hlt
      rw [hn] at c0
      obtain ⟨n4, Hn4⟩ : ∃ n4 : Nat, Hid (n4 = 4 + t) := ⟨_, rfl⟩
      rw [← Hn4.out] at c0
      clear hn
      generalize S[t] = s at *
      obtain ⟨W5, HW5⟩ : ∃ W, Hid (W = wr.alloc (.cells #[.int .u32 n4, .int .i64 0, .slice none 0 0, .int .u32 s.nx, .slice s.a s.m s.c] 82)) := ⟨_, rfl⟩
      have b5 : Below wr.heap.size wr W5 := by rw [HW5.out]; exact (Below.refl _ _).alloc (Nat.le_refl _) _
      have r5 : RowV W5 wr.heap.size 5 (five (.int .u32 n4) (.int .i64 0) (.slice none 0 0) (.int .u32 s.nx) (.slice s.a s.m s.c)) := by rw [HW5.out]; exact RowV.five_new _ _ _ _ _ _ _
      have bV : Below W5.heap.size W5 (W5.alloc (.cells #[.int .u32 n4] 24)) := (Below.refl _ _).alloc (Nat.le_refl _) _
      have oV := (HO.out.below b5).below bV
      have BV := below_chain (below_chain HB.out b5) bV
      have rV := row_pg (w := W5.alloc (.cells #[.int .u32 n4] 24)) (B := W5.heap.size) (n := n4) (heap_alloc_new _ _)
      have hlen : t = ((List.range t).map fun t => 4 + t).length := by simp
      have Hlen := hidn hlen
      clear hlen
      go_upto_region 8 with fail
      rw [← HW5.out]
      clear HW5 c0 c1 c2 c3 c4
      obtain ⟨x0, x1, x2, x3, x4⟩ := r5.cells5
      go_wp2_with (at_builtin; refine wpList_appR rowPg (by rfl) _ _ (by rfl) w2.heap.size g8 cap8 ((List.range t).map fun t => 4 + t) t Hlen.out (by rfl) oV W5.heap.size 0 1 1 [n4] (by rfl) (by rfl) rV (by simp; omega) (by simp; omega) BV.size ?_
                   intro g9 cap9 w9 own9 grow9 loc9
                   have B9 : Below w2.heap.size w2 w9 := tgrown BV grow9 oV.from)
      have HO9 := hidn (show OwnR 1 pgEnc 24 w9 w2.heap.size g9 cap9 ((List.range (t + 1)).map fun t => 4 + t) by rw [List.range_succ, List.map_append, List.map_cons, List.map_nil, ← Hn4.out]; exact own9)
      have HB9 := hidn B9
      clear own9 grow9 loc9 B9 oV BV rV bV x0 x1 x2 x3 x4
      go_wp2
      go_roundw
      case rel => exact ⟨t + 1, g9, cap9, by omega, by go_num, rfl, HO9, HB9⟩
      case measure => simp [intOf]; omega
    · have q1 : ¬ (t : Int) < (S.length : Int) := by omega
      obtain rfl : t = S.length := by omega
      have HX := hidn (show LvsOut w N (.returned (.tuple #[.slice (some ⟨g8, 0, none⟩) S.length cap8, .int .i64 0])) wr from ⟨⟨g8, cap8, by rw [HSN.out], by rw [← HSN.out]; exact OwnR.rows (k := 1) (enc := pgEnc) (fun x => rfl) (by omega) HO.out⟩, below_chain B2.out HB.out⟩)
      go_wp2
      go_ret2
      exact HX.out

end

end Go.Proofs.YtpllidadpcahbaaGreat

namespace Go.Proofs.YtpllidadpcahbaaGreat
open Go.RowKit Go.Sort
set_option linter.unusedVariables false
set_option linter.unusedSimpArgs false

theorem fromL_snoc (M : Nat → List ItemV) : ∀ (n i : Nat), fromL M i (n + 1) = fromL M i n ++ M (i + n)
  | 0, i => by simp [fromL]
  | n + 1, i => by
    show M i ++ fromL M (i + 1) (n + 1) = (M i ++ fromL M (i + 1) n) ++ M (i + (n + 1))
    rw [fromL_snoc M n (i + 1), List.append_assoc, show i + 1 + n = i + (n + 1) by omega]

theorem fromL_len {M : Nat → List ItemV} (h : ∀ i, (M i).length ≤ 64) : ∀ (n i : Nat), (fromL M i n).length ≤ n * 64
  | 0, i => by simp [fromL]
  | n + 1, i => by
    have := fromL_len h n (i + 1)
    have := h i
    show (M i ++ fromL M (i + 1) n).length ≤ _
    rw [List.length_append, Nat.add_mul]; omega

theorem infoIt : (Tryz.prog.info? 42).map (fun i => (i.zero, i.size, i.bytes)) = some (some (.agg #[.string ⟨#[]⟩, .int .u32 0, .int .i64 0, .bool false]), 4, 40) := by kernel_rfl

/-- What All tells. -/
structure ItsOut (w : World) (K : List ItemV) (r : Ending) (w' : World) : Prop where
  out : ∃ a c, r = .returned (.tuple #[.slice a K.length c, .int .i64 0]) ∧ ItemsAt w' a K
  bel : Below w.heap.size w w'

theorem items_of_own {w : World} {base : Nat} {v : Value} {K : List ItemV} (h : w.ownsRow base 42 4 v K.length (K.flatMap ItemV.enc)) : ∃ a c, v = .slice a K.length c ∧ ItemsAt w a K := by
  rcases h.2 with ⟨e, e0⟩ | ⟨g, cap, cur, e, _⟩
  · exact ⟨none, 0, by rw [e, e0], .inl (List.eq_nil_of_length_eq_zero e0)⟩
  · subst e
    exact ⟨_, _, rfl, OwnR.rows (k := 4) (enc := ItemV.enc) (fun x => rfl) (by omega) (show OwnR 4 ItemV.enc 42 w base g cap K from h)⟩

theorem ownsRow_below {w w' : World} {b : Nat} {t : TypeId} {s : Nat} {v : Value} {n : Nat} {xs : List Value} (h : w.ownsRow b t s v n xs) (k : Below w.heap.size w w') : w'.ownsRow b t s v n xs := by
  have hl := h.lt
  obtain ⟨h1, h2⟩ := h
  refine ⟨h1, ?_⟩
  rcases h2 with q | ⟨g, cap, cur, e, e1, e2, e3⟩
  · exact .inl q
  · exact .inr ⟨g, cap, cur, e, e1, (k.block g (hl g (by rw [e]; rfl)).2).trans e2, e3⟩

theorem run_app0 (ty : TypeId) (ad : Option Addr) (c : Nat) (w : World) : (Builtin.append_ #[34, 34] ty #[.slice none 0 0, .slice ad 0 c]).run Tryz.prog w = .ok (.slice none 0 0) w := by
  obtain ⟨i0, hi, hz0, hz1, hz2⟩ := info_parts infoIt
  cases ad with
  | none => simp [Builtin.append_, Builtin.lenOf, Builtin.firstCells, underlying, sizeOf, typeInfo, Tryz.underlying34, hi, hz1, go_sem]
  | some a => simp [Builtin.append_, Builtin.lenOf, Builtin.firstCells, loadCells, underlying, sizeOf, typeInfo, Tryz.underlying34, hi, hz1, go_sem]

theorem wpList_app0 {ops : Array Oper} {rest : List Oper} {o : Oper} {a : Act} {w : World} {Q : Exit → Act → World → Prop} (hgd : o.guard = none) (s x : Operand)
    (ho : o.op = .call { callee := .builtin .append, args := #[s, x], argTypes := #[34, 34] }) (hs : a.eval s = .slice none 0 0) (ad : Option Addr) (c : Nat) (hx : a.eval x = .slice ad 0 c)
    (hh : wpList Tryz.prog ops Q rest (a.put o.dst (.slice none 0 0)) w) : wpList Tryz.prog ops Q (o :: rest) a w := by
  refine wpList_plain hgd fun K hK => ?_
  unfold Oper.wp execOp
  simp only [ho, resolve, invoke, builtin, Sem.run_bind, Sem.run_pure, Result.andThen_ok, List.map_toArray, List.map_cons, List.map_nil, hs, hx, run_app0]
  exact hK _ _ hh

section
variable {w : World} {p : Nat} {A : Nat → Prop} {P : PG} {l : LG} {d : DG} {root N : Nat} {C : List ChildV} {M : Nat → List ItemV}

set_option maxHeartbeats 1600000 in
set_option maxRecDepth 20000 in
theorem tall_any (h : TreeAt P root N C M) (hS : Sys w p A P l d) (h0 : DownIs C ⟨⟨#[]⟩, 0, 0⟩ 0) (hne : ∀ t, t < N → M t = [] → N = 1) :
    Calls Tryz.prog 8 #[.pointer (some ⟨p, 0, none⟩), .int .u32 root] w (ItsOut w (fromL M 0 N)) := by
  have HAL := hidn (allLeaves_any h hS h0)
  have hN := h.lvs.le
  have hpos := h.pos
  have hsh := h.short
  obtain ⟨i0, hi, hz0, hz1, hz2⟩ := info_parts infoIt
  go_enter Tryz.func8, Tryz.ntmps8
  go_wp2_with fail
  refine HAL.out.mono ?_
  rintro r w2 ⟨⟨lv, S, rfl, hown, hSl, hits⟩, b2⟩
  obtain ⟨g, cap, rfl⟩ : ∃ g cap, lv = .slice (some ⟨g, 0, none⟩) S.length cap := by
    rcases hown.2 with ⟨_, e2⟩ | ⟨g, cap, cur, e1, _⟩
    · omega
    · exact ⟨g, cap, e1⟩
  have hO : OwnR 5 ShV.enc 82 w2 w.heap.size g cap S := hown
  have hR := OwnR.rows (k := 5) (enc := ShV.enc) (fun x => rfl) (by omega) hO
  have B2 := hidn b2
  have HSN := hidn hSl
  have hS24 : S.length ≤ 24 := by omega
  have Hit := hidn hits
  clear HAL hits hown hO b2 hSl
  go_wp2_with fail
  go_loopw [8, 22] (fun v8 v22 wr => ∃ t : Nat, t ≤ S.length ∧ v22 = .int .i64 t ∧ (∃ a8 c8, v8 = .slice a8 (fromL M 0 t).length c8 ∧ Hid (t = 0 → a8 = none ∧ c8 = 0)) ∧ Hid (wr.ownsRow w2.heap.size 42 4 v8 (fromL M 0 t).length ((fromL M 0 t).flatMap ItemV.enc)) ∧ Hid (Below w2.heap.size w2 wr)) (fun _ v22 _ => S.length - (intOf v22).toNat)
  case atStart => exact ⟨0, by omega, rfl, ⟨none, 0, rfl, fun _ => ⟨rfl, rfl⟩⟩, World.ownsRow_nil _ _ _ _, Below.refl _ _⟩
  case round =>
    obtain ⟨t, ht, rfl, ⟨a8, c8, rfl, HNil⟩, HO, HB⟩ := hrel
    have hlK := fromL_len hsh t 0
    by_cases hlt : t < S.length
    · have q0 : (0 : Int) ≤ (t : Int) := by omega
      have q1 : (t : Int) < (S.length : Int) := by omega
      obtain ⟨hg, c0, c1, c2, c3, c4⟩ := (hR.below HB.out).sh hlt
      obtain ⟨hn', hm, hA⟩ := Hit.out t hlt
      rw [hm] at c4
      have hsht := hsh t
      clear hn' hm
      generalize S[t] = s at *
      obtain ⟨W5, HW5⟩ : ∃ W, Hid (W = wr.alloc (.cells #[.int .u32 s.n, .int .i64 0, .slice none 0 0, .int .u32 s.nx, .slice s.a (M t).length s.c] 82)) := ⟨_, rfl⟩
      have b5 : Below wr.heap.size wr W5 := by rw [HW5.out]; exact (Below.refl _ _).alloc (Nat.le_refl _) _
      have r5 : RowV W5 wr.heap.size 5 (five (.int .u32 s.n) (.int .i64 0) (.slice none 0 0) (.int .u32 s.nx) (.slice s.a (M t).length s.c)) := by rw [HW5.out]; exact RowV.five_new _ _ _ _ _ _ _
      have B5 := below_chain HB.out b5
      have A5 := hA.below B5
      have O5 := hidn (ownsRow_below HO.out b5)
      have HSnoc := hidn (show fromL M 0 (t + 1) = fromL M 0 t ++ M t by have := fromL_snoc M t 0; rwa [Nat.zero_add] at this)
      go_upto_region 8 with fail
      rw [← HW5.out]
      clear HW5 c0 c1 c2 c3 c4 hA
      obtain ⟨x0, x1, x2, x3, x4⟩ := r5.cells5
      by_cases hM : M t = []
      · have ht0 : t = 0 := by have := hne t (by have := HSN.out; omega) hM; have := HSN.out; omega
        subst ht0
        obtain ⟨rfl, rfl⟩ := HNil.out rfl
        have hf1 : fromL M 0 1 = [] := by show M 0 ++ [] = []; rw [hM]; rfl
        have HO1 := hidn (show W5.ownsRow w2.heap.size 42 4 (.slice none 0 0) (fromL M 0 (0 + 1)).length ((fromL M 0 (0 + 1)).flatMap ItemV.enc) by rw [Nat.zero_add, hf1]; exact World.ownsRow_nil _ _ _ _)
        have HL1 := hidn (show (fromL M 0 (0 + 1)).length = 0 by rw [Nat.zero_add, hf1]; rfl)
        have HB5 := hidn B5
        rw [show (M 0).length = 0 by rw [hM]; rfl] at x4
        have h1N := hidn (hne 0 hpos hM)
        clear hM hf1 O5 A5
        go_wp2_with (at_builtin; refine wpList_app0 (by rfl) _ _ (by rfl) (by rfl) s.a s.c (by rfl) ?_)
        go_roundw
        case rel => exact ⟨0 + 1, by omega, by go_num, ⟨none, 0, by rw [HL1.out], fun q => by omega⟩, HO1, HB5⟩
        case measure => simp [intOf]; omega
      · obtain ⟨bk, ok, ea, hbk, _⟩ : ∃ b o, s.a = some ⟨b, o, none⟩ ∧ b < W5.heap.size ∧ True := by
          rcases A5 with q | ⟨b, o, e, hb, _⟩
          · exact absurd q hM
          · exact ⟨b, o, e, hb, trivial⟩
        rw [ea] at x4 A5
        have hnews := hidn (RowsAt.news (k := 4) (enc := ItemV.enc) (fun x => rfl) (by omega) A5)
        have hm0 : 0 < (M t).length := List.length_pos_iff.2 hM
        have hfl := hidn (show ((M t).flatMap ItemV.enc).length = (M t).length * 4 from rows_length (k := 4) (enc := ItemV.enc) (fun x => rfl) (M t))
        go_wp2_with (at_builtin; refine wpList_append_lies _ rfl _ _ 34 rfl w2.heap.size 42 i0 _ 4 40 Tryz.underlying34 hi hz0 hz1 hz2 rfl (by decide) (.slice a8 (fromL M 0 t).length c8) (fromL M 0 t).length ((fromL M 0 t).flatMap ItemV.enc) rfl O5.out ⟨bk, ok, none⟩ (M t).length s.c ((M t).flatMap ItemV.enc) rfl hfl.out hnews.out (by intro u' hu'; obtain ⟨x, _, hx⟩ := List.mem_flatMap.1 hu'; exact rowItem.one x u' hx) hm0 (by unfold maxLen; omega) (by omega) B5.size _ rfl ?_; intro g9 cap9 w9 own9 grow9 loc9 lt9; have B9 : Below w2.heap.size w2 w9 := ⟨grow9.os.trans B5.os, grow9.tape.trans B5.tape, grow9.output.trans B5.output, Nat.le_trans B5.size grow9.size, fun k hk => (grow9.block k (Nat.lt_of_lt_of_le hk B5.size) (fun q => by have := (O5.out.lt k q.symm).1; omega)).trans (B5.block k hk)⟩)
        have HO9 := hidn (show w9.ownsRow w2.heap.size 42 4 (.slice (some ⟨g9, 0, none⟩) ((fromL M 0 t).length + (M t).length) cap9) (fromL M 0 (t + 1)).length ((fromL M 0 (t + 1)).flatMap ItemV.enc) by rw [HSnoc.out, List.flatMap_append, List.length_append]; exact own9)
        have HB9 := hidn B9
        have HL9 := hidn (show (fromL M 0 t).length + (M t).length = (fromL M 0 (t + 1)).length by rw [HSnoc.out, List.length_append])
        clear own9 grow9 loc9 lt9 B9 hnews O5 A5 x0 x1 x2 x3 x4
        go_wp2
        go_roundw
        case rel => exact ⟨t + 1, by omega, by go_num, ⟨some ⟨g9, 0, none⟩, cap9, by rw [HL9.out], fun q => by omega⟩, HO9, HB9⟩
        case measure => simp [intOf]; omega
    · have q1 : ¬ (t : Int) < (S.length : Int) := by omega
      obtain rfl : t = S.length := by omega
      have HX := hidn (show ItsOut w (fromL M 0 N) (.returned (.tuple #[.slice a8 (fromL M 0 S.length).length c8, .int .i64 0])) wr from by
        obtain ⟨a9, c9, e9, i9⟩ := items_of_own HO.out
        simp only [Value.slice.injEq, true_and] at e9
        obtain ⟨rfl, rfl⟩ := e9
        rw [← HSN.out]
        exact ⟨⟨a8, c8, rfl, i9⟩, below_chain B2.out HB.out⟩)
      go_wp2
      go_ret2
      exact HX.out

end

end Go.Proofs.YtpllidadpcahbaaGreat
