/-
  tree.fetch of a page that stands in a frame.
-/
import Derived.Test.YtpllidadpcahbaaGreatBase8C
import Derived.Test.YtpllidadpcahbaaGreatBase9C
namespace Go.Proofs.YtpllidadpcahbaaGreat
open Go.RowKit Go.Sort
set_option linter.unusedVariables false
set_option linter.unusedSimpArgs false

/-- A page of a tree, as tree.fetch tells it. -/
def leafS (n next : Nat) (a : Option Addr) (m c : Nat) : Value := .agg #[.int .u32 n, .int .i64 0, .slice none 0 0, .int .u32 next, .slice a m c]
def innerS (n level : Nat) (a : Option Addr) (m c : Nat) : Value := .agg #[.int .u32 n, .int .i64 level, .slice a m c, .int .u32 0, .slice none 0 0]
def noS : Value := .agg #[.int .u32 0, .int .i64 0, .slice none 0 0, .int .u32 0, .slice none 0 0]

theorem RowsFrom.belowF {α : Type} {B k : Nat} {enc : α → List Value} {w w' : World} {a : Option Addr} {L : List α} (h : RowsFrom B k enc w a L) (q : Below w.heap.size w w') : RowsFrom B k enc w' a L := by
  rcases h with h | ⟨b, o, e, h1, hb, hc⟩
  · exact .inl h
  · exact .inr ⟨b, o, e, h1, Nat.lt_of_lt_of_le hb q.size, fun i hi j v hv => (q.cell (p := ⟨b, o + i * k + j, none⟩) hb).trans (hc i hi j v hv)⟩

theorem RowsFrom.stored {α : Type} {B k : Nat} {enc : α → List Value} {w : World} {a : Option Addr} {L : List α} (h : RowsFrom B k enc w a L) {c : Nat} (hc : c < B) {B' : Nat} (hB : B' ≤ B) (v0 v1 v2 v3 v4 : Value) : RowsFrom B' k enc (store5 w c v0 v1 v2 v3 v4) a L := by
  rcases h with h | ⟨b, o, e, h1, hb, hcc⟩
  · exact .inl h
  · refine .inr ⟨b, o, e, by omega, by unfold store5; simpa using hb, fun i hi j v hv => ?_⟩
    have hne : b ≠ c := by omega
    have : (store5 w c v0 v1 v2 v3 v4).heap[b]? = w.heap[b]? := by
      unfold store5
      rw [heap_setCell_other _ _ _ _ (by simpa using hne), heap_setCell_other _ _ _ _ (by simpa using hne), heap_setCell_other _ _ _ _ (by simpa using hne), heap_setCell_other _ _ _ _ (by simpa using hne), heap_setCell_other _ _ _ _ (by simpa using hne)]
    exact (World.cell?_of_block (w := w) (a := ⟨b, o + i * k + j, none⟩) this).trans (hcc i hi j v hv)

section
variable {w : World} {p : Nat} {A : Nat → Prop} {P : PG} {l : LG} {d : DG}

set_option maxHeartbeats 3200000 in
set_option maxRecDepth 60000 in
theorem tfetch_leaf (hS : Sys w p A P l d) (n : Nat) (h1 : 1 ≤ n) (h2 : n ≤ 2048) {f : FrV} (hf : P.F n = some f) (hfit : f.sh.Fits) (hB : leafB f.sh = true) :
    Calls Tryz.prog 53 #[.pointer (some ⟨p, 0, none⟩), .int .u32 n] w fun e w' => ∃ a' c', e = .returned (.tuple #[leafS n (nextF f.sh) a' f.sh.slots.length c', .int .i64 0]) ∧ RowsFrom w.heap.size 4 ItemV.enc w' a' (leafL f.sh) ∧ Below w.heap.size w w' := by
  have hlen := hfit.len
  have HG : Hid (∀ wx, Below w.heap.size w wx → Calls Tryz.prog 94 #[.pointer (some ⟨p, 0, none⟩), .int .u32 n] wx (ShOut wx f.sh fun v => .returned (.tuple #[v, .int .i64 0]))) := fun wx hb => get_here (hS.below hb) n h1 h2 hf
  have HL : Hid (∀ wx (a : Option Addr) (c : Nat), StrsAt wx a f.sh.slots → Calls Tryz.prog 81 #[f.sh.val a c] wx fun r w' => ∃ a' c', r = .returned (.tuple #[.slice a' f.sh.slots.length c', .int .i64 0]) ∧ RowsFrom wx.heap.size 4 ItemV.enc w' a' (leafL f.sh) ∧ Below wx.heap.size wx w') := fun wx a c hs => by
    refine (leaf_any f.sh a c wx (SheetV.Fits.ok hfit hs) (by omega)).mono ?_
    rintro r w' ⟨b, h, _⟩
    obtain ⟨a', c', e, hr⟩ := h hB
    exact ⟨a', c', e, hr, b⟩
  have HN : Hid (∀ wx (a : Option Addr) (c : Nat), Calls Tryz.prog 95 #[f.sh.val a c] wx fun e w' => e = .returned (.int .u32 (nextF f.sh)) ∧ Below wx.heap.size wx w') := fun wx a c => next_any f.sh a c wx
  clear hB
  obtain ⟨⟨num, lsn, kind, hd, S⟩, since⟩ := f
  simp only at HG HL HN hlen ⊢
  generalize nextF (SheetV.mk num lsn kind hd S) = nx at *
  generalize leafL (SheetV.mk num lsn kind hd S) = M at *
  simp only [SheetV.val] at HL HN
  unfold leafS
  obtain ⟨W1, HW1⟩ : ∃ W, Hid (W = w.alloc (.cells #[.int .u32 0, .int .i64 0, .slice none 0 0, .int .u32 0, .slice none 0 0] 82)) := ⟨_, rfl⟩
  have r1 : RowV W1 w.heap.size 5 (five (.int .u32 0) (.int .i64 0) (.slice none 0 0) (.int .u32 0) (.slice none 0 0)) := by rw [HW1.out]; exact RowV.five_new _ _ _ _ _ _ _
  have b1 : Below w.heap.size w W1 := by rw [HW1.out]; exact (Below.refl _ _).alloc (Nat.le_refl _) _
  have z1 : w.heap.size < W1.heap.size := by rw [HW1.out]; simp
  go_enter Tryz.func53, Tryz.ntmps53
  go_wp2_with fail
  rw [← HW1.out]
  clear HW1
  refine (HG.out W1 b1).mono ?_
  rintro e w2 ⟨⟨a2, c2, rfl, s2, b2⟩⟩
  simp only [SheetV.val] at s2 ⊢
  obtain ⟨W3, HW3⟩ : ∃ W, Hid (W = w2.alloc (.cells #[.int .u32 num, .int .u64 lsn, .int .i64 kind, .string hd, .slice a2 S.length c2] 63)) := ⟨_, rfl⟩
  have k3 : Below w2.heap.size w2 W3 := by rw [HW3.out]; exact (Below.refl _ _).alloc (Nat.le_refl _) _
  have q3 : RowV W3 w2.heap.size 5 (five (.int .u32 num) (.int .u64 lsn) (.int .i64 kind) (.string hd) (.slice a2 S.length c2)) := by rw [HW3.out]; exact RowV.five_new _ _ _ _ _ _ _
  have z3 : w2.heap.size < W3.heap.size := by rw [HW3.out]; simp
  have s3 := s2.at.below k3
  have B3 := below_chain b2 k3
  have r3 := r1.below B3 z1
  have b3 := below_chain b1 B3
  have hz := b2.size
  clear r1 s2 k3 HG
  go_wp2_with fail
  rw [← HW3.out]
  clear HW3
  refine (HL.out W3 a2 c2 s3).mono ?_
  rintro e w4 ⟨a4, c4, rfl, hA, b4⟩
  have r4 := r3.below b4 (by omega)
  have q4 := q3.below b4 z3
  have b5 := below_chain b3 b4
  have z4 := b4.size
  clear r3 q3 b3 B3 s3 b4
  obtain ⟨x0, x1, x2, x3, x4⟩ := q4.cells5
  go_wp2_with fail
  refine (HN.out w4 a2 c2).mono ?_
  rintro e w5 ⟨rfl, b6⟩
  have r5 := r4.below b6 (by omega)
  have hA5 := hA.belowF b6
  have b7 := below_chain b5 b6
  clear r4 q4 b5 x0 x1 x2 x3 x4 hA HL HN
  obtain ⟨x0, x1, x2, x3, x4⟩ := r5.cells5
  obtain ⟨g0, g1, g2, g3, g4⟩ := r5.open5
  obtain ⟨y0, y1, y2, y3, y4⟩ := (r5.set5 (.int .u32 n) (.int .i64 0) (.slice none 0 0) (.int .u32 nx) (.slice a4 S.length c4)).cells5
  have bend : Below w.heap.size w (store5 w5 w.heap.size (.int .u32 n) (.int .i64 0) (.slice none 0 0) (.int .u32 nx) (.slice a4 S.length c4)) := below_set5 b7 (Nat.le_refl _) _ _ _ _ _
  have hA6 : RowsFrom w.heap.size 4 ItemV.enc (store5 w5 w.heap.size (.int .u32 n) (.int .i64 0) (.slice none 0 0) (.int .u32 nx) (.slice a4 S.length c4)) a4 M := hA5.stored (by omega) (by omega) _ _ _ _ _
  unfold store5 at y0 y1 y2 y3 y4 bend hA6
  go_wp2
  refine bodyPost_ret (v := .tuple #[.agg #[.int .u32 n, .int .i64 0, .slice none 0 0, .int .u32 nx, .slice a4 S.length c4], .int .i64 0]) (by simp [results, Tryz.results53, go_sem, y0, y1, y2, y3, y4]) rfl ⟨a4, c4, rfl, hA6, bend⟩

set_option maxHeartbeats 3200000 in
set_option maxRecDepth 60000 in
theorem tfetch_inner (hS : Sys w p A P l d) (n : Nat) (h1 : 1 ≤ n) (h2 : n ≤ 2048) {f : FrV} (hf : P.F n = some f) (hfit : f.sh.Fits) (hN : leafB f.sh = false) (hB : innerB f.sh = true) (h0 : f.sh.slots ≠ []) :
    Calls Tryz.prog 53 #[.pointer (some ⟨p, 0, none⟩), .int .u32 n] w fun e w' => ∃ a' c', e = .returned (.tuple #[innerS n (levelF f.sh) a' f.sh.slots.length c', .int .i64 0]) ∧ RowsFrom w.heap.size 4 ChildV.enc w' a' (innerL f.sh) ∧ Below w.heap.size w w' := by
  have hlen := hfit.len
  have HG : Hid (∀ wx, Below w.heap.size w wx → Calls Tryz.prog 94 #[.pointer (some ⟨p, 0, none⟩), .int .u32 n] wx (ShOut wx f.sh fun v => .returned (.tuple #[v, .int .i64 0]))) := fun wx hb => get_here (hS.below hb) n h1 h2 hf
  have HF : Hid (∀ wx (a : Option Addr) (c : Nat), StrsAt wx a f.sh.slots → Calls Tryz.prog 81 #[f.sh.val a c] wx fun r w' => r = .returned (.tuple #[.slice none 0 0, .int .i64 120]) ∧ Below wx.heap.size wx w') := fun wx a c hs => leaf_no (SheetV.Fits.ok hfit hs) (by omega) hN
  have HL : Hid (∀ wx (a : Option Addr) (c : Nat), StrsAt wx a f.sh.slots → Calls Tryz.prog 96 #[f.sh.val a c] wx fun r w' => ∃ a' c', r = .returned (.tuple #[.slice a' f.sh.slots.length c', .int .i64 0]) ∧ RowsFrom wx.heap.size 4 ChildV.enc w' a' (innerL f.sh) ∧ Below wx.heap.size wx w') := fun wx a c hs => by
    refine (inner_any f.sh a c wx (SheetV.Fits.ok hfit hs) (by omega)).mono ?_
    rintro r w' ⟨b, h, _⟩
    obtain ⟨a', c', e, hr⟩ := h hB
    exact ⟨a', c', e, hr, b⟩
  have HN : Hid (∀ wx (a : Option Addr) (c : Nat), Calls Tryz.prog 97 #[f.sh.val a c] wx fun e w' => e = .returned (.int .i64 (levelF f.sh)) ∧ Below wx.heap.size wx w') := fun wx a c => level_any f.sh a c wx
  clear hB hN
  have hS0 : f.sh.slots.length ≠ 0 := fun q => h0 (List.eq_nil_of_length_eq_zero q)
  clear h0
  obtain ⟨⟨num, lsn, kind, hd, S⟩, since⟩ := f
  simp only at HG HL HF HN hlen hS0 ⊢
  generalize levelF (SheetV.mk num lsn kind hd S) = nx at *
  generalize innerL (SheetV.mk num lsn kind hd S) = M at *
  simp only [SheetV.val] at HL HN HF
  unfold innerS
  obtain ⟨W1, HW1⟩ : ∃ W, Hid (W = w.alloc (.cells #[.int .u32 0, .int .i64 0, .slice none 0 0, .int .u32 0, .slice none 0 0] 82)) := ⟨_, rfl⟩
  have r1 : RowV W1 w.heap.size 5 (five (.int .u32 0) (.int .i64 0) (.slice none 0 0) (.int .u32 0) (.slice none 0 0)) := by rw [HW1.out]; exact RowV.five_new _ _ _ _ _ _ _
  have b1 : Below w.heap.size w W1 := by rw [HW1.out]; exact (Below.refl _ _).alloc (Nat.le_refl _) _
  have z1 : w.heap.size < W1.heap.size := by rw [HW1.out]; simp
  go_enter Tryz.func53, Tryz.ntmps53
  go_wp2_with fail
  rw [← HW1.out]
  clear HW1
  refine (HG.out W1 b1).mono ?_
  rintro e w2 ⟨⟨a2, c2, rfl, s2, b2⟩⟩
  simp only [SheetV.val] at s2 ⊢
  obtain ⟨W3, HW3⟩ : ∃ W, Hid (W = w2.alloc (.cells #[.int .u32 num, .int .u64 lsn, .int .i64 kind, .string hd, .slice a2 S.length c2] 63)) := ⟨_, rfl⟩
  have k3 : Below w2.heap.size w2 W3 := by rw [HW3.out]; exact (Below.refl _ _).alloc (Nat.le_refl _) _
  have q3 : RowV W3 w2.heap.size 5 (five (.int .u32 num) (.int .u64 lsn) (.int .i64 kind) (.string hd) (.slice a2 S.length c2)) := by rw [HW3.out]; exact RowV.five_new _ _ _ _ _ _ _
  have z3 : w2.heap.size < W3.heap.size := by rw [HW3.out]; simp
  have s3 := s2.at.below k3
  have B3 := below_chain b2 k3
  have r3 := r1.below B3 z1
  have b3 := below_chain b1 B3
  have hz := b2.size
  clear r1 s2 k3 HG
  go_wp2_with fail
  rw [← HW3.out]
  clear HW3
  refine (HF.out W3 a2 c2 s3).mono ?_
  rintro e w4 ⟨rfl, b4⟩
  have r4 := r3.below b4 (by omega)
  have q4 := q3.below b4 z3
  have b5 := below_chain b3 b4
  have z4 := b4.size
  have s4 := s3.below b4
  clear r3 q3 b3 B3 s3 b4 HF
  obtain ⟨x0, x1, x2, x3, x4⟩ := q4.cells5
  go_wp2_with fail
  refine (HL.out w4 a2 c2 s4).mono ?_
  rintro e w44 ⟨a4, c4, rfl, hA, b44⟩
  have r44 := r4.below b44 (by omega)
  have q44 := q4.below b44 (by omega)
  have b55 := below_chain b5 b44
  have z44 := b44.size
  have hSi : ¬ ((S.length : Int) = 0) := by omega
  clear r4 q4 b5 x0 x1 x2 x3 x4 b44
  obtain ⟨x0, x1, x2, x3, x4⟩ := q44.cells5
  go_wp2_with fail
  refine (HN.out w44 a2 c2).mono ?_
  rintro e w5 ⟨rfl, b6⟩
  have r5 := r44.below b6 (by omega)
  have hA5 := hA.belowF b6
  have b7 := below_chain b55 b6
  clear r44 q44 b55 x0 x1 x2 x3 x4 hA HL HN
  obtain ⟨x0, x1, x2, x3, x4⟩ := r5.cells5
  obtain ⟨g0, g1, g2, g3, g4⟩ := r5.open5
  obtain ⟨y0, y1, y2, y3, y4⟩ := (r5.set5 (.int .u32 n) (.int .i64 nx) (.slice a4 S.length c4) (.int .u32 0) (.slice none 0 0)).cells5
  have bend : Below w.heap.size w (store5 w5 w.heap.size (.int .u32 n) (.int .i64 nx) (.slice a4 S.length c4) (.int .u32 0) (.slice none 0 0)) := below_set5 b7 (Nat.le_refl _) _ _ _ _ _
  have hA6 : RowsFrom w.heap.size 4 ChildV.enc (store5 w5 w.heap.size (.int .u32 n) (.int .i64 nx) (.slice a4 S.length c4) (.int .u32 0) (.slice none 0 0)) a4 M := hA5.stored (by omega) (by omega) _ _ _ _ _
  unfold store5 at y0 y1 y2 y3 y4 bend hA6
  go_wp2
  refine bodyPost_ret (v := .tuple #[.agg #[.int .u32 n, .int .i64 nx, .slice a4 S.length c4, .int .u32 0, .slice none 0 0], .int .i64 0]) (by simp [results, Tryz.results53, go_sem, y0, y1, y2, y3, y4]) rfl ⟨a4, c4, rfl, hA6, bend⟩


end

end Go.Proofs.YtpllidadpcahbaaGreat
