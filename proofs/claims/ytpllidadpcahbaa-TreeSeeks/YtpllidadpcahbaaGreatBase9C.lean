/-
  Leaves and inner pages as plain data; page.Apply of the changes of a tree's pages.
  tree.rise, span.holds, span.part.
  span.holds, span.part.
-/
import Derived.Test.YtpllidadpcahbaaGreatNodePutC
import Derived.Test.YtpllidadpcahbaaGreatBase8C
import Derived.Test.YtpllidadpcahbaaGreatBase7C
import Derived.Test.YtpllidadpcahbaaGreatPageApplyC
import Derived.StillTailTactics
import Derived.Test.YtpllidadpcahbaaGreatNodeLawC
import Derived.BigRegion
import Derived.Deep.RegionLaw
import Derived.Deep.QuietTactic
import Derived.BigQuiet
namespace Go.Proofs.YtpllidadpcahbaaGreat
open Go.RowKit Go.Sort
set_option linter.unusedVariables false
set_option linter.unusedSimpArgs false

/-- The page that an OpFormat leaves. -/
def nfmtQ (p : SheetV) (o : OpV) : SheetV := ⟨p.num, 0, o.at', o.S, []⟩

set_option maxHeartbeats 1600000 in
set_option maxRecDepth 20000 in
theorem nchange_fmt {p : SheetV} {o : OpV} (ho : o.Ok) (hk : o.kind = 1) : ChangeDoes p o 0 (nfmtQ p o) := by
  intro B w b bs h
  have hb1 := h.b1
  have hlt := h.lt
  obtain ⟨K, A, S, T⟩ := o
  simp only at hk ⊢
  subst hk
  unfold nfmtQ
  simp only [OpV.val]
  obtain ⟨W, HW⟩ : ∃ W, Hid (W = w.alloc (.cells #[.int .i64 1, .int .i64 A, .string S, .string T] 68)) := ⟨_, rfl⟩
  have bW : Below w.heap.size w W := by rw [HW.out]; exact (Below.refl _ _).alloc (Nat.le_refl _) _
  have h1 := h.below bW
  have r1 : RowV W w.heap.size 4 (four (.int .i64 1) (.int .i64 A) (.string S) (.string T)) := by rw [HW.out]; exact RowV.four_new w _ _ _ _ _
  obtain ⟨x0, x1, x2, x3, x4⟩ := h1.row.cells5
  obtain ⟨g0, g1, g2, g3, g4⟩ := h1.row.open5
  obtain ⟨y0, y1, y2, y3⟩ := r1.cells4
  have bB : Below B w W := bW.mono (by omega)
  have hbo : b ≠ w.heap.size := by omega
  go_enter Tryz.func42, Tryz.ntmps42
  go_wp2_with fail
  rw [← HW.out]
  clear HW
  go_still_tail 11, (by kernel_rfl)
  change wpList _ _ _ _ _ W.drew
  have h2 : SheetAt B W.drew b bs p := h1.below ((Below.refl _ _).drew)
  have B2 : Below B w W.drew := bB.drew
  obtain ⟨V, HV⟩ : ∃ V, Hid (V = W.drew) := ⟨_, rfl⟩
  rw [← HV.out] at h2 B2 ⊢
  clear HV h1 x0 x1 x2 x3 x4 g0 g1 g2 g3 g4 y0 y1 y2 y3 r1 bB bW
  obtain ⟨x0, x1, x2, x3, x4⟩ := h2.row.cells5
  obtain ⟨g0, g1, g2, g3, g4⟩ := h2.row.open5
  go_wp2
  go_ret
  refine ⟨rfl, below_set5 B2 hb1 _ _ _ _ _, fun _ => ⟨none, 0, h2.row.set5 _ _ _ _ _, .inl rfl⟩⟩

/-- page.Apply, where the change can be done. -/
theorem applyN {w : World} {p q : SheetV} {o : OpV} {a : Option Addr} {c : Nat} (lsn : Nat) (h : p.Ok w a) (f : p.Fits) (ho : o.Ok) (hc : chkB o = true) (hd : ChangeDoes p o 0 q) :
    Calls Tryz.prog 20 #[p.val a c, o.val, .int .u64 lsn] w fun e w' => ∃ a' c', e = .returned (.tuple #[({ q with lsn := lsn } : SheetV).val a' c', .int .i64 0]) ∧ Below w.heap.size w w' ∧ StrsFrom w.heap.size w' a' q.slots := by
  refine (apply_of lsn h f ho hc hd).mono ?_
  rintro e w' ⟨X, rfl, b, hX, _⟩
  obtain ⟨a', c', rfl, hq⟩ := hX rfl
  exact ⟨a', c', rfl, b, hq⟩

/-- A leaf, an inner page. -/
def leafV (lsn next : Nat) (M : List ItemV) : SheetV := ⟨3, lsn, 3, num4 next, M.map ItemV.bs⟩
def innerV (lsn level : Nat) (M : List ChildV) : SheetV := ⟨3, lsn, 4, num1 level, M.map ChildV.bs⟩
def blankV : SheetV := ⟨3, 0, 0, ⟨#[]⟩, []⟩

theorem num4_size (n : Nat) : (num4 n).size = 4 := by unfold num4; rw [bytes_size, putL_length]
theorem num1_size (n : Nat) : (num1 n).size = 1 := by unfold num1; rw [bytes_size, putL_length]

theorem leafV_H (lsn next : Nat) (M : List ItemV) : leafH (leafV lsn next M) = true := by
  unfold leafH leafV; simp [num4_size]

theorem innerV_H (lsn level : Nat) (M : List ChildV) : innerH (innerV lsn level M) = true := by
  unfold innerH innerV; simp [num1_size]

theorem leafV_L {M : List ItemV} (h : ∀ x ∈ M, x.e.May) (lsn next : Nat) : leafL (leafV lsn next M) = M := by
  unfold leafL leafV
  simp only [List.map_map]
  conv => rhs; rw [← List.map_id M]
  exact List.map_congr_left fun x hx => (item_back x (h x hx)).2

theorem leafV_B {M : List ItemV} (h : ∀ x ∈ M, x.e.May) (lsn next : Nat) : leafB (leafV lsn next M) = true := by
  unfold leafB
  rw [leafV_H, Bool.true_and, List.all_eq_true]
  intro s hs
  obtain ⟨x, hx, rfl⟩ := List.mem_map.1 hs
  exact (item_back x (h x hx)).1

theorem innerV_L {M : List ChildV} (h : ∀ x ∈ M, x.page < 4294967296 ∧ x.e.May) (lsn level : Nat) : innerL (innerV lsn level M) = M := by
  unfold innerL innerV
  simp only [List.map_map]
  conv => rhs; rw [← List.map_id M]
  exact List.map_congr_left fun x hx => (child_back x (h x hx).1 (h x hx).2).2

theorem innerV_B {M : List ChildV} (h : ∀ x ∈ M, x.page < 4294967296 ∧ x.e.May) (lsn level : Nat) : innerB (innerV lsn level M) = true := by
  unfold innerB
  rw [innerV_H, Bool.true_and, List.all_eq_true]
  intro s hs
  obtain ⟨x, hx, rfl⟩ := List.mem_map.1 hs
  exact (child_back x (h x hx).1 (h x hx).2).1

theorem leafV_next {next : Nat} (h : next < 4294967296) (lsn : Nat) (M : List ItemV) : nextF (leafV lsn next M) = next := by
  unfold nextF
  rw [leafV_H, if_pos rfl]
  show le (part (num4 next) 0 4) = next
  have e : part (num4 next) 0 4 = putL next 4 := npart_at (pre := []) (mid := putL next 4) (post := []) (by unfold num4; simp) rfl (by rw [putL_length])
  rw [e, le_putL]
  omega

theorem innerV_level {level : Nat} (h : level < 256) (lsn : Nat) (M : List ChildV) : levelF (innerV lsn level M) = level := by
  unfold levelF
  rw [innerV_H, if_pos rfl]
  show le (part (num1 level) 0 1) = level
  have e : part (num1 level) 0 1 = putL level 1 := npart_at (pre := []) (mid := putL level 1) (post := []) (by unfold num1; simp) rfl (by rw [putL_length])
  rw [e, le_putL]
  omega

theorem fmt_ok (k : Int) (S : ByteArray) (hk : 0 ≤ k ∧ k ≤ 255) (hS : S.size ≤ 32) : (opFmtN k S).Ok :=
  ⟨by show (-9223372036854775808 : Int) ≤ 1 ∧ (1 : Int) ≤ _; omega, by show (-9223372036854775808 : Int) ≤ k ∧ k ≤ _; omega, by show S.size ≤ _; omega, by show (0 : Nat) ≤ _; omega⟩

theorem fmt_chk (k : Int) (S : ByteArray) (hk : 0 ≤ k ∧ k ≤ 255) (hS : S.size ≤ 32) : chkB (opFmtN k S) = true := by
  refine chk_of ?_ ?_ ?_
  · show S.size ≤ 512; omega
  · show (0 : Nat) ≤ 512; omega
  · show mayP (opFmtN k S)
    unfold mayP
    rw [if_pos (show (opFmtN k S).kind = 1 from rfl)]
    exact ⟨hk, hS, rfl⟩

end Go.Proofs.YtpllidadpcahbaaGreat

namespace Go.Proofs.YtpllidadpcahbaaGreat
open Go.RowKit Go.Sort
set_option linter.unusedVariables false
set_option linter.unusedSimpArgs false

theorem cmpE_lt (a b : EntV) : decide (cmpE a b < 0) = ltE a b := by
  unfold ltE cmpE or3 scmpF kcmpF
  by_cases hk : a.key = b.key
  · have hi : Go.Op.bytesLess b.key.toList b.key.toList = false := by rw [ByteArray.toList_eq]; exact bless_irrefl _
    rw [hk, hi]
    simp only [if_true, Bool.false_eq_true, if_false]
    by_cases hp : a.page = b.page
    · rw [hp]
      simp only [if_true, Int.lt_irrefl, if_false]
      by_cases h1 : a.slot < b.slot
      · rw [if_pos h1]; simp [h1]
      · rw [if_neg h1]
        by_cases h2 : b.slot < a.slot
        · rw [if_pos h2]; simp [h1]
        · rw [if_neg h2]; simp [h1]
    · have hp' : ¬ (a.page : Int) = b.page := by omega
      rw [if_neg hp']
      by_cases h1 : (a.page : Int) < b.page
      · rw [if_pos h1]; simp; omega
      · rw [if_neg h1, if_pos (show (b.page : Int) < a.page by omega)]; simp; omega
  · have hk' : ¬ a.key.toList = b.key.toList := fun h => by
      rw [ByteArray.toList_eq, ByteArray.toList_eq] at h
      exact hk (Go.WideShapes.bytes_inj h)
    rw [if_neg hk', if_neg hk]
    by_cases h1 : Go.Op.bytesLess a.key.toList b.key.toList = true
    · rw [if_pos h1, h1]; simp
    · rw [if_neg h1]
      have : Go.Op.bytesLess a.key.toList b.key.toList = false := by simpa using h1
      rw [this]; simp

theorem cmpE_ge (a b : EntV) : decide (0 ≤ cmpE a b) = !ltE a b := by
  rw [← cmpE_lt]
  by_cases h : cmpE a b < 0
  · simp [h]
  · simp [h]; omega

theorem RowsAt.ent {w : World} {a : Option Addr} {L : List EntV} (h : EntsAt w a L) {i : Nat} (hi : i < L.length) : ∃ b o, a = some ⟨b, o, none⟩ ∧ b < w.heap.size ∧
    w.cell? ⟨b, o + i * 3, none⟩ = some (.string L[i].key) ∧ w.cell? ⟨b, o + i * 3 + 1, none⟩ = some (.int .u32 L[i].page) ∧ w.cell? ⟨b, o + i * 3 + 2, none⟩ = some (.int .i64 L[i].slot) := by
  rcases h with h | ⟨b, o, e, hb, hc⟩
  · subst h; simp at hi
  · exact ⟨b, o, e, hb, hc i hi 0 _ rfl, hc i hi 1 _ rfl, hc i hi 2 _ rfl⟩

/-- Each entry stands behind the one ahead of it. -/
def RisesE (L : List EntV) : Prop := ∀ i (h : i + 1 < L.length), ltE L[i] L[i + 1] = true

set_option maxHeartbeats 3200000 in
set_option maxRecDepth 20000 in
theorem rise_any (a : Option Addr) (c : Nat) (L : List EntV) (w : World) (hL : EntsAt w a L) (hl : L.length ≤ 1000000) :
    Calls Tryz.prog 98 #[.slice a L.length c] w fun r w' => (∃ b : Bool, r = .returned (.bool b) ∧ (b = true ↔ RisesE L)) ∧ Below w.heap.size w w' := by
  go_enter Tryz.func98, Tryz.ntmps98
  go_wp2_with fail
  go_loopw [7] (fun i wr => ∃ k : Nat, k ≤ L.length ∧ i = .int .i64 k ∧ Hid (∀ i (h : i + 1 < L.length), i + 1 < k → ltE L[i] L[i + 1] = true) ∧ Hid (Below w.heap.size w wr)) (fun i _ => L.length - (intOf i).toNat)
  case atStart => exact ⟨0, by omega, rfl, fun i h q => by omega, Below.refl _ _⟩
  case round =>
    obtain ⟨k, hk, rfl, HR, HB⟩ := hrel
    by_cases hlt : k < L.length
    · have hi0 : (0 : Int) ≤ (k : Int) := by omega
      have hi1 : (k : Int) < (L.length : Int) := by omega
      obtain ⟨b, o, rfl, hb, c0, c1, c2⟩ := (hL.below HB.out).ent hlt
      obtain ⟨xk, hxk⟩ : ∃ xk, L[k] = xk := ⟨_, rfl⟩
      rw [hxk] at c0 c1 c2
      obtain ⟨W1, HW1⟩ : ∃ W, Hid (W = wr.alloc (.cells #[.string xk.key, .int .u32 xk.page, .int .i64 xk.slot] 28)) := ⟨_, rfl⟩
      have E1 : EBox W1 wr.heap.size xk := by rw [HW1.out]; exact EBox.new _ _
      have b1 : Below wr.heap.size wr W1 := by rw [HW1.out]; exact (Below.refl _ _).alloc (Nat.le_refl _) _
      have B1 := hidn (below_chain HB.out b1)
      go_upto_region 4 with fail
      rw [← HW1.out]
      clear HW1 c0 c1 c2
      by_cases hk0 : k = 0
      · subst hk0
        have HR1 : Hid (∀ i (h : i + 1 < L.length), i + 1 < 1 → ltE L[i] L[i + 1] = true) := fun i h q => by omega
        go_quiet (fail)
        go_wp2
        go_roundw
        case rel => exact ⟨1, by omega, by go_num, HR1, by show RowKit.Below _ _ _; exact below_drewN B1.out _⟩
        case measure => simp [intOf]; omega
      · obtain ⟨j, rfl⟩ : ∃ j, k = j + 1 := ⟨k - 1, by omega⟩
        have hjl : j < L.length := by omega
        obtain ⟨b', o', e', hb', d0, d1, d2⟩ := (hL.below B1.out).ent hjl
        simp only [Option.some.injEq, Addr.mk.injEq, and_true] at e'
        obtain ⟨rfl, rfl⟩ := e'
        rw [← hxk] at E1
        obtain ⟨u0, u1, u2, ul⟩ := E1
        clear hxk
        have hlt2 := cmpE_ge L[j] L[j + 1]
        have HE := hidn (fun wx => entries_any L[j].key L[j + 1].key L[j].page L[j + 1].page L[j].slot L[j + 1].slot wx)
        have hcm : or3 (scmpF L[j].key L[j + 1].key) (kcmpF L[j].page L[j + 1].page) (kcmpF L[j].slot L[j + 1].slot) = cmpE L[j] L[j + 1] := rfl
        rw [hcm] at HE
        have gd0 := cell_regrown d0
        have gd1 := cell_regrown d1
        have gd2 := cell_regrown d2
        have gu0 := cell_regrown u0
        have gu1 := cell_regrown u1
        have gu2 := cell_regrown u2
        clear d0 d1 d2 u0 u1 u2 hcm
        have hj0 : (0 : Int) ≤ (j : Int) := by omega
        have hj1 : (j : Int) < (L.length : Int) := by omega
        have hj2 : (0 : Int) < ((j + 1 : Nat) : Int) := by omega
        have hj3 : (0 : Int) < (j : Int) + 1 := by omega
        have hsub : IntKind.i64.wrap (((j + 1 : Nat) : Int) - 1) = (j : Int) := by rw [IntKind.wrap_i64]; omega
        have hsub3 : IntKind.i64.wrap (j : Int) = (j : Int) := by rw [IntKind.wrap_i64]; omega
        have hsub2 : IntKind.i64.wrap ((j : Int) + 1 - 1) = (j : Int) := by rw [IntKind.wrap_i64]; omega
        cases hL2 : ltE L[j] L[j + 1] with
        | true =>
          rw [hL2] at hlt2
          have HR1 : Hid (∀ i (h : i + 1 < L.length), i + 1 < j + 1 + 1 → ltE L[i] L[i + 1] = true) := fun i h q => by
            by_cases e : i = j
            · subst e; exact hL2
            · exact HR.out i h (by omega)
          generalize L[j] = x at *
          generalize L[j + 1] = y at *
          generalize cmpE x y = C at *
          have hC : ¬ (0 : Int) ≤ C := by simpa using hlt2
          clear hlt2
          have cE : ∀ dd os, Calls Tryz.prog 32 #[.agg #[.string x.key, .int .u32 x.page, .int .i64 x.slot], .agg #[.string y.key, .int .u32 y.page, .int .i64 y.slot]] (grow (redrawn W1 dd) os) fun r w'' => r = .returned (.int .i64 C) ∧ ∃ p : Regrown, w'' = grow (redrawn W1 p.d) p.os := fun dd os => Calls.regrown_of (HE.out _)
          refine wp_region_quiet_below nmixed (by kernel_rfl) ?_
          iterate 12 (quiet_step (first | (go_at_call 32; exact cE _ _)))
          refine wpQuiet_nil ?_
          intro _ hw'
          obtain ⟨⟨dq, osq⟩, hw''⟩ := hw'
          have bb := hidn (below_chain B1.out (below_regrown W1 dq osq))
          rw [hw'']
          generalize grow (redrawn W1 dq) osq = V9 at *
          go_wp2
          go_roundw
          case rel => exact ⟨j + 1 + 1, by omega, by go_num, HR1, bb⟩
          case measure => simp [intOf]; omega
        | false =>
          rw [hL2] at hlt2
          have HNo : Hid (¬ RisesE L) := fun q => by have := q j hlt; rw [hL2] at this; cases this
          generalize L[j] = x at *
          generalize L[j + 1] = y at *
          generalize cmpE x y = C at *
          have hC : (0 : Int) ≤ C := by simpa using hlt2
          clear hlt2
          have cE : ∀ dd os, Calls Tryz.prog 32 #[.agg #[.string x.key, .int .u32 x.page, .int .i64 x.slot], .agg #[.string y.key, .int .u32 y.page, .int .i64 y.slot]] (grow (redrawn W1 dd) os) fun r w'' => r = .returned (.int .i64 C) ∧ ∃ p : Regrown, w'' = grow (redrawn W1 p.d) p.os := fun dd os => Calls.regrown_of (HE.out _)
          refine wp_region_quiet_below nmixed (by kernel_rfl) ?_
          iterate 12 (quiet_step (first | (go_at_call 32; exact cE _ _)))
          refine wpQuiet_nil ?_
          intro _ hw'
          obtain ⟨⟨dq, osq⟩, hw''⟩ := hw'
          have bb := hidn (below_chain B1.out (below_regrown W1 dq osq))
          rw [hw'']
          generalize grow (redrawn W1 dq) osq = V9 at *
          go_wp2
          go_ret
          exact ⟨⟨false, rfl, by simpa using HNo.out⟩, bb.out⟩
    · obtain rfl : k = L.length := by omega
      have HYes : Hid (RisesE L) := fun i h => HR.out i h h
      go_wp2
      go_ret
      exact ⟨⟨true, rfl, by simpa using HYes.out⟩, HB.out⟩

end Go.Proofs.YtpllidadpcahbaaGreat

namespace Go.Proofs.YtpllidadpcahbaaGreat
open Go.RowKit Go.Sort
set_option linter.unusedVariables false
set_option linter.unusedSimpArgs false

/-- The bounds of a page. -/
structure SpanV where
  fr : EntV
  tt : EntV
  op : Bool

def SpanV.val (s : SpanV) : Value := .agg #[.string s.fr.key, .int .u32 s.fr.page, .int .i64 s.fr.slot, .string s.tt.key, .int .u32 s.tt.page, .int .i64 s.tt.slot, .bool s.op]

/-- Does an entry lie out of them? -/
def outS (s : SpanV) (e : EntV) : Bool := ltE e s.fr || (!s.op && !ltE e s.tt)

structure SBox (w : World) (B : Nat) (s : SpanV) : Prop where
  c0 : w.cell? ⟨B, 0, none⟩ = some (.string s.fr.key)
  c1 : w.cell? ⟨B, 1, none⟩ = some (.int .u32 s.fr.page)
  c2 : w.cell? ⟨B, 2, none⟩ = some (.int .i64 s.fr.slot)
  c3 : w.cell? ⟨B, 3, none⟩ = some (.string s.tt.key)
  c4 : w.cell? ⟨B, 4, none⟩ = some (.int .u32 s.tt.page)
  c5 : w.cell? ⟨B, 5, none⟩ = some (.int .i64 s.tt.slot)
  c6 : w.cell? ⟨B, 6, none⟩ = some (.bool s.op)
  lt : B < w.heap.size

theorem SBox.below {w w' : World} {B C : Nat} {s : SpanV} (h : SBox w B s) (k : Below C w w') (hB : B < C) : SBox w' B s :=
  ⟨(k.cell (p := ⟨B, 0, none⟩) hB).trans h.c0, (k.cell (p := ⟨B, 1, none⟩) hB).trans h.c1, (k.cell (p := ⟨B, 2, none⟩) hB).trans h.c2, (k.cell (p := ⟨B, 3, none⟩) hB).trans h.c3, (k.cell (p := ⟨B, 4, none⟩) hB).trans h.c4, (k.cell (p := ⟨B, 5, none⟩) hB).trans h.c5, (k.cell (p := ⟨B, 6, none⟩) hB).trans h.c6, Nat.lt_of_lt_of_le h.lt k.size⟩

theorem SBox.new (w : World) (s : SpanV) : SBox (w.alloc (.cells #[.string s.fr.key, .int .u32 s.fr.page, .int .i64 s.fr.slot, .string s.tt.key, .int .u32 s.tt.page, .int .i64 s.tt.slot, .bool s.op] 88)) w.heap.size s := ⟨by simp, by simp, by simp, by simp, by simp, by simp, by simp, by simp⟩

set_option maxHeartbeats 3200000 in
theorem holds1_any (e : EntV) (s : SpanV) (B : Nat) (w : World) (h : SBox w B s) :
    Calls Tryz.prog 134 #[e.val, .pointer (some ⟨B, 0, none⟩)] w fun r w' => r = .returned (.bool (outS s e)) ∧ Below w.heap.size w w' := by
  have H1 := hidn (fun wx => entries_any e.key s.fr.key e.page s.fr.page e.slot s.fr.slot wx)
  have H2 := hidn (fun wx => entries_any e.key s.tt.key e.page s.tt.page e.slot s.tt.slot wx)
  have hc1 : or3 (scmpF e.key s.fr.key) (kcmpF e.page s.fr.page) (kcmpF e.slot s.fr.slot) = cmpE e s.fr := rfl
  have hc2 : or3 (scmpF e.key s.tt.key) (kcmpF e.page s.tt.page) (kcmpF e.slot s.tt.slot) = cmpE e s.tt := rfl
  rw [hc1] at H1
  rw [hc2] at H2
  have l1 := cmpE_lt e s.fr
  have l2 := cmpE_ge e s.tt
  clear hc1 hc2
  obtain ⟨W, HW⟩ : ∃ W, Hid (W = w.alloc (.cells #[.string e.key, .int .u32 e.page, .int .i64 e.slot] 28)) := ⟨_, rfl⟩
  have E1 : EBox W w.heap.size e := by rw [HW.out]; exact EBox.new _ _
  have b1 : Below w.heap.size w W := by rw [HW.out]; exact (Below.refl _ _).alloc (Nat.le_refl _) _
  have S1 := h.below b1 h.lt
  obtain ⟨u0, u1, u2, ul⟩ := E1
  obtain ⟨v0, v1, v2, v3, v4, v5, v6, vl⟩ := S1
  unfold outS
  simp only [EntV.val]
  have hBW : B ≠ w.heap.size := by have := h.lt; omega
  rw [HW.out] at u0 u1 u2 v0 v1 v2 v3 v4 v5 v6
  obtain ⟨fr, tt, op⟩ := s
  simp only at *
  cases hf : ltE e fr with
  | true =>
    rw [hf] at l1
    have q1 : cmpE e fr < 0 := by simpa using l1
    generalize cmpE e fr = C1 at *
    clear l1 l2
    go_enter Tryz.func134, Tryz.ntmps134
    go_wp2_with fail
    rw [← HW.out]
    refine (H1.out _).mono ?_
    rintro r w2 ⟨rfl, b2⟩
    have bb := hidn (below_chain b1 b2)
    clear u0 u1 u2 v0 v1 v2 v3 v4 v5 v6
    go_wp2
    go_ret
    exact ⟨by first | (simp [*]; done) | (simp [*]; omega), bb.out⟩
  | false =>
    rw [hf] at l1
    have q1 : ¬ cmpE e fr < 0 := by simpa using l1
    generalize cmpE e fr = C1 at *
    clear l1
    go_enter Tryz.func134, Tryz.ntmps134
    go_wp2_with fail
    rw [← HW.out]
    refine (H1.out _).mono ?_
    rintro r w2 ⟨rfl, b2⟩
    have hWl : w.heap.size < W.heap.size := by rw [HW.out]; simp
    have S2 : SBox w2 B ⟨fr, tt, op⟩ := (h.below b1 h.lt).below b2 (by have := h.lt; omega)
    have E2 : EBox w2 w.heap.size e := (show EBox W w.heap.size e by rw [HW.out]; exact EBox.new _ _).below b2 hWl
    clear u0 u1 u2 v0 v1 v2 v3 v4 v5 v6 HW
    obtain ⟨u0, u1, u2, _⟩ := E2
    obtain ⟨v0, v1, v2, v3, v4, v5, v6, _⟩ := S2
    simp only at v0 v1 v2 v3 v4 v5 v6
    have bb := hidn (below_chain b1 b2)
    cases op with
    | true =>
      go_wp2
      go_ret
      exact ⟨by first | (simp [*]; done) | (simp [*]; omega), bb.out⟩
    | false =>
      cases ht : ltE e tt with
      | true =>
        rw [ht] at l2
        have q2 : ¬ (0 : Int) ≤ cmpE e tt := by simpa using l2
        generalize cmpE e tt = C2 at *
        clear l2
        go_wp2_with fail
        refine (H2.out _).mono ?_
        rintro r w3 ⟨rfl, b3⟩
        have bb3 := hidn (below_chain bb.out b3)
        clear u0 u1 u2 v0 v1 v2 v3 v4 v5 v6
        go_wp2
        go_ret
        exact ⟨by first | (simp [*]; done) | (simp [*]; omega), bb3.out⟩
      | false =>
        rw [ht] at l2
        have q2 : (0 : Int) ≤ cmpE e tt := by simpa using l2
        generalize cmpE e tt = C2 at *
        clear l2
        go_wp2_with fail
        refine (H2.out _).mono ?_
        rintro r w3 ⟨rfl, b3⟩
        have bb3 := hidn (below_chain bb.out b3)
        clear u0 u1 u2 v0 v1 v2 v3 v4 v5 v6
        go_wp2
        go_ret
        exact ⟨by first | (simp [*]; done) | (simp [*]; omega), bb3.out⟩

set_option maxHeartbeats 1600000 in
theorem indexS (a : Option Addr) (c : Nat) (L : List EntV) (s : SpanV) (B : Nat) (w : World) (hm : EntsAt w a L) (hl : L.length ≤ 9223372036854775807) (hB : SBox w B s) :
    Calls Tryz.prog 157 #[.slice a L.length c, .func (.func 134) #[] #[.pointer (some ⟨B, 0, none⟩)]] w fun r w' => r = .returned (.int .i64 (idxF (outS s) L)) ∧ Below w.heap.size w w' := by
  obtain ⟨R, HR⟩ : ∃ R, Hid (idxF (outS s) L = R) := ⟨_, rfl⟩
  rw [HR.out]
  go_enter Tryz.func157, Tryz.ntmps157
  go_wp2_with fail
  go_loopw [8] (fun i wr => ∃ k : Nat, k ≤ L.length ∧ i = .int .i64 k ∧ Hid (Below w.heap.size w wr) ∧ Hid (∀ j (hj : j < L.length), j < k → outS s L[j] = false)) (fun i _ => L.length - (intOf i).toNat)
  case atStart => exact ⟨0, by omega, rfl, Below.refl _ _, fun j hj h => by omega⟩
  case round =>
    obtain ⟨k, hk, rfl, HB, HN⟩ := hrel
    by_cases hlt : k < L.length
    · obtain ⟨bb, o, rfl, hb, c0, c1, c2⟩ := (hm.below HB.out).ent hlt
      have HC := hidn (holds1_any L[k] s B wr (hB.below HB.out hB.lt))
      simp only [EntV.val] at HC
      have HH : Hid (outS s L[k] = true → R = k) := fun h => by rw [← HR.out]; exact idxF_hit hlt h HN.out
      have HF : Hid (outS s L[k] = false → ∀ j (hj : j < L.length), j < k + 1 → outS s L[j] = false) := fun h j hj hjk => by
        by_cases e1 : j = k
        · subst e1; exact h
        · exact HN.out j hj (by omega)
      generalize L[k] = x at *
      have hi0 : (0 : Int) ≤ (k : Int) := by omega
      have hi1 : (k : Int) < (L.length : Int) := by omega
      cases hq : outS s x with
      | true =>
        rw [hq] at HC
        have hR := hidn (HH.out hq)
        go_wp2_with fail
        refine HC.out.mono ?_
        rintro r w1 ⟨rfl, b1⟩
        go_wp2
        go_ret
        exact ⟨nret_int hR.out.symm, below_chain HB.out b1⟩
      | false =>
        rw [hq] at HC
        go_wp2_with fail
        refine HC.out.mono ?_
        rintro r w1 ⟨rfl, b1⟩
        go_wp2
        go_roundw
        case rel => exact ⟨k + 1, by omega, by go_num, below_chain HB.out b1, HF.out hq⟩
        case measure => simp [intOf]; omega
    · obtain rfl : k = L.length := by omega
      have hR := hidn (idxF_miss (p := outS s) fun j hj => HN.out j hj hj)
      go_wp2
      go_ret
      exact ⟨nret_int (by rw [← HR.out]; exact hR.out.symm), HB.out⟩

theorem idxF_any {α : Type} (p : α → Bool) (L : List α) : decide (0 ≤ idxF p L) = L.any p := by
  unfold idxF
  by_cases h : L.findIdx p < L.length
  · rw [if_pos h]
    have : L.any p = true := by
      rw [List.any_eq_true]
      exact ⟨L[L.findIdx p], List.getElem_mem h, List.findIdx_getElem⟩
    rw [this]; simp
  · rw [if_neg h]
    have : L.any p = false := by
      rw [List.any_eq_false]
      intro x hx hp
      exact h (List.findIdx_lt_length_of_exists ⟨x, hx, hp⟩)
    rw [this]; simp

set_option maxHeartbeats 1600000 in
theorem holds_any (a : Option Addr) (c : Nat) (L : List EntV) (s : SpanV) (w : World) (hm : EntsAt w a L) (hl : L.length ≤ 9223372036854775807) :
    Calls Tryz.prog 99 #[s.val, .slice a L.length c] w fun r w' => r = .returned (.bool (!L.any (outS s))) ∧ Below w.heap.size w w' := by
  obtain ⟨W, HW⟩ : ∃ W, Hid (W = w.alloc (.cells #[.string s.fr.key, .int .u32 s.fr.page, .int .i64 s.fr.slot, .string s.tt.key, .int .u32 s.tt.page, .int .i64 s.tt.slot, .bool s.op] 88)) := ⟨_, rfl⟩
  have S1 : SBox W w.heap.size s := by rw [HW.out]; exact SBox.new _ _
  have b1 : Below w.heap.size w W := by rw [HW.out]; exact (Below.refl _ _).alloc (Nat.le_refl _) _
  have HC : Hid (Calls Tryz.prog 133 #[.slice a L.length c, .func (.func 134) #[] #[.pointer (some ⟨w.heap.size, 0, none⟩)]] W fun r w' => r = .returned (.bool (L.any (outS s))) ∧ Below W.heap.size W w') := by
    have HI := hidn (indexS a c L s w.heap.size W (hm.below b1) hl S1)
    have hA := idxF_any (outS s) L
    generalize idxF (outS s) L = I at *
    generalize L.any (outS s) = Q at *
    show Calls _ _ _ _ _
    go_enter Tryz.func133, Tryz.ntmps133
    go_wp2_with fail
    refine HI.out.mono ?_
    rintro r w2 ⟨rfl, b2⟩
    go_wp2
    go_ret
    exact ⟨nret_bool (by first | rfl | exact hA | exact hA.symm), b2⟩
  generalize L.any (outS s) = Q at *
  have hmf : ∀ (fn : Fn) (first cap : Array Value) (w : World), (Instr.makeFunc fn first cap).run Tryz.prog w = .ok (.func fn first cap) w := fun _ _ _ _ => rfl
  unfold SpanV.val
  go_enter Tryz.func99, Tryz.ntmps99
  go_wp2_with fail
  rw [← HW.out]
  refine HC.out.mono ?_
  rintro r w2 ⟨rfl, b2⟩
  have bb := hidn (below_chain b1 b2)
  go_wp2
  go_ret
  exact ⟨by first | rfl | simp, bb.out⟩

end Go.Proofs.YtpllidadpcahbaaGreat
