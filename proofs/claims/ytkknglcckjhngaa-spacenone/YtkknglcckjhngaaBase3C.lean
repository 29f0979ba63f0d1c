/-
  The walks of page.copyOf and page.copyOfOp.
  The walk of page.copyOfOp.
  The laying of a contract of the library's shelf at this program's numbers (plain text by the library's own command).
  slices.Insert of one text into a full row of texts: the row that comes back.
  The walk of page.insert.
  page.Apply, over what page.change does.
  page.change of an OpInsert; page.Apply and page.Fits of one.
-/
import Derived.Test.YtkknglcckjhngaaBase2C
import Derived.Deep.RegionWith
import Derived.Test.YtkknglcckjhngaaProg
import Derived.Shelf.Spec.SlicesInsert
import Derived.Shelf.Spec.SlicesInsertGrow
namespace Go.Proofs.Ytkknglcckjhngaa
open Go.RowKit Go.Sort
set_option linter.unusedVariables false

set_option maxHeartbeats 1600000 in
theorem copyOf_any (p : SheetV) (a : Option Addr) (c : Nat) (w : World) (h : p.Ok w a) :
    Calls Try.prog 25 #[p.val a c] w fun e w' => ∃ b, e = .returned (p.val (some ⟨b, 0, none⟩) p.slots.length) ∧ w.heap.size < b ∧ b < w'.heap.size ∧ RowV w' b p.slots.length (fun j => .string (p.slots.getD j ByteArray.empty)) ∧ Below w.heap.size w w' := by
  have hm := h.mem
  have hl := h.len
  have hh := h.head
  have hs := h.slots
  clear h
  obtain ⟨num, lsn, kind, head, L⟩ := p
  simp only [SheetV.val] at *
  have hmk := run_make_row' (P := Try.prog) 27 9 (.string ⟨#[]⟩) 16 Try.underlying27 infoStr rfl .i64 .i64 L.length (by omega) (by omega)
  go_enter Try.func25, Try.ntmps25
  go_wp2_with fail
  obtain ⟨W, HW⟩ : ∃ W, Hid (W = ((w.alloc (.cells #[.int .u32 num, .int .u64 lsn, .int .i64 kind, .string head, .slice a L.length c] 29)).alloc (.cells #[.int .u32 0, .int .u64 0, .int .i64 0, .string ⟨#[]⟩, .slice none 0 0] 29)).alloc (.cells (madeCells #[.string ⟨#[]⟩] L.length) 9)) := ⟨_, rfl⟩
  have r0 : RowV W w.heap.size 5 (five (.int .u32 num) (.int .u64 lsn) (.int .i64 kind) (.string head) (.slice a L.length c)) := by
    rw [HW.out]
    exact ((RowV.five_new w _ _ _ _ _ _).below ((Below.refl _ _).alloc (Nat.le_refl _) _) (by simp)).below ((Below.refl _ _).alloc (Nat.le_refl _) _) (by simp; omega)
  have r1 : RowV W (w.heap.size + 1) 5 (five (.int .u32 0) (.int .u64 0) (.int .i64 0) (.string ⟨#[]⟩) (.slice none 0 0)) := by
    rw [HW.out]
    have := (RowV.five_new (w.alloc (.cells #[.int .u32 num, .int .u64 lsn, .int .i64 kind, .string head, .slice a L.length c] 29)) (.int .u32 0) (.int .u64 0) (.int .i64 0) (.string ⟨#[]⟩) (.slice none 0 0) 29).below (((Below.refl _ _).alloc (Nat.le_refl _) (.cells (madeCells #[.string ⟨#[]⟩] L.length) 9))) (by simp)
    simpa using this
  have r2 : RowV W (w.heap.size + 2) L.length (fun _ => .string ⟨#[]⟩) := by
    rw [HW.out]
    have := RowV.made ((w.alloc (.cells #[.int .u32 num, .int .u64 lsn, .int .i64 kind, .string head, .slice a L.length c] 29)).alloc (.cells #[.int .u32 0, .int .u64 0, .int .i64 0, .string ⟨#[]⟩, .slice none 0 0] 29)) L.length (.string ⟨#[]⟩) rfl 9
    simpa using this
  have bel : Below w.heap.size w W := by rw [HW.out]; exact (((Below.refl _ _).alloc (Nat.le_refl _) _).alloc (by simp) _).alloc (by simp; omega) _
  have hz : w.heap.size + 3 ≤ W.heap.size := by rw [HW.out]; simp
  rw [← HW.out]
  clear HW
  go_loopw [13] (fun i wr => ∃ k : Nat, k ≤ L.length ∧ i = .int .i64 k ∧ RowV wr (w.heap.size + 2) L.length (fun j => if j < k then .string (L.getD j ByteArray.empty) else .string ⟨#[]⟩) ∧ RowV wr w.heap.size 5 (five (.int .u32 num) (.int .u64 lsn) (.int .i64 kind) (.string head) (.slice a L.length c)) ∧ RowV wr (w.heap.size + 1) 5 (five (.int .u32 0) (.int .u64 0) (.int .i64 0) (.string ⟨#[]⟩) (.slice none 0 0)) ∧ Below w.heap.size w wr ∧ w.heap.size + 3 ≤ wr.heap.size) (fun i _ => L.length - (intOf i).toNat)
  case atStart => exact ⟨0, by omega, rfl, r2.congr (fun j _ => by simp), r0, r1, bel, hz⟩
  case round =>
    clear r0 r1 r2 bel hz
    obtain ⟨k, hk, rfl, hrow, hb0, hb1, hbel, hz⟩ := hrel
    by_cases hlt : k < L.length
    · obtain ⟨bs, o, rfl, hck⟩ := hm.reach hbel hlt
      have hsz := hs L[k] (List.getElem_mem _)
      have hgd : Hid (L.getD k ByteArray.empty = L[k]) := by show _ = _; rw [List.getD_eq_getElem?_getD, List.getElem?_eq_getElem hlt]; rfl
      obtain ⟨s, hse⟩ : ∃ s, L[k] = s := ⟨_, rfl⟩
      rw [hse] at hck hsz hgd
      clear hse
      obtain ⟨x0, x1, x2, x3, x4⟩ := hb0.cells5
      go_wp2_with fail
      refine (clone_any s _ (by omega)).mono ?_
      rintro e w2 ⟨rfl, b2⟩
      have hrow2 := hrow.below b2 (by omega)
      have q1 := (hrow2 k hlt).1
      have q2 := (hrow2 k hlt).2
      go_wp2
      go_roundw
      case rel =>
        refine ⟨k + 1, by omega, by go_num, (hrow2.set hlt _).congr (fun j hj => ?_), (hb0.below b2 (by omega)).set_other (by omega) _, (hb1.below b2 (by omega)).set_other (by omega) _, (below_chain hbel b2).setCell (p := ⟨w.heap.size + 2, k, none⟩) (by show w.heap.size ≤ w.heap.size + 2; omega) _, by have := b2.size; simp; omega⟩
        by_cases e : j = k
        · subst e; rw [if_pos rfl, if_pos (by omega), hgd.out]
        · rw [if_neg e]; by_cases h : j < k
          · rw [if_pos h, if_pos (by omega)]
          · rw [if_neg h, if_neg (by omega)]
      case measure => simp [intOf]; omega
    · obtain rfl : k = L.length := by omega
      have hrow' : RowV wr (w.heap.size + 2) L.length (fun j => .string (L.getD j ByteArray.empty)) := hrow.congr (fun j hj => by rw [if_pos hj])
      clear hrow
      obtain ⟨x0, x1, x2, x3, x4⟩ := hb0.cells5
      go_wp2_with fail
      refine (clone_any head _ (by omega)).mono ?_
      rintro e w2 ⟨rfl, b2⟩
      have s0 := hb0.below b2 (by omega)
      have s1 := hb1.below b2 (by omega)
      have s2 := hrow'.below b2 (by omega)
      have sb := below_chain hbel b2
      have sz := Nat.le_trans hz b2.size
      clear hb0 hb1 hrow' hbel hz x0 x1 x2 x3 x4 b2
      obtain ⟨x0, x1, x2, x3, x4⟩ := s0.cells5
      obtain ⟨f0, f1, f2, f3, f4⟩ := s0.open5
      obtain ⟨y0, y1, y2, y3, y4⟩ := s1.cells5
      obtain ⟨g0, g1, g2, g3, g4⟩ := s1.open5
      go_wp2
      have hq := ((s1.set_other (b' := w.heap.size) (k := 3) (by omega) (.string head)).set_other (b' := w.heap.size) (k := 4) (by omega) (.slice (some ⟨w.heap.size + 2, 0, none⟩) L.length L.length)).set5 (.int .u32 num) (.int .u64 lsn) (.int .i64 kind) (.string head) (.slice (some ⟨w.heap.size + 2, 0, none⟩) L.length L.length)
      have hr := (((s2.set_other (b' := w.heap.size) (k := 3) (by omega) (.string head)).set_other (b' := w.heap.size) (k := 4) (by omega) (.slice (some ⟨w.heap.size + 2, 0, none⟩) L.length L.length))).set5_other (b := w.heap.size + 1) (by omega) (.int .u32 num) (.int .u64 lsn) (.int .i64 kind) (.string head) (.slice (some ⟨w.heap.size + 2, 0, none⟩) L.length L.length)
      have bq := below_set5 ((sb.setCell (p := ⟨w.heap.size, 3, none⟩) (Nat.le_refl _) (.string head)).setCell (p := ⟨w.heap.size, 4, none⟩) (Nat.le_refl _) (.slice (some ⟨w.heap.size + 2, 0, none⟩) L.length L.length)) (b := w.heap.size + 1) (by omega) (.int .u32 num) (.int .u64 lsn) (.int .i64 kind) (.string head) (.slice (some ⟨w.heap.size + 2, 0, none⟩) L.length L.length)
      obtain ⟨WX, HWX⟩ : ∃ WX, Hid (WX = store5 ((w2.setCell ⟨w.heap.size, 3, none⟩ (.string head)).setCell ⟨w.heap.size, 4, none⟩ (.slice (some ⟨w.heap.size + 2, 0, none⟩) L.length L.length)) (w.heap.size + 1) (.int .u32 num) (.int .u64 lsn) (.int .i64 kind) (.string head) (.slice (some ⟨w.heap.size + 2, 0, none⟩) L.length L.length)) := ⟨_, rfl⟩
      have hzX : w.heap.size + 3 ≤ WX.heap.size := by rw [HWX.out, store5_size]; simpa using sz
      rw [← HWX.out] at hq hr bq
      obtain ⟨r0, r1, r2, r3, r4⟩ := hq.cells5
      rw [show (((((((w2.setCell ⟨w.heap.size, 3, none⟩ (.string head)).setCell ⟨w.heap.size, 4, none⟩ (.slice (some ⟨w.heap.size + 2, 0, none⟩) L.length L.length)).setCell ⟨w.heap.size + 1, 0, none⟩ (.int .u32 num)).setCell ⟨w.heap.size + 1, 1, none⟩ (.int .u64 lsn)).setCell ⟨w.heap.size + 1, 2, none⟩ (.int .i64 kind)).setCell ⟨w.heap.size + 1, 3, none⟩ (.string head)).setCell ⟨w.heap.size + 1, 4, none⟩ (.slice (some ⟨w.heap.size + 2, 0, none⟩) L.length L.length)) = WX from HWX.out.symm]
      refine bodyPost_ret (v := .agg #[.int .u32 num, .int .u64 lsn, .int .i64 kind, .string head, .slice (some ⟨w.heap.size + 2, 0, none⟩) L.length L.length]) (by simp [results, Try.results25, go_sem, r0, r1, r2, r3, r4]) rfl ?_
      exact ⟨w.heap.size + 2, rfl, by omega, by omega, hr, bq⟩

end Go.Proofs.Ytkknglcckjhngaa

namespace Go.Proofs.Ytkknglcckjhngaa
open Go.RowKit Go.Sort
set_option linter.unusedVariables false

/-- Four values, by their places. -/
def four (v0 v1 v2 v3 : Value) : Nat → Value
  | 0 => v0
  | 1 => v1
  | 2 => v2
  | _ => v3

theorem RowV.four_new (w : World) (v0 v1 v2 v3 : Value) (T : TypeId) : RowV (w.alloc (.cells #[v0, v1, v2, v3] T)) w.heap.size 4 (four v0 v1 v2 v3) := by
  intro j hj
  match j, hj with
  | 0, _ => exact ⟨by simp [four], by simp⟩
  | 1, _ => exact ⟨by simp [four], by simp⟩
  | 2, _ => exact ⟨by simp [four], by simp⟩
  | 3, _ => exact ⟨by simp [four], by simp⟩

theorem RowV.cells4 {w : World} {b : Nat} {v0 v1 v2 v3 : Value} (h : RowV w b 4 (four v0 v1 v2 v3)) :
    w.cell? ⟨b, 0, none⟩ = some v0 ∧ w.cell? ⟨b, 1, none⟩ = some v1 ∧ w.cell? ⟨b, 2, none⟩ = some v2 ∧ w.cell? ⟨b, 3, none⟩ = some v3 :=
  ⟨(h 0 (by omega)).1, (h 1 (by omega)).1, (h 2 (by omega)).1, (h 3 (by omega)).1⟩
theorem RowV.open4 {w : World} {b : Nat} {v0 v1 v2 v3 : Value} (h : RowV w b 4 (four v0 v1 v2 v3)) :
    w.frozen? ⟨b, 0, none⟩ = false ∧ w.frozen? ⟨b, 1, none⟩ = false ∧ w.frozen? ⟨b, 2, none⟩ = false ∧ w.frozen? ⟨b, 3, none⟩ = false :=
  ⟨(h 0 (by omega)).2, (h 1 (by omega)).2, (h 2 (by omega)).2, (h 3 (by omega)).2⟩
theorem RowV.set2_4 {w : World} {b : Nat} {v0 v1 v2 v3 : Value} (h : RowV w b 4 (four v0 v1 v2 v3)) (v : Value) : RowV (w.setCell ⟨b, 2, none⟩ v) b 4 (four v0 v1 v v3) :=
  (h.set (k := 2) (by omega) v).congr fun j hj => by match j, hj with | 0, _ => rfl | 1, _ => rfl | 2, _ => rfl | 3, _ => rfl
theorem RowV.set3_4 {w : World} {b : Nat} {v0 v1 v2 v3 : Value} (h : RowV w b 4 (four v0 v1 v2 v3)) (v : Value) : RowV (w.setCell ⟨b, 3, none⟩ v) b 4 (four v0 v1 v2 v) :=
  (h.set (k := 3) (by omega) v).congr fun j hj => by match j, hj with | 0, _ => rfl | 1, _ => rfl | 2, _ => rfl | 3, _ => rfl
theorem RowV.set0_4 {w : World} {b : Nat} {v0 v1 v2 v3 : Value} (h : RowV w b 4 (four v0 v1 v2 v3)) (v : Value) : RowV (w.setCell ⟨b, 0, none⟩ v) b 4 (four v v1 v2 v3) :=
  (h.set (k := 0) (by omega) v).congr fun j hj => by match j, hj with | 0, _ => rfl | 1, _ => rfl | 2, _ => rfl | 3, _ => rfl
theorem RowV.set1_4 {w : World} {b : Nat} {v0 v1 v2 v3 : Value} (h : RowV w b 4 (four v0 v1 v2 v3)) (v : Value) : RowV (w.setCell ⟨b, 1, none⟩ v) b 4 (four v0 v v2 v3) :=
  (h.set (k := 1) (by omega) v).congr fun j hj => by match j, hj with | 0, _ => rfl | 1, _ => rfl | 2, _ => rfl | 3, _ => rfl

/-- Where copyOfOp stands: its own copy, its result. -/
structure CopyAt (w wx : World) (K A : Int) (S T : ByteArray) : Prop where
  own : RowV wx w.heap.size 4 (four (.int .i64 K) (.int .i64 A) (.string S) (.string T))
  res : RowV wx (w.heap.size + 1) 4 (four (.int .i64 0) (.int .i64 0) (.string ⟨#[]⟩) (.string ⟨#[]⟩))
  bel : Below w.heap.size w wx
  lt : w.heap.size + 2 ≤ wx.heap.size

theorem CopyAt.below {w wx wy : World} {K A : Int} {S T : ByteArray} (h : CopyAt w wx K A S T) (k : Below wx.heap.size wx wy) : CopyAt w wy K A S T :=
  ⟨h.own.below k (by have := h.lt; omega), h.res.below k (by have := h.lt; omega), below_chain h.bel k, Nat.le_trans h.lt k.size⟩

theorem CopyAt.set2 {w wx : World} {K A : Int} {S T : ByteArray} (h : CopyAt w wx K A S T) : CopyAt w (wx.setCell ⟨w.heap.size, 2, none⟩ (.string S)) K A S T :=
  ⟨h.own.set2_4 _, h.res.set_other (by omega) _, h.bel.setCell (p := ⟨w.heap.size, 2, none⟩) (Nat.le_refl _) _, by simpa using h.lt⟩
theorem CopyAt.set3 {w wx : World} {K A : Int} {S T : ByteArray} (h : CopyAt w wx K A S T) : CopyAt w (wx.setCell ⟨w.heap.size, 3, none⟩ (.string T)) K A S T :=
  ⟨h.own.set3_4 _, h.res.set_other (by omega) _, h.bel.setCell (p := ⟨w.heap.size, 3, none⟩) (Nat.le_refl _) _, by simpa using h.lt⟩

set_option maxHeartbeats 1600000 in
theorem copyOfOp_any (o : OpV) (w : World) (h : o.Ok) :
    Calls Try.prog 27 #[o.val] w fun e w' => e = .returned o.val ∧ Below w.heap.size w w' := by
  have hS := h.S
  have hT := h.old
  clear h
  obtain ⟨K, A, S, T⟩ := o
  simp only [OpV.val] at *
  have HC : Hid (∀ wx s, s.size ≤ 140737488351232 → CopyAt w wx K A S T → Calls Try.prog 31 #[.string s] wx fun e w' => e = .returned (.string s) ∧ CopyAt w w' K A S T) :=
    fun wx s hs hp => (clone_any s wx (by omega)).mono fun e w' h => ⟨h.1, hp.below h.2⟩
  go_enter Try.func27, Try.ntmps27
  go_wp2_with fail
  obtain ⟨W, HW⟩ : ∃ W, Hid (W = (w.alloc (.cells #[.int .i64 K, .int .i64 A, .string S, .string T] 41)).alloc (.cells #[.int .i64 0, .int .i64 0, .string ⟨#[]⟩, .string ⟨#[]⟩] 41)) := ⟨_, rfl⟩
  have hp : CopyAt w W K A S T := by
    rw [HW.out]
    refine ⟨(RowV.four_new w _ _ _ _ _).below ((Below.refl _ _).alloc (Nat.le_refl _) _) (by simp), ?_, ((Below.refl _ _).alloc (Nat.le_refl _) _).alloc (by simp) _, by simp⟩
    have := RowV.four_new (w.alloc (.cells #[.int .i64 K, .int .i64 A, .string S, .string T] 41)) (.int .i64 0) (.int .i64 0) (.string ⟨#[]⟩) (.string ⟨#[]⟩) 41
    simpa using this
  rw [← HW.out]
  clear HW
  have hpd : CopyAt w W.drew K A S T := hp.below ((Below.refl _ _).drew)
  obtain ⟨c0, c1, c2, c3⟩ := hp.own.cells4
  clear hp
  go_region_with (first | (go_at_call 31; refine (HC.out _ _ (by omega) (by first | exact hpd | assumption)).mono ?_; rintro e w1 ⟨rfl, hp1⟩; obtain ⟨e0, e1, e2, e3⟩ := hp1.own.cells4; obtain ⟨f0, f1, f2, f3⟩ := hp1.own.open4))
  all_goals
    have hq := hp1.set2.set3
    obtain ⟨W2, HW2⟩ : ∃ W2, Hid (W2 = (w1.setCell ⟨w.heap.size, 2, none⟩ (.string S)).setCell ⟨w.heap.size, 3, none⟩ (.string T)) := ⟨_, rfl⟩
    rw [← HW2.out] at hq ⊢
    clear HW2 hp1 e0 e1 e2 e3 f0 f1 f2 f3 c0 c1 c2 c3 hpd
    obtain ⟨x0, x1, x2, x3⟩ := hq.own.cells4
    obtain ⟨y0, y1, y2, y3⟩ := hq.res.cells4
    obtain ⟨g0, g1, g2, g3⟩ := hq.res.open4
    go_wp2
    have hr := (((hq.res.set0_4 (.int .i64 K)).set1_4 (.int .i64 A)).set2_4 (.string S)).set3_4 (.string T)
    have br := (((hq.bel.setCell (p := ⟨w.heap.size + 1, 0, none⟩) (by show w.heap.size ≤ w.heap.size + 1; omega) (.int .i64 K)).setCell (p := ⟨w.heap.size + 1, 1, none⟩) (by show w.heap.size ≤ w.heap.size + 1; omega) (.int .i64 A)).setCell (p := ⟨w.heap.size + 1, 2, none⟩) (by show w.heap.size ≤ w.heap.size + 1; omega) (.string S)).setCell (p := ⟨w.heap.size + 1, 3, none⟩) (by show w.heap.size ≤ w.heap.size + 1; omega) (.string T)
    obtain ⟨WX, HWX⟩ : ∃ WX, Hid (WX = ((((W2.setCell ⟨w.heap.size + 1, 0, none⟩ (.int .i64 K)).setCell ⟨w.heap.size + 1, 1, none⟩ (.int .i64 A)).setCell ⟨w.heap.size + 1, 2, none⟩ (.string S)).setCell ⟨w.heap.size + 1, 3, none⟩ (.string T))) := ⟨_, rfl⟩
    rw [← HWX.out] at hr br ⊢
    obtain ⟨r0, r1, r2, r3⟩ := hr.cells4
    refine bodyPost_ret (v := .agg #[.int .i64 K, .int .i64 A, .string S, .string T]) (by simp [results, Try.results27, go_sem, r0, r1, r2, r3]) rfl ?_
    exact ⟨rfl, br⟩

end Go.Proofs.Ytkknglcckjhngaa

namespace Go.Proofs.Ytkknglcckjhngaa
open Go.Shelf

def insertLays_ren : Go.Shelf.Ren := ⟨fun | 22 => 41 | 29 => 45 | 30 => 46 | 36 => 47 | 17 => 48 | n => n, fun | 24 => 27 | 9 => 9 | 3 => 3 | 4 => 4 | 0 => 0 | n => n, fun | n => n⟩
theorem insertLays : Go.Proofs.Lays2.n22 Try.prog insertLays_ren := {
  mixed := by kernel_rfl
  f17 := Try.func48.trans (congrArg some (by kernel_rfl))
  f22 := Try.func41.trans (congrArg some (by kernel_rfl))
  f29 := Try.func45.trans (congrArg some (by kernel_rfl))
  f30 := Try.func46.trans (congrArg some (by kernel_rfl))
  f36 := Try.func47.trans (congrArg some (by kernel_rfl))
  t0 := Try.underlying0
  a0 := Try.isAgg0
  z0 := Try.sizeOf0
  v0 := Try.zeroValue0
  t3 := Try.underlying3
  a3 := Try.isAgg3
  z3 := Try.sizeOf3
  v3 := Try.zeroValue3
  t4 := Try.underlying4
  a4 := Try.isAgg4
  z4 := Try.sizeOf4
  v4 := Try.zeroValue4
  t9 := Try.underlying9
  a9 := Try.isAgg9
  z9 := Try.sizeOf9
  v9 := Try.zeroValue9
  t24 := Try.underlying27
  a24 := Try.isAgg27
  z24 := Try.sizeOf27
  v24 := Try.zeroValue27
  i9 := by kernel_rfl }

end Go.Proofs.Ytkknglcckjhngaa

namespace Go.Proofs.Ytkknglcckjhngaa
open Go.RowKit Go.Sort Go.Shelf
set_option linter.unusedVariables false

theorem below_setCells {B : Nat} {w : World} (b : Nat) (hb : B ≤ b) : ∀ (vs : List Value) (o : Nat) (w' : World), Below B w w' → Below B w (w'.setCells b o vs)
  | [], _, _, h => h
  | v :: vs, o, w', h => below_setCells b hb vs (o + 1) _ (h.setCell (p := ⟨b, o, none⟩) hb v)

theorem setCells_heap (b : Nat) : ∀ (vs : List Value) (o : Nat) (w : World), (w.setCells b o vs).heap.size = w.heap.size
  | [], _, _ => rfl
  | v :: vs, o, w => by show ((w.setCell ⟨b, o, none⟩ v).setCells b (o + 1) vs).heap.size = _; rw [setCells_heap b vs]; simp

/-- The texts as values. -/
def strV (L : List ByteArray) : List Value := L.map Value.string

theorem strV_get {L : List ByteArray} {j : Nat} {v : Value} (h : (strV L)[j]? = some v) : ∃ (hj : j < L.length), v = .string L[j] := by
  unfold strV at h
  rw [List.getElem?_map] at h
  rcases Option.map_eq_some_iff.1 h with ⟨s, hs, rfl⟩
  obtain ⟨hj, e⟩ := List.getElem?_eq_some_iff.1 hs
  exact ⟨hj, by rw [e]⟩

/-- A row of texts. -/
abbrev StrRow (w : World) (b : Nat) (L : List ByteArray) : Prop := RowV w b L.length (fun j => .string (L.getD j ByteArray.empty))

theorem StrRow.cell {w : World} {b : Nat} {L : List ByteArray} (h : StrRow w b L) {j : Nat} (hj : j < L.length) : w.cell? ⟨b, j, none⟩ = some (.string L[j]) := by
  have := (h j hj).1
  rw [this]
  show some (Value.string (L.getD j ByteArray.empty)) = _
  rw [List.getD_eq_getElem?_getD, List.getElem?_eq_getElem hj]; rfl

theorem StrRow.of {w : World} {b : Nat} {L : List ByteArray} (h : ∀ j (hj : j < L.length), w.cell? ⟨b, j, none⟩ = some (.string L[j]) ∧ w.frozen? ⟨b, j, none⟩ = false) : StrRow w b L := fun j hj => by
  refine ⟨?_, (h j hj).2⟩
  rw [(h j hj).1]
  show _ = some (Value.string (L.getD j ByteArray.empty))
  rw [List.getD_eq_getElem?_getD, List.getElem?_eq_getElem hj]; rfl

/-- L with s at place i. -/
def insL (L : List ByteArray) (i : Nat) (s : ByteArray) : List ByteArray := L.take i ++ s :: L.drop i

theorem insL_length (L : List ByteArray) (i : Nat) (s : ByteArray) (hi : i ≤ L.length) : (insL L i s).length = L.length + 1 := by
  simp [insL]; omega

theorem insL_sum (L : List ByteArray) (i : Nat) (s : ByteArray) : slotSum (insL L i s) = slotSum L + (2 + s.size) := by
  unfold insL
  rw [slotSum_append]
  conv => rhs; rw [← List.take_append_drop i L, slotSum_append]
  simp only [slotSum]; omega

theorem insL_get (L : List ByteArray) (i : Nat) (s : ByteArray) (hi : i ≤ L.length) (j : Nat) (hj : j < (insL L i s).length) :
    (insL L i s)[j]? = if j < i then L[j]? else if j = i then some s else L[j - 1]? := by
  unfold insL
  rw [List.getElem?_append]
  have hl : (L.take i).length = i := by simp; omega
  rw [hl]
  by_cases h : j < i
  · rw [if_pos h, if_pos h, List.getElem?_take, if_pos h]
  · rw [if_neg h, if_neg h]
    by_cases e : j = i
    · subst e; rw [if_pos rfl, Nat.sub_self]; rfl
    · rw [if_neg e, show j - i = (j - 1 - i) + 1 from by omega, List.getElem?_cons_succ, List.getElem?_drop]
      congr 1; omega

theorem zeroCells_size (n : Nat) : (Builtin.zeroCells (Value.string ⟨#[]⟩).cells n).size = n := by rw [size_zeroCells]; simp [Value.cells]

set_option maxHeartbeats 800000 in
theorem insert_call (L : List ByteArray) (bs vb : Nat) (s : ByteArray) (i : Nat) (w : World) (hr : StrRow w bs L) (hi : i ≤ L.length) (hv : w.cell? ⟨vb, 0, none⟩ = some (.string s)) (hL : L.length ≤ 64) (hbs : bs < w.heap.size) :
    Calls Try.prog 41 #[.slice (some ⟨bs, 0, none⟩) L.length L.length, .int .i64 i, .slice (some ⟨vb, 0, none⟩) 1 1] w fun e w' =>
      ∃ c, e = .returned (.slice (some ⟨w.heap.size, 0, none⟩) (L.length + 1) c) ∧ StrRow w' w.heap.size (insL L i s) ∧ Below w.heap.size w w' ∧ w.heap.size < w'.heap.size := by
  have hcl : (strV L).length = L.length := by simp [strV]
  have h1c : ∀ v ∈ strV L, v.oneCell' = true := fun v hv => by
    unfold strV at hv
    obtain ⟨x, _, rfl⟩ := List.mem_map.1 hv
    rfl
  have h1v : ∀ v ∈ ([.string s] : List Value), v.oneCell' = true := fun v hv => by
    rw [List.mem_singleton.1 hv]; rfl
  have hvs : ∀ j v, ([.string s] : List Value)[j]? = some v → w.cell? ⟨vb, 0 + j, none⟩ = some v := fun j v h => by
    match j, h with
    | 0, h => simp at h; subst h; exact hv
  have hcs : ∀ j v, (strV L)[j]? = some v → w.cell? ⟨bs, 0 + j, none⟩ = some v := fun j v h => by
    obtain ⟨hj, rfl⟩ := strV_get h
    rw [Nat.zero_add]; exact hr.cell hj
  have hil := insL_length L i s hi
  by_cases hlt : i < L.length
  · refine (Any2.slices_Insert_string_grow insertLays bs 0 L.length L.length i vb 0 1 1 (strV L) [.string s] w hlt (by omega) (by omega) (by omega) (by omega) hcl rfl hcs hvs h1c h1v).mono ?_
    rintro e w' ⟨rfl, rfl⟩
    refine ⟨_, rfl, StrRow.of fun j hj => ?_, ?_, ?_⟩
    · refine ⟨?_, ?_⟩
      · have hg := insL_get L i s hi j hj
        rw [List.getElem?_eq_getElem hj] at hg
        have hlt' : (strV (L.drop i)).length = L.length - i := by simp [strV]
        have hdr : (strV L).drop i = strV (L.drop i) := by simp [strV]
        rw [hdr]
        by_cases h1 : j < i
        · rw [if_pos h1] at hg
          rw [World.cell?_setCells_out w.heap.size _ _ _ _ (fun _ _ => .inl (by show j < i + 1; omega))]
          show (World.setCells _ _ _ _).cell? _ = _
          rw [World.cell?_setCells_out w.heap.size _ _ _ _ (fun _ _ => .inl (by show j < i; omega))]
          show (w.alloc _).cell? _ = _
          rw [World.cell?_alloc_new, Array.append_assoc, Array.getElem?_append_left (by simp [strV]; omega)]
          simp only [List.getElem?_toArray, List.getElem?_take, if_pos h1, strV, List.getElem?_map, ← hg, Option.map_some]
        · rw [if_neg h1] at hg
          by_cases h2 : j = i
          · subst h2
            rw [if_pos rfl] at hg
            rw [World.cell?_setCells_out w.heap.size _ _ _ _ (fun _ _ => .inl (by show j < j + 1; omega))]
            show (World.setCells _ _ _ _).cell? _ = _
            have := World.cell?_setCells_in w.heap.size [.string s] j (w.alloc (.cells (((strV L).take j).toArray ++ Builtin.zeroCells (Value.string ⟨#[]⟩).cells (L.length + 1 - j) ++ Builtin.zeroCells (Value.string ⟨#[]⟩).cells (grownCap w (L.length + 1) L.length (insertLays_ren.t 9) - (L.length + 1))) (insertLays_ren.t 9))).drew (fun k hk => by
              obtain rfl : k = 0 := by simpa using hk
              show ((w.alloc _).cell? _).isSome = true
              rw [World.cell?_alloc_new]
              simp [zeroCells_size, strV]; omega) 0 (by simp)
            rw [Nat.add_zero] at this
            refine this.trans ?_
            rw [Option.some.inj hg]; rfl
          · rw [if_neg h2] at hg
            have hj' : j < L.length + 1 := by omega
            have := World.cell?_setCells_in w.heap.size (strV (L.drop i)) (i + 1) (((w.alloc (.cells (((strV L).take i).toArray ++ Builtin.zeroCells (Value.string ⟨#[]⟩).cells (L.length + 1 - i) ++ Builtin.zeroCells (Value.string ⟨#[]⟩).cells (grownCap w (L.length + 1) L.length (insertLays_ren.t 9) - (L.length + 1))) (insertLays_ren.t 9))).drew.setCells w.heap.size i [.string s]).drew) (fun k hk => by
              show ((World.setCells _ _ _ _).cell? _).isSome = true
              rw [World.cell?_setCells_out w.heap.size _ _ _ _ (fun _ _ => .inr (by show i + 1 ≤ i + 1 + k; omega))]
              show ((w.alloc _).cell? _).isSome = true
              rw [World.cell?_alloc_new]
              simp [zeroCells_size, strV]; omega) (j - (i + 1)) (by omega)
            rw [show i + 1 + (j - (i + 1)) = j from by omega] at this
            rw [this]
            rw [List.getElem?_eq_getElem (by omega)] at hg
            rw [← Option.some.inj hg.symm]
            simp only [strV, List.getElem_map, List.getElem_drop]
            congr 3; omega
      · rw [World.frozen?_setCells]
        show (World.setCells _ _ _ _).frozen? _ = _
        rw [World.frozen?_setCells]
        show (w.alloc _).frozen? _ = _
        simp
    · refine below_setCells _ (Nat.le_refl _) _ _ _ ?_
      exact Below.drew (below_setCells _ (Nat.le_refl _) _ _ _ (((Below.refl _ _).alloc (Nat.le_refl _) _).drew))
    · rw [setCells_heap]
      show w.heap.size < (World.setCells _ _ _ _).heap.size
      rw [setCells_heap]
      show w.heap.size < (w.alloc _).heap.size
      simp
  · obtain rfl : i = L.length := by omega
    refine (Any2.slices_Insert_string_end_grow insertLays (some ⟨bs, 0, none⟩) L.length L.length vb 0 1 1 (strV L) [.string s] w (by omega) (by omega) (by omega) (by omega) hcl rfl (fun h => by cases h) (fun a ha j v h => by
      cases ha
      have := hcs j v h
      rw [Addr.add_lit]; exact this) hvs h1v).mono ?_
    rintro e w' ⟨rfl, rfl⟩
    refine ⟨_, rfl, StrRow.of fun j hj => ?_, ((Below.refl _ _).drew).alloc (Nat.le_refl _) _, ?_⟩
    · refine ⟨?_, ?_⟩
      · show (w.drew.alloc _).cell? ⟨w.drew.heap.size, j, none⟩ = _
        have hg := insL_get L L.length s hi j hj
        rw [List.getElem?_eq_getElem hj] at hg
        rw [World.cell?_alloc_new, Array.getElem?_append_left (by simp [strV]; omega)]
        simp only [List.getElem?_toArray, strV]
        rw [List.getElem?_append, List.length_map]
        by_cases h1 : j < L.length
        · rw [if_pos h1] at hg
          rw [if_pos h1, List.getElem?_map, ← hg]; rfl
        · obtain rfl : j = L.length := by omega
          rw [if_neg h1, if_pos rfl] at hg
          rw [if_neg h1, Nat.sub_self]
          rw [← Option.some.inj hg.symm]; rfl
      · exact World.frozen?_alloc_new w.drew _ _ _
    · show w.heap.size < (w.drew.alloc _).heap.size
      simp

end Go.Proofs.Ytkknglcckjhngaa

namespace Go.Proofs.Ytkknglcckjhngaa
open Go.RowKit Go.Sort
set_option linter.unusedVariables false

/-- A page in memory, at block b, its slots in block bs, both from B on. -/
structure SheetAt (B : Nat) (w : World) (b bs : Nat) (p : SheetV) : Prop where
  row : RowV w b 5 (five (.int .u32 p.num) (.int .u64 p.lsn) (.int .i64 p.kind) (.string p.head) (.slice (some ⟨bs, 0, none⟩) p.slots.length p.slots.length))
  str : StrRow w bs p.slots
  b1 : B ≤ b
  lt : b < w.heap.size
  bs1 : B ≤ bs
  bslt : bs < w.heap.size
  ne : bs ≠ b

theorem SheetAt.below {B : Nat} {w w' : World} {b bs : Nat} {p : SheetV} (h : SheetAt B w b bs p) (k : Below w.heap.size w w') : SheetAt B w' b bs p :=
  ⟨h.row.below k h.lt, h.str.below k h.bslt, h.b1, Nat.lt_of_lt_of_le h.lt k.size, h.bs1, Nat.lt_of_lt_of_le h.bslt k.size, h.ne⟩

theorem SheetAt.ok {B : Nat} {w : World} {b bs : Nat} {p : SheetV} (h : SheetAt B w b bs p) (f : p.Fits) : p.Ok w (some ⟨bs, 0, none⟩) := by
  have hf := f.fits
  refine ⟨f.num, f.lsn, ⟨by have := f.kind0; omega, by have := f.kind1; omega⟩, by have := f.head; omega, by have := f.len; omega, fun s hs => ?_, h.str.strs h.bslt⟩
  obtain ⟨j, hj, rfl⟩ := List.mem_iff_getElem.1 hs
  have := slotSum_at p.slots j hj
  omega

/-- The error of an OpInsert. -/
def insE (p : SheetV) (o : OpV) : Int := if (p.slots.length : Int) < o.at' then 1 else if 64 ≤ p.slots.length then 3 else if 485 < p.head.size + slotSum p.slots + (2 + o.S.size) then 30 else 0

section
variable {B : Nat} {w : World} {b bs : Nat} {p : SheetV} {o : OpV}

set_option maxHeartbeats 1600000 in
theorem insert_any (h : SheetAt B w b bs p) (f : p.Fits) (ho : o.Ok) (ha : 0 ≤ o.at') :
    Calls Try.prog 32 #[.pointer (some ⟨b, 0, none⟩), o.val] w fun e w' => e = .returned (.int .i64 (insE p o)) ∧ Below B w w' ∧
      (insE p o = 0 → ∃ bs' c, RowV w' b 5 (five (.int .u32 p.num) (.int .u64 p.lsn) (.int .i64 p.kind) (.string p.head) (.slice (some ⟨bs', 0, none⟩) (p.slots.length + 1) c)) ∧ StrRow w' bs' (insL p.slots o.at'.toNat o.S) ∧ B ≤ bs' ∧ bs' < w'.heap.size ∧ bs' ≠ b) := by
  have hb1 := h.b1
  have hlt := h.lt
  have hoS := ho.S
  have hat := ho.at'
  have hf := f.fits
  have hn64 := f.len
  clear ho
  obtain ⟨K, A, S, T⟩ := o
  simp only at ha hoS hat ⊢
  obtain ⟨i, rfl⟩ := Int.eq_ofNat_of_zero_le ha
  rw [Int.toNat_natCast]
  unfold OpV.val
  simp only
  obtain ⟨W, HW⟩ : ∃ W, Hid (W = w.alloc (.cells #[.int .i64 K, .int .i64 i, .string S, .string T] 41)) := ⟨_, rfl⟩
  have bW : Below w.heap.size w W := by rw [HW.out]; exact (Below.refl _ _).alloc (Nat.le_refl _) _
  have zW : w.heap.size < W.heap.size := by rw [HW.out]; simp
  have h1 := h.below bW
  have r1 : RowV W w.heap.size 4 (four (.int .i64 K) (.int .i64 i) (.string S) (.string T)) := by rw [HW.out]; exact RowV.four_new w _ _ _ _ _
  obtain ⟨x0, x1, x2, x3, x4⟩ := h1.row.cells5
  obtain ⟨y0, y1, y2, y3⟩ := r1.cells4
  have bB : Below B w W := bW.mono (by omega)
  by_cases c1 : (p.slots.length : Int) < (i : Int)
  · have hE : insE p ⟨K, i, S, T⟩ = 1 := by unfold insE; rw [if_pos c1]
    rw [hE]
    go_enter Try.func32, Try.ntmps32
    go_wp2_with fail
    rw [← HW.out]
    go_quiet (fail)
    go_wp2
    go_ret
    exact ⟨rfl, below_drewN bB nq, fun h => by cases h⟩
  · have hin : i ≤ p.slots.length := by omega
    by_cases c2 : 64 ≤ p.slots.length
    · have hE : insE p ⟨K, i, S, T⟩ = 3 := by unfold insE; rw [if_neg c1, if_pos c2]
      rw [hE]
      go_enter Try.func32, Try.ntmps32
      go_wp2_with fail
      rw [← HW.out]
      go_quiet (fail)
      go_wp2
      go_ret
      exact ⟨rfl, below_drewN bB nq, fun h => by cases h⟩
    · by_cases c3 : 485 < p.head.size + slotSum p.slots + (2 + S.size)
      · have hE : insE p ⟨K, i, S, T⟩ = 30 := by unfold insE; rw [if_neg c1, if_neg c2, if_pos c3]
        rw [hE]
        have hwr : IntKind.i64.wrap (2 + (S.size : Int)) = 2 + (S.size : Int) := wrap_small (by omega) (by omega)
        have hc2 : decide ((64 : Int) ≤ (p.slots.length : Int)) = false := by simp; omega
        have hc : decide (485 - (p.head.size : Int) - (slotSum p.slots : Int) < 2 + (S.size : Int)) = true := by simp; omega
        go_enter Try.func32, Try.ntmps32
        go_wp2_with fail
        rw [← HW.out]
        go_quiet (fail)
        have r2 : RowV (W.drewN nq) w.heap.size 4 (four (.int .i64 K) (.int .i64 i) (.string S) (.string T)) := r1.below (below_drewN (Below.refl W.heap.size W) nq) zW
        have h2 : SheetAt B (W.drewN nq) b bs p := h1.below (below_drewN (Below.refl W.heap.size W) nq)
        have bB2 := below_drewN bB nq
        have bW2 := below_drewN bW nq
        have zW2 : w.heap.size < (W.drewN nq).heap.size := zW
        obtain ⟨W2, HW2⟩ : ∃ W2, Hid (W2 = W.drewN nq) := ⟨_, rfl⟩
        rw [← HW2.out] at r2 h2 bB2 bW2 zW2 ⊢
        clear HW2 HW r1 h1 bB bW x0 x1 x2 x3 x4 y0 y1 y2 y3
        obtain ⟨x0, x1, x2, x3, x4⟩ := h2.row.cells5
        obtain ⟨y0, y1, y2, y3⟩ := r2.cells4
        go_wp2_with fail
        have gx0 := cell_regrown x0
        have gx1 := cell_regrown x1
        have gx2 := cell_regrown x2
        have gx3 := cell_regrown x3
        have gx4 := cell_regrown x4
        have gy2 := cell_regrown y2
        have cR : ∀ dd os, Calls Try.prog 40 #[.agg #[.int .u32 p.num, .int .u64 p.lsn, .int .i64 p.kind, .string p.head, .slice (some ⟨bs, 0, none⟩) p.slots.length p.slots.length]] (grow (redrawn W2 dd) os) fun e w'' => e = .returned (.int .i64 (485 - (p.head.size : Int) - (slotSum p.slots : Int))) ∧ ∃ p : Regrown, w'' = grow (redrawn W2 p.d) p.os := fun dd os => Calls.regrown_of (by
          have hk := (h2.below (below_regrown W2 dd os)).ok f
          have := hk.room p.slots.length
          rw [roomF_eq hk (by omega)] at this
          exact this)
        refine wp_region_quiet_below mixed (by kernel_rfl) ?_
        repeat (quiet_step (first | (go_at_call 40; exact cR _ _)))
        refine wpQuiet_nil ?_
        intro _ hw'
        obtain ⟨⟨dq, osq⟩, hw''⟩ := hw'
        subst hw''
        clear gx0 gx1 gx2 gx3 gx4 gy2 cR
        go_wp2
        go_ret
        exact ⟨rfl, bB2.trans ((below_regrown W2 dq osq).mono (by omega)), fun h => by cases h⟩
      · have hE : insE p ⟨K, i, S, T⟩ = 0 := by unfold insE; rw [if_neg c1, if_neg c2, if_neg c3]
        rw [hE]
        have hwr : IntKind.i64.wrap (2 + (S.size : Int)) = 2 + (S.size : Int) := wrap_small (by omega) (by omega)
        have hc2 : decide ((64 : Int) ≤ (p.slots.length : Int)) = false := by simp; omega
        have hc : decide (485 - (p.head.size : Int) - (slotSum p.slots : Int) < 2 + (S.size : Int)) = false := by simp; omega
        go_enter Try.func32, Try.ntmps32
        go_wp2_with fail
        rw [← HW.out]
        go_quiet (fail)
        have r2 : RowV (W.drewN nq) w.heap.size 4 (four (.int .i64 K) (.int .i64 i) (.string S) (.string T)) := r1.below (below_drewN (Below.refl W.heap.size W) nq) zW
        have h2 : SheetAt B (W.drewN nq) b bs p := h1.below (below_drewN (Below.refl W.heap.size W) nq)
        have bB2 := below_drewN bB nq
        have bW2 := below_drewN bW nq
        have zW2 : w.heap.size < (W.drewN nq).heap.size := zW
        obtain ⟨W2, HW2⟩ : ∃ W2, Hid (W2 = W.drewN nq) := ⟨_, rfl⟩
        rw [← HW2.out] at r2 h2 bB2 bW2 zW2 ⊢
        clear HW2 HW r1 h1 bB bW x0 x1 x2 x3 x4 y0 y1 y2 y3
        obtain ⟨x0, x1, x2, x3, x4⟩ := h2.row.cells5
        obtain ⟨y0, y1, y2, y3⟩ := r2.cells4
        go_wp2_with fail
        have gx0 := cell_regrown x0
        have gx1 := cell_regrown x1
        have gx2 := cell_regrown x2
        have gx3 := cell_regrown x3
        have gx4 := cell_regrown x4
        have gy2 := cell_regrown y2
        have cR : ∀ dd os, Calls Try.prog 40 #[.agg #[.int .u32 p.num, .int .u64 p.lsn, .int .i64 p.kind, .string p.head, .slice (some ⟨bs, 0, none⟩) p.slots.length p.slots.length]] (grow (redrawn W2 dd) os) fun e w'' => e = .returned (.int .i64 (485 - (p.head.size : Int) - (slotSum p.slots : Int))) ∧ ∃ p : Regrown, w'' = grow (redrawn W2 p.d) p.os := fun dd os => Calls.regrown_of (by
          have hk := (h2.below (below_regrown W2 dd os)).ok f
          have := hk.room p.slots.length
          rw [roomF_eq hk (by omega)] at this
          exact this)
        refine wp_region_quiet_below mixed (by kernel_rfl) ?_
        repeat (quiet_step (first | (go_at_call 40; exact cR _ _)))
        refine wpQuiet_nil ?_
        intro _ hw'
        obtain ⟨⟨dq, osq⟩, hw''⟩ := hw'
        subst hw''
        clear gx0 gx1 gx2 gx3 gx4 gy2 cR
        have bG := below_regrown W2 dq osq
        have h3 := h2.below bG
        have r3 := r2.below bG zW2
        have bB3 := bB2.trans (bG.mono (by omega))
        have zW3 := Nat.lt_of_lt_of_le zW2 bG.size
        obtain ⟨W3, HW3⟩ : ∃ W3, Hid (W3 = grow (redrawn W2 dq) osq) := ⟨_, rfl⟩
        rw [← HW3.out] at h3 r3 bB3 zW3 ⊢
        clear HW3 bG h2 r2 bB2 bW2 x0 x1 x2 x3 x4 y0 y1 y2 y3
        obtain ⟨x0, x1, x2, x3, x4⟩ := h3.row.cells5
        obtain ⟨f0, f1, f2, f3, f4⟩ := h3.row.open5
        obtain ⟨y0, y1, y2, y3⟩ := r3.cells4
        go_wp2_with fail
        have hz3 := h3.lt
        have HI : Hid (Calls Try.prog 41 #[.slice (some ⟨bs, 0, none⟩) p.slots.length p.slots.length, .int .i64 i, .slice (some ⟨W3.heap.size, 0, none⟩) 1 1] (W3.drew.alloc (.cells #[.string S] 9)) fun e w' =>
            ∃ c, e = .returned (.slice (some ⟨W3.heap.size + 1, 0, none⟩) (p.slots.length + 1) c) ∧ StrRow w' (W3.heap.size + 1) (insL p.slots i S) ∧ Below (W3.heap.size + 1) (W3.drew.alloc (.cells #[.string S] 9)) w' ∧ W3.heap.size + 1 < w'.heap.size ∧
              RowV w' b 5 (five (.int .u32 p.num) (.int .u64 p.lsn) (.int .i64 p.kind) (.string p.head) (.slice (some ⟨bs, 0, none⟩) p.slots.length p.slots.length)) ∧ Below B w w') := by
          have bA : Below W3.heap.size W3 (W3.drew.alloc (.cells #[.string S] 9)) := ((Below.refl _ _).drew).alloc (Nat.le_refl _) _
          have h4 := h3.below bA
          have hsz : (W3.drew.alloc (.cells #[.string S] 9)).heap.size = W3.heap.size + 1 := by simp
          refine (insert_call p.slots bs W3.heap.size S i _ h4.str hin (World.cell?_alloc_new (w := W3.drew) _ _ _) (by omega) h4.bslt).mono ?_
          rintro e w' ⟨c, rfl, q1, q2, q3⟩
          have q4 := h4.row.below q2 h4.lt
          rw [hsz] at q1 q2 q3 ⊢
          exact ⟨c, rfl, q1, q2, q3, q4, bB3.trans ((bA.mono (by omega)).trans (q2.mono (by omega)))⟩
        go_region_with (first | (go_at_call 41; refine HI.out.mono ?_; rintro e w4 ⟨c4, rfl, q1, q2, q3, q4, q5⟩; obtain ⟨k0, k1, k2, k3, k4⟩ := q4.cells5; obtain ⟨l0, l1, l2, l3, l4⟩ := q4.open5))
        all_goals
          go_wp2
          go_ret
          exact ⟨rfl, q5.setCell (p := ⟨b, 4, none⟩) hb1 _, fun _ => ⟨W3.heap.size + 1, c4, q4.set4 _, q1.set_other (by omega) _, by omega, by simpa using q3, by omega⟩⟩

end
end Go.Proofs.Ytkknglcckjhngaa

namespace Go.Proofs.Ytkknglcckjhngaa
open Go.RowKit Go.Sort
set_option linter.unusedVariables false

/-- Texts that lie in another block than b, from B on. -/
def StrsNot (B b : Nat) (w : World) (a : Option Addr) (L : List ByteArray) : Prop :=
  L = [] ∨ ∃ bs o, a = some ⟨bs, o, none⟩ ∧ bs ≠ b ∧ B ≤ bs ∧ bs < w.heap.size ∧ ∀ i (hi : i < L.length), w.cell? ⟨bs, o + i, none⟩ = some (.string L[i])

theorem StrsNot.set {B b : Nat} {w : World} {a : Option Addr} {L : List ByteArray} (h : StrsNot B b w a L) (i : Nat) (v : Value) : StrsNot B b (w.setCell ⟨b, i, none⟩ v) a L := by
  rcases h with h | ⟨bs, o, e, h1, h2, hb, hc⟩
  · exact .inl h
  · refine .inr ⟨bs, o, e, h1, h2, by simpa using hb, fun j hj => ?_⟩
    rw [World.cell?_setCell_other _ _ _ _ (by intro q; exact h1 (congrArg Addr.block q).symm)]
    exact hc j hj

theorem StrsNot.from {B b : Nat} {w : World} {a : Option Addr} {L : List ByteArray} (h : StrsNot B b w a L) : StrsFrom B w a L := by
  rcases h with h | ⟨bs, o, e, h1, h2, hb, hc⟩
  · exact .inl h
  · exact .inr ⟨bs, o, e, h2, hb, hc⟩

theorem StrRow.not {B b bs : Nat} {w : World} {L : List ByteArray} (h : StrRow w bs L) (h1 : bs ≠ b) (h2 : B ≤ bs) (h3 : bs < w.heap.size) : StrsNot B b w (some ⟨bs, 0, none⟩) L :=
  .inr ⟨bs, 0, rfl, h1, h2, h3, fun i hi => by rw [Nat.zero_add]; exact h.cell hi⟩

/-- What page.change does to a page: the error E; where it is 0, the page q. -/
def ChangeDoes (p : SheetV) (o : OpV) (E : Int) (q : SheetV) : Prop :=
  ∀ B w b bs, SheetAt B w b bs p → Calls Try.prog 26 #[.pointer (some ⟨b, 0, none⟩), o.val] w fun e w' => e = .returned (.int .i64 E) ∧ Below B w w' ∧
    (E = 0 → ∃ a' c', RowV w' b 5 (five (.int .u32 q.num) (.int .u64 q.lsn) (.int .i64 q.kind) (.string q.head) (.slice a' q.slots.length c')) ∧ StrsNot B b w' a' q.slots)

/-- Where Apply stands: the page, the change, the result. -/
structure ApplyAt (w wx : World) (p : SheetV) (o : OpV) (a : Option Addr) (c : Nat) : Prop where
  page : RowV wx w.heap.size 5 (five (.int .u32 p.num) (.int .u64 p.lsn) (.int .i64 p.kind) (.string p.head) (.slice a p.slots.length c))
  op : RowV wx (w.heap.size + 1) 4 (four (.int .i64 o.kind) (.int .i64 o.at') (.string o.S) (.string o.old))
  res : RowV wx (w.heap.size + 2) 5 (five (.int .u32 0) (.int .u64 0) (.int .i64 0) (.string ⟨#[]⟩) (.slice none 0 0))
  bel : Below w.heap.size w wx
  lt : w.heap.size + 3 ≤ wx.heap.size

theorem ApplyAt.below {w wx wy : World} {p : SheetV} {o : OpV} {a : Option Addr} {c B : Nat} (h : ApplyAt w wx p o a c) (k : Below B wx wy) (hB : w.heap.size + 3 ≤ B) : ApplyAt w wy p o a c :=
  ⟨h.page.below k (by omega), h.op.below k (by omega), h.res.below k (by omega), h.bel.trans (k.mono (by omega)), Nat.le_trans h.lt k.size⟩

section
variable {w : World} {p q : SheetV} {o : OpV} {a : Option Addr} {c : Nat} {E : Int}

set_option maxHeartbeats 1600000 in
theorem apply_bad (lsn : Nat) (h : p.Ok w a) (ho : o.Ok) (hc : chkB o = false) :
    Calls Try.prog 12 #[p.val a c, o.val, .int .u64 lsn] w fun e w' => e = .returned (.tuple #[sheet0.val none 0, .int .i64 33]) ∧ Below w.heap.size w w' := by
  have HCK : Hid (∀ wx, Calls Try.prog 24 #[o.val] wx fun e w' => e = .returned (.int .i64 33) ∧ Below wx.heap.size wx w') := fun wx => by
    have := check_any o wx ho
    rw [show chkE o = 33 from by unfold chkE; rw [hc]; rfl] at this
    exact this
  simp only [SheetV.val, OpV.val] at *
  obtain ⟨W, HW⟩ : ∃ W, Hid (W = ((w.alloc (.cells #[.int .u32 p.num, .int .u64 p.lsn, .int .i64 p.kind, .string p.head, .slice a p.slots.length c] 29)).alloc (.cells #[.int .i64 o.kind, .int .i64 o.at', .string o.S, .string o.old] 41)).alloc (.cells #[.int .u32 0, .int .u64 0, .int .i64 0, .string ⟨#[]⟩, .slice none 0 0] 29)) := ⟨_, rfl⟩
  have hA : ApplyAt w W p o a c := by
    rw [HW.out]
    refine ⟨((RowV.five_new w _ _ _ _ _ _).below ((Below.refl _ _).alloc (Nat.le_refl _) _) (by simp)).below ((Below.refl _ _).alloc (Nat.le_refl _) _) (by simp; omega), ?_, ?_, (((Below.refl _ _).alloc (Nat.le_refl _) _).alloc (by simp) _).alloc (by simp; omega) _, by simp⟩
    · have := (RowV.four_new (w.alloc (.cells #[.int .u32 p.num, .int .u64 p.lsn, .int .i64 p.kind, .string p.head, .slice a p.slots.length c] 29)) (.int .i64 o.kind) (.int .i64 o.at') (.string o.S) (.string o.old) 41).below ((Below.refl _ _).alloc (Nat.le_refl _) (.cells #[.int .u32 0, .int .u64 0, .int .i64 0, .string ⟨#[]⟩, .slice none 0 0] 29)) (by simp)
      simpa using this
    · have := RowV.five_new ((w.alloc (.cells #[.int .u32 p.num, .int .u64 p.lsn, .int .i64 p.kind, .string p.head, .slice a p.slots.length c] 29)).alloc (.cells #[.int .i64 o.kind, .int .i64 o.at', .string o.S, .string o.old] 41)) (.int .u32 0) (.int .u64 0) (.int .i64 0) (.string ⟨#[]⟩) (.slice none 0 0) 29
      simpa using this
  go_enter Try.func12, Try.ntmps12
  go_wp2_with fail
  rw [← HW.out]
  clear HW
  refine (HCK.out _).mono ?_
  rintro e w1 ⟨rfl, b1⟩
  have h1 := hA.below b1 hA.lt
  obtain ⟨y0, y1, y2, y3, y4⟩ := h1.res.cells5
  obtain ⟨g0, g1, g2, g3, g4⟩ := h1.res.open5
  go_wp2
  have hq := h1.res.set5 (.int .u32 0) (.int .u64 0) (.int .i64 0) (.string ⟨#[]⟩) (.slice none 0 0)
  have bq := below_set5 h1.bel (b := w.heap.size + 2) (by omega) (.int .u32 0) (.int .u64 0) (.int .i64 0) (.string ⟨#[]⟩) (.slice none 0 0)
  obtain ⟨WX, HWX⟩ : ∃ WX, Hid (WX = store5 w1 (w.heap.size + 2) (.int .u32 0) (.int .u64 0) (.int .i64 0) (.string ⟨#[]⟩) (.slice none 0 0)) := ⟨_, rfl⟩
  rw [← HWX.out] at hq bq
  obtain ⟨r0, r1, r2, r3, r4⟩ := hq.cells5
  rw [show (((((w1.setCell ⟨w.heap.size + 2, 0, none⟩ (.int .u32 0)).setCell ⟨w.heap.size + 2, 1, none⟩ (.int .u64 0)).setCell ⟨w.heap.size + 2, 2, none⟩ (.int .i64 0)).setCell ⟨w.heap.size + 2, 3, none⟩ (.string ⟨#[]⟩)).setCell ⟨w.heap.size + 2, 4, none⟩ (.slice none 0 0)) = WX from HWX.out.symm]
  refine bodyPost_ret (v := .tuple #[.agg #[.int .u32 0, .int .u64 0, .int .i64 0, .string ⟨#[]⟩, .slice none 0 0], .int .i64 33]) (by simp [results, Try.results12, go_sem, r0, r1, r2, r3, r4]) rfl ?_
  exact ⟨rfl, bq⟩

set_option maxHeartbeats 3200000 in
theorem apply_of (lsn : Nat) (h : p.Ok w a) (f : p.Fits) (ho : o.Ok) (hc : chkB o = true) (hd : ChangeDoes p o E q) :
    Calls Try.prog 12 #[p.val a c, o.val, .int .u64 lsn] w fun e w' => ∃ X, e = .returned (.tuple #[X, .int .i64 E]) ∧ Below w.heap.size w w' ∧
      (E = 0 → ∃ a' c', X = ({ q with lsn := lsn } : SheetV).val a' c' ∧ StrsFrom w.heap.size w' a' q.slots) ∧ (E ≠ 0 → X = sheet0.val none 0) := by
  have HCK : Hid (∀ wx, Calls Try.prog 24 #[o.val] wx fun e w' => e = .returned (.int .i64 0) ∧ Below wx.heap.size wx w') := fun wx => by
    have := check_any o wx ho
    rw [show chkE o = 0 from by unfold chkE; rw [hc]; rfl] at this
    exact this
  have HCP : Hid (∀ wx, Below w.heap.size w wx → Calls Try.prog 25 #[p.val a c] wx fun e w' => ∃ b, e = .returned (p.val (some ⟨b, 0, none⟩) p.slots.length) ∧ wx.heap.size < b ∧ b < w'.heap.size ∧ RowV w' b p.slots.length (fun j => .string (p.slots.getD j ByteArray.empty)) ∧ Below wx.heap.size wx w') := fun wx hb => copyOf_any p a c wx (h.below hb)
  have HCO : Hid (∀ wx, Calls Try.prog 27 #[o.val] wx fun e w' => e = .returned o.val ∧ Below wx.heap.size wx w') := fun wx => copyOfOp_any o wx ho
  have HCH : Hid (ChangeDoes p o E q) := hd
  clear hd
  unfold ChangeDoes at HCH
  simp only [SheetV.val, OpV.val] at HCK HCP HCO HCH ⊢
  obtain ⟨W, HW⟩ : ∃ W, Hid (W = ((w.alloc (.cells #[.int .u32 p.num, .int .u64 p.lsn, .int .i64 p.kind, .string p.head, .slice a p.slots.length c] 29)).alloc (.cells #[.int .i64 o.kind, .int .i64 o.at', .string o.S, .string o.old] 41)).alloc (.cells #[.int .u32 0, .int .u64 0, .int .i64 0, .string ⟨#[]⟩, .slice none 0 0] 29)) := ⟨_, rfl⟩
  have hA : ApplyAt w W p o a c := by
    rw [HW.out]
    refine ⟨((RowV.five_new w _ _ _ _ _ _).below ((Below.refl _ _).alloc (Nat.le_refl _) _) (by simp)).below ((Below.refl _ _).alloc (Nat.le_refl _) _) (by simp; omega), ?_, ?_, (((Below.refl _ _).alloc (Nat.le_refl _) _).alloc (by simp) _).alloc (by simp; omega) _, by simp⟩
    · have := (RowV.four_new (w.alloc (.cells #[.int .u32 p.num, .int .u64 p.lsn, .int .i64 p.kind, .string p.head, .slice a p.slots.length c] 29)) (.int .i64 o.kind) (.int .i64 o.at') (.string o.S) (.string o.old) 41).below ((Below.refl _ _).alloc (Nat.le_refl _) (.cells #[.int .u32 0, .int .u64 0, .int .i64 0, .string ⟨#[]⟩, .slice none 0 0] 29)) (by simp)
      simpa using this
    · have := RowV.five_new ((w.alloc (.cells #[.int .u32 p.num, .int .u64 p.lsn, .int .i64 p.kind, .string p.head, .slice a p.slots.length c] 29)).alloc (.cells #[.int .i64 o.kind, .int .i64 o.at', .string o.S, .string o.old] 41)) (.int .u32 0) (.int .u64 0) (.int .i64 0) (.string ⟨#[]⟩) (.slice none 0 0) 29
      simpa using this
  go_enter Try.func12, Try.ntmps12
  go_wp2_with fail
  rw [← HW.out]
  clear HW
  refine (HCK.out _).mono ?_
  rintro e w1 ⟨rfl, b1⟩
  have h1 := hA.below b1 hA.lt
  clear b1 hA
  obtain ⟨x0, x1, x2, x3, x4⟩ := h1.page.cells5
  go_wp2_with fail
  refine (HCP.out _ h1.bel).mono ?_
  rintro e w2 ⟨b, rfl, hb1, hb2, hrow, b2⟩
  have hl1 := h1.lt
  have h2 := h1.below b2 h1.lt
  clear h1 x0 x1 x2 x3 x4
  obtain ⟨y0, y1, y2, y3⟩ := h2.op.cells4
  have hz2 := h2.lt
  have hz2' : w.heap.size + 1 < w2.heap.size := by omega
  go_wp2_with fail
  obtain ⟨W2, HW2⟩ : ∃ W2, Hid (W2 = w2.alloc (.cells #[.int .u32 p.num, .int .u64 p.lsn, .int .i64 p.kind, .string p.head, .slice (some ⟨b, 0, none⟩) p.slots.length p.slots.length] 29)) := ⟨_, rfl⟩
  have bA : Below w2.heap.size w2 W2 := by rw [HW2.out]; exact (Below.refl _ _).alloc (Nat.le_refl _) _
  have h3 := h2.below bA hz2
  have hs : SheetAt (w.heap.size + 3) W2 w2.heap.size b p := by
    refine ⟨by rw [HW2.out]; exact RowV.five_new w2 _ _ _ _ _ _, hrow.below bA hb2, hz2, by rw [HW2.out]; simp, by omega, by rw [HW2.out]; simp; omega, by omega⟩
  rw [← HW2.out]
  clear HW2 h2 y0 y1 y2 y3 bA hrow b2
  refine (HCO.out _).mono ?_
  rintro e w3 ⟨rfl, b3⟩
  have h4 := h3.below b3 h3.lt
  have hs4 := hs.below b3
  clear h3 hs b3
  go_wp2_with fail
  refine (HCH.out _ _ _ _ hs4).mono ?_
  rintro e w4 ⟨rfl, b4, hres⟩
  have h5 := h4.below b4 (Nat.le_refl _)
  have hz5 := Nat.lt_of_lt_of_le hs4.lt b4.size
  clear h4 hs4 b4
  obtain ⟨y0, y1, y2, y3, y4⟩ := h5.res.cells5
  obtain ⟨g0, g1, g2, g3, g4⟩ := h5.res.open5
  by_cases hE : E = 0
  · obtain ⟨a', c', hrow, hst⟩ := hres hE
    subst hE
    obtain ⟨x0, x1, x2, x3, x4⟩ := hrow.cells5
    obtain ⟨f0, f1, f2, f3, f4⟩ := hrow.open5
    go_wp2_with fail
    obtain ⟨w5, HW5⟩ : ∃ w5, Hid (w5 = w4.setCell ⟨w2.heap.size, 1, none⟩ (.int .u64 lsn)) := ⟨_, rfl⟩
    have hs5 := (hst.set 1 (.int .u64 lsn)).from
    have hr5 := h5.res.set_other (b' := w2.heap.size) (k := 1) (by omega) (.int .u64 lsn)
    have hb5 := h5.bel.setCell (p := ⟨w2.heap.size, 1, none⟩) (by show w.heap.size ≤ w2.heap.size; omega) (.int .u64 lsn)
    rw [← HW5.out] at hs5 hr5 hb5 ⊢
    have hq := hr5.set5 (.int .u32 q.num) (.int .u64 lsn) (.int .i64 q.kind) (.string q.head) (.slice a' q.slots.length c')
    have bq := below_set5 hb5 (b := w.heap.size + 2) (by omega) (.int .u32 q.num) (.int .u64 lsn) (.int .i64 q.kind) (.string q.head) (.slice a' q.slots.length c')
    have sq := hs5.store5 (b := w.heap.size + 2) (by omega) (.int .u32 q.num) (.int .u64 lsn) (.int .i64 q.kind) (.string q.head) (.slice a' q.slots.length c')
    obtain ⟨WX, HWX⟩ : ∃ WX, Hid (WX = store5 w5 (w.heap.size + 2) (.int .u32 q.num) (.int .u64 lsn) (.int .i64 q.kind) (.string q.head) (.slice a' q.slots.length c')) := ⟨_, rfl⟩
    rw [← HWX.out] at hq bq
    rw [show (((((w5.setCell ⟨w.heap.size + 2, 0, none⟩ (.int .u32 q.num)).setCell ⟨w.heap.size + 2, 1, none⟩ (.int .u64 lsn)).setCell ⟨w.heap.size + 2, 2, none⟩ (.int .i64 q.kind)).setCell ⟨w.heap.size + 2, 3, none⟩ (.string q.head)).setCell ⟨w.heap.size + 2, 4, none⟩ (.slice a' q.slots.length c')) = WX from HWX.out.symm] at sq ⊢
    obtain ⟨r0, r1, r2, r3, r4⟩ := hq.cells5
    refine bodyPost_ret (v := .tuple #[.agg #[.int .u32 q.num, .int .u64 lsn, .int .i64 q.kind, .string q.head, .slice a' q.slots.length c'], .int .i64 0]) (by simp [results, Try.results12, go_sem, r0, r1, r2, r3, r4]) rfl ?_
    exact ⟨_, rfl, bq, a', ⟨c', rfl⟩, sq.mono (by omega)⟩
  · have hE' : (E != 0) = true := by rw [bne_iff_ne]; exact hE
    clear hres
    go_wp2
    have hq := h5.res.set5 (.int .u32 0) (.int .u64 0) (.int .i64 0) (.string ⟨#[]⟩) (.slice none 0 0)
    have bq := below_set5 h5.bel (b := w.heap.size + 2) (by omega) (.int .u32 0) (.int .u64 0) (.int .i64 0) (.string ⟨#[]⟩) (.slice none 0 0)
    obtain ⟨WX, HWX⟩ : ∃ WX, Hid (WX = store5 w4 (w.heap.size + 2) (.int .u32 0) (.int .u64 0) (.int .i64 0) (.string ⟨#[]⟩) (.slice none 0 0)) := ⟨_, rfl⟩
    rw [← HWX.out] at hq bq
    obtain ⟨r0, r1, r2, r3, r4⟩ := hq.cells5
    rw [show (((((w4.setCell ⟨w.heap.size + 2, 0, none⟩ (.int .u32 0)).setCell ⟨w.heap.size + 2, 1, none⟩ (.int .u64 0)).setCell ⟨w.heap.size + 2, 2, none⟩ (.int .i64 0)).setCell ⟨w.heap.size + 2, 3, none⟩ (.string ⟨#[]⟩)).setCell ⟨w.heap.size + 2, 4, none⟩ (.slice none 0 0)) = WX from HWX.out.symm]
    refine bodyPost_ret (v := .tuple #[.agg #[.int .u32 0, .int .u64 0, .int .i64 0, .string ⟨#[]⟩, .slice none 0 0], .int .i64 E]) (by simp [results, Try.results12, go_sem, r0, r1, r2, r3, r4]) rfl ?_
    exact ⟨_, rfl, bq, fun h => absurd h hE, fun _ => rfl⟩

end
end Go.Proofs.Ytkknglcckjhngaa

namespace Go.Proofs.Ytkknglcckjhngaa
open Go.RowKit Go.Sort
set_option linter.unusedVariables false

theorem insE_zero {p : SheetV} {o : OpV} (h : insE p o = 0) : o.at' ≤ p.slots.length ∧ p.slots.length < 64 ∧ p.head.size + slotSum p.slots + (2 + o.S.size) ≤ 485 := by
  unfold insE at h
  split at h
  · cases h
  split at h
  · cases h
  split at h
  · cases h
  · omega

set_option maxHeartbeats 1600000 in
theorem change_ins {p : SheetV} {o : OpV} (f : p.Fits) (ho : o.Ok) (hk : o.kind = 2) (ha : 0 ≤ o.at') : ChangeDoes p o (insE p o) { p with slots := insL p.slots o.at'.toNat o.S } := by
  intro B w b bs h
  have hb1 := h.b1
  have hlt := h.lt
  have HI : Hid (∀ wx, SheetAt B wx b bs p → Calls Try.prog 32 #[.pointer (some ⟨b, 0, none⟩), o.val] wx fun e w' => e = .returned (.int .i64 (insE p o)) ∧ Below B wx w' ∧
      (insE p o = 0 → ∃ bs' c, RowV w' b 5 (five (.int .u32 p.num) (.int .u64 p.lsn) (.int .i64 p.kind) (.string p.head) (.slice (some ⟨bs', 0, none⟩) (p.slots.length + 1) c)) ∧ StrRow w' bs' (insL p.slots o.at'.toNat o.S) ∧ B ≤ bs' ∧ bs' < w'.heap.size ∧ bs' ≠ b)) := fun wx hx => insert_any hx f ho ha
  have HZ : Hid (insE p o = 0 → o.at'.toNat ≤ p.slots.length) := fun e => by have := insE_zero e; omega
  generalize insE p o = E at *
  obtain ⟨K, A, S, T⟩ := o
  simp only at hk ha HI HZ ⊢
  subst hk
  generalize A.toNat = i at *
  simp only [OpV.val] at HI ⊢
  obtain ⟨W, HW⟩ : ∃ W, Hid (W = w.alloc (.cells #[.int .i64 2, .int .i64 A, .string S, .string T] 41)) := ⟨_, rfl⟩
  have bW : Below w.heap.size w W := by rw [HW.out]; exact (Below.refl _ _).alloc (Nat.le_refl _) _
  have h1 := h.below bW
  go_enter Try.func26, Try.ntmps26
  go_wp2_with fail
  rw [← HW.out]
  clear HW
  refine (HI.out _ h1).mono ?_
  rintro e w1 ⟨rfl, b1, hz⟩
  go_wp2
  go_ret
  refine ⟨rfl, (bW.mono (by omega)).trans b1, fun hE => ?_⟩
  obtain ⟨bs', c', q1, q2, q3, q4, q5⟩ := hz hE
  exact ⟨some ⟨bs', 0, none⟩, c', by rw [insL_length _ _ _ (HZ.out hE)]; exact q1, q2.not q5 q3 q4⟩

end Go.Proofs.Ytkknglcckjhngaa
