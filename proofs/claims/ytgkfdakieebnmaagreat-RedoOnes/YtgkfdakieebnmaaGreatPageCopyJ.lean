/-
  The walks of page.copyOf and page.copyOfOp.
-/
import Derived.Test.YtgkfdakieebnmaaGreatPageOpsC
import Derived.Deep.RegionWith
set_option linter.unusedVariables false
set_option linter.unusedSimpArgs false
namespace Go.Proofs.YtgkfdakieebnmaaGreat
open Go.RowKit Go.Sort

set_option maxHeartbeats 1600000 in
set_option maxRecDepth 60000 in
theorem copyOf_any (p : SheetV) (a : Option Addr) (c : Nat) (w : World) (h : p.Ok w a) :
    Calls Tryz.prog 53 #[p.val a c] w fun e w' => ∃ b, e = .returned (p.val (some ⟨b, 0, none⟩) p.slots.length) ∧ w.heap.size < b ∧ b < w'.heap.size ∧ RowV w' b p.slots.length (fun j => .string (p.slots.getD j ByteArray.empty)) ∧ Below w.heap.size w w' := by
  have hm := h.mem
  have hl := h.len
  have hh := h.head
  have hs := h.slots
  clear h
  obtain ⟨num, lsn, kind, head, L⟩ := p
  simp only [SheetV.val] at *
  have hmk := run_make_row' (P := Tryz.prog) 50 9 (.string ⟨#[]⟩) 16 Tryz.underlying50 infoStr rfl .i64 .i64 L.length (by omega) (by omega)
  go_enter Tryz.func53, Tryz.ntmps53
  go_wp2_with fail
  obtain ⟨W, HW⟩ : ∃ W, Hid (W = ((w.alloc (.cells #[.int .u32 num, .int .u64 lsn, .int .i64 kind, .string head, .slice a L.length c] 52)).alloc (.cells #[.int .u32 0, .int .u64 0, .int .i64 0, .string ⟨#[]⟩, .slice none 0 0] 52)).alloc (.cells (madeCells #[.string ⟨#[]⟩] L.length) 9)) := ⟨_, rfl⟩
  have r0 : RowV W w.heap.size 5 (five (.int .u32 num) (.int .u64 lsn) (.int .i64 kind) (.string head) (.slice a L.length c)) := by
    rw [HW.out]
    exact ((RowV.five_new w _ _ _ _ _ _).below ((Below.refl _ _).alloc (Nat.le_refl _) _) (by simp)).below ((Below.refl _ _).alloc (Nat.le_refl _) _) (by simp; omega)
  have r1 : RowV W (w.heap.size + 1) 5 (five (.int .u32 0) (.int .u64 0) (.int .i64 0) (.string ⟨#[]⟩) (.slice none 0 0)) := by
    rw [HW.out]
    have := (RowV.five_new (w.alloc (.cells #[.int .u32 num, .int .u64 lsn, .int .i64 kind, .string head, .slice a L.length c] 52)) (.int .u32 0) (.int .u64 0) (.int .i64 0) (.string ⟨#[]⟩) (.slice none 0 0) 52).below (((Below.refl _ _).alloc (Nat.le_refl _) (.cells (madeCells #[.string ⟨#[]⟩] L.length) 9))) (by simp)
    simpa using this
  have r2 : RowV W (w.heap.size + 2) L.length (fun _ => .string ⟨#[]⟩) := by
    rw [HW.out]
    have := RowV.made ((w.alloc (.cells #[.int .u32 num, .int .u64 lsn, .int .i64 kind, .string head, .slice a L.length c] 52)).alloc (.cells #[.int .u32 0, .int .u64 0, .int .i64 0, .string ⟨#[]⟩, .slice none 0 0] 52)) L.length (.string ⟨#[]⟩) rfl 9
    simpa using this
  have bel : Below w.heap.size w W := by rw [HW.out]; exact (((Below.refl _ _).alloc (Nat.le_refl _) _).alloc (by simp) _).alloc (by simp; omega) _
  have hz : w.heap.size + 3 ≤ W.heap.size := by rw [HW.out]; simp
  rw [← HW.out]
  clear HW
  go_loopw [13] (fun i wr => ∃ k : Nat, k ≤ L.length ∧ i = .int .i64 k ∧ RowV wr (w.heap.size + 2) L.length (fun j => if j < k then .string (L.getD j ByteArray.empty) else .string ⟨#[]⟩) ∧ RowV wr w.heap.size 5 (five (.int .u32 num) (.int .u64 lsn) (.int .i64 kind) (.string head) (.slice a L.length c)) ∧ RowV wr (w.heap.size + 1) 5 (five (.int .u32 0) (.int .u64 0) (.int .i64 0) (.string ⟨#[]⟩) (.slice none 0 0)) ∧ Below w.heap.size w wr ∧ w.heap.size + 3 ≤ wr.heap.size) (fun i _ => L.length - (intOf i).toNat)
  case atStart => exact ⟨0, by omega, rfl, r2.congr (fun j _ => by simp), r0, r1, bel, hz⟩
  case round =>
    clear r0 r1 r2 bel hz
    obtain ⟨k, hk, rfl, hrow, hb0, hb1, hbel, hz⟩ := hrel
    by_cases hlt : k < L.length
    · obtain ⟨bs, o, rfl, hck⟩ := hm.reach hbel hlt
      have hsz := hs L[k] (List.getElem_mem _)
      have hgd : Hid (L.getD k ByteArray.empty = L[k]) := by show _ = _; rw [List.getD_eq_getElem?_getD, List.getElem?_eq_getElem hlt]; rfl
      obtain ⟨s, hse⟩ : ∃ s, L[k] = s := ⟨_, rfl⟩
      rw [hse] at hck hsz hgd
      clear hse
      obtain ⟨x0, x1, x2, x3, x4⟩ := hb0.cells5
      go_wp2_with fail
      refine (clone_any s _ (by omega)).mono ?_
      rintro e w2 ⟨rfl, b2⟩
      have hrow2 := hrow.below b2 (by omega)
      have q1 := (hrow2 k hlt).1
      have q2 := (hrow2 k hlt).2
      go_wp2
      go_roundw
      case rel =>
        refine ⟨k + 1, by omega, by go_num, (hrow2.set hlt _).congr (fun j hj => ?_), (hb0.below b2 (by omega)).set_other (by omega) _, (hb1.below b2 (by omega)).set_other (by omega) _, (below_chain hbel b2).setCell (p := ⟨w.heap.size + 2, k, none⟩) (by show w.heap.size ≤ w.heap.size + 2; omega) _, by have := b2.size; simp; omega⟩
        by_cases e : j = k
        · subst e; rw [if_pos rfl, if_pos (by omega), hgd.out]
        · rw [if_neg e]; by_cases h : j < k
          · rw [if_pos h, if_pos (by omega)]
          · rw [if_neg h, if_neg (by omega)]
      case measure => simp [intOf]; omega
    · obtain rfl : k = L.length := by omega
      have hrow' : RowV wr (w.heap.size + 2) L.length (fun j => .string (L.getD j ByteArray.empty)) := hrow.congr (fun j hj => by rw [if_pos hj])
      clear hrow
      obtain ⟨x0, x1, x2, x3, x4⟩ := hb0.cells5
      go_wp2_with fail
      refine (clone_any head _ (by omega)).mono ?_
      rintro e w2 ⟨rfl, b2⟩
      have s0 := hb0.below b2 (by omega)
      have s1 := hb1.below b2 (by omega)
      have s2 := hrow'.below b2 (by omega)
      have sb := below_chain hbel b2
      have sz := Nat.le_trans hz b2.size
      clear hb0 hb1 hrow' hbel hz x0 x1 x2 x3 x4 b2
      obtain ⟨x0, x1, x2, x3, x4⟩ := s0.cells5
      obtain ⟨f0, f1, f2, f3, f4⟩ := s0.open5
      obtain ⟨y0, y1, y2, y3, y4⟩ := s1.cells5
      obtain ⟨g0, g1, g2, g3, g4⟩ := s1.open5
      go_wp2
      have hq := ((s1.set_other (b' := w.heap.size) (k := 3) (by omega) (.string head)).set_other (b' := w.heap.size) (k := 4) (by omega) (.slice (some ⟨w.heap.size + 2, 0, none⟩) L.length L.length)).set5 (.int .u32 num) (.int .u64 lsn) (.int .i64 kind) (.string head) (.slice (some ⟨w.heap.size + 2, 0, none⟩) L.length L.length)
      have hr := (((s2.set_other (b' := w.heap.size) (k := 3) (by omega) (.string head)).set_other (b' := w.heap.size) (k := 4) (by omega) (.slice (some ⟨w.heap.size + 2, 0, none⟩) L.length L.length))).set5_other (b := w.heap.size + 1) (by omega) (.int .u32 num) (.int .u64 lsn) (.int .i64 kind) (.string head) (.slice (some ⟨w.heap.size + 2, 0, none⟩) L.length L.length)
      have bq := below_set5 ((sb.setCell (p := ⟨w.heap.size, 3, none⟩) (Nat.le_refl _) (.string head)).setCell (p := ⟨w.heap.size, 4, none⟩) (Nat.le_refl _) (.slice (some ⟨w.heap.size + 2, 0, none⟩) L.length L.length)) (b := w.heap.size + 1) (by omega) (.int .u32 num) (.int .u64 lsn) (.int .i64 kind) (.string head) (.slice (some ⟨w.heap.size + 2, 0, none⟩) L.length L.length)
      obtain ⟨WX, HWX⟩ : ∃ WX, Hid (WX = store5 ((w2.setCell ⟨w.heap.size, 3, none⟩ (.string head)).setCell ⟨w.heap.size, 4, none⟩ (.slice (some ⟨w.heap.size + 2, 0, none⟩) L.length L.length)) (w.heap.size + 1) (.int .u32 num) (.int .u64 lsn) (.int .i64 kind) (.string head) (.slice (some ⟨w.heap.size + 2, 0, none⟩) L.length L.length)) := ⟨_, rfl⟩
      have hzX : w.heap.size + 3 ≤ WX.heap.size := by rw [HWX.out, store5_size]; simpa using sz
      rw [← HWX.out] at hq hr bq
      obtain ⟨r0, r1, r2, r3, r4⟩ := hq.cells5
      rw [show (((((((w2.setCell ⟨w.heap.size, 3, none⟩ (.string head)).setCell ⟨w.heap.size, 4, none⟩ (.slice (some ⟨w.heap.size + 2, 0, none⟩) L.length L.length)).setCell ⟨w.heap.size + 1, 0, none⟩ (.int .u32 num)).setCell ⟨w.heap.size + 1, 1, none⟩ (.int .u64 lsn)).setCell ⟨w.heap.size + 1, 2, none⟩ (.int .i64 kind)).setCell ⟨w.heap.size + 1, 3, none⟩ (.string head)).setCell ⟨w.heap.size + 1, 4, none⟩ (.slice (some ⟨w.heap.size + 2, 0, none⟩) L.length L.length)) = WX from HWX.out.symm]
      refine bodyPost_ret (v := .agg #[.int .u32 num, .int .u64 lsn, .int .i64 kind, .string head, .slice (some ⟨w.heap.size + 2, 0, none⟩) L.length L.length]) (by simp [results, Tryz.results53, go_sem, r0, r1, r2, r3, r4]) rfl ?_
      exact ⟨w.heap.size + 2, rfl, by omega, by omega, hr, bq⟩

end Go.Proofs.YtgkfdakieebnmaaGreat

namespace Go.Proofs.YtgkfdakieebnmaaGreat
open Go.RowKit Go.Sort

def four (v0 v1 v2 v3 : Value) : Nat → Value
  | 0 => v0
  | 1 => v1
  | 2 => v2
  | _ => v3

theorem RowV.four_new (w : World) (v0 v1 v2 v3 : Value) (T : TypeId) : RowV (w.alloc (.cells #[v0, v1, v2, v3] T)) w.heap.size 4 (four v0 v1 v2 v3) := by
  intro j hj
  match j, hj with
  | 0, _ => exact ⟨by simp [four], by simp⟩
  | 1, _ => exact ⟨by simp [four], by simp⟩
  | 2, _ => exact ⟨by simp [four], by simp⟩
  | 3, _ => exact ⟨by simp [four], by simp⟩

theorem RowV.cells4 {w : World} {b : Nat} {v0 v1 v2 v3 : Value} (h : RowV w b 4 (four v0 v1 v2 v3)) :
    w.cell? ⟨b, 0, none⟩ = some v0 ∧ w.cell? ⟨b, 1, none⟩ = some v1 ∧ w.cell? ⟨b, 2, none⟩ = some v2 ∧ w.cell? ⟨b, 3, none⟩ = some v3 :=
  ⟨(h 0 (by omega)).1, (h 1 (by omega)).1, (h 2 (by omega)).1, (h 3 (by omega)).1⟩
theorem RowV.open4 {w : World} {b : Nat} {v0 v1 v2 v3 : Value} (h : RowV w b 4 (four v0 v1 v2 v3)) :
    w.frozen? ⟨b, 0, none⟩ = false ∧ w.frozen? ⟨b, 1, none⟩ = false ∧ w.frozen? ⟨b, 2, none⟩ = false ∧ w.frozen? ⟨b, 3, none⟩ = false :=
  ⟨(h 0 (by omega)).2, (h 1 (by omega)).2, (h 2 (by omega)).2, (h 3 (by omega)).2⟩
theorem RowV.set2_4 {w : World} {b : Nat} {v0 v1 v2 v3 : Value} (h : RowV w b 4 (four v0 v1 v2 v3)) (v : Value) : RowV (w.setCell ⟨b, 2, none⟩ v) b 4 (four v0 v1 v v3) :=
  (h.set (k := 2) (by omega) v).congr fun j hj => by match j, hj with | 0, _ => rfl | 1, _ => rfl | 2, _ => rfl | 3, _ => rfl
theorem RowV.set3_4 {w : World} {b : Nat} {v0 v1 v2 v3 : Value} (h : RowV w b 4 (four v0 v1 v2 v3)) (v : Value) : RowV (w.setCell ⟨b, 3, none⟩ v) b 4 (four v0 v1 v2 v) :=
  (h.set (k := 3) (by omega) v).congr fun j hj => by match j, hj with | 0, _ => rfl | 1, _ => rfl | 2, _ => rfl | 3, _ => rfl
theorem RowV.set0_4 {w : World} {b : Nat} {v0 v1 v2 v3 : Value} (h : RowV w b 4 (four v0 v1 v2 v3)) (v : Value) : RowV (w.setCell ⟨b, 0, none⟩ v) b 4 (four v v1 v2 v3) :=
  (h.set (k := 0) (by omega) v).congr fun j hj => by match j, hj with | 0, _ => rfl | 1, _ => rfl | 2, _ => rfl | 3, _ => rfl
theorem RowV.set1_4 {w : World} {b : Nat} {v0 v1 v2 v3 : Value} (h : RowV w b 4 (four v0 v1 v2 v3)) (v : Value) : RowV (w.setCell ⟨b, 1, none⟩ v) b 4 (four v0 v v2 v3) :=
  (h.set (k := 1) (by omega) v).congr fun j hj => by match j, hj with | 0, _ => rfl | 1, _ => rfl | 2, _ => rfl | 3, _ => rfl

structure CopyAt (w wx : World) (K A : Int) (S T : ByteArray) : Prop where
  own : RowV wx w.heap.size 4 (four (.int .i64 K) (.int .i64 A) (.string S) (.string T))
  res : RowV wx (w.heap.size + 1) 4 (four (.int .i64 0) (.int .i64 0) (.string ⟨#[]⟩) (.string ⟨#[]⟩))
  bel : Below w.heap.size w wx
  lt : w.heap.size + 2 ≤ wx.heap.size

theorem CopyAt.below {w wx wy : World} {K A : Int} {S T : ByteArray} (h : CopyAt w wx K A S T) (k : Below wx.heap.size wx wy) : CopyAt w wy K A S T :=
  ⟨h.own.below k (by have := h.lt; omega), h.res.below k (by have := h.lt; omega), below_chain h.bel k, Nat.le_trans h.lt k.size⟩

theorem CopyAt.set2 {w wx : World} {K A : Int} {S T : ByteArray} (h : CopyAt w wx K A S T) : CopyAt w (wx.setCell ⟨w.heap.size, 2, none⟩ (.string S)) K A S T :=
  ⟨h.own.set2_4 _, h.res.set_other (by omega) _, h.bel.setCell (p := ⟨w.heap.size, 2, none⟩) (Nat.le_refl _) _, by simpa using h.lt⟩
theorem CopyAt.set3 {w wx : World} {K A : Int} {S T : ByteArray} (h : CopyAt w wx K A S T) : CopyAt w (wx.setCell ⟨w.heap.size, 3, none⟩ (.string T)) K A S T :=
  ⟨h.own.set3_4 _, h.res.set_other (by omega) _, h.bel.setCell (p := ⟨w.heap.size, 3, none⟩) (Nat.le_refl _) _, by simpa using h.lt⟩

set_option maxHeartbeats 1600000 in
set_option maxRecDepth 60000 in
theorem copyOfOp_any (o : OpV) (w : World) (h : o.Ok) :
    Calls Tryz.prog 55 #[o.val] w fun e w' => e = .returned o.val ∧ Below w.heap.size w w' := by
  have hS := h.S
  have hT := h.old
  clear h
  obtain ⟨K, A, S, T⟩ := o
  simp only [OpV.val] at *
  have HC : Hid (∀ wx s, s.size ≤ 140737488351232 → CopyAt w wx K A S T → Calls Tryz.prog 101 #[.string s] wx fun e w' => e = .returned (.string s) ∧ CopyAt w w' K A S T) :=
    fun wx s hs hp => (clone_any s wx (by omega)).mono fun e w' h => ⟨h.1, hp.below h.2⟩
  go_enter Tryz.func55, Tryz.ntmps55
  go_wp2_with fail
  obtain ⟨W, HW⟩ : ∃ W, Hid (W = (w.alloc (.cells #[.int .i64 K, .int .i64 A, .string S, .string T] 58)).alloc (.cells #[.int .i64 0, .int .i64 0, .string ⟨#[]⟩, .string ⟨#[]⟩] 58)) := ⟨_, rfl⟩
  have hp : CopyAt w W K A S T := by
    rw [HW.out]
    refine ⟨(RowV.four_new w _ _ _ _ _).below ((Below.refl _ _).alloc (Nat.le_refl _) _) (by simp), ?_, ((Below.refl _ _).alloc (Nat.le_refl _) _).alloc (by simp) _, by simp⟩
    have := RowV.four_new (w.alloc (.cells #[.int .i64 K, .int .i64 A, .string S, .string T] 58)) (.int .i64 0) (.int .i64 0) (.string ⟨#[]⟩) (.string ⟨#[]⟩) 58
    simpa using this
  rw [← HW.out]
  clear HW
  have hpd : CopyAt w W.drew K A S T := hp.below ((Below.refl _ _).drew)
  obtain ⟨c0, c1, c2, c3⟩ := hp.own.cells4
  clear hp
  go_region_with (first | (go_at_call 101; refine (HC.out _ _ (by omega) (by first | exact hpd | assumption)).mono ?_; rintro e w1 ⟨rfl, hp1⟩; obtain ⟨e0, e1, e2, e3⟩ := hp1.own.cells4; obtain ⟨f0, f1, f2, f3⟩ := hp1.own.open4))
  all_goals
    have hq := hp1.set2.set3
    obtain ⟨W2, HW2⟩ : ∃ W2, Hid (W2 = (w1.setCell ⟨w.heap.size, 2, none⟩ (.string S)).setCell ⟨w.heap.size, 3, none⟩ (.string T)) := ⟨_, rfl⟩
    rw [← HW2.out] at hq ⊢
    clear HW2 hp1 e0 e1 e2 e3 f0 f1 f2 f3 c0 c1 c2 c3 hpd
    obtain ⟨x0, x1, x2, x3⟩ := hq.own.cells4
    obtain ⟨y0, y1, y2, y3⟩ := hq.res.cells4
    obtain ⟨g0, g1, g2, g3⟩ := hq.res.open4
    go_wp2
    have hr := (((hq.res.set0_4 (.int .i64 K)).set1_4 (.int .i64 A)).set2_4 (.string S)).set3_4 (.string T)
    have br := (((hq.bel.setCell (p := ⟨w.heap.size + 1, 0, none⟩) (by show w.heap.size ≤ w.heap.size + 1; omega) (.int .i64 K)).setCell (p := ⟨w.heap.size + 1, 1, none⟩) (by show w.heap.size ≤ w.heap.size + 1; omega) (.int .i64 A)).setCell (p := ⟨w.heap.size + 1, 2, none⟩) (by show w.heap.size ≤ w.heap.size + 1; omega) (.string S)).setCell (p := ⟨w.heap.size + 1, 3, none⟩) (by show w.heap.size ≤ w.heap.size + 1; omega) (.string T)
    obtain ⟨WX, HWX⟩ : ∃ WX, Hid (WX = ((((W2.setCell ⟨w.heap.size + 1, 0, none⟩ (.int .i64 K)).setCell ⟨w.heap.size + 1, 1, none⟩ (.int .i64 A)).setCell ⟨w.heap.size + 1, 2, none⟩ (.string S)).setCell ⟨w.heap.size + 1, 3, none⟩ (.string T))) := ⟨_, rfl⟩
    rw [← HWX.out] at hr br ⊢
    obtain ⟨r0, r1, r2, r3⟩ := hr.cells4
    refine bodyPost_ret (v := .agg #[.int .i64 K, .int .i64 A, .string S, .string T]) (by simp [results, Tryz.results55, go_sem, r0, r1, r2, r3]) rfl ?_
    exact ⟨rfl, br⟩

end Go.Proofs.YtgkfdakieebnmaaGreat
