/-
  The arm of one that flushes.
-/
import Derived.Test.YthmhigjdjclckaaBase10C
import Derived.Deep.RegionHeld3
import Derived.Lib.QuietBelow
import Derived.BigQuiet
namespace Go.Proofs.Ythmhigjdjclckaa
open Go.RowKit
set_option linter.unusedVariables false
set_option linter.unusedSimpArgs false

section
variable {W : World} {p q : Nat} {S D : Nat → Prop} {l : LG} {d : DG} {rs : List ByteArray} {sure kept mark j : Nat} {ta : Option Addr}

theorem OneS.flushed {W X Y : World} {p q : Nat} {S D S1 D1 D2 : Nat → Prop} {l : LG} {d : DG} {rs ts : List ByteArray} {sure kept mark j : Nat} {ta : Option Addr} {m4 : Array Value} {a : AcV} (h : OneS W X p q S D S1 D1 l d rs ts sure kept mark j ta m4 a) (hl : IsLog Y q S1 { l with flushed := l.bytes.length }) (hd : IsDisk Y p D2 (flushD l d)) (ho : ∀ k, S1 k → ¬ D2 k) (hn : ∀ k, D2 k → D1 k ∨ X.heap.size ≤ k) (hk : Kept (fun k => S1 k ∨ D1 k) X Y) :
    OneS W Y p q S D S1 D2 { l with flushed := l.bytes.length } (flushD l d) rs ts rs.length kept mark (j + 1) ta m4 a := by
  have hm : Moves (fun k => S1 k ∨ D1 k) (fun k => S1 k ∨ D2 k) X Y := ⟨hk, fun k x => by
    rcases x with x | x
    · exact .inl (.inl x)
    · rcases hn k x with y | y
      · exact .inl (.inr y)
      · exact .inr y⟩
  refine ⟨h.wp.flushed hl hd ho, ?_, fun hne x hx => ⟨(h.off hne x hx).1, fun y => ?_⟩, h.far, h.inn.moves hm⟩
  · by_cases e : ts = []
    · subst e; exact .inl rfl
    · exact h.tx.same (fun x hx hl => hk.block _ hl (fun y => by
        rcases y with y | y
        · exact (h.off e x hx).1 y
        · exact (h.off e x hx).2 y)) hk.size
  · rcases hn _ y with z | z
    · exact (h.off hne x hx).2 z
    · rcases h.tx with e | ⟨g, o, e', hb, _⟩
      · exact hne e
      · rw [e'] at hx
        obtain rfl := Option.some.inj hx
        simp only at z
        omega

set_option maxHeartbeats 3200000 in
set_option maxRecDepth 8000 in
theorem one_flush_all (h : WpL W p q S D l d rs sure kept mark j) (hj : j ≤ 100) (hT : TextsAt W ta rs) (hO : TOff rs ta S D) (tc : Nat) (hc : rs.length ≤ tc) (N : Int) (s : ByteArray) (x : Nat) (f1 : Int) (f2 : Nat) (f3 f4 f5 : Int) (hsu : sure = rs.length) :
    Calls Try.prog 8 #[.pointer (some ⟨p, 0, none⟩), .pointer (some ⟨q, 0, none⟩), .agg #[.slice ta rs.length tc, .int .i64 sure, .int .i64 kept, .int .u64 mark], .agg #[.int .i64 4, .int .i64 N, .string s, .int .u64 x, .int .i64 f1, .int .u64 f2, .int .i64 f3, .int .i64 f4, .int .i64 f5]] W fun e w' => OneOut W p S D j e w' := by
  obtain ⟨X, HX⟩ : ∃ X, Hid (X = ((W.alloc (.cells (mCells ta rs.length tc sure kept mark) 34)).alloc (.cells (AcV.cells ⟨4, N, s, x, f1, f2, f3, f4, f5⟩) 40)).alloc (.cells zero4 34)) := ⟨_, rfl⟩
  have HS : Hid (OneS W X p q S D S D l d rs rs sure kept mark j ta (mCells ta rs.length tc sure kept mark) ⟨4, N, s, x, f1, f2, f3, f4, f5⟩) := by rw [HX.out]; exact OneS.start h hT hO _ _
  unfold mCells AcV.cells zero4 at HX
  simp only at HX
  have hfit := h.fits
  have hkk := h.keeps
  have hcn := h.cnt
  have hlg := h.long
  subst hsu
  have HC := hid (flush_none HS.out.wp.log h.flle h.blen x (.inl (by have := h.flu; omega)))
  have k0 : decide ((rs.length : Int) < (rs.length : Int)) = false := by simp
  clear h hT hO
  have a0 : X.cell? ⟨W.heap.size + 1, 0, none⟩ = some (.int .i64 4) := HS.out.inn.b1.cell 0
  have a1 : X.cell? ⟨W.heap.size + 1, 1, none⟩ = some (.int .i64 N) := HS.out.inn.b1.cell 1
  have a2 : X.cell? ⟨W.heap.size + 1, 2, none⟩ = some (.string s) := HS.out.inn.b1.cell 2
  have a3 : X.cell? ⟨W.heap.size + 1, 3, none⟩ = some (.int .u64 x) := HS.out.inn.b1.cell 3
  go_enter Try.func8, Try.ntmps8
  go_upto_region 1 with fail
  rw [← HX.out]
  clear HX
  go_wp2_with fail
  refine HC.out.mono ?_
  rintro e w1 ⟨rfl, b1⟩
  have HS1 := hid (HS.out.next.below b1)
  clear HC HS b1 a0 a1 a2 a3
  obtain ⟨v0, v1, v2, v3⟩ := mcells HS1.out.inn.b0
  have g0 := cell_regrown v0
  have g1 := cell_regrown v1
  clear v0 v1 v2 v3
  go_upto_region 29 with fail
  refine wp_region_quiet_below wmixed (by kernel_rfl) ?_
  repeat (first | go_big_quiet_step (fail) | quiet_step (fail))
  refine wpQuiet_nil ?_
  intro _ hw'
  obtain ⟨⟨dq, osq⟩, hw''⟩ := hw'
  have b7 := below_regrown w1 dq osq
  rw [← hw''] at b7
  rename_i w2
  have HS2 := hid (HS1.out.below b7)
  clear hw'' g0 g1 b7 HS1
  go_upto_region 31 with fail
  obtain ⟨v0, v1, v2, v3⟩ := mcells HS2.out.inn.b0
  obtain ⟨z0, z1, z2, z3, y0, y1, y2, y3⟩ := zcells HS2.out.inn.b2
  go_region
  go_wp2_with fail
  refine bodyPost_ret (v := .tuple #[.pointer (some ⟨q, 0, none⟩), .agg #[.slice ta rs.length tc, .int .i64 rs.length, .int .i64 kept, .int .u64 mark], .bool true]) (by simp [results, Try.results8, go_sem, z0, z1, z2, z3]) rfl ?_
  exact HS2.out.done (((((Only3.refl _ _).set _ ⟨by omega, by omega⟩).set _ ⟨by omega, by omega⟩).set _ ⟨by omega, by omega⟩).set _ ⟨by omega, by omega⟩).drew tc hc

set_option maxHeartbeats 3200000 in
set_option maxRecDepth 8000 in
theorem one_flush_none (h : WpL W p q S D l d rs sure kept mark j) (hj : j ≤ 100) (hT : TextsAt W ta rs) (hO : TOff rs ta S D) (tc : Nat) (hc : rs.length ≤ tc) (N : Int) (s : ByteArray) (x : Nat) (f1 : Int) (f2 : Nat) (f3 f4 f5 : Int) (hsu : sure < rs.length) (hx : x < placeOf rs sure) :
    Calls Try.prog 8 #[.pointer (some ⟨p, 0, none⟩), .pointer (some ⟨q, 0, none⟩), .agg #[.slice ta rs.length tc, .int .i64 sure, .int .i64 kept, .int .u64 mark], .agg #[.int .i64 4, .int .i64 N, .string s, .int .u64 x, .int .i64 f1, .int .u64 f2, .int .i64 f3, .int .i64 f4, .int .i64 f5]] W fun e w' => OneOut W p S D j e w' := by
  obtain ⟨X, HX⟩ : ∃ X, Hid (X = ((W.alloc (.cells (mCells ta rs.length tc sure kept mark) 34)).alloc (.cells (AcV.cells ⟨4, N, s, x, f1, f2, f3, f4, f5⟩) 40)).alloc (.cells zero4 34)) := ⟨_, rfl⟩
  have HS : Hid (OneS W X p q S D S D l d rs rs sure kept mark j ta (mCells ta rs.length tc sure kept mark) ⟨4, N, s, x, f1, f2, f3, f4, f5⟩) := by rw [HX.out]; exact OneS.start h hT hO _ _
  unfold mCells AcV.cells zero4 at HX
  simp only at HX
  have hfit := h.fits
  have hkk := h.keeps
  have hcn := h.cnt
  have hlg := h.long
  have HC := hid (flush_none HS.out.wp.log h.flle h.blen x (.inr (by have := h.flu; omega)))
  have HSZ := hid h.sized
  have k0 : decide ((sure : Int) < (rs.length : Int)) = true := by simp; omega
  have kx : decide (((placeOf rs sure : Nat) : Int) ≤ (x : Int)) = false := by simp; omega
  have i0 : (0 : Int) ≤ sure := by omega
  have i1 : (sure : Int) < (rs.length : Int) + 1 := by omega
  clear h hT hO
  have a0 : X.cell? ⟨W.heap.size + 1, 0, none⟩ = some (.int .i64 4) := HS.out.inn.b1.cell 0
  have a1 : X.cell? ⟨W.heap.size + 1, 1, none⟩ = some (.int .i64 N) := HS.out.inn.b1.cell 1
  have a2 : X.cell? ⟨W.heap.size + 1, 2, none⟩ = some (.string s) := HS.out.inn.b1.cell 2
  have a3 : X.cell? ⟨W.heap.size + 1, 3, none⟩ = some (.int .u64 x) := HS.out.inn.b1.cell 3
  go_enter Try.func8, Try.ntmps8
  go_upto_region 1 with fail
  rw [← HX.out]
  clear HX
  go_wp2_with fail
  refine HC.out.mono ?_
  rintro e w1 ⟨rfl, b1⟩
  have HS1 := hid (HS.out.next.below b1)
  clear HC HS b1 a0 a1 a2 a3
  obtain ⟨v0, v1, v2, v3⟩ := mcells HS1.out.inn.b0
  have a3 : w1.cell? ⟨W.heap.size + 1, 3, none⟩ = some (.int .u64 x) := HS1.out.inn.b1.cell 3
  have HKEEP : Hid (∀ wy, Below w1.heap.size w1 wy → (fun wy : World => (wy.cell? ⟨W.heap.size, 0, none⟩ = some (.slice ta rs.length tc) ∧ wy.cell? ⟨W.heap.size, 1, none⟩ = some (.int .i64 sure) ∧ wy.cell? ⟨W.heap.size, 2, none⟩ = some (.int .i64 kept) ∧ wy.cell? ⟨W.heap.size, 3, none⟩ = some (.int .u64 mark)) ∧ wy.cell? ⟨W.heap.size + 1, 3, none⟩ = some (.int .u64 x)) wy) := fun wy c => ⟨mcells (HS1.out.below c).inn.b0, (HS1.out.below c).inn.b1.cell 3⟩
  have HAT := hid (at_any w1.drew ta tc rs sure kept mark (HS1.out.tx.below ((Below.refl _ _).drew)) HSZ.out (by omega))
  go_upto_region 29 with fail
  refine wp_region_noPanic ?_
  refine wp_region_held_drew (S := (fun wy : World => (wy.cell? ⟨W.heap.size, 0, none⟩ = some (.slice ta rs.length tc) ∧ wy.cell? ⟨W.heap.size, 1, none⟩ = some (.int .i64 sure) ∧ wy.cell? ⟨W.heap.size, 2, none⟩ = some (.int .i64 kept) ∧ wy.cell? ⟨W.heap.size, 3, none⟩ = some (.int .u64 mark)) ∧ wy.cell? ⟨W.heap.size + 1, 3, none⟩ = some (.int .u64 x))) wmixed ⟨⟨v0, v1, v2, v3⟩, a3⟩ (fun hH => ?_)
  clear v0 v1 v2 v3 a3
  refine wpAnyH_take (i := 0) (v := (.pointer (some ⟨W.heap.size, 1, none⟩))) (by simp only [List.getElem?_toArray, List.getElem?_cons_zero]; rfl) (by kernel_rfl) (by kernel_rfl) (by kernel_rfl) (fun _ _ _ h => h) (Or.inl ⟨by rfl, ?_⟩) hH ?_
  · intro wz hSw
    obtain ⟨⟨p0, p1, p2, p3⟩, pa⟩ := hSw
    go_simp
  try simp only [Act.put, List.setIfInBounds_toArray, List.set_cons_zero, List.set_cons_succ]
  refine wpAnyH_take (i := 1) (v := (.int .i64 sure)) (by simp only [List.getElem?_toArray, List.getElem?_cons_succ, List.getElem?_cons_zero]; rfl) (by kernel_rfl) (by kernel_rfl) (by kernel_rfl) (fun _ _ _ h => h) (Or.inl ⟨by rfl, ?_⟩) hH ?_
  · intro wz hSw
    obtain ⟨⟨p0, p1, p2, p3⟩, pa⟩ := hSw
    go_simp
  try simp only [Act.put, List.setIfInBounds_toArray, List.set_cons_zero, List.set_cons_succ]
  refine wpAnyH_take (i := 2) (v := (.pointer (some ⟨W.heap.size, 0, none⟩))) (by simp only [List.getElem?_toArray, List.getElem?_cons_succ, List.getElem?_cons_zero]; rfl) (by kernel_rfl) (by kernel_rfl) (by kernel_rfl) (fun _ _ _ h => h) (Or.inl ⟨by rfl, ?_⟩) hH ?_
  · intro wz hSw
    obtain ⟨⟨p0, p1, p2, p3⟩, pa⟩ := hSw
    go_simp
  try simp only [Act.put, List.setIfInBounds_toArray, List.set_cons_zero, List.set_cons_succ]
  refine wpAnyH_take (i := 3) (v := (.slice ta rs.length tc)) (by simp only [List.getElem?_toArray, List.getElem?_cons_succ, List.getElem?_cons_zero]; rfl) (by kernel_rfl) (by kernel_rfl) (by kernel_rfl) (fun _ _ _ h => h) (Or.inl ⟨by rfl, ?_⟩) hH ?_
  · intro wz hSw
    obtain ⟨⟨p0, p1, p2, p3⟩, pa⟩ := hSw
    go_simp
  try simp only [Act.put, List.setIfInBounds_toArray, List.set_cons_zero, List.set_cons_succ]
  refine wpAnyH_take (i := 4) (v := (.int .i64 (rs.length : Int))) (by simp only [List.getElem?_toArray, List.getElem?_cons_succ, List.getElem?_cons_zero]; rfl) (by kernel_rfl) (by kernel_rfl) (by kernel_rfl) (fun _ _ _ h => h) (Or.inl ⟨by rfl, ?_⟩) hH ?_
  · intro wz hSw
    obtain ⟨⟨p0, p1, p2, p3⟩, pa⟩ := hSw
    go_simp
  try simp only [Act.put, List.setIfInBounds_toArray, List.set_cons_zero, List.set_cons_succ]
  refine wpAnyH_take (i := 5) (v := (.bool true)) (by simp only [List.getElem?_toArray, List.getElem?_cons_succ, List.getElem?_cons_zero]; rfl) (by kernel_rfl) (by kernel_rfl) (by kernel_rfl) (fun _ _ _ h => h) (Or.inl ⟨by rfl, ?_⟩) hH ?_
  · intro wz hSw
    obtain ⟨⟨p0, p1, p2, p3⟩, pa⟩ := hSw
    go_simp
  try simp only [Act.put, List.setIfInBounds_toArray, List.set_cons_zero, List.set_cons_succ]
  refine wpAnyH_take (i := 6) (v := (.bool true)) (by simp only [List.getElem?_toArray, List.getElem?_cons_succ, List.getElem?_cons_zero]; rfl) (by kernel_rfl) (by kernel_rfl) (by kernel_rfl) (fun _ _ _ h => h) (Or.inl ⟨by rfl, ?_⟩) hH ?_
  · intro wz hSw
    obtain ⟨⟨p0, p1, p2, p3⟩, pa⟩ := hSw
    go_simp
  try simp only [Act.put, List.setIfInBounds_toArray, List.set_cons_zero, List.set_cons_succ]
  refine wpAnyH_take (i := 7) (v := (.pointer (some ⟨W.heap.size + 1, 3, none⟩))) (by simp only [List.getElem?_toArray, List.getElem?_cons_succ, List.getElem?_cons_zero]; rfl) (by kernel_rfl) (by kernel_rfl) (by kernel_rfl) (fun _ _ _ h => h) (Or.inl ⟨by rfl, ?_⟩) hH ?_
  · intro wz hSw
    obtain ⟨⟨p0, p1, p2, p3⟩, pa⟩ := hSw
    go_simp
  try simp only [Act.put, List.setIfInBounds_toArray, List.set_cons_zero, List.set_cons_succ]
  refine wpAnyH_take (i := 8) (v := (.int .u64 x)) (by simp only [List.getElem?_toArray, List.getElem?_cons_succ, List.getElem?_cons_zero]; rfl) (by kernel_rfl) (by kernel_rfl) (by kernel_rfl) (fun _ _ _ h => h) (Or.inl ⟨by rfl, ?_⟩) hH ?_
  · intro wz hSw
    obtain ⟨⟨p0, p1, p2, p3⟩, pa⟩ := hSw
    go_simp
  try simp only [Act.put, List.setIfInBounds_toArray, List.set_cons_zero, List.set_cons_succ]
  refine wpAnyH_take (i := 9) (v := (.agg #[.slice ta rs.length tc, .int .i64 sure, .int .i64 kept, .int .u64 mark])) (by simp only [List.getElem?_toArray, List.getElem?_cons_succ, List.getElem?_cons_zero]; rfl) (by kernel_rfl) (by kernel_rfl) (by kernel_rfl) (fun _ _ _ h => h) (Or.inl ⟨by rfl, ?_⟩) hH ?_
  · intro wz hSw
    obtain ⟨⟨p0, p1, p2, p3⟩, pa⟩ := hSw
    go_simp
  try simp only [Act.put, List.setIfInBounds_toArray, List.set_cons_zero, List.set_cons_succ]
  refine wpAnyH_take (i := 11) (v := (.pointer (some ⟨W.heap.size, 1, none⟩))) (by simp only [List.getElem?_toArray, List.getElem?_cons_succ, List.getElem?_cons_zero]; rfl) (by kernel_rfl) (by kernel_rfl) (by kernel_rfl) (fun _ _ _ h => h) (Or.inl ⟨by rfl, ?_⟩) hH ?_
  · intro wz hSw
    obtain ⟨⟨p0, p1, p2, p3⟩, pa⟩ := hSw
    go_simp
  try simp only [Act.put, List.setIfInBounds_toArray, List.set_cons_zero, List.set_cons_succ]
  refine wpAnyH_take (i := 12) (v := (.int .i64 sure)) (by simp only [List.getElem?_toArray, List.getElem?_cons_succ, List.getElem?_cons_zero]; rfl) (by kernel_rfl) (by kernel_rfl) (by kernel_rfl) (fun _ _ _ h => h) (Or.inl ⟨by rfl, ?_⟩) hH ?_
  · intro wz hSw
    obtain ⟨⟨p0, p1, p2, p3⟩, pa⟩ := hSw
    go_simp
  try simp only [Act.put, List.setIfInBounds_toArray, List.set_cons_zero, List.set_cons_succ]
  refine wpAnyH_ready (rs := [10]) (by kernel_rfl) (by simp) ?_
  refine AllReadyH.cons (i := 10) (by simp only [List.getElem?_toArray, List.getElem?_cons_succ, List.getElem?_cons_zero]; rfl) (fun K hK => ?_) AllReadyH.nil
  go_simp
  refine HAT.out.mono ?_
  rintro y w6 ⟨g, c, rfl, b6, hc6⟩
  have hr6 := hc6 sure (by omega)
  have HB6 := hid (below_chain ((Below.refl _ _).drew) b6)
  clear b6 hc6 HAT
  refine hK.out _ _ (HKEEP.out _ HB6.out) (fun hH6 => ?_)
  clear hK K hH
  try simp only [Act.put, List.setIfInBounds_toArray, List.set_cons_zero, List.set_cons_succ]
  refine wpAnyH_take (i := 13) (v := (.pointer (some ⟨g, sure, none⟩))) (by simp only [List.getElem?_toArray, List.getElem?_cons_succ, List.getElem?_cons_zero]; rfl) (by kernel_rfl) (by kernel_rfl) (by kernel_rfl) (fun _ _ _ h => h) (Or.inl ⟨by rfl, ?_⟩) hH6 ?_
  · intro wz hSw
    obtain ⟨⟨p0, p1, p2, p3⟩, pa⟩ := hSw
    go_simp
  try simp only [Act.put, List.setIfInBounds_toArray, List.set_cons_zero, List.set_cons_succ]
  refine wpAnyH_ready (rs := [14]) (by kernel_rfl) (by simp) ?_
  refine AllReadyH.cons (i := 14) (by simp only [List.getElem?_toArray, List.getElem?_cons_succ, List.getElem?_cons_zero]; rfl) (fun K hK => ?_) AllReadyH.nil
  go_simp
  refine hK.out _ _ (HKEEP.out _ HB6.out) (fun hH7 => ?_)
  clear hK K hH6
  try simp only [Act.put, List.setIfInBounds_toArray, List.set_cons_zero, List.set_cons_succ]
  refine wpAnyH_take (i := 15) (v := (.bool false)) (by simp only [List.getElem?_toArray, List.getElem?_cons_succ, List.getElem?_cons_zero]; rfl) (by kernel_rfl) (by kernel_rfl) (by kernel_rfl) (fun _ _ _ h => h) (Or.inl ⟨by rfl, ?_⟩) hH7 ?_
  · intro wz hSw
    obtain ⟨⟨p0, p1, p2, p3⟩, pa⟩ := hSw
    go_simp
  try simp only [Act.put, List.setIfInBounds_toArray, List.set_cons_zero, List.set_cons_succ]
  refine wpAnyH_take (i := 16) (v := (.bool false)) (by simp only [List.getElem?_toArray, List.getElem?_cons_succ, List.getElem?_cons_zero]; rfl) (by kernel_rfl) (by kernel_rfl) (by kernel_rfl) (fun _ _ _ h => h) (Or.inl ⟨by rfl, ?_⟩) hH7 ?_
  · intro wz hSw
    obtain ⟨⟨p0, p1, p2, p3⟩, pa⟩ := hSw
    go_simp
  try simp only [Act.put, List.setIfInBounds_toArray, List.set_cons_zero, List.set_cons_succ]
  refine wpAnyH_done (by kernel_rfl) ?_ _
  refine NoPanic.normal ?_
  have HS6 := hid (HS1.out.below HB6.out)
  clear HB6 HKEEP hH7 hr6 HS1
  go_upto_region 31 with fail
  obtain ⟨v0, v1, v2, v3⟩ := mcells HS6.out.inn.b0
  obtain ⟨z0, z1, z2, z3, y0, y1, y2, y3⟩ := zcells HS6.out.inn.b2
  go_region
  go_wp2_with fail
  refine bodyPost_ret (v := .tuple #[.pointer (some ⟨q, 0, none⟩), .agg #[.slice ta rs.length tc, .int .i64 sure, .int .i64 kept, .int .u64 mark], .bool true]) (by simp [results, Try.results8, go_sem, z0, z1, z2, z3]) rfl ?_
  exact HS6.out.done (((((Only3.refl _ _).set _ ⟨by omega, by omega⟩).set _ ⟨by omega, by omega⟩).set _ ⟨by omega, by omega⟩).set _ ⟨by omega, by omega⟩).drew tc hc

end

end Go.Proofs.Ythmhigjdjclckaa
