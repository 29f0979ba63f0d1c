/-
  Where one stands when a record is put: a fourth variable, the model behind it.
  The arms of one that put a record.
  The arms of one that put a record, where it is refused.
  The arms of one that put a record of the room that is kept.
  The arms of one that put a record of the room that is kept, where it is refused.
-/
import Derived.Test.YthmhigjdjclckaaWalP6bC
import Derived.Test.YthmhigjdjclckaaWalModel5C
namespace Go.Proofs.Ythmhigjdjclckaa
open Go.RowKit
set_option linter.unusedVariables false

section
variable {W X Y : World} {p q b : Nat} {S D S1 D1 : Nat → Prop} {l : LG} {d : DG} {rs ts : List ByteArray} {sure kept mark j : Nat} {ta : Option Addr} {m4 k4 : Array Value} {a : AcV}

theorem WpL.setb (h : WpL X p q S1 D1 l d rs sure kept mark j) (hb : ∀ k, S1 k ∨ D1 k → k ≠ b) (i : Nat) (v : Value) : WpL (X.setCell ⟨b, i, none⟩ v) p q S1 D1 l d rs sure kept mark j :=
  ⟨h.log.same (fun k hk => heap_set _ _ _ _ (hb k (.inl hk))) (by simp), h.disk.same (fun k hk => heap_set _ _ _ _ (hb k (.inr hk))) (by simp), h.dp, h.off, h.bytes, h.recs, h.half, h.keeps, h.fits, h.sz, h.cnt, h.su, h.fl, h.dlog, h.dead, h.plan, h.calls, h.ok, h.loose, h.sl, h.nS, h.mrk, h.sm, h.mkp, h.mz⟩

theorem Moves.setNew (h : Moves S S1 W X) (hb : W.heap.size ≤ b) (i : Nat) (v : Value) : Moves S S1 W (X.setCell ⟨b, i, none⟩ v) :=
  ⟨⟨h.1.os, h.1.tape, h.1.output, by simpa using h.1.size, fun k hk hs => (heap_set _ _ _ _ (by omega)).trans (h.1.block k hk hs)⟩, h.2⟩

/-- Where one stands, with the model k in block b. -/
structure OneK (W X : World) (p q : Nat) (S D S1 D1 : Nat → Prop) (l : LG) (d : DG) (rs ts : List ByteArray) (sure kept mark j : Nat) (ta : Option Addr) (m4 : Array Value) (a : AcV) (b : Nat) (k4 : Array Value) : Prop where
  s : OneS W X p q S D S1 D1 l d rs ts sure kept mark j ta m4 a
  kb : Blk X b k4 34
  bn : W.heap.size + 1 + 1 < b
  bo : ∀ k, S1 k ∨ D1 k → k ≠ b
  bt : ts ≠ [] → ∀ x, ta = some x → x.block ≠ b

theorem OneK.start (h : OneS W X p q S D S1 D1 l d rs ts sure kept mark j ta m4 a) (k4 : Array Value) : OneK W (X.alloc (.cells k4 34)) p q S D S1 D1 l d rs ts sure kept mark j ta m4 a X.heap.size k4 := by
  have b : Below X.heap.size X (X.alloc (.cells k4 34)) := (Below.refl _ _).alloc (Nat.le_refl _) _
  refine ⟨h.below b, Blk.made X _ _, h.inn.lt, fun k hk e => ?_, fun hne x hx e => ?_⟩
  · rcases hk with y | y
    · have := h.wp.log.lt y; omega
    · have := h.wp.disk.lt y; omega
  · rcases h.tx with y | ⟨g, o, e', hb, _⟩
    · exact absurd y hne
    · rw [e'] at hx
      obtain rfl := Option.some.inj hx
      simp only at e
      omega

theorem OneK.below (h : OneK W X p q S D S1 D1 l d rs ts sure kept mark j ta m4 a b k4) (c : Below X.heap.size X Y) : OneK W Y p q S D S1 D1 l d rs ts sure kept mark j ta m4 a b k4 :=
  ⟨h.s.below c, h.kb.same (c.block _ h.kb.lt), h.bn, h.bo, h.bt⟩

theorem OneK.setk (h : OneK W X p q S D S1 D1 l d rs ts sure kept mark j ta m4 a b k4) (i : Nat) (v : Value) : OneK W (X.setCell ⟨b, i, none⟩ v) p q S D S1 D1 l d rs ts sure kept mark j ta m4 a b (k4.setIfInBounds i v) := by
  have hb := h.bn
  refine ⟨⟨h.s.wp.setb h.bo i v, ?_, h.s.off, h.s.far, ⟨h.s.inn.b0.same (heap_set _ _ _ _ (by omega)), h.s.inn.b1.same (heap_set _ _ _ _ (by omega)), h.s.inn.b2.same (heap_set _ _ _ _ (by omega)), h.s.inn.mv.setNew (by omega) i v, h.s.inn.lo⟩⟩, h.kb.set i v, h.bn, h.bo, h.bt⟩
  by_cases e : ts = []
  · subst e; exact .inl rfl
  · exact h.s.tx.same (fun x hx hl => heap_set _ _ _ _ (h.bt e x hx)) (by simp)

/-- A record was put into the log. -/
theorem OneK.pushed (h : OneK W X p q S D S1 D1 l d rs ts sure kept mark j ta m4 a b k4) {S2 : Nat → Prop} {s : ByteArray} {k' : Nat} (hl : IsLog Y q S2 { putG l s with kept := k' }) (hm : Moves S1 S2 X Y) (h1 : 1 ≤ s.size) (h2 : s.size ≤ 8192) (hf : l.bytes.length + (s.size + 12) + k' ≤ 4194304) :
    OneK W Y p q S D S2 D1 { putG l s with kept := k' } d (rs ++ [s]) ts sure k' mark (j + 1) ta m4 a b k4 := by
  have hnew : ∀ k, S2 k → S1 k ∨ X.heap.size ≤ k := hm.2
  have hlt := h.kb.lt
  refine ⟨⟨h.s.wp.push hl hm h1 h2 hf, ?_, fun hne x hx => ⟨fun y => ?_, (h.s.off hne x hx).2⟩, h.s.far, h.s.inn.moves hm.left⟩, h.kb.same (hm.1.block b hlt fun y => h.bo b (.inl y) rfl), h.bn, fun k hk e => ?_, h.bt⟩
  · by_cases e : ts = []
    · subst e; exact .inl rfl
    · exact h.s.tx.same (fun x hx hl => hm.1.block _ hl (h.s.off e x hx).1) hm.1.size
  · rcases hnew _ y with z | z
    · exact (h.s.off hne x hx).1 z
    · rcases h.s.tx with e | ⟨g, o, e', hb, _⟩
      · exact hne e
      · rw [e'] at hx
        obtain rfl := Option.some.inj hx
        simp only at z
        omega
  · rcases hk with y | y
    · rcases hnew k y with z | z
      · exact h.bo k (.inl z) e
      · omega
    · exact h.bo k (.inr y) e

/-- The model has it, too. -/
theorem OneK.texts (h : OneK W X p q S D S1 D1 l d rs ts sure kept mark j ta m4 a b k4) (c : Below X.heap.size X Y) {ta' : Option Addr} {ts' : List ByteArray} (hT : TextsAt Y ta' ts') (hN : NewAt X.heap.size ta') : OneK W Y p q S D S1 D1 l d rs ts' sure kept mark j ta' m4 a b k4 := by
  have hs := h.s.inn.lt
  have hk := h.kb.lt
  have h' := h.below c
  exact ⟨⟨h'.s.wp, hT, fun _ x hx => ⟨fun y => by have := h.s.wp.log.lt y; have := hN x hx; omega, fun y => by have := h.s.wp.disk.lt y; have := hN x hx; omega⟩, fun _ x hx => .inr (by have := hN x hx; omega), h'.s.inn⟩, h'.kb, h.bn, h.bo, fun _ x hx e => by have := hN x hx; omega⟩

theorem OneK.next (h : OneK W X p q S D S1 D1 l d rs ts sure kept mark j ta m4 a b k4) : OneK W X p q S D S1 D1 l d rs ts sure kept mark (j + 1) ta m4 a b k4 := ⟨h.s.next, h.kb, h.bn, h.bo, h.bt⟩

end

end Go.Proofs.Ythmhigjdjclckaa

namespace Go.Proofs.Ythmhigjdjclckaa
open Go.RowKit
set_option linter.unusedVariables false
set_option linter.unusedSimpArgs false

section
variable {W : World} {p q : Nat} {S D : Nat → Prop} {l : LG} {d : DG} {rs : List ByteArray} {sure kept mark j : Nat} {ta : Option Addr}

set_option maxHeartbeats 3200000 in
set_option maxRecDepth 8000 in
theorem one_append_ok (h : WpL W p q S D l d rs sure kept mark j) (hj : j ≤ 100) (hT : TextsAt W ta rs) (hO : TOff rs ta S D) (tc : Nat) (hc : rs.length ≤ tc) (N : Int) (s : ByteArray) (x : Nat) (f1 : Int) (f2 : Nat) (f3 f4 f5 : Int) (h1 : 1 ≤ s.size) (h2 : s.size ≤ 8192) (hm : s.size + 12 + kept + l.bytes.length ≤ 4194304) :
    Calls Try.prog 8 #[.pointer (some ⟨p, 0, none⟩), .pointer (some ⟨q, 0, none⟩), .agg #[.slice ta rs.length tc, .int .i64 sure, .int .i64 kept, .int .u64 mark], .agg #[.int .i64 0, .int .i64 N, .string s, .int .u64 x, .int .i64 f1, .int .u64 f2, .int .i64 f3, .int .i64 f4, .int .i64 f5]] W fun e w' => OneOut W p S D j e w' := by
  obtain ⟨X, HX⟩ : ∃ X, Hid (X = ((W.alloc (.cells (mCells ta rs.length tc sure kept mark) 34)).alloc (.cells (AcV.cells ⟨0, N, s, x, f1, f2, f3, f4, f5⟩) 40)).alloc (.cells zero4 34)) := ⟨_, rfl⟩
  have HS : Hid (OneS W X p q S D S D l d rs rs sure kept mark j ta (mCells ta rs.length tc sure kept mark) ⟨0, N, s, x, f1, f2, f3, f4, f5⟩) := by rw [HX.out]; exact OneS.start h hT hO _ _
  unfold mCells AcV.cells zero4 at HX
  simp only at HX
  have hfit := h.fits
  have hkk := h.keeps
  have hcn := h.cnt
  have hlg := h.long
  have hsz := h.sized
  have HSZ := hid hsz
  have HPG : Hid (({ putG l s with kept := kept } : LG) = putG l s) := by show ({ putG l s with kept := kept } : LG) = putG l s; rw [← hkk]; rfl
  clear hsz
  clear h hT hO
  have a0 : X.cell? ⟨W.heap.size + 1, 0, none⟩ = some (.int .i64 0) := HS.out.inn.b1.cell 0
  have a1 : X.cell? ⟨W.heap.size + 1, 1, none⟩ = some (.int .i64 N) := HS.out.inn.b1.cell 1
  have a2 : X.cell? ⟨W.heap.size + 1, 2, none⟩ = some (.string s) := HS.out.inn.b1.cell 2
  have a3 : X.cell? ⟨W.heap.size + 1, 3, none⟩ = some (.int .u64 x) := HS.out.inn.b1.cell 3
  go_enter Try.func8, Try.ntmps8
  go_upto_region 1 with fail
  rw [← HX.out]
  clear HX
  obtain ⟨v0, v1, v2, v3⟩ := mcells HS.out.inn.b0
  obtain ⟨X1, HX1⟩ : ∃ X1, Hid (X1 = X.alloc (.cells #[.slice ta rs.length tc, .int .i64 sure, .int .i64 kept, .int .u64 mark] 34)) := ⟨_, rfl⟩
  have HK : Hid (OneK W X1 p q S D S D l d rs rs sure kept mark j ta (mCells ta rs.length tc sure kept mark) ⟨0, N, s, x, f1, f2, f3, f4, f5⟩ X.heap.size (mCells ta rs.length tc sure kept mark)) := by rw [HX1.out]; exact OneK.start HS.out _
  go_upto_region 6 with fail
  rw [← HX1.out]
  obtain ⟨b, Hb⟩ : ∃ b, Hid (X.heap.size = b) := ⟨_, rfl⟩
  rw [Hb.out] at HK
  rw [Hb.out]
  clear Hb HX1 a0 a1 a2 a3 v0 v1 v2 v3 HS
  have a0 : X1.cell? ⟨W.heap.size + 1, 0, none⟩ = some (.int .i64 0) := HK.out.s.inn.b1.cell 0
  have a2 : X1.cell? ⟨W.heap.size + 1, 2, none⟩ = some (.string s) := HK.out.s.inn.b1.cell 2
  have HCX := hid (append_out HK.out.s.wp.log HK.out.s.wp.blen (by rw [HK.out.s.wp.slen]; omega) HK.out.s.wp.klen s h1 h2 (by rw [hkk]; exact hm))
  go_wp2_with fail
  refine HCX.out.mono ?_
  rintro e w1 ⟨rfl, S2, hl1, hm1⟩
  have HK1 := hid (HK.out.pushed (k' := kept) (by rw [HPG.out]; exact hl1) hm1 h1 h2 (by omega))
  clear HK hl1 hm1 HCX a0 a2
  have a2 : w1.cell? ⟨W.heap.size + 1, 2, none⟩ = some (.string s) := HK1.out.s.inn.b1.cell 2
  obtain ⟨v0, v1, v2, v3⟩ := mcells HK1.out.s.inn.b0
  have HPX := hid (mput_ok2 w1 ta tc rs sure kept mark s HK1.out.s.tx HSZ.out (by omega) h1 h2 kept (by omega) (by omega))
  obtain ⟨u0, u1, u2, u3⟩ := mcells HK1.out.kb
  have hbn := HK1.out.bn
  have hbl := HK1.out.kb.lt
  go_wp2_with fail
  refine HPX.out.mono ?_
  rintro e w2 ⟨tb, cb, rfl, b2, hT2, hN2, hcb⟩
  have HK2 := hid (HK1.out.texts b2 hT2 hN2)
  clear hT2 hN2 b2
  clear HPX HK1 a2 v0 v1 v2 v3 u0 u1 u2 u3
  obtain ⟨u0, u1, u2, u3⟩ := mcells HK2.out.kb
  have w0 := HK2.out.kb.frozen 0
  have w1' := HK2.out.kb.frozen 1
  have w2' := HK2.out.kb.frozen 2
  have w3' := HK2.out.kb.frozen 3
  obtain ⟨V, HV⟩ : ∃ V, Hid (V = (((w2.setCell ⟨b, 0, none⟩ (.slice tb (rs.length + 1) cb)).setCell ⟨b, 1, none⟩ (.int .i64 sure)).setCell ⟨b, 2, none⟩ (.int .i64 kept)).setCell ⟨b, 3, none⟩ (.int .u64 mark)) := ⟨_, rfl⟩
  have HK3 : Hid (OneK W V p q S D S2 D { putG l s with kept := kept } d (rs ++ [s]) (rs ++ [s]) sure kept mark (j + 1) tb (mCells ta rs.length tc sure kept mark) ⟨0, N, s, x, f1, f2, f3, f4, f5⟩ b (mCells tb (rs.length + 1) cb sure kept mark)) := by rw [HV.out]; exact (((HK2.out.setk 0 _).setk 1 _).setk 2 _).setk 3 _
  go_upto_region 13 with fail
  rw [← HV.out]
  clear HV HK2 u0 u1 u2 u3 w0 w1' w2' w3'
  obtain ⟨v0, v1, v2, v3⟩ := mcells HK3.out.kb
  obtain ⟨z0, z1, z2, z3, y0, y1, y2, y3⟩ := zcells HK3.out.s.inn.b2
  have hbn2 := HK3.out.bn
  have hpl : (((l.bytes.length + 1 : Nat) : Int) == (placeOf rs rs.length : Nat)) = true := by rw [hlg]; simp
  have hpl2 : (((l.bytes.length : Int) + 1) == ((placeOf rs rs.length : Nat) : Int)) = true := by rw [beq_iff_eq]; omega
  go_region
  go_wp2_with fail
  refine bodyPost_ret (v := .tuple #[.pointer (some ⟨q, 0, none⟩), .agg #[.slice tb (rs.length + 1) cb, .int .i64 sure, .int .i64 kept, .int .u64 mark], .bool true]) (by simp [results, Try.results8, go_sem, z0, z1, z2, z3]) rfl ?_
  have hlen : (rs ++ [s]).length = rs.length + 1 := by simp
  rw [← hlen]
  exact HK3.out.s.done (((((Only3.refl _ _).set _ ⟨by omega, by omega⟩).set _ ⟨by omega, by omega⟩).set _ ⟨by omega, by omega⟩).set _ ⟨by omega, by omega⟩).drew cb (by rw [hlen]; exact hcb)

end

end Go.Proofs.Ythmhigjdjclckaa

namespace Go.Proofs.Ythmhigjdjclckaa
open Go.RowKit
set_option linter.unusedVariables false
set_option linter.unusedSimpArgs false

section
variable {W : World} {p q : Nat} {S D : Nat → Prop} {l : LG} {d : DG} {rs : List ByteArray} {sure kept mark j : Nat} {ta : Option Addr}

set_option maxHeartbeats 3200000 in
set_option maxRecDepth 8000 in
theorem one_append_no (h : WpL W p q S D l d rs sure kept mark j) (hj : j ≤ 100) (hT : TextsAt W ta rs) (hO : TOff rs ta S D) (tc : Nat) (hc : rs.length ≤ tc) (N : Int) (s : ByteArray) (x : Nat) (f1 : Int) (f2 : Nat) (f3 f4 f5 : Int) (hs1 : s.size = 0 ∨ 8192 < s.size) (hs2 : s.size ≤ maxLen) :
    Calls Try.prog 8 #[.pointer (some ⟨p, 0, none⟩), .pointer (some ⟨q, 0, none⟩), .agg #[.slice ta rs.length tc, .int .i64 sure, .int .i64 kept, .int .u64 mark], .agg #[.int .i64 0, .int .i64 N, .string s, .int .u64 x, .int .i64 f1, .int .u64 f2, .int .i64 f3, .int .i64 f4, .int .i64 f5]] W fun e w' => OneOut W p S D j e w' := by
  obtain ⟨X, HX⟩ : ∃ X, Hid (X = ((W.alloc (.cells (mCells ta rs.length tc sure kept mark) 34)).alloc (.cells (AcV.cells ⟨0, N, s, x, f1, f2, f3, f4, f5⟩) 40)).alloc (.cells zero4 34)) := ⟨_, rfl⟩
  have HS : Hid (OneS W X p q S D S D l d rs rs sure kept mark j ta (mCells ta rs.length tc sure kept mark) ⟨0, N, s, x, f1, f2, f3, f4, f5⟩) := by rw [HX.out]; exact OneS.start h hT hO _ _
  unfold mCells AcV.cells zero4 at HX
  simp only at HX
  have hfit := h.fits
  have hkk := h.keeps
  have hcn := h.cnt
  have hlg := h.long
  clear h hT hO
  have a0 : X.cell? ⟨W.heap.size + 1, 0, none⟩ = some (.int .i64 0) := HS.out.inn.b1.cell 0
  have a1 : X.cell? ⟨W.heap.size + 1, 1, none⟩ = some (.int .i64 N) := HS.out.inn.b1.cell 1
  have a2 : X.cell? ⟨W.heap.size + 1, 2, none⟩ = some (.string s) := HS.out.inn.b1.cell 2
  have a3 : X.cell? ⟨W.heap.size + 1, 3, none⟩ = some (.int .u64 x) := HS.out.inn.b1.cell 3
  go_enter Try.func8, Try.ntmps8
  go_upto_region 1 with fail
  rw [← HX.out]
  clear HX
  obtain ⟨v0, v1, v2, v3⟩ := mcells HS.out.inn.b0
  obtain ⟨X1, HX1⟩ : ∃ X1, Hid (X1 = X.alloc (.cells #[.slice ta rs.length tc, .int .i64 sure, .int .i64 kept, .int .u64 mark] 34)) := ⟨_, rfl⟩
  have HK : Hid (OneK W X1 p q S D S D l d rs rs sure kept mark j ta (mCells ta rs.length tc sure kept mark) ⟨0, N, s, x, f1, f2, f3, f4, f5⟩ X.heap.size (mCells ta rs.length tc sure kept mark)) := by rw [HX1.out]; exact OneK.start HS.out _
  go_upto_region 6 with fail
  rw [← HX1.out]
  obtain ⟨b, Hb⟩ : ∃ b, Hid (X.heap.size = b) := ⟨_, rfl⟩
  rw [Hb.out] at HK
  rw [Hb.out]
  clear Hb HX1 a0 a1 a2 a3 v0 v1 v2 v3 HS
  have a0 : X1.cell? ⟨W.heap.size + 1, 0, none⟩ = some (.int .i64 0) := HK.out.s.inn.b1.cell 0
  have a2 : X1.cell? ⟨W.heap.size + 1, 2, none⟩ = some (.string s) := HK.out.s.inn.b1.cell 2
  have HCX := hid (append_record HK.out.s.wp.log HK.out.s.wp.blen HK.out.s.wp.klen s hs1 hs2)
  go_wp2_with fail
  refine HCX.out.mono ?_
  rintro e w1 ⟨rfl, b1⟩
  have HK1 := hid (HK.out.next.below b1)
  clear HK b1 HCX a0 a2
  have a2 : w1.cell? ⟨W.heap.size + 1, 2, none⟩ = some (.string s) := HK1.out.s.inn.b1.cell 2
  obtain ⟨v0, v1, v2, v3⟩ := mcells HK1.out.s.inn.b0
  have HPX := hid (mput_no w1 ta rs.length tc sure kept mark s hs2 (by omega) kept)
  obtain ⟨u0, u1, u2, u3⟩ := mcells HK1.out.kb
  have hbn := HK1.out.bn
  have hbl := HK1.out.kb.lt
  go_wp2_with fail
  refine HPX.out.mono ?_
  rintro e w2 ⟨rfl, b2⟩
  have HK2 := hid (HK1.out.below b2)
  clear b2
  clear HPX HK1 a2 v0 v1 v2 v3 u0 u1 u2 u3
  obtain ⟨u0, u1, u2, u3⟩ := mcells HK2.out.kb
  have w0 := HK2.out.kb.frozen 0
  have w1' := HK2.out.kb.frozen 1
  have w2' := HK2.out.kb.frozen 2
  have w3' := HK2.out.kb.frozen 3
  obtain ⟨V, HV⟩ : ∃ V, Hid (V = (((w2.setCell ⟨b, 0, none⟩ (.slice ta rs.length tc)).setCell ⟨b, 1, none⟩ (.int .i64 sure)).setCell ⟨b, 2, none⟩ (.int .i64 kept)).setCell ⟨b, 3, none⟩ (.int .u64 mark)) := ⟨_, rfl⟩
  have HK3 : Hid (OneK W V p q S D S D l d rs rs sure kept mark (j + 1) ta (mCells ta rs.length tc sure kept mark) ⟨0, N, s, x, f1, f2, f3, f4, f5⟩ b (mCells ta rs.length tc sure kept mark)) := by rw [HV.out]; exact (((HK2.out.setk 0 _).setk 1 _).setk 2 _).setk 3 _
  go_upto_region 13 with fail
  rw [← HV.out]
  clear HV HK2 u0 u1 u2 u3 w0 w1' w2' w3'
  obtain ⟨v0, v1, v2, v3⟩ := mcells HK3.out.kb
  obtain ⟨z0, z1, z2, z3, y0, y1, y2, y3⟩ := zcells HK3.out.s.inn.b2
  have hbn2 := HK3.out.bn
  go_region
  go_wp2_with fail
  refine bodyPost_ret (v := .tuple #[.pointer (some ⟨q, 0, none⟩), .agg #[.slice ta rs.length tc, .int .i64 sure, .int .i64 kept, .int .u64 mark], .bool true]) (by simp [results, Try.results8, go_sem, z0, z1, z2, z3]) rfl ?_
  exact HK3.out.s.done (((((Only3.refl _ _).set _ ⟨by omega, by omega⟩).set _ ⟨by omega, by omega⟩).set _ ⟨by omega, by omega⟩).set _ ⟨by omega, by omega⟩).drew tc hc

set_option maxHeartbeats 3200000 in
set_option maxRecDepth 8000 in
theorem one_append_full (h : WpL W p q S D l d rs sure kept mark j) (hj : j ≤ 100) (hT : TextsAt W ta rs) (hO : TOff rs ta S D) (tc : Nat) (hc : rs.length ≤ tc) (N : Int) (s : ByteArray) (x : Nat) (f1 : Int) (f2 : Nat) (f3 f4 f5 : Int) (h1 : 1 ≤ s.size) (h2 : s.size ≤ 8192) (hm : 4194304 < s.size + 12 + kept + l.bytes.length) :
    Calls Try.prog 8 #[.pointer (some ⟨p, 0, none⟩), .pointer (some ⟨q, 0, none⟩), .agg #[.slice ta rs.length tc, .int .i64 sure, .int .i64 kept, .int .u64 mark], .agg #[.int .i64 0, .int .i64 N, .string s, .int .u64 x, .int .i64 f1, .int .u64 f2, .int .i64 f3, .int .i64 f4, .int .i64 f5]] W fun e w' => OneOut W p S D j e w' := by
  obtain ⟨X, HX⟩ : ∃ X, Hid (X = ((W.alloc (.cells (mCells ta rs.length tc sure kept mark) 34)).alloc (.cells (AcV.cells ⟨0, N, s, x, f1, f2, f3, f4, f5⟩) 40)).alloc (.cells zero4 34)) := ⟨_, rfl⟩
  have HS : Hid (OneS W X p q S D S D l d rs rs sure kept mark j ta (mCells ta rs.length tc sure kept mark) ⟨0, N, s, x, f1, f2, f3, f4, f5⟩) := by rw [HX.out]; exact OneS.start h hT hO _ _
  unfold mCells AcV.cells zero4 at HX
  simp only at HX
  have hfit := h.fits
  have hkk := h.keeps
  have hcn := h.cnt
  have hlg := h.long
  have hsz := h.sized
  have HSZ := hid hsz
  clear hsz
  clear h hT hO
  have a0 : X.cell? ⟨W.heap.size + 1, 0, none⟩ = some (.int .i64 0) := HS.out.inn.b1.cell 0
  have a1 : X.cell? ⟨W.heap.size + 1, 1, none⟩ = some (.int .i64 N) := HS.out.inn.b1.cell 1
  have a2 : X.cell? ⟨W.heap.size + 1, 2, none⟩ = some (.string s) := HS.out.inn.b1.cell 2
  have a3 : X.cell? ⟨W.heap.size + 1, 3, none⟩ = some (.int .u64 x) := HS.out.inn.b1.cell 3
  go_enter Try.func8, Try.ntmps8
  go_upto_region 1 with fail
  rw [← HX.out]
  clear HX
  obtain ⟨v0, v1, v2, v3⟩ := mcells HS.out.inn.b0
  obtain ⟨X1, HX1⟩ : ∃ X1, Hid (X1 = X.alloc (.cells #[.slice ta rs.length tc, .int .i64 sure, .int .i64 kept, .int .u64 mark] 34)) := ⟨_, rfl⟩
  have HK : Hid (OneK W X1 p q S D S D l d rs rs sure kept mark j ta (mCells ta rs.length tc sure kept mark) ⟨0, N, s, x, f1, f2, f3, f4, f5⟩ X.heap.size (mCells ta rs.length tc sure kept mark)) := by rw [HX1.out]; exact OneK.start HS.out _
  go_upto_region 6 with fail
  rw [← HX1.out]
  obtain ⟨b, Hb⟩ : ∃ b, Hid (X.heap.size = b) := ⟨_, rfl⟩
  rw [Hb.out] at HK
  rw [Hb.out]
  clear Hb HX1 a0 a1 a2 a3 v0 v1 v2 v3 HS
  have a0 : X1.cell? ⟨W.heap.size + 1, 0, none⟩ = some (.int .i64 0) := HK.out.s.inn.b1.cell 0
  have a2 : X1.cell? ⟨W.heap.size + 1, 2, none⟩ = some (.string s) := HK.out.s.inn.b1.cell 2
  have HCX := hid (append_full HK.out.s.wp.log HK.out.s.wp.blen HK.out.s.wp.klen s h1 h2 (by rw [hkk]; exact hm))
  go_wp2_with fail
  refine HCX.out.mono ?_
  rintro e w1 ⟨rfl, b1⟩
  have HK1 := hid (HK.out.next.below b1)
  clear HK b1 HCX a0 a2
  have a2 : w1.cell? ⟨W.heap.size + 1, 2, none⟩ = some (.string s) := HK1.out.s.inn.b1.cell 2
  obtain ⟨v0, v1, v2, v3⟩ := mcells HK1.out.s.inn.b0
  have HPX := hid (mput_full w1 ta tc rs sure kept mark s HK1.out.s.tx HSZ.out (by omega) h1 h2 kept (by omega) (by omega))
  obtain ⟨u0, u1, u2, u3⟩ := mcells HK1.out.kb
  have hbn := HK1.out.bn
  have hbl := HK1.out.kb.lt
  go_wp2_with fail
  refine HPX.out.mono ?_
  rintro e w2 ⟨rfl, b2⟩
  have HK2 := hid (HK1.out.below b2)
  clear b2
  clear HPX HK1 a2 v0 v1 v2 v3 u0 u1 u2 u3
  obtain ⟨u0, u1, u2, u3⟩ := mcells HK2.out.kb
  have w0 := HK2.out.kb.frozen 0
  have w1' := HK2.out.kb.frozen 1
  have w2' := HK2.out.kb.frozen 2
  have w3' := HK2.out.kb.frozen 3
  obtain ⟨V, HV⟩ : ∃ V, Hid (V = (((w2.setCell ⟨b, 0, none⟩ (.slice ta rs.length tc)).setCell ⟨b, 1, none⟩ (.int .i64 sure)).setCell ⟨b, 2, none⟩ (.int .i64 kept)).setCell ⟨b, 3, none⟩ (.int .u64 mark)) := ⟨_, rfl⟩
  have HK3 : Hid (OneK W V p q S D S D l d rs rs sure kept mark (j + 1) ta (mCells ta rs.length tc sure kept mark) ⟨0, N, s, x, f1, f2, f3, f4, f5⟩ b (mCells ta rs.length tc sure kept mark)) := by rw [HV.out]; exact (((HK2.out.setk 0 _).setk 1 _).setk 2 _).setk 3 _
  go_upto_region 13 with fail
  rw [← HV.out]
  clear HV HK2 u0 u1 u2 u3 w0 w1' w2' w3'
  obtain ⟨v0, v1, v2, v3⟩ := mcells HK3.out.kb
  obtain ⟨z0, z1, z2, z3, y0, y1, y2, y3⟩ := zcells HK3.out.s.inn.b2
  have hbn2 := HK3.out.bn
  go_region
  go_wp2_with fail
  refine bodyPost_ret (v := .tuple #[.pointer (some ⟨q, 0, none⟩), .agg #[.slice ta rs.length tc, .int .i64 sure, .int .i64 kept, .int .u64 mark], .bool true]) (by simp [results, Try.results8, go_sem, z0, z1, z2, z3]) rfl ?_
  exact HK3.out.s.done (((((Only3.refl _ _).set _ ⟨by omega, by omega⟩).set _ ⟨by omega, by omega⟩).set _ ⟨by omega, by omega⟩).set _ ⟨by omega, by omega⟩).drew tc hc

end

end Go.Proofs.Ythmhigjdjclckaa

namespace Go.Proofs.Ythmhigjdjclckaa
open Go.RowKit
set_option linter.unusedVariables false
set_option linter.unusedSimpArgs false

section
variable {W : World} {p q : Nat} {S D : Nat → Prop} {l : LG} {d : DG} {rs : List ByteArray} {sure kept mark j : Nat} {ta : Option Addr}

set_option maxHeartbeats 3200000 in
set_option maxRecDepth 8000 in
theorem one_spend_ok (h : WpL W p q S D l d rs sure kept mark j) (hj : j ≤ 100) (hT : TextsAt W ta rs) (hO : TOff rs ta S D) (tc : Nat) (hc : rs.length ≤ tc) (N : Int) (s : ByteArray) (x : Nat) (f1 : Int) (f2 : Nat) (f3 f4 f5 : Int) (h1 : 1 ≤ s.size) (h2 : s.size ≤ 8192) (hm : s.size + 12 + l.bytes.length ≤ 4194304) :
    Calls Try.prog 8 #[.pointer (some ⟨p, 0, none⟩), .pointer (some ⟨q, 0, none⟩), .agg #[.slice ta rs.length tc, .int .i64 sure, .int .i64 kept, .int .u64 mark], .agg #[.int .i64 1, .int .i64 N, .string s, .int .u64 x, .int .i64 f1, .int .u64 f2, .int .i64 f3, .int .i64 f4, .int .i64 f5]] W fun e w' => OneOut W p S D j e w' := by
  obtain ⟨X, HX⟩ : ∃ X, Hid (X = ((W.alloc (.cells (mCells ta rs.length tc sure kept mark) 34)).alloc (.cells (AcV.cells ⟨1, N, s, x, f1, f2, f3, f4, f5⟩) 40)).alloc (.cells zero4 34)) := ⟨_, rfl⟩
  have HS : Hid (OneS W X p q S D S D l d rs rs sure kept mark j ta (mCells ta rs.length tc sure kept mark) ⟨1, N, s, x, f1, f2, f3, f4, f5⟩) := by rw [HX.out]; exact OneS.start h hT hO _ _
  unfold mCells AcV.cells zero4 at HX
  simp only at HX
  have hfit := h.fits
  have hkk := h.keeps
  have hcn := h.cnt
  have hlg := h.long
  have hsz := h.sized
  have HSZ := hid hsz
  obtain ⟨K2, HKe⟩ : ∃ K2, Hid (kept - (s.size + 12) = K2) := ⟨_, rfl⟩
  have hlk : lessF kept ((s.size : Int) + 12) = kept - (s.size + 12) := by unfold lessF; rw [if_neg (by omega)]; congr 1
  have HLS : Hid (∀ w, Calls Try.prog 26 #[.int .i64 kept, .int .i64 ((s.size : Int) + 12)] w fun e w' => e = .returned (.int .i64 (K2 : Int)) ∧ w' = w) := fun w => by have := mless_any kept ((s.size : Int) + 12) w (by omega); rw [hlk, HKe.out] at this; exact this
  clear hlk
  have hK2 : K2 = kept - (s.size + 12) := HKe.out.symm
  have HK2e := hid hK2
  have hfk : l.bytes.length + (s.size + 12) + K2 ≤ 4194304 := by omega
  clear hsz hK2
  clear h hT hO
  have a0 : X.cell? ⟨W.heap.size + 1, 0, none⟩ = some (.int .i64 1) := HS.out.inn.b1.cell 0
  have a1 : X.cell? ⟨W.heap.size + 1, 1, none⟩ = some (.int .i64 N) := HS.out.inn.b1.cell 1
  have a2 : X.cell? ⟨W.heap.size + 1, 2, none⟩ = some (.string s) := HS.out.inn.b1.cell 2
  have a3 : X.cell? ⟨W.heap.size + 1, 3, none⟩ = some (.int .u64 x) := HS.out.inn.b1.cell 3
  go_enter Try.func8, Try.ntmps8
  go_upto_region 1 with fail
  rw [← HX.out]
  clear HX
  obtain ⟨v0, v1, v2, v3⟩ := mcells HS.out.inn.b0
  obtain ⟨X1, HX1⟩ : ∃ X1, Hid (X1 = X.alloc (.cells #[.slice ta rs.length tc, .int .i64 sure, .int .i64 kept, .int .u64 mark] 34)) := ⟨_, rfl⟩
  have HK : Hid (OneK W X1 p q S D S D l d rs rs sure kept mark j ta (mCells ta rs.length tc sure kept mark) ⟨1, N, s, x, f1, f2, f3, f4, f5⟩ X.heap.size (mCells ta rs.length tc sure kept mark)) := by rw [HX1.out]; exact OneK.start HS.out _
  go_upto_region 6 with fail
  rw [← HX1.out]
  obtain ⟨b, Hb⟩ : ∃ b, Hid (X.heap.size = b) := ⟨_, rfl⟩
  rw [Hb.out] at HK
  rw [Hb.out]
  clear Hb HX1 a0 a1 a2 a3 v0 v1 v2 v3 HS
  have a0 : X1.cell? ⟨W.heap.size + 1, 0, none⟩ = some (.int .i64 1) := HK.out.s.inn.b1.cell 0
  have a2 : X1.cell? ⟨W.heap.size + 1, 2, none⟩ = some (.string s) := HK.out.s.inn.b1.cell 2
  have HCX := hid ((by have := spend_out HK.out.s.wp.log HK.out.s.wp.blen (by rw [HK.out.s.wp.slen]; omega) HK.out.s.wp.klen s h1 h2 hm; rw [hkk, HKe.out] at this; exact this : Calls Try.prog 25 #[.pointer (some ⟨q, 0, none⟩), .string s] X1 fun e w' => e = .returned (.tuple #[.int .u64 ((l.bytes.length + 1 : Nat) : Int), .int .i64 0]) ∧ ∃ S', IsLog w' q S' { putG l s with kept := K2 } ∧ Moves S S' X1 w'))
  go_wp2_with fail
  refine HCX.out.mono ?_
  rintro e w1 ⟨rfl, S2, hl1, hm1⟩
  have HK1 := hid (HK.out.pushed (k' := K2) hl1 hm1 h1 h2 (by omega))
  clear HK hl1 hm1 HCX a0 a2
  have a2 : w1.cell? ⟨W.heap.size + 1, 2, none⟩ = some (.string s) := HK1.out.s.inn.b1.cell 2
  obtain ⟨v0, v1, v2, v3⟩ := mcells HK1.out.s.inn.b0
  have HPX := hid ((by have := mput_ok2 w1 ta tc rs sure kept mark s HK1.out.s.tx HSZ.out (by omega) h1 h2 0 (by omega) (by omega); exact this : Calls Try.prog 24 #[.agg #[.slice ta rs.length tc, .int .i64 sure, .int .i64 kept, .int .u64 mark], .string s, .int .i64 0] w1 fun e w' => ∃ a' c', e = .returned (.tuple #[.agg #[.slice a' (rs.length + 1) c', .int .i64 sure, .int .i64 kept, .int .u64 mark], .int .u64 (placeOf rs rs.length : Nat), .int .i64 0]) ∧ Below w1.heap.size w1 w' ∧ TextsAt w' a' (rs ++ [s]) ∧ NewAt w1.heap.size a' ∧ rs.length + 1 ≤ c'))
  obtain ⟨u0, u1, u2, u3⟩ := mcells HK1.out.kb
  have hbn := HK1.out.bn
  have hbl := HK1.out.kb.lt
  go_wp2_with fail
  refine HPX.out.mono ?_
  rintro e w2 ⟨tb, cb, rfl, b2, hT2, hN2, hcb⟩
  have HK2 := hid (HK1.out.texts b2 hT2 hN2)
  clear hT2 hN2 b2
  clear HPX HK1 a2 v0 v1 v2 v3 u0 u1 u2 u3
  obtain ⟨u0, u1, u2, u3⟩ := mcells HK2.out.kb
  have w0 := HK2.out.kb.frozen 0
  have w1' := HK2.out.kb.frozen 1
  have w2' := HK2.out.kb.frozen 2
  have w3' := HK2.out.kb.frozen 3
  obtain ⟨V, HV⟩ : ∃ V, Hid (V = (((w2.setCell ⟨b, 0, none⟩ (.slice tb (rs.length + 1) cb)).setCell ⟨b, 1, none⟩ (.int .i64 sure)).setCell ⟨b, 2, none⟩ (.int .i64 kept)).setCell ⟨b, 3, none⟩ (.int .u64 mark)) := ⟨_, rfl⟩
  have HK3 : Hid (OneK W V p q S D S2 D { putG l s with kept := K2 } d (rs ++ [s]) (rs ++ [s]) sure K2 mark (j + 1) tb (mCells ta rs.length tc sure kept mark) ⟨1, N, s, x, f1, f2, f3, f4, f5⟩ b (mCells tb (rs.length + 1) cb sure kept mark)) := by rw [HV.out]; exact (((HK2.out.setk 0 _).setk 1 _).setk 2 _).setk 3 _
  go_upto_region 11 with fail
  rw [← HV.out]
  clear HV HK2 u0 u1 u2 u3 w0 w1' w2' w3'
  obtain ⟨v0, v1, v2, v3⟩ := mcells HK3.out.s.inn.b0
  have a2 : V.cell? ⟨W.heap.size + 1, 2, none⟩ = some (.string s) := HK3.out.s.inn.b1.cell 2
  have u2 : V.cell? ⟨b, 2, none⟩ = some (.int .i64 kept) := HK3.out.kb.cell 2
  have w2' := HK3.out.kb.frozen 2
  go_wp2_with fail
  refine (HLS.out V).mono ?_
  rintro e w5 ⟨rfl, hw5⟩
  obtain rfl := hw5.symm
  obtain ⟨V2, HV⟩ : ∃ V2, Hid (V2 = V.setCell ⟨b, 2, none⟩ (.int .i64 (K2 : Int))) := ⟨_, rfl⟩
  have HK4 : Hid (OneK W V2 p q S D S2 D { putG l s with kept := K2 } d (rs ++ [s]) (rs ++ [s]) sure K2 mark (j + 1) tb (mCells ta rs.length tc sure kept mark) ⟨1, N, s, x, f1, f2, f3, f4, f5⟩ b (mCells tb (rs.length + 1) cb sure K2 mark)) := by rw [HV.out]; exact HK3.out.setk 2 _
  go_upto_region 13 with fail
  rw [← HV.out]
  clear HV HK3 v0 v1 v2 v3 a2 u2 w2'
  obtain ⟨v0, v1, v2, v3⟩ := mcells HK4.out.kb
  obtain ⟨z0, z1, z2, z3, y0, y1, y2, y3⟩ := zcells HK4.out.s.inn.b2
  have hbn2 := HK4.out.bn
  have hpl : (((l.bytes.length + 1 : Nat) : Int) == (placeOf rs rs.length : Nat)) = true := by rw [hlg]; simp
  have hpl2 : (((l.bytes.length : Int) + 1) == ((placeOf rs rs.length : Nat) : Int)) = true := by rw [beq_iff_eq]; omega
  go_region
  go_wp2_with fail
  refine bodyPost_ret (v := .tuple #[.pointer (some ⟨q, 0, none⟩), .agg #[.slice tb (rs.length + 1) cb, .int .i64 sure, .int .i64 K2, .int .u64 mark], .bool true]) (by simp [results, Try.results8, go_sem, z0, z1, z2, z3]) rfl ?_
  have hlen : (rs ++ [s]).length = rs.length + 1 := by simp
  rw [← hlen]
  exact HK4.out.s.done (((((Only3.refl _ _).set _ ⟨by omega, by omega⟩).set _ ⟨by omega, by omega⟩).set _ ⟨by omega, by omega⟩).set _ ⟨by omega, by omega⟩).drew cb (by rw [hlen]; exact hcb)

end

end Go.Proofs.Ythmhigjdjclckaa

namespace Go.Proofs.Ythmhigjdjclckaa
open Go.RowKit
set_option linter.unusedVariables false
set_option linter.unusedSimpArgs false

section
variable {W : World} {p q : Nat} {S D : Nat → Prop} {l : LG} {d : DG} {rs : List ByteArray} {sure kept mark j : Nat} {ta : Option Addr}

set_option maxHeartbeats 3200000 in
set_option maxRecDepth 8000 in
theorem one_spend_no (h : WpL W p q S D l d rs sure kept mark j) (hj : j ≤ 100) (hT : TextsAt W ta rs) (hO : TOff rs ta S D) (tc : Nat) (hc : rs.length ≤ tc) (N : Int) (s : ByteArray) (x : Nat) (f1 : Int) (f2 : Nat) (f3 f4 f5 : Int) (hs1 : s.size = 0 ∨ 8192 < s.size) (hs2 : s.size ≤ maxLen) :
    Calls Try.prog 8 #[.pointer (some ⟨p, 0, none⟩), .pointer (some ⟨q, 0, none⟩), .agg #[.slice ta rs.length tc, .int .i64 sure, .int .i64 kept, .int .u64 mark], .agg #[.int .i64 1, .int .i64 N, .string s, .int .u64 x, .int .i64 f1, .int .u64 f2, .int .i64 f3, .int .i64 f4, .int .i64 f5]] W fun e w' => OneOut W p S D j e w' := by
  obtain ⟨X, HX⟩ : ∃ X, Hid (X = ((W.alloc (.cells (mCells ta rs.length tc sure kept mark) 34)).alloc (.cells (AcV.cells ⟨1, N, s, x, f1, f2, f3, f4, f5⟩) 40)).alloc (.cells zero4 34)) := ⟨_, rfl⟩
  have HS : Hid (OneS W X p q S D S D l d rs rs sure kept mark j ta (mCells ta rs.length tc sure kept mark) ⟨1, N, s, x, f1, f2, f3, f4, f5⟩) := by rw [HX.out]; exact OneS.start h hT hO _ _
  unfold mCells AcV.cells zero4 at HX
  simp only at HX
  have hfit := h.fits
  have hkk := h.keeps
  have hcn := h.cnt
  have hlg := h.long
  clear h hT hO
  have a0 : X.cell? ⟨W.heap.size + 1, 0, none⟩ = some (.int .i64 1) := HS.out.inn.b1.cell 0
  have a1 : X.cell? ⟨W.heap.size + 1, 1, none⟩ = some (.int .i64 N) := HS.out.inn.b1.cell 1
  have a2 : X.cell? ⟨W.heap.size + 1, 2, none⟩ = some (.string s) := HS.out.inn.b1.cell 2
  have a3 : X.cell? ⟨W.heap.size + 1, 3, none⟩ = some (.int .u64 x) := HS.out.inn.b1.cell 3
  go_enter Try.func8, Try.ntmps8
  go_upto_region 1 with fail
  rw [← HX.out]
  clear HX
  obtain ⟨v0, v1, v2, v3⟩ := mcells HS.out.inn.b0
  obtain ⟨X1, HX1⟩ : ∃ X1, Hid (X1 = X.alloc (.cells #[.slice ta rs.length tc, .int .i64 sure, .int .i64 kept, .int .u64 mark] 34)) := ⟨_, rfl⟩
  have HK : Hid (OneK W X1 p q S D S D l d rs rs sure kept mark j ta (mCells ta rs.length tc sure kept mark) ⟨1, N, s, x, f1, f2, f3, f4, f5⟩ X.heap.size (mCells ta rs.length tc sure kept mark)) := by rw [HX1.out]; exact OneK.start HS.out _
  go_upto_region 6 with fail
  rw [← HX1.out]
  obtain ⟨b, Hb⟩ : ∃ b, Hid (X.heap.size = b) := ⟨_, rfl⟩
  rw [Hb.out] at HK
  rw [Hb.out]
  clear Hb HX1 a0 a1 a2 a3 v0 v1 v2 v3 HS
  have a0 : X1.cell? ⟨W.heap.size + 1, 0, none⟩ = some (.int .i64 1) := HK.out.s.inn.b1.cell 0
  have a2 : X1.cell? ⟨W.heap.size + 1, 2, none⟩ = some (.string s) := HK.out.s.inn.b1.cell 2
  have HCX := hid (spend_record HK.out.s.wp.log HK.out.s.wp.blen s hs1 hs2)
  go_wp2_with fail
  refine HCX.out.mono ?_
  rintro e w1 ⟨rfl, b1⟩
  have HK1 := hid (HK.out.next.below b1)
  clear HK b1 HCX a0 a2
  have a2 : w1.cell? ⟨W.heap.size + 1, 2, none⟩ = some (.string s) := HK1.out.s.inn.b1.cell 2
  obtain ⟨v0, v1, v2, v3⟩ := mcells HK1.out.s.inn.b0
  have HPX := hid ((by have := mput_no w1 ta rs.length tc sure kept mark s hs2 (by omega) 0; exact this : Calls Try.prog 24 #[.agg #[.slice ta rs.length tc, .int .i64 sure, .int .i64 kept, .int .u64 mark], .string s, .int .i64 0] w1 fun e w' => e = .returned (.tuple #[.agg #[.slice ta rs.length tc, .int .i64 sure, .int .i64 kept, .int .u64 mark], .int .u64 0, .int .i64 51]) ∧ Below w1.heap.size w1 w'))
  obtain ⟨u0, u1, u2, u3⟩ := mcells HK1.out.kb
  have hbn := HK1.out.bn
  have hbl := HK1.out.kb.lt
  go_wp2_with fail
  refine HPX.out.mono ?_
  rintro e w2 ⟨rfl, b2⟩
  have HK2 := hid (HK1.out.below b2)
  clear b2
  clear HPX HK1 a2 v0 v1 v2 v3 u0 u1 u2 u3
  obtain ⟨u0, u1, u2, u3⟩ := mcells HK2.out.kb
  have w0 := HK2.out.kb.frozen 0
  have w1' := HK2.out.kb.frozen 1
  have w2' := HK2.out.kb.frozen 2
  have w3' := HK2.out.kb.frozen 3
  obtain ⟨V, HV⟩ : ∃ V, Hid (V = (((w2.setCell ⟨b, 0, none⟩ (.slice ta rs.length tc)).setCell ⟨b, 1, none⟩ (.int .i64 sure)).setCell ⟨b, 2, none⟩ (.int .i64 kept)).setCell ⟨b, 3, none⟩ (.int .u64 mark)) := ⟨_, rfl⟩
  have HK3 : Hid (OneK W V p q S D S D l d rs rs sure kept mark (j + 1) ta (mCells ta rs.length tc sure kept mark) ⟨1, N, s, x, f1, f2, f3, f4, f5⟩ b (mCells ta rs.length tc sure kept mark)) := by rw [HV.out]; exact (((HK2.out.setk 0 _).setk 1 _).setk 2 _).setk 3 _
  go_upto_region 13 with fail
  rw [← HV.out]
  clear HV HK2 u0 u1 u2 u3 w0 w1' w2' w3'
  obtain ⟨v0, v1, v2, v3⟩ := mcells HK3.out.kb
  obtain ⟨z0, z1, z2, z3, y0, y1, y2, y3⟩ := zcells HK3.out.s.inn.b2
  have hbn2 := HK3.out.bn
  go_region
  go_wp2_with fail
  refine bodyPost_ret (v := .tuple #[.pointer (some ⟨q, 0, none⟩), .agg #[.slice ta rs.length tc, .int .i64 sure, .int .i64 kept, .int .u64 mark], .bool true]) (by simp [results, Try.results8, go_sem, z0, z1, z2, z3]) rfl ?_
  exact HK3.out.s.done (((((Only3.refl _ _).set _ ⟨by omega, by omega⟩).set _ ⟨by omega, by omega⟩).set _ ⟨by omega, by omega⟩).set _ ⟨by omega, by omega⟩).drew tc hc

set_option maxHeartbeats 3200000 in
set_option maxRecDepth 8000 in
theorem one_spend_full (h : WpL W p q S D l d rs sure kept mark j) (hj : j ≤ 100) (hT : TextsAt W ta rs) (hO : TOff rs ta S D) (tc : Nat) (hc : rs.length ≤ tc) (N : Int) (s : ByteArray) (x : Nat) (f1 : Int) (f2 : Nat) (f3 f4 f5 : Int) (h1 : 1 ≤ s.size) (h2 : s.size ≤ 8192) (hm : 4194304 < s.size + 12 + l.bytes.length) :
    Calls Try.prog 8 #[.pointer (some ⟨p, 0, none⟩), .pointer (some ⟨q, 0, none⟩), .agg #[.slice ta rs.length tc, .int .i64 sure, .int .i64 kept, .int .u64 mark], .agg #[.int .i64 1, .int .i64 N, .string s, .int .u64 x, .int .i64 f1, .int .u64 f2, .int .i64 f3, .int .i64 f4, .int .i64 f5]] W fun e w' => OneOut W p S D j e w' := by
  obtain ⟨X, HX⟩ : ∃ X, Hid (X = ((W.alloc (.cells (mCells ta rs.length tc sure kept mark) 34)).alloc (.cells (AcV.cells ⟨1, N, s, x, f1, f2, f3, f4, f5⟩) 40)).alloc (.cells zero4 34)) := ⟨_, rfl⟩
  have HS : Hid (OneS W X p q S D S D l d rs rs sure kept mark j ta (mCells ta rs.length tc sure kept mark) ⟨1, N, s, x, f1, f2, f3, f4, f5⟩) := by rw [HX.out]; exact OneS.start h hT hO _ _
  unfold mCells AcV.cells zero4 at HX
  simp only at HX
  have hfit := h.fits
  have hkk := h.keeps
  have hcn := h.cnt
  have hlg := h.long
  have hsz := h.sized
  have HSZ := hid hsz
  clear hsz
  clear h hT hO
  have a0 : X.cell? ⟨W.heap.size + 1, 0, none⟩ = some (.int .i64 1) := HS.out.inn.b1.cell 0
  have a1 : X.cell? ⟨W.heap.size + 1, 1, none⟩ = some (.int .i64 N) := HS.out.inn.b1.cell 1
  have a2 : X.cell? ⟨W.heap.size + 1, 2, none⟩ = some (.string s) := HS.out.inn.b1.cell 2
  have a3 : X.cell? ⟨W.heap.size + 1, 3, none⟩ = some (.int .u64 x) := HS.out.inn.b1.cell 3
  go_enter Try.func8, Try.ntmps8
  go_upto_region 1 with fail
  rw [← HX.out]
  clear HX
  obtain ⟨v0, v1, v2, v3⟩ := mcells HS.out.inn.b0
  obtain ⟨X1, HX1⟩ : ∃ X1, Hid (X1 = X.alloc (.cells #[.slice ta rs.length tc, .int .i64 sure, .int .i64 kept, .int .u64 mark] 34)) := ⟨_, rfl⟩
  have HK : Hid (OneK W X1 p q S D S D l d rs rs sure kept mark j ta (mCells ta rs.length tc sure kept mark) ⟨1, N, s, x, f1, f2, f3, f4, f5⟩ X.heap.size (mCells ta rs.length tc sure kept mark)) := by rw [HX1.out]; exact OneK.start HS.out _
  go_upto_region 6 with fail
  rw [← HX1.out]
  obtain ⟨b, Hb⟩ : ∃ b, Hid (X.heap.size = b) := ⟨_, rfl⟩
  rw [Hb.out] at HK
  rw [Hb.out]
  clear Hb HX1 a0 a1 a2 a3 v0 v1 v2 v3 HS
  have a0 : X1.cell? ⟨W.heap.size + 1, 0, none⟩ = some (.int .i64 1) := HK.out.s.inn.b1.cell 0
  have a2 : X1.cell? ⟨W.heap.size + 1, 2, none⟩ = some (.string s) := HK.out.s.inn.b1.cell 2
  have HCX := hid (spend_full HK.out.s.wp.log HK.out.s.wp.blen s h1 h2 hm)
  go_wp2_with fail
  refine HCX.out.mono ?_
  rintro e w1 ⟨rfl, b1⟩
  have HK1 := hid (HK.out.next.below b1)
  clear HK b1 HCX a0 a2
  have a2 : w1.cell? ⟨W.heap.size + 1, 2, none⟩ = some (.string s) := HK1.out.s.inn.b1.cell 2
  obtain ⟨v0, v1, v2, v3⟩ := mcells HK1.out.s.inn.b0
  have HPX := hid ((by have := mput_full w1 ta tc rs sure kept mark s HK1.out.s.tx HSZ.out (by omega) h1 h2 0 (by omega) (by omega); exact this : Calls Try.prog 24 #[.agg #[.slice ta rs.length tc, .int .i64 sure, .int .i64 kept, .int .u64 mark], .string s, .int .i64 0] w1 fun e w' => e = .returned (.tuple #[.agg #[.slice ta rs.length tc, .int .i64 sure, .int .i64 kept, .int .u64 mark], .int .u64 0, .int .i64 50]) ∧ Below w1.heap.size w1 w'))
  obtain ⟨u0, u1, u2, u3⟩ := mcells HK1.out.kb
  have hbn := HK1.out.bn
  have hbl := HK1.out.kb.lt
  go_wp2_with fail
  refine HPX.out.mono ?_
  rintro e w2 ⟨rfl, b2⟩
  have HK2 := hid (HK1.out.below b2)
  clear b2
  clear HPX HK1 a2 v0 v1 v2 v3 u0 u1 u2 u3
  obtain ⟨u0, u1, u2, u3⟩ := mcells HK2.out.kb
  have w0 := HK2.out.kb.frozen 0
  have w1' := HK2.out.kb.frozen 1
  have w2' := HK2.out.kb.frozen 2
  have w3' := HK2.out.kb.frozen 3
  obtain ⟨V, HV⟩ : ∃ V, Hid (V = (((w2.setCell ⟨b, 0, none⟩ (.slice ta rs.length tc)).setCell ⟨b, 1, none⟩ (.int .i64 sure)).setCell ⟨b, 2, none⟩ (.int .i64 kept)).setCell ⟨b, 3, none⟩ (.int .u64 mark)) := ⟨_, rfl⟩
  have HK3 : Hid (OneK W V p q S D S D l d rs rs sure kept mark (j + 1) ta (mCells ta rs.length tc sure kept mark) ⟨1, N, s, x, f1, f2, f3, f4, f5⟩ b (mCells ta rs.length tc sure kept mark)) := by rw [HV.out]; exact (((HK2.out.setk 0 _).setk 1 _).setk 2 _).setk 3 _
  go_upto_region 13 with fail
  rw [← HV.out]
  clear HV HK2 u0 u1 u2 u3 w0 w1' w2' w3'
  obtain ⟨v0, v1, v2, v3⟩ := mcells HK3.out.kb
  obtain ⟨z0, z1, z2, z3, y0, y1, y2, y3⟩ := zcells HK3.out.s.inn.b2
  have hbn2 := HK3.out.bn
  go_region
  go_wp2_with fail
  refine bodyPost_ret (v := .tuple #[.pointer (some ⟨q, 0, none⟩), .agg #[.slice ta rs.length tc, .int .i64 sure, .int .i64 kept, .int .u64 mark], .bool true]) (by simp [results, Try.results8, go_sem, z0, z1, z2, z3]) rfl ?_
  exact HK3.out.s.done (((((Only3.refl _ _).set _ ⟨by omega, by omega⟩).set _ ⟨by omega, by omega⟩).set _ ⟨by omega, by omega⟩).set _ ⟨by omega, by omega⟩).drew tc hc

end

end Go.Proofs.Ythmhigjdjclckaa
