/-
  What stays where only the three variables of one are written; the arm of one that gives room back.
-/
import Derived.Test.YthmhigjdjclckaaBase9C
namespace Go.Proofs.Ythmhigjdjclckaa
open Go.RowKit
set_option linter.unusedVariables false
set_option linter.unusedSimpArgs false

/-- Only the blocks n to n + 2 may have changed. -/
structure Only3 (n : Nat) (X Y : World) : Prop where
  os : Y.os = X.os
  tape : Y.tape = X.tape
  output : Y.output = X.output
  size : X.heap.size ≤ Y.heap.size
  block : ∀ k, k < n ∨ n + 1 + 1 < k → k < X.heap.size → Y.heap[k]? = X.heap[k]?

section
variable {W X Y : World} {n p q : Nat} {S D S1 D1 : Nat → Prop} {l : LG} {d : DG} {rs : List ByteArray} {sure kept mark j : Nat} {ta : Option Addr} {m4 : Array Value} {a : AcV}

theorem Only3.refl (n : Nat) (X : World) : Only3 n X X := ⟨rfl, rfl, rfl, Nat.le_refl _, fun _ _ _ => rfl⟩
theorem Only3.set (h : Only3 n X Y) {b i : Nat} (v : Value) (hb : n ≤ b ∧ b ≤ n + 1 + 1) : Only3 n X (Y.setCell ⟨b, i, none⟩ v) :=
  ⟨h.os, h.tape, h.output, by simpa using h.size, fun k hk hl => (heap_set _ _ _ _ (by omega)).trans (h.block k hk hl)⟩
theorem Only3.drew (h : Only3 n X Y) : Only3 n X Y.drew := ⟨h.os, h.tape, h.output, h.size, h.block⟩
theorem Only3.below {Z : World} (h : Only3 n X Y) (b : Below Y.heap.size Y Z) : Only3 n X Z :=
  ⟨b.os.trans h.os, b.tape.trans h.tape, b.output.trans h.output, Nat.le_trans h.size b.size, fun k hk hl => (b.block k (by have := h.size; omega)).trans (h.block k hk hl)⟩

theorem WpL.only (h : WpL X p q S1 D1 l d rs sure kept mark j) (o : Only3 n X Y) (hlo : ∀ k, S1 k ∨ D1 k → k < n ∨ n + 1 + 1 < k) : WpL Y p q S1 D1 l d rs sure kept mark j :=
  ⟨h.log.same (fun k hk => o.block k (hlo k (.inl hk)) (h.log.lt hk)) o.size, h.disk.same (fun k hk => o.block k (hlo k (.inr hk)) (h.disk.lt hk)) o.size, h.dp, h.off, h.bytes, h.recs, h.half, h.keeps, h.fits, h.sz, h.cnt, h.su, h.fl, h.dlog, h.dead, h.plan, h.calls, h.ok, h.loose, h.sl, h.nS, h.mrk, h.sm, h.mkp, h.mz⟩

/-- The texts lie elsewhere. -/
def TFar (n : Nat) (rs : List ByteArray) (ta : Option Addr) : Prop := rs ≠ [] → ∀ x, ta = some x → x.block < n ∨ n + 1 + 1 < x.block

theorem TextsAt.only (h : TextsAt X ta rs) (o : Only3 n X Y) (hf : TFar n rs ta) : TextsAt Y ta rs := by
  by_cases e : rs = []
  · subst e; exact .inl rfl
  · exact h.same (fun x hx hl => o.block _ (hf e x hx) hl) o.size

theorem Moves.only (h : Moves S S1 W X) (o : Only3 n X Y) (hn : W.heap.size = n) : Moves S S1 W Y :=
  ⟨⟨o.os.trans h.1.os, o.tape.trans h.1.tape, o.output.trans h.1.output, Nat.le_trans h.1.size o.size, fun k hk hs => (o.block k (.inl (by omega)) (by have := h.1.size; omega)).trans (h.1.block k hk hs)⟩, h.2⟩

theorem OneIn.setm (h : OneIn W X S D S1 D1 m4 a) (i : Nat) (v : Value) : OneIn W (X.setCell ⟨W.heap.size, i, none⟩ v) S D S1 D1 (m4.setIfInBounds i v) a :=
  ⟨h.b0.set i v, h.b1.same (heap_set _ _ _ _ (by omega)), h.b2.same (heap_set _ _ _ _ (by omega)), h.mv.only ((Only3.refl _ _).set v ⟨Nat.le_refl _, by omega⟩) rfl, h.lo⟩

end

/-- The arguments of one. -/
def mCells (ta : Option Addr) (n tc sure kept mark : Nat) : Array Value := #[.slice ta n tc, .int .i64 sure, .int .i64 kept, .int .u64 mark]

/-- Where one stands: all that is known. -/
structure OneS (W X : World) (p q : Nat) (S D S1 D1 : Nat → Prop) (l : LG) (d : DG) (rs ts : List ByteArray) (sure kept mark j : Nat) (ta : Option Addr) (m4 : Array Value) (a : AcV) : Prop where
  wp : WpL X p q S1 D1 l d rs sure kept mark j
  tx : TextsAt X ta ts
  off : TOff ts ta S1 D1
  far : TFar W.heap.size ts ta
  inn : OneIn W X S D S1 D1 m4 a

section
variable {W X Y : World} {p q : Nat} {S D S1 D1 : Nat → Prop} {l : LG} {d : DG} {rs ts : List ByteArray} {sure kept mark j : Nat} {ta : Option Addr} {m4 : Array Value} {a : AcV}

theorem OneS.start (h : WpL W p q S D l d rs sure kept mark j) (hT : TextsAt W ta rs) (hO : TOff rs ta S D) (m4 : Array Value) (a : AcV) :
    OneS W (((W.alloc (.cells m4 34)).alloc (.cells a.cells 40)).alloc (.cells zero4 34)) p q S D S D l d rs rs sure kept mark j ta m4 a := by
  have b : Below W.heap.size W (((W.alloc (.cells m4 34)).alloc (.cells a.cells 40)).alloc (.cells zero4 34)) := (((Below.refl _ _).alloc (Nat.le_refl _) _).alloc (by simp) _).alloc (by simp; omega) _
  refine ⟨h.below b, hT.below b, hO, fun hne x hx => ?_, OneIn.start fun k hk => ?_⟩
  · rcases hT with e | ⟨g, o, e, hb, _⟩
    · exact absurd e hne
    · rw [e] at hx
      obtain rfl := Option.some.inj hx
      exact .inl hb
  · rcases hk with y | y
    · exact h.log.lt y
    · exact h.disk.lt y

theorem OneS.below (h : OneS W X p q S D S1 D1 l d rs ts sure kept mark j ta m4 a) (b : Below X.heap.size X Y) : OneS W Y p q S D S1 D1 l d rs ts sure kept mark j ta m4 a :=
  ⟨h.wp.below b, h.tx.below b, h.off, h.far, h.inn.below b⟩

theorem OneS.setm (h : OneS W X p q S D S1 D1 l d rs ts sure kept mark j ta m4 a) (i : Nat) (v : Value) : OneS W (X.setCell ⟨W.heap.size, i, none⟩ v) p q S D S1 D1 l d rs ts sure kept mark j ta (m4.setIfInBounds i v) a :=
  have o : Only3 W.heap.size X (X.setCell ⟨W.heap.size, i, none⟩ v) := (Only3.refl _ _).set v ⟨Nat.le_refl _, by omega⟩
  ⟨h.wp.only o h.inn.lo, h.tx.only o h.far, h.off, h.far, h.inn.setm i v⟩

/-- The end: only the variables were written since. -/
theorem OneS.done (h : OneS W X p q S D S1 D1 l d rs rs sure kept mark (j + 1) ta m4 a) (o : Only3 W.heap.size X Y) (tc : Nat) (hc : rs.length ≤ tc) :
    OneOut W p S D j (.returned (.tuple #[.pointer (some ⟨q, 0, none⟩), .agg #[.slice ta rs.length tc, .int .i64 sure, .int .i64 kept, .int .u64 mark], .bool true])) Y :=
  ⟨q, ta, tc, sure, kept, mark, rs, S1, D1, l, d, rfl, h.wp.only o h.inn.lo, h.tx.only o h.far, h.off, hc, h.inn.mv.only o rfl⟩

/-- The log's number of what is kept has changed. -/
theorem OneS.keep (h : OneS W X p q S D S1 D1 l d rs ts sure kept mark j ta m4 a) {k' : Nat} (hl : IsLog Y q S1 { l with kept := k' }) (hm : Moves S1 S1 X Y) (hf : l.bytes.length + k' ≤ 4194304) :
    OneS W Y p q S D S1 D1 { l with kept := k' } d rs ts sure k' mark (j + 1) ta m4 a := by
  refine ⟨h.wp.keep hl hm hf, ?_, h.off, h.far, h.inn.moves hm.left⟩
  by_cases e : ts = []
  · subst e; exact .inl rfl
  · exact h.tx.same (fun x hx hl => hm.1.block _ hl (h.off e x hx).1) hm.1.size

end

section
variable {W : World} {p q : Nat} {S D : Nat → Prop} {l : LG} {d : DG} {rs : List ByteArray} {sure kept mark j : Nat} {ta : Option Addr}

theorem mcells {w : World} {b n tc sure kept mark : Nat} {ta : Option Addr} {t : TypeId} (h : Blk w b (mCells ta n tc sure kept mark) t) : w.cell? ⟨b, 0, none⟩ = some (.slice ta n tc) ∧ w.cell? ⟨b, 1, none⟩ = some (.int .i64 sure) ∧ w.cell? ⟨b, 2, none⟩ = some (.int .i64 kept) ∧ w.cell? ⟨b, 3, none⟩ = some (.int .u64 mark) :=
  ⟨h.cell 0, h.cell 1, h.cell 2, h.cell 3⟩
theorem zcells {w : World} {b : Nat} {t : TypeId} (h : Blk w b zero4 t) : w.cell? ⟨b, 0, none⟩ = some (.slice none 0 0) ∧ w.cell? ⟨b, 1, none⟩ = some (.int .i64 0) ∧ w.cell? ⟨b, 2, none⟩ = some (.int .i64 0) ∧ w.cell? ⟨b, 3, none⟩ = some (.int .u64 0) ∧ w.frozen? ⟨b, 0, none⟩ = false ∧ w.frozen? ⟨b, 1, none⟩ = false ∧ w.frozen? ⟨b, 2, none⟩ = false ∧ w.frozen? ⟨b, 3, none⟩ = false :=
  ⟨h.cell 0, h.cell 1, h.cell 2, h.cell 3, h.frozen 0, h.frozen 1, h.frozen 2, h.frozen 3⟩

theorem lessF_le (k : Nat) (n : Int) : lessF k n ≤ k := by unfold lessF; split <;> omega

set_option maxHeartbeats 3200000 in
set_option maxRecDepth 8000 in
theorem one_give (h : WpL W p q S D l d rs sure kept mark j) (hj : j ≤ 100) (hT : TextsAt W ta rs) (hO : TOff rs ta S D) (tc : Nat) (hc : rs.length ≤ tc) (N : Int) (s : ByteArray) (x : Nat) (f1 : Int) (f2 : Nat) (f3 f4 f5 : Int) :
    Calls Try.prog 8 #[.pointer (some ⟨p, 0, none⟩), .pointer (some ⟨q, 0, none⟩), .agg #[.slice ta rs.length tc, .int .i64 sure, .int .i64 kept, .int .u64 mark], .agg #[.int .i64 3, .int .i64 N, .string s, .int .u64 x, .int .i64 f1, .int .u64 f2, .int .i64 f3, .int .i64 f4, .int .i64 f5]] W fun e w' => OneOut W p S D j e w' := by
  obtain ⟨X, HX⟩ : ∃ X, Hid (X = ((W.alloc (.cells (mCells ta rs.length tc sure kept mark) 34)).alloc (.cells (AcV.cells ⟨3, N, s, x, f1, f2, f3, f4, f5⟩) 40)).alloc (.cells zero4 34)) := ⟨_, rfl⟩
  have HS : Hid (OneS W X p q S D S D l d rs rs sure kept mark j ta (mCells ta rs.length tc sure kept mark) ⟨3, N, s, x, f1, f2, f3, f4, f5⟩) := by rw [HX.out]; exact OneS.start h hT hO _ _
  unfold mCells AcV.cells zero4 at HX
  simp only at HX
  have hfit := h.fits
  have hkk := h.keeps
  have HG := hid (give_int HS.out.wp.log HS.out.wp.klen N)
  have HL : Hid (∀ w, Calls Try.prog 26 #[.int .i64 kept, .int .i64 N] w fun e w' => e = .returned (.int .i64 (lessF kept N : Int)) ∧ w' = w) := fun w => mless_any kept N w (by omega)
  rw [hkk] at HG
  have hle := lessF_le kept N
  obtain ⟨k', HK'⟩ : ∃ k', Hid (lessF kept N = k') := ⟨_, rfl⟩
  rw [HK'.out] at HG HL hle
  clear h hT hO HK' hkk
  have a0 : X.cell? ⟨W.heap.size + 1, 0, none⟩ = some (.int .i64 3) := HS.out.inn.b1.cell 0
  have a1 : X.cell? ⟨W.heap.size + 1, 1, none⟩ = some (.int .i64 N) := HS.out.inn.b1.cell 1
  go_enter Try.func8, Try.ntmps8
  go_upto_region 1 with fail
  rw [← HX.out]
  clear HX
  go_wp2_with fail
  refine HG.out.mono ?_
  rintro e w1 ⟨rfl, hl1, hm1⟩
  have HS1 := hid (HS.out.keep hl1 hm1 (by omega))
  clear HS hl1 hm1 HG a0 a1
  have a1 : w1.cell? ⟨W.heap.size + 1, 1, none⟩ = some (.int .i64 N) := HS1.out.inn.b1.cell 1
  have m2 : w1.cell? ⟨W.heap.size, 2, none⟩ = some (.int .i64 kept) := HS1.out.inn.b0.cell 2
  have g2 := HS1.out.inn.b0.frozen 2
  go_wp2_with fail
  refine (HL.out w1).mono ?_
  rintro e w2 ⟨rfl, hw2⟩
  obtain rfl := hw2.symm
  have HS2 : Hid (OneS W (w1.setCell ⟨W.heap.size, 2, none⟩ (.int .i64 (k' : Int))) p q S D S D { l with kept := k' } d rs rs sure k' mark (j + 1) ta (mCells ta rs.length tc sure k' mark) ⟨3, N, s, x, f1, f2, f3, f4, f5⟩) := HS1.out.setm 2 (.int .i64 (k' : Int))
  obtain ⟨V, HV⟩ : ∃ V, Hid (V = w1.setCell ⟨W.heap.size, 2, none⟩ (.int .i64 (k' : Int))) := ⟨_, rfl⟩
  rw [← HV.out] at HS2
  go_upto_region 26 with fail
  rw [← HV.out]
  clear HV HL HS1 a1 m2 g2
  obtain ⟨v0, v1, v2, v3⟩ := mcells HS2.out.inn.b0
  obtain ⟨z0, z1, z2, z3, y0, y1, y2, y3⟩ := zcells HS2.out.inn.b2
  have he : ((k' : Int) == (k' : Int)) = true := by simp
  go_region
  go_wp2_with fail
  refine bodyPost_ret (v := .tuple #[.pointer (some ⟨q, 0, none⟩), .agg #[.slice ta rs.length tc, .int .i64 sure, .int .i64 k', .int .u64 mark], .bool true]) (by simp [results, Try.results8, go_sem, z0, z1, z2, z3]) rfl ?_
  exact HS2.out.done (((((Only3.refl _ _).set _ ⟨by omega, by omega⟩).set _ ⟨by omega, by omega⟩).set _ ⟨by omega, by omega⟩).set _ ⟨by omega, by omega⟩).drew tc hc

end

end Go.Proofs.Ythmhigjdjclckaa
