/-
  Where one stands when a record is put: a fourth variable, the model behind it.
-/
import Derived.Test.YthmhigjdjclckaaWalP6bC
namespace Go.Proofs.Ythmhigjdjclckaa
open Go.RowKit
set_option linter.unusedVariables false

section
variable {W X Y : World} {p q b : Nat} {S D S1 D1 : Nat → Prop} {l : LG} {d : DG} {rs ts : List ByteArray} {sure kept mark j : Nat} {ta : Option Addr} {m4 k4 : Array Value} {a : AcV}

theorem WpL.setb (h : WpL X p q S1 D1 l d rs sure kept mark j) (hb : ∀ k, S1 k ∨ D1 k → k ≠ b) (i : Nat) (v : Value) : WpL (X.setCell ⟨b, i, none⟩ v) p q S1 D1 l d rs sure kept mark j :=
  ⟨h.log.same (fun k hk => heap_set _ _ _ _ (hb k (.inl hk))) (by simp), h.disk.same (fun k hk => heap_set _ _ _ _ (hb k (.inr hk))) (by simp), h.dp, h.off, h.bytes, h.recs, h.half, h.keeps, h.fits, h.sz, h.cnt, h.su, h.fl, h.dlog, h.dead, h.plan, h.calls, h.ok, h.loose, h.sl, h.nS, h.mrk, h.sm, h.mkp, h.mz⟩

theorem Moves.setNew (h : Moves S S1 W X) (hb : W.heap.size ≤ b) (i : Nat) (v : Value) : Moves S S1 W (X.setCell ⟨b, i, none⟩ v) :=
  ⟨⟨h.1.os, h.1.tape, h.1.output, by simpa using h.1.size, fun k hk hs => (heap_set _ _ _ _ (by omega)).trans (h.1.block k hk hs)⟩, h.2⟩

/-- Where one stands, with the model k in block b. -/
structure OneK (W X : World) (p q : Nat) (S D S1 D1 : Nat → Prop) (l : LG) (d : DG) (rs ts : List ByteArray) (sure kept mark j : Nat) (ta : Option Addr) (m4 : Array Value) (a : AcV) (b : Nat) (k4 : Array Value) : Prop where
  s : OneS W X p q S D S1 D1 l d rs ts sure kept mark j ta m4 a
  kb : Blk X b k4 34
  bn : W.heap.size + 1 + 1 < b
  bo : ∀ k, S1 k ∨ D1 k → k ≠ b
  bt : ts ≠ [] → ∀ x, ta = some x → x.block ≠ b

theorem OneK.start (h : OneS W X p q S D S1 D1 l d rs ts sure kept mark j ta m4 a) (k4 : Array Value) : OneK W (X.alloc (.cells k4 34)) p q S D S1 D1 l d rs ts sure kept mark j ta m4 a X.heap.size k4 := by
  have b : Below X.heap.size X (X.alloc (.cells k4 34)) := (Below.refl _ _).alloc (Nat.le_refl _) _
  refine ⟨h.below b, Blk.made X _ _, h.inn.lt, fun k hk e => ?_, fun hne x hx e => ?_⟩
  · rcases hk with y | y
    · have := h.wp.log.lt y; omega
    · have := h.wp.disk.lt y; omega
  · rcases h.tx with y | ⟨g, o, e', hb, _⟩
    · exact absurd y hne
    · rw [e'] at hx
      obtain rfl := Option.some.inj hx
      simp only at e
      omega

theorem OneK.below (h : OneK W X p q S D S1 D1 l d rs ts sure kept mark j ta m4 a b k4) (c : Below X.heap.size X Y) : OneK W Y p q S D S1 D1 l d rs ts sure kept mark j ta m4 a b k4 :=
  ⟨h.s.below c, h.kb.same (c.block _ h.kb.lt), h.bn, h.bo, h.bt⟩

theorem OneK.setk (h : OneK W X p q S D S1 D1 l d rs ts sure kept mark j ta m4 a b k4) (i : Nat) (v : Value) : OneK W (X.setCell ⟨b, i, none⟩ v) p q S D S1 D1 l d rs ts sure kept mark j ta m4 a b (k4.setIfInBounds i v) := by
  have hb := h.bn
  refine ⟨⟨h.s.wp.setb h.bo i v, ?_, h.s.off, h.s.far, ⟨h.s.inn.b0.same (heap_set _ _ _ _ (by omega)), h.s.inn.b1.same (heap_set _ _ _ _ (by omega)), h.s.inn.b2.same (heap_set _ _ _ _ (by omega)), h.s.inn.mv.setNew (by omega) i v, h.s.inn.lo⟩⟩, h.kb.set i v, h.bn, h.bo, h.bt⟩
  by_cases e : ts = []
  · subst e; exact .inl rfl
  · exact h.s.tx.same (fun x hx hl => heap_set _ _ _ _ (h.bt e x hx)) (by simp)

/-- A record was put into the log. -/
theorem OneK.pushed (h : OneK W X p q S D S1 D1 l d rs ts sure kept mark j ta m4 a b k4) {S2 : Nat → Prop} {s : ByteArray} {k' : Nat} (hl : IsLog Y q S2 { putG l s with kept := k' }) (hm : Moves S1 S2 X Y) (h1 : 1 ≤ s.size) (h2 : s.size ≤ 8192) (hf : l.bytes.length + (s.size + 12) + k' ≤ 4194304) :
    OneK W Y p q S D S2 D1 { putG l s with kept := k' } d (rs ++ [s]) ts sure k' mark (j + 1) ta m4 a b k4 := by
  have hnew : ∀ k, S2 k → S1 k ∨ X.heap.size ≤ k := hm.2
  have hlt := h.kb.lt
  refine ⟨⟨h.s.wp.push hl hm h1 h2 hf, ?_, fun hne x hx => ⟨fun y => ?_, (h.s.off hne x hx).2⟩, h.s.far, h.s.inn.moves hm.left⟩, h.kb.same (hm.1.block b hlt fun y => h.bo b (.inl y) rfl), h.bn, fun k hk e => ?_, h.bt⟩
  · by_cases e : ts = []
    · subst e; exact .inl rfl
    · exact h.s.tx.same (fun x hx hl => hm.1.block _ hl (h.s.off e x hx).1) hm.1.size
  · rcases hnew _ y with z | z
    · exact (h.s.off hne x hx).1 z
    · rcases h.s.tx with e | ⟨g, o, e', hb, _⟩
      · exact hne e
      · rw [e'] at hx
        obtain rfl := Option.some.inj hx
        simp only at z
        omega
  · rcases hk with y | y
    · rcases hnew k y with z | z
      · exact h.bo k (.inl z) e
      · omega
    · exact h.bo k (.inr y) e

/-- The model has it, too. -/
theorem OneK.texts (h : OneK W X p q S D S1 D1 l d rs ts sure kept mark j ta m4 a b k4) (c : Below X.heap.size X Y) {ta' : Option Addr} {ts' : List ByteArray} (hT : TextsAt Y ta' ts') (hN : NewAt X.heap.size ta') : OneK W Y p q S D S1 D1 l d rs ts' sure kept mark j ta' m4 a b k4 := by
  have hs := h.s.inn.lt
  have hk := h.kb.lt
  have h' := h.below c
  exact ⟨⟨h'.s.wp, hT, fun _ x hx => ⟨fun y => by have := h.s.wp.log.lt y; have := hN x hx; omega, fun y => by have := h.s.wp.disk.lt y; have := hN x hx; omega⟩, fun _ x hx => .inr (by have := hN x hx; omega), h'.s.inn⟩, h'.kb, h.bn, h.bo, fun _ x hx e => by have := hN x hx; omega⟩

theorem OneK.next (h : OneK W X p q S D S1 D1 l d rs ts sure kept mark j ta m4 a b k4) : OneK W X p q S D S1 D1 l d rs ts sure kept mark (j + 1) ta m4 a b k4 := ⟨h.s.next, h.kb, h.bn, h.bo, h.bt⟩

end

end Go.Proofs.Ythmhigjdjclckaa
