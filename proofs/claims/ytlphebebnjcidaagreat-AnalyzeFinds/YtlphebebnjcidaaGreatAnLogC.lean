/-
  A log of records over its disk, its blocks named, and what is done to it.
-/
import Derived.Test.YtlphebebnjcidaaGreatAnRunC
import Derived.Test.YtlphebebnjcidaaGreatWalP3C
import Derived.Test.YtlphebebnjcidaaGreatRepeatJ
set_option linter.unusedVariables false
set_option linter.unusedSimpArgs false
namespace Go.Proofs.YtlphebebnjcidaaGreat
open Go.RowKit Go.Sort

def LgAt (W : World) (q : Nat) (A : Nat → Prop) (rs : List ByteArray) (sure mark j : Nat) : Prop :=
  ∃ p S D l d, WpL W p q S D l d rs sure 0 mark j ∧ ∀ k, A k ↔ (S k ∨ D k)

section
variable {W W' : World} {q : Nat} {A : Nat → Prop} {rs : List ByteArray} {sure mark j : Nat}

theorem LgAt.lt (h : LgAt W q A rs sure mark j) {k : Nat} (hk : A k) : k < W.heap.size := by
  obtain ⟨p, S, D, l, d, h, hA⟩ := h
  rcases (hA k).1 hk with x | x
  · exact h.log.lt x
  · exact h.disk.lt x

theorem LgAt.same (h : LgAt W q A rs sure mark j) (k : ∀ i, A i → W'.heap[i]? = W.heap[i]?) (hs : W.heap.size ≤ W'.heap.size) : LgAt W' q A rs sure mark j := by
  obtain ⟨p, S, D, l, d, h, hA⟩ := h
  exact ⟨p, S, D, l, d, ⟨h.log.same (fun i hi => k i ((hA i).2 (.inl hi))) hs, h.disk.same (fun i hi => k i ((hA i).2 (.inr hi))) hs, h.dp, h.off, h.bytes, h.recs, h.half, h.keeps, h.fits, h.sz, h.cnt, h.su, h.fl, h.dlog, h.dead, h.plan, h.calls, h.ok, h.loose, h.sl, h.nS, h.mrk, h.sm, h.mkp, h.mz⟩, hA⟩

theorem LgAt.below (h : LgAt W q A rs sure mark j) (b : Below W.heap.size W W') : LgAt W' q A rs sure mark j := h.same (fun i hi => b.block i (h.lt hi)) b.size

theorem moves_log {S S' D A : Nat → Prop} {w w' : World} (hA : ∀ k, A k ↔ (S k ∨ D k)) (h : Moves S S' w w') : Moves A (fun k => S' k ∨ D k) w w' :=
  ⟨h.1.mono fun k x => (hA k).2 (.inl x), fun k x => by
    rcases x with x | x
    · rcases h.2 k x with y | y
      · exact .inl ((hA k).2 (.inl y))
      · exact .inr y
    · exact .inl ((hA k).2 (.inr x))⟩

theorem lg_append (h : LgAt W q A rs sure mark j) (hj : j ≤ 1000) (s : ByteArray) (h1 : 1 ≤ s.size) (h2 : s.size ≤ 8192) (hf : placeOf rs rs.length + s.size + 12 ≤ 4194305) :
    Calls Tryz.prog 11 #[.pointer (some ⟨q, 0, none⟩), .string s] W fun e w' => e = .returned (.tuple #[.int .u64 (placeOf rs rs.length : Nat), .int .i64 0]) ∧ ∃ A', LgAt w' q A' (rs ++ [s]) sure mark (j + 1) ∧ Moves A A' W w' := by
  obtain ⟨p, S, D, l, d, h, hA⟩ := h
  have hl := h.long
  have hk := h.keeps
  refine (append_out h.log h.blen (by rw [h.slen]; have := h.cnt; omega) h.klen s h1 h2 (by omega)).mono ?_
  rintro e w' ⟨rfl, S', hS, hm⟩
  refine ⟨by rw [hl], fun k => S' k ∨ D k, ⟨p, S', D, { putG l s with kept := 0 }, d, ?_, fun k => Iff.rfl⟩, moves_log hA hm⟩
  have hS' : IsLog w' q S' { putG l s with kept := 0 } := by
    have : ({ putG l s with kept := 0 } : LG) = putG l s := by
      unfold putG
      rw [← hk]
    rw [this]
    exact hS
  exact h.push hS' hm h1 h2 (by omega)

theorem lg_end (h : LgAt W q A rs sure mark j) :
    Calls Tryz.prog 9 #[.pointer (some ⟨q, 0, none⟩)] W fun e w' => e = .returned (.int .u64 (placeOf rs rs.length : Nat)) ∧ w' = W := by
  obtain ⟨p, S, D, l, d, h, hA⟩ := h
  have := end_out h.log h.blen
  rw [h.long] at this
  exact this

theorem lg_flush (h : LgAt W q A rs sure mark j) (hj : j ≤ 1000) :
    Calls Tryz.prog 12 #[.pointer (some ⟨q, 0, none⟩), .int .u64 (placeOf rs rs.length : Nat)] W fun e w' => e = .returned (.int .i64 0) ∧ ∃ A', LgAt w' q A' rs rs.length mark (j + 1) ∧ Moves A A' W w' := by
  obtain ⟨p, S, D, l, d, h, hA⟩ := h
  have hl := h.long
  have hfl := h.flu
  have hsu := h.su
  by_cases hs : sure = rs.length
  · have hf : l.flushed = l.bytes.length := by rw [hs] at hfl; omega
    refine (flush_none h.log (by omega) h.blen (placeOf rs rs.length) (.inl hf)).mono ?_
    rintro e w' ⟨rfl, b⟩
    refine ⟨rfl, A, ⟨p, S, D, l, d, ?_, hA⟩, ⟨Kept.of_below b, fun k x => .inl x⟩⟩
    have := (h.below b).later (i := j + 1) (by omega)
    rw [hs] at this
    exact this
  · have hmn := placeOf_mono rs (i := sure) (j := rs.length) hsu
    have hlt : l.flushed < l.bytes.length := by omega
    have hdl : d.log.length = l.flushed := by rw [h.dlog, h.fl]
    refine (flush_out h.log (by rw [h.dp]; exact h.disk) h.off h.half hlt h.blen h.dead h.plan (by have := h.calls; omega) hdl (placeOf rs rs.length) (by omega)).mono ?_
    rintro e w' ⟨rfl, D', hL, hD, ho, hn, hk⟩
    rw [h.dp] at hD
    refine ⟨rfl, fun k => S k ∨ D' k, ⟨p, S, D', { l with flushed := l.bytes.length }, flushD l d, h.flushed hL hD ho, fun k => Iff.rfl⟩, ⟨hk.mono fun k x => (hA k).2 x, fun k x => ?_⟩⟩
    rcases x with x | x
    · exact .inl ((hA k).2 (.inl x))
    · rcases hn k x with y | y
      · exact .inl ((hA k).2 (.inr y))
      · exact .inr y

theorem lg_master (h : LgAt W q A rs sure mark j) (hj : j ≤ 100) (i : Nat) (hi : i < sure) :
    Calls Tryz.prog 13 #[.pointer (some ⟨q, 0, none⟩), .int .u64 (placeOf rs i : Nat)] W fun e w' => e = .returned (.int .i64 0) ∧ ∃ A', LgAt w' q A' rs sure (placeOf rs i) (j + 1) ∧ Moves A A' W w' := by
  obtain ⟨p, S, D, l, d, h, hA⟩ := h
  have hl := h.long
  have hb := h.blen
  have hsu := h.su
  have hmn := placeOf_mono rs (i := i) (j := rs.length) (by omega)
  refine (setMaster_ok h hj i (placeOf rs i) hi rfl (by omega)).mono ?_
  rintro e w' ⟨rfl, D', d', hw, hm⟩
  refine ⟨rfl, fun k => S k ∨ D' k, ⟨p, S, D', l, d', hw, fun k => Iff.rfl⟩, ⟨hm.1.mono fun k x => (hA k).2 (.inr x), fun k x => ?_⟩⟩
  rcases x with x | x
  · exact .inl ((hA k).2 (.inl x))
  · rcases hm.2 k x with y | y
    · exact .inl ((hA k).2 (.inr y))
    · exact .inr y

theorem lg_run (h : LgAt W q A rs sure mark j) (hj : j ≤ 1000) (R : Nat → RecV) (B : Nat → Bool) (i0 : Nat) (hi0 : i0 ≤ rs.length) (hm : (mark = 0 ∧ i0 = 0) ∨ (mark ≠ 0 ∧ i0 < rs.length ∧ placeOf rs i0 = mark))
    (hg : ∀ i, i < rs.length → B i = true → DecGood (rs.getD i ⟨#[]⟩) (R i) ∧ HrOk (R i)) (hb : ∀ i, i < rs.length → B i = false → DecBad (rs.getD i ⟨#[]⟩)) :
    Calls Tryz.prog 7 #[.pointer (some ⟨q, 0, none⟩)] W fun e w' => RunOut W rs R B i0 e w' := by
  obtain ⟨p, S, D, l, d, h, hA⟩ := h
  exact run_any h hj R B i0 hi0 (by have := h.cnt; omega) hm hg hb

end

theorem lg_new (w : World) : Calls Tryz.prog 14 #[.int .i64 8] w fun e w' => ∃ p, e = .returned (.tuple #[.pointer (some ⟨p, 0, none⟩), .int .i64 0]) ∧ Below w.heap.size w w' ∧
    Calls Tryz.prog 15 #[.pointer (some ⟨p, 0, none⟩)] w' fun e w'' => ∃ q A, e = .returned (.tuple #[.pointer (some ⟨q, 0, none⟩), .int .i64 0, .int .i64 0]) ∧ LgAt w'' q A [] 0 0 0 ∧ (∀ k, A k → w.heap.size ≤ k) ∧ Below w'.heap.size w' w'' := by
  refine (new_any w 8 (by omega) (by omega)).mono ?_
  rintro e w' ⟨p, rfl, ⟨m, hd, hlo⟩, hb⟩
  obtain ⟨D, hD, hlo⟩ : ∃ D, IsDisk w' p D (newD 8) ∧ ∀ k, D k → w.heap.size ≤ k := by
    refine ⟨m.has p, ⟨m, hd, fun _ x => x, ?_⟩, hlo⟩
    rintro k (rfl | x)
    · exact hd.lt
    · exact hd.rest_lt x
  refine ⟨p, rfl, hb, ?_⟩
  refine (open_out hD rfl (by show (0 : Nat) ≤ _; omega) rfl).mono ?_
  rintro e w'' ⟨q, rfl, ⟨S, hS, hS2⟩, hb2⟩
  have ho : ∀ k, S k → ¬ D k := fun k x y => by have := hS2 k x; have := hD.lt y; omega
  have hlog : (newD 8).log = allL ([] : List ByteArray) ++ [] := rfl
  have h0 : frameN ⟨(newD 8).log.toArray⟩ (allL ([] : List ByteArray)).length = 0 := frameN_end (by rw [bytes_size]; show (0 : Nat) < 0 + 4; omega)
  obtain ⟨o1, o2, o3, o4⟩ := open_recs p (newD 8) [] [] hlog (fun r hr => by cases hr) h0
  refine ⟨q, fun k => S k ∨ D k, rfl, ⟨p, S, D, openL p (newD 8), newD 8, ?_, fun k => Iff.rfl⟩, fun k x => ?_, hb2⟩
  · exact ⟨hS, hD.below hb2, rfl, ho, o2, o1, rfl, rfl, by rw [o2]; show (0 : Nat) + 0 ≤ _; omega, (fun r hr => by cases hr), Nat.le_refl _, Nat.le_refl _, o3, rfl, rfl, rfl, Nat.le_refl _, ⟨fun y hy => (by cases hy), fun q => zerosS_size, by show (0 : Nat) + 0 ≤ _; omega, by show (0 : Nat) ≤ _; omega, Nat.le_refl _⟩, rfl, rfl, Nat.le_refl _, rfl, rfl, .inl rfl, by omega⟩
  · rcases x with x | x
    · have := hS2 k x; have := hb.size; omega
    · exact hlo k x

end Go.Proofs.YtlphebebnjcidaaGreat
