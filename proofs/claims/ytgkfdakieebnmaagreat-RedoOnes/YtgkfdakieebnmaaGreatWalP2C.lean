/-
  Where WalPlays stands: a log by its records, of which some are flushed, over a disk without a plan.
-/
import Derived.Test.YtgkfdakieebnmaaGreatWalP1C
import Derived.Test.YtgkfdakieebnmaaGreatTornScanJ
import Derived.Maps.AppendAt
import Derived.Deep.Upon
import Derived.Test.YtgkfdakieebnmaaGreatWalRecsJ
import Derived.Lib.QuietBelow
import Derived.BigQuiet
set_option linter.unusedVariables false
set_option linter.unusedSimpArgs false
namespace Go.Proofs.YtgkfdakieebnmaaGreat
open Go.RowKit

theorem placeOf_take (rs : List ByteArray) (s : Nat) : ∀ i, i ≤ s → i ≤ rs.length → placeOf (rs.take s) i = placeOf rs i
  | 0, _, _ => rfl
  | i + 1, h, h' => by
    have e : (rs.take s).getD i ⟨#[]⟩ = rs.getD i ⟨#[]⟩ := by
      rw [List.getD_eq_getElem?_getD, List.getD_eq_getElem?_getD, List.getElem?_take, if_pos (by omega)]
    show placeOf (rs.take s) i + _ + 12 = placeOf rs i + _ + 12
    rw [placeOf_take rs s i (by omega) (by omega), e]

theorem allL_take (rs : List ByteArray) (s : Nat) (h : s ≤ rs.length) : (allL (rs.take s)).length + 1 = placeOf rs s := by
  rw [allL_len]
  have : (rs.take s).length = s := by simp; omega
  rw [this]
  exact placeOf_take rs s s (Nat.le_refl _) h

theorem allL_split (rs : List ByteArray) (s : Nat) : allL rs = allL (rs.take s) ++ (allL rs).drop (allL (rs.take s)).length := by
  obtain ⟨B, hB⟩ := allL_append (rs.take s) (rs.drop s)
  rw [List.take_append_drop] at hB
  rw [hB, List.drop_left]

structure WpL (W : World) (p q : Nat) (S D : Nat → Prop) (l : LG) (d : DG) (rs : List ByteArray) (sure kept mark j : Nat) : Prop where
  log : IsLog W q S l
  disk : IsDisk W p D d
  dp : l.dp = p
  off : ∀ k, S k → ¬ D k
  bytes : l.bytes = allL rs
  recs : RecsAt l rs
  half : l.half = false
  keeps : l.kept = kept
  fits : l.bytes.length + kept ≤ 4194304
  sz : ∀ r ∈ rs, 1 ≤ r.size ∧ r.size ≤ 8192
  cnt : rs.length ≤ j
  su : sure ≤ rs.length
  fl : l.flushed = (allL (rs.take sure)).length
  dlog : d.log = allL (rs.take sure)
  dead : d.dead = false
  plan : d.plan = []
  calls : d.calls ≤ 4 * j
  ok : d.ok
  loose : d.loose = []
  sl : d.sl = d.log.length
  nS : d.nS ≤ j
  mrk : d.mark = mark
  sm : d.sm = mark
  mkp : mark = 0 ∨ ∃ i, i < sure ∧ placeOf rs i = mark
  mz : mark < 18446744073709551616

section
variable {W W' : World} {p q : Nat} {S D : Nat → Prop} {l : LG} {d : DG} {rs : List ByteArray} {sure kept mark j : Nat}

theorem WpL.below (h : WpL W p q S D l d rs sure kept mark j) (b : Below W.heap.size W W') : WpL W' p q S D l d rs sure kept mark j :=
  ⟨h.log.below b, h.disk.below b, h.dp, h.off, h.bytes, h.recs, h.half, h.keeps, h.fits, h.sz, h.cnt, h.su, h.fl, h.dlog, h.dead, h.plan, h.calls, h.ok, h.loose, h.sl, h.nS, h.mrk, h.sm, h.mkp, h.mz⟩

theorem WpL.later (h : WpL W p q S D l d rs sure kept mark j) {i : Nat} (k : j ≤ i) : WpL W p q S D l d rs sure kept mark i :=
  ⟨h.log, h.disk, h.dp, h.off, h.bytes, h.recs, h.half, h.keeps, h.fits, h.sz, Nat.le_trans h.cnt k, h.su, h.fl, h.dlog, h.dead, h.plan, Nat.le_trans h.calls (by omega), h.ok, h.loose, h.sl, Nat.le_trans h.nS k, h.mrk, h.sm, h.mkp, h.mz⟩

theorem WpL.long (h : WpL W p q S D l d rs sure kept mark j) : l.bytes.length + 1 = placeOf rs rs.length := h.recs.long
theorem WpL.blen (h : WpL W p q S D l d rs sure kept mark j) : l.bytes.length ≤ 4194304 := by have := h.fits; omega
theorem WpL.klen (h : WpL W p q S D l d rs sure kept mark j) : l.kept ≤ 4194304 := by have := h.fits; have := h.keeps; omega
theorem WpL.sized (h : WpL W p q S D l d rs sure kept mark j) : Sized rs := by have := h.long; have := h.blen; unfold Sized; omega
theorem WpL.flu (h : WpL W p q S D l d rs sure kept mark j) : l.flushed + 1 = placeOf rs sure := by rw [h.fl]; exact allL_take rs sure h.su
theorem WpL.flle (h : WpL W p q S D l d rs sure kept mark j) : l.flushed ≤ l.bytes.length := by have := h.flu; have := h.long; have := placeOf_mono rs h.su; omega
theorem WpL.slen (h : WpL W p q S D l d rs sure kept mark j) : l.starts.length = rs.length := h.recs.len
theorem WpL.mi (h : WpL W p q S D l d rs sure kept mark j) : (mark = d.mark ∧ ∃ i, i < l.starts.length ∧ l.starts.getD i 0 = d.mark) ∨ (mark = 0 ∧ ∀ i, i < l.starts.length → l.starts.getD i 0 ≠ d.mark) := by
  rcases h.mkp with e | ⟨i, hi, e⟩
  · refine .inr ⟨e, fun i hi => ?_⟩
    rw [h.slen] at hi
    rw [h.recs.at hi, h.mrk, e]
    have := placeOf_pos rs i
    omega
  · have hi' : i < rs.length := by have := h.su; omega
    exact .inl ⟨h.mrk.symm, i, by rw [h.slen]; exact hi', by rw [h.recs.at hi', h.mrk]; exact e⟩

theorem WpL.push (h : WpL W p q S D l d rs sure kept mark j) {S' : Nat → Prop} {s : ByteArray} {k' : Nat} (hl : IsLog W' q S' { putG l s with kept := k' }) (hm : Moves S S' W W') (h1 : 1 ≤ s.size) (h2 : s.size ≤ 8192) (hf : l.bytes.length + (s.size + 12) + k' ≤ 4194304) :
    WpL W' p q S' D { putG l s with kept := k' } d (rs ++ [s]) sure k' mark (j + 1) := by
  have hd := h.disk.beside hm (fun k x y => h.off k y x)
  have hlen : (putG l s).bytes.length = l.bytes.length + (s.size + 12) := by
    have a := (h.recs.snoc s).long
    have b := h.recs.long
    have c : placeOf (rs ++ [s]) (rs ++ [s]).length = placeOf rs rs.length + s.size + 12 := by
      rw [List.length_append]
      show placeOf (rs ++ [s]) rs.length + ((rs ++ [s]).getD rs.length ⟨#[]⟩).size + 12 = _
      rw [placeOf_snoc rs s rs.length (Nat.le_refl _), getD_last]
    omega
  have ht : (rs ++ [s]).take sure = rs.take sure := by rw [List.take_append_of_le_length h.su]
  refine ⟨hl, hd.1, h.dp, fun k x y => hd.2 k y x, ?_, ?_, h.half, rfl, ?_, ?_, ?_, ?_, ?_, ?_, h.dead, h.plan, Nat.le_trans h.calls (by omega), h.ok, h.loose, h.sl, Nat.le_trans h.nS (by omega), h.mrk, h.sm, ?_, h.mz⟩
  · show l.bytes ++ frameL (l.bytes.length + 1) s.data.toList = _
    rw [allL_snoc, h.bytes]
  · exact ⟨(h.recs.snoc s).starts, (h.recs.snoc s).long, (h.recs.snoc s).text⟩
  · show (putG l s).bytes.length + k' ≤ _
    omega
  · intro r hr
    rcases List.mem_append.1 hr with x | x
    · exact h.sz r x
    · rw [List.mem_singleton.1 x]; exact ⟨h1, h2⟩
  · rw [List.length_append]; have := h.cnt; simp; omega
  · rw [List.length_append]; have := h.su; omega
  · show l.flushed = _
    rw [ht]; exact h.fl
  · rw [ht]; exact h.dlog
  · rcases h.mkp with e | ⟨i, hi, e⟩
    · exact .inl e
    · exact .inr ⟨i, hi, by rw [placeOf_snoc rs s i (by have := h.su; omega)]; exact e⟩

theorem WpL.flushed (h : WpL W p q S D l d rs sure kept mark j) {D' : Nat → Prop} (hl : IsLog W' q S { l with flushed := l.bytes.length }) (hd : IsDisk W' p D' (flushD l d)) (ho : ∀ k, S k → ¬ D' k) :
    WpL W' p q S D' { l with flushed := l.bytes.length } (flushD l d) rs rs.length kept mark (j + 1) := by
  have hlog : (flushD l d).log = allL rs := by
    show d.log ++ (⟨(l.bytes.drop l.flushed).toArray⟩ : ByteArray).data.toList = _
    rw [h.dlog, h.fl, h.bytes]
    exact (allL_split rs sure).symm
  have ht : rs.take rs.length = rs := List.take_length
  refine ⟨hl, hd, h.dp, ho, h.bytes, ⟨h.recs.starts, h.recs.long, h.recs.text⟩, h.half, h.keeps, h.fits, h.sz, Nat.le_trans h.cnt (by omega), Nat.le_refl _, ?_, ?_, h.dead, h.plan, ?_, ?_, h.loose, rfl, Nat.le_trans h.nS (by omega), h.mrk, h.sm, ?_, h.mz⟩
  · show l.bytes.length = _
    rw [ht, h.bytes]
  · rw [ht]; exact hlog
  · show d.calls + 1 + 1 ≤ _
    have := h.calls; omega
  · refine ⟨h.ok.loose, h.ok.sure, h.ok.n, ?_, Nat.le_refl _⟩
    rw [hlog, ← h.bytes]; exact h.blen
  · rcases h.mkp with e | ⟨i, hi, e⟩
    · exact .inl e
    · exact .inr ⟨i, by have := h.su; omega, e⟩

end

end Go.Proofs.YtgkfdakieebnmaaGreat
