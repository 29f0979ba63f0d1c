/-
  Where WalFalls stands: a log by its records, of which some are flushed, over a disk with one fall to come; what is left once the power has failed; Append and Flush there.
-/
import Derived.Test.YthmhigjdjclckaaWalF3C
import Derived.Test.YthmhigjdjclckaaWalF5C
import Derived.Test.YthmhigjdjclckaaWalF6C
namespace Go.Proofs.Ythmhigjdjclckaa
open Go.RowKit
set_option linter.unusedVariables false

/-- A log and its disk, the power on. -/
structure WfL (W : World) (p q : Nat) (S D : Nat → Prop) (l : LG) (d : DG) (rs : List ByteArray) (sure : Nat) (f : FG) (j : Nat) : Prop where
  log : IsLog W q S l
  disk : IsDisk W p D d
  dp : l.dp = p
  off : ∀ k, S k → ¬ D k
  bytes : l.bytes = allL rs
  recs : RecsAt l rs
  half : l.half = false
  keeps : l.kept = 0
  few : l.bytes.length ≤ 512 * rs.length
  sz : ∀ r ∈ rs, 1 ≤ r.size ∧ r.size ≤ 8192
  cnt : rs.length ≤ j
  su : sure ≤ rs.length
  fl : l.flushed = (allL (rs.take sure)).length
  dlog : d.log = allL (rs.take sure)
  dead : d.dead = false
  plan : d.plan = [f]
  calls : d.calls ≤ 2 * j
  ok : d.ok
  loose : d.loose = []
  sl : d.sl = d.log.length
  keep : f.keep < 18446744073709551616

/-- The disk once the power has failed: a beginning of all bytes, with all that was flushed. -/
structure WfE (W : World) (p : Nat) (D : Nat → Prop) (d : DG) (rs : List ByteArray) (sure : Nat) : Prop where
  disk : IsDisk W p D d
  lg : ∃ n, (allL (rs.take sure)).length ≤ n ∧ n ≤ (allL rs).length ∧ d.log = (allL rs).take n
  few : (allL rs).length ≤ 4194304
  calls : d.calls ≤ 1000
  su : sure ≤ rs.length
  sz : ∀ r ∈ rs, 1 ≤ r.size ∧ r.size ≤ 8192

section
variable {W W' : World} {p q : Nat} {S D : Nat → Prop} {l : LG} {d : DG} {rs : List ByteArray} {sure j : Nat} {f : FG}

theorem WfL.below (h : WfL W p q S D l d rs sure f j) (b : Below W.heap.size W W') : WfL W' p q S D l d rs sure f j :=
  ⟨h.log.below b, h.disk.below b, h.dp, h.off, h.bytes, h.recs, h.half, h.keeps, h.few, h.sz, h.cnt, h.su, h.fl, h.dlog, h.dead, h.plan, h.calls, h.ok, h.loose, h.sl, h.keep⟩

theorem WfL.later (h : WfL W p q S D l d rs sure f j) {i : Nat} (k : j ≤ i) : WfL W p q S D l d rs sure f i :=
  ⟨h.log, h.disk, h.dp, h.off, h.bytes, h.recs, h.half, h.keeps, h.few, h.sz, Nat.le_trans h.cnt k, h.su, h.fl, h.dlog, h.dead, h.plan, Nat.le_trans h.calls (by omega), h.ok, h.loose, h.sl, h.keep⟩

theorem WfE.below (h : WfE W p D d rs sure) (b : Below W.heap.size W W') : WfE W' p D d rs sure := ⟨h.disk.below b, h.lg, h.few, h.calls, h.su, h.sz⟩

theorem allL_mono (rs : List ByteArray) (s : Nat) : (allL (rs.take s)).length ≤ (allL rs).length := by
  have := congrArg List.length (allL_split rs s)
  rw [List.length_append] at this
  omega

theorem allL_pre (rs : List ByteArray) (s : Nat) : allL (rs.take s) = (allL rs).take (allL (rs.take s)).length := by
  have := allL_split rs s
  conv => rhs; rw [this]
  rw [List.take_left]

theorem WfL.blen (h : WfL W p q S D l d rs sure f j) (hj : j ≤ 40) : l.bytes.length ≤ 20480 := by have := h.few; have := h.cnt; omega
theorem WfL.long (h : WfL W p q S D l d rs sure f j) : l.bytes.length + 1 = placeOf rs rs.length := h.recs.long

/-- A record more. -/
theorem WfL.push (h : WfL W p q S D l d rs sure f j) {S' : Nat → Prop} {s : ByteArray} (hl : IsLog W' q S' (putG l s)) (hm : Moves S S' W W') (h1 : 1 ≤ s.size) (h2 : s.size ≤ 500) :
    WfL W' p q S' D (putG l s) d (rs ++ [s]) sure f (j + 1) := by
  have hd := h.disk.beside hm (fun k x y => h.off k y x)
  have hlen : (putG l s).bytes.length = l.bytes.length + (s.size + 12) := by
    have a := (h.recs.snoc s).long
    have b := h.recs.long
    have c : placeOf (rs ++ [s]) (rs ++ [s]).length = placeOf rs rs.length + s.size + 12 := by
      rw [List.length_append]
      show placeOf (rs ++ [s]) rs.length + ((rs ++ [s]).getD rs.length ⟨#[]⟩).size + 12 = _
      rw [placeOf_snoc rs s rs.length (Nat.le_refl _), getD_last]
    omega
  have ht : (rs ++ [s]).take sure = rs.take sure := by rw [List.take_append_of_le_length h.su]
  refine ⟨hl, hd.1, h.dp, fun k x y => hd.2 k y x, ?_, h.recs.snoc s, h.half, h.keeps, ?_, ?_, ?_, ?_, ?_, ?_, h.dead, h.plan, Nat.le_trans h.calls (by omega), h.ok, h.loose, h.sl, h.keep⟩
  · show l.bytes ++ frameL (l.bytes.length + 1) s.data.toList = _
    rw [allL_snoc, h.bytes]
  · rw [hlen, List.length_append, List.length_singleton]; have := h.few; omega
  · intro r hr
    rcases List.mem_append.1 hr with x | x
    · exact h.sz r x
    · rw [List.mem_singleton.1 x]; exact ⟨h1, by omega⟩
  · rw [List.length_append]; have := h.cnt; simp; omega
  · rw [List.length_append]; have := h.su; omega
  · show l.flushed = _
    rw [ht]; exact h.fl
  · rw [ht]; exact h.dlog

/-- All is flushed. -/
theorem WfL.flushed (h : WfL W p q S D l d rs sure f j) (hj : j ≤ 40) {D' : Nat → Prop} (hl : IsLog W' q S { l with flushed := l.bytes.length }) (hd : IsDisk W' p D' (flushD l d)) (ho : ∀ k, S k → ¬ D' k) :
    WfL W' p q S D' { l with flushed := l.bytes.length } (flushD l d) rs rs.length f (j + 1) := by
  have hlog : (flushD l d).log = allL rs := by
    show d.log ++ (⟨(l.bytes.drop l.flushed).toArray⟩ : ByteArray).data.toList = _
    rw [h.dlog, h.fl, h.bytes]
    exact (allL_split rs sure).symm
  have ht : rs.take rs.length = rs := List.take_length
  have hb := h.blen hj
  refine ⟨hl, hd, h.dp, ho, h.bytes, ⟨h.recs.starts, h.recs.long, h.recs.text⟩, h.half, h.keeps, h.few, h.sz, Nat.le_trans h.cnt (by omega), Nat.le_refl _, ?_, ?_, h.dead, h.plan, ?_, ?_, h.loose, rfl, h.keep⟩
  · show l.bytes.length = _
    rw [ht, h.bytes]
  · rw [ht]; exact hlog
  · show d.calls + 1 + 1 ≤ _
    have := h.calls; omega
  · refine ⟨h.ok.loose, h.ok.sure, h.ok.n, ?_, Nat.le_refl _⟩
    rw [hlog, ← h.bytes]; omega

/-- The power fails where nothing of the log is loose. -/
theorem WfL.fails (h : WfL W p q S D l d rs sure f j) (hj : j ≤ 40) {D' : Nat → Prop} (g : FG) (P : List FG) (hd : IsDisk W' p D' (failD g { d with plan := P })) : WfE W' p D' (failD g { d with plan := P }) rs sure := by
  have hn : logN { d with plan := P } g.log = d.log.length := by
    have := h.sl
    unfold logN
    show d.sl + (min (max g.log 0) ((d.log.length : Int) - d.sl)).toNat = _
    omega
  have hl : (failD g { d with plan := P }).log = d.log := by
    show d.log.take (logN { d with plan := P } g.log) = _
    rw [hn, List.take_length]
  refine ⟨hd, ⟨(allL (rs.take sure)).length, Nat.le_refl _, allL_mono rs sure, ?_⟩, by rw [← h.bytes]; have := h.blen hj; omega, by show d.calls ≤ _; have := h.calls; omega, h.su, h.sz⟩
  rw [hl, h.dlog]
  exact allL_pre rs sure

/-- The power fails where all but what was flushed is loose. -/
theorem WfL.fails2 (h : WfL W p q S D l d rs sure f j) (hj : j ≤ 40) {D' : Nat → Prop} (g : FG) (P : List FG) (hd : IsDisk W' p D' (failD g { putD d ⟨(l.bytes.drop l.flushed).toArray⟩ with plan := P })) :
    WfE W' p D' (failD g { putD d ⟨(l.bytes.drop l.flushed).toArray⟩ with plan := P }) rs sure := by
  have hlog : d.log ++ (⟨(l.bytes.drop l.flushed).toArray⟩ : ByteArray).data.toList = allL rs := by
    rw [h.dlog, h.fl, h.bytes]
    exact (allL_split rs sure).symm
  have hl : (failD g { putD d ⟨(l.bytes.drop l.flushed).toArray⟩ with plan := P }).log = (allL rs).take (logN { putD d ⟨(l.bytes.drop l.flushed).toArray⟩ with plan := P } g.log) := by
    show (d.log ++ _).take _ = _
    rw [hlog]
  have hn : logN { putD d ⟨(l.bytes.drop l.flushed).toArray⟩ with plan := P } g.log = d.sl + (min (max g.log 0) (((allL rs).length : Int) - d.sl)).toNat := by
    show d.sl + (min (max g.log 0) (((d.log ++ (⟨(l.bytes.drop l.flushed).toArray⟩ : ByteArray).data.toList).length : Int) - d.sl)).toNat = _
    rw [hlog]
  have hsl : d.sl = (allL (rs.take sure)).length := by rw [h.sl, h.dlog]
  have hm := allL_mono rs sure
  refine ⟨hd, ⟨_, ?_, ?_, hl⟩, by rw [← h.bytes]; have := h.blen hj; omega, by show d.calls + 1 ≤ _; have := h.calls; omega, h.su, h.sz⟩
  · rw [hn]; omega
  · rw [hn]; omega

end

end Go.Proofs.Ythmhigjdjclckaa
