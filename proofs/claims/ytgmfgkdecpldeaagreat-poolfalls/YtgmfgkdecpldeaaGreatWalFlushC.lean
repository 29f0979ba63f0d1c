/-
  The walks of (*wal.Log).missing and Flush, as long as the disk has no plan and none was cut off.
-/
import Derived.Test.YtgmfgkdecpldeaaGreatBase4C
namespace Go.Proofs.YtgmfgkdecpldeaaGreat
open Go.RowKit
set_option linter.unusedVariables false

section
variable {w : World} {p : Nat} {S : Nat → Prop} {l : LG}

set_option maxHeartbeats 400000 in
set_option maxRecDepth 8000 in
theorem missing_out (h : IsLog w p S l) (hh : l.half = false) (hf : l.flushed < l.bytes.length) (hb : l.bytes.length ≤ 4194304) :
    Calls Tryz.prog 114 #[.pointer (some ⟨p, 0, none⟩)] w fun e w' => e = .returned (.string ⟨(l.bytes.drop l.flushed).toArray⟩) ∧ w' = w.drew := by
  obtain ⟨bv, sv, hL, _⟩ := h
  have c1 := hL.cells.c1
  have c3 := hL.cells.c3
  have c4 := hL.cells.c4
  rw [hh] at c4
  rcases hL.bytes with ⟨e1, e2⟩ | ⟨g, cap, cur, fz, e1, hg, hfz, hlc, hcm, hcs, htk⟩
  · rw [e2] at hf; simp at hf
  have hrow := hL.bytes
  rw [e1] at hrow c1
  have HCV : Hid (∀ W : World, W.heap = w.heap → (convert 47 9 (.slice (some ⟨g, l.flushed, none⟩) (l.bytes.length - l.flushed) (cap - l.flushed))).run Tryz.prog W = .ok (.string ⟨(l.bytes.drop l.flushed).toArray⟩) W) := by
    intro W hW
    have := ByteRow.text (w := W) (hrow.same fun _ _ => by rw [hW]) l.flushed (l.bytes.length - l.flushed) (cap - l.flushed) (by omega)
    rw [List.take_of_length_le (by simp)] at this
    exact this
  have hcap : cap ≠ l.flushed := by omega
  have i1 : (0 : Int) ≤ (l.flushed : Int) := by omega
  have i2 : (l.flushed : Int) ≤ (l.bytes.length : Int) := by omega
  clear hL hrow hg htk hfz e1
  go_enter Tryz.func114, Tryz.ntmps114
  go_wp2
  go_region_held3 (fun w' => w'.cell? ⟨p, 1, none⟩ = some (.slice (some ⟨g, 0, none⟩) l.bytes.length cap) ∧ w'.cell? ⟨p, 3, none⟩ = some (.int .i64 l.flushed) ∧ (convert 47 9 (.slice (some ⟨g, l.flushed, none⟩) (l.bytes.length - l.flushed) (cap - l.flushed))).run Tryz.prog w' = .ok (.string ⟨(l.bytes.drop l.flushed).toArray⟩) w')
    (first | exact ⟨c1, c3, HCV.out _ rfl⟩ | go_keep) (fail)
  go_wp2
  go_ret
  exact ⟨rfl, rfl⟩

/-- A cell of the log other than its two rows is written. -/
theorem IsLog.set {v : Value} {i : Nat} {l' : LG} (h : IsLog w p S l) (hv : ∀ bv sv, (lvals bv sv l).setIfInBounds i v = lvals bv sv l') (e1 : l'.bytes = l.bytes) (e2 : l'.starts = l.starts) : IsLog (w.setCell ⟨p, i, none⟩ v) p S l' := by
  obtain ⟨bv, sv, hL, h1, h2⟩ := h
  have ha := hL.apart
  refine ⟨bv, sv, ⟨?_, ?_, ?_⟩, h1, fun k hk => by simpa using h2 k hk⟩
  · rw [← hv]; exact hL.blk.set i v
  · rw [e1]; exact hL.bytes.same fun g k => heap_set _ _ _ _ (ha.1 g k).1
  · rw [e2]; exact owns_same hL.starts fun g k => heap_set _ _ _ _ (ha.2 g k)

theorem IsLog.c0 (h : IsLog w p S l) : w.cell? ⟨p, 0, none⟩ = some (.pointer (some ⟨l.dp, 0, none⟩)) := by
  obtain ⟨_, _, hL, _⟩ := h
  exact hL.cells.c0

theorem IsLog.has (h : IsLog w p S l) : S p := by
  obtain ⟨bv, sv, hL, h1, h2⟩ := h
  exact h1 p (.inl rfl)

theorem IsLog.lcells (h : IsLog w p S l) : ∃ ba bc sv, LCells w p (.slice ba l.bytes.length bc) sv l := by
  obtain ⟨bv, sv, hL, h1, h2⟩ := h
  obtain ⟨a, c, rfl⟩ := hL.bytes.slice
  exact ⟨a, c, sv, hL.cells⟩

/-- The disk behind a flush. -/
def flushD (l : LG) (d : DG) : DG := { putD d ⟨(l.bytes.drop l.flushed).toArray⟩ with calls := d.calls + 1 + 1, sl := (putD d ⟨(l.bytes.drop l.flushed).toArray⟩).log.length }

set_option maxHeartbeats 800000 in
set_option maxRecDepth 8000 in
theorem flush_out {D : Nat → Prop} {d : DG} (h : IsLog w p S l) (hd : IsDisk w l.dp D d) (ha : ∀ k, S k → ¬ D k) (hh : l.half = false) (hf : l.flushed < l.bytes.length) (hb : l.bytes.length ≤ 4194304)
    (d1 : d.dead = false) (d2 : d.plan = []) (d3 : d.calls ≤ 100000) (d4 : d.log.length = l.flushed) (up : Nat) (hto : l.flushed + 1 ≤ up) :
    Calls Tryz.prog 84 #[.pointer (some ⟨p, 0, none⟩), .int .u64 up] w fun e w' => e = .returned (.int .i64 0) ∧
      ∃ D', IsLog w' p S { l with flushed := l.bytes.length } ∧ IsDisk w' l.dp D' (flushD l d) ∧ (∀ k, S k → ¬ D' k) ∧ (∀ k, D' k → D k ∨ w.heap.size ≤ k) ∧ Kept (fun k => S k ∨ D k) w w' := by
  have hsz : (ByteArray.mk (l.bytes.drop l.flushed).toArray).size = l.bytes.length - l.flushed := by rw [bytes_size]; simp
  have HM : Hid (∀ W : World, W.heap = w.heap → Calls Tryz.prog 114 #[.pointer (some ⟨p, 0, none⟩)] W fun e w' => e = .returned (.string ⟨(l.bytes.drop l.flushed).toArray⟩) ∧ w' = W.drew) := fun W hW => missing_out (h.same (fun k hk => by rw [hW]) (by rw [hW]; exact Nat.le_refl _)) hh hf hb
  have HFL : Hid (∀ W : World, W.heap = w.heap → Calls Tryz.prog 24 #[.pointer (some ⟨p, 0, none⟩)] W fun e w' => e = .returned (.int .u64 ((l.flushed + 1 : Nat) : Int)) ∧ w' = W) := fun W hW => flushed_out (h.same (fun k hk => by rw [hW]) (by rw [hW]; exact Nat.le_refl _)) (by omega)
  have HAL : Hid (∀ W : World, W.heap = w.heap → Calls Tryz.prog 113 #[.pointer (some ⟨l.dp, 0, none⟩), .string ⟨(l.bytes.drop l.flushed).toArray⟩] W fun x w' => x = .returned (.int .i64 0) ∧ ∃ S', IsDisk w' l.dp S' (putD d ⟨(l.bytes.drop l.flushed).toArray⟩) ∧ Moves D S' W w') :=
    fun W hW => appendLog_out (hd.same (fun k hk => by rw [hW]) (by rw [hW]; exact Nat.le_refl _)) d1 d2 (by omega) _ (by rw [hsz]; omega)
  have HH := hid h
  have HD := hid hd
  have HA := hid ha
  obtain ⟨ba, bc, sv, hC⟩ := h.lcells
  have c0 := hC.c0
  have c1 := hC.c1
  have c3 := hC.c3
  have c4 := hC.c4
  have k0 : ((l.flushed : Int) == (l.bytes.length : Int)) = false := by rw [beq_eq_false_iff_ne]; omega
  have k1 : decide ((up : Int) < ((l.flushed + 1 : Nat) : Int)) = false := by simp; omega
  have k2 : decide ((up : Int) < (l.flushed : Int) + 1) = false := by simp; omega
  clear hC h hd ha
  go_enter Tryz.func84, Tryz.ntmps84
  go_wp2_with fail
  go_region_held3 (fun w' => w'.cell? ⟨p, 1, none⟩ = some (.slice ba l.bytes.length bc) ∧ w'.cell? ⟨p, 3, none⟩ = some (.int .i64 l.flushed)) (first | exact ⟨c1, c3⟩ | go_keep)
    (first | (go_at_call 24; refine (HFL.out w.drew rfl).mono ?_; rintro x w3 ⟨rfl, rfl⟩))
  go_wp2_with fail
  have HHX : Hid (IsLog w.drew.drew.drew p S l) := HH.out.same (fun _ _ => rfl) (Nat.le_refl _)
  clear c1 c3 c4
  go_region_held3 (fun w' => w'.cell? ⟨p, 0, none⟩ = some (.pointer (some ⟨l.dp, 0, none⟩))) (first | exact c0 | go_keep | assumption)
    (first | (go_at_call 114; refine (HM.out w.drew.drew rfl).mono ?_; rintro x w3 ⟨rfl, rfl⟩) | (go_at_call 113; refine (HAL.out w.drew.drew.drew rfl).mono ?_; rintro x w5 ⟨rfl, D5, hd5, hm5⟩; have hb5 := HHX.out.beside hm5 HA.out; have hc0 : w5.cell? ⟨p, 0, none⟩ = some (.pointer (some ⟨l.dp, 0, none⟩)) := hb5.1.c0))
  have hpS : S p := HH.out.has
  have H5 : Hid (IsLog w5 p S l ∧ (∀ k, S k → ¬ D5 k) ∧ IsDisk w5 l.dp D5 (putD d ⟨(l.bytes.drop l.flushed).toArray⟩) ∧ Moves D D5 w w5) := ⟨hb5.1, hb5.2, hd5, hm5.undrew.undrew.undrew⟩
  obtain ⟨ba5, bc5, sv5, hC5⟩ := hb5.1.lcells
  have q1 := hC5.c1
  have q4 := hC5.c4
  have q0 := hC5.c0
  have f4 := hC5.fr 4
  clear hC5 hb5 hd5 hm5 hc0 c0
  go_wp2_with fail
  have hL6 : IsLog (w5.setCell ⟨p, 4, none⟩ (.bool true)) p S { l with half := true } := H5.out.1.set (fun _ _ => rfl) rfl rfl
  have hD6 : IsDisk (w5.setCell ⟨p, 4, none⟩ (.bool true)) l.dp D5 (putD d ⟨(l.bytes.drop l.flushed).toArray⟩) := H5.out.2.2.1.same (fun k hk => heap_set _ _ _ _ (fun e => H5.out.2.1 p hpS (e ▸ hk))) (by simp)
  refine (syncLog_out hD6 d1 d2 (by show d.calls + 1 ≤ _; omega) (by show (d.log ++ _).length ≤ _; simp; omega)).mono ?_
  rintro x w6 ⟨rfl, D6, hd6, hm6⟩
  have hb6 := hL6.beside hm6 H5.out.2.1
  obtain ⟨ba6, bc6, sv6, hC6⟩ := hb6.1.lcells
  have r1 : w6.cell? ⟨p, 1, none⟩ = some (.slice ba6 l.bytes.length bc6) := hC6.c1
  have r3 : w6.cell? ⟨p, 3, none⟩ = some (.int .i64 l.flushed) := hC6.c3
  have r4 : w6.cell? ⟨p, 4, none⟩ = some (.bool true) := hC6.c4
  have g3 := hC6.fr 3
  have g4 := hC6.fr 4
  have HF : Hid (∃ D', IsLog ((w6.setCell ⟨p, 4, none⟩ (.bool false)).setCell ⟨p, 3, none⟩ (.int .i64 l.bytes.length)) p S { l with flushed := l.bytes.length } ∧ IsDisk ((w6.setCell ⟨p, 4, none⟩ (.bool false)).setCell ⟨p, 3, none⟩ (.int .i64 l.bytes.length)) l.dp D' (flushD l d) ∧ (∀ k, S k → ¬ D' k) ∧ (∀ k, D' k → D k ∨ w.heap.size ≤ k) ∧ Kept (fun k => S k ∨ D k) w ((w6.setCell ⟨p, 4, none⟩ (.bool false)).setCell ⟨p, 3, none⟩ (.int .i64 l.bytes.length))) := by
    have e1 : ({ l with flushed := l.bytes.length } : LG) = { l with half := false, flushed := l.bytes.length } := by rw [← hh]
    have hm : Moves (fun k => S k ∨ D k) (fun k => S k ∨ D6 k) w w6 := by
      have a := H5.out.2.2.2
      have h1 : Moves (fun k => S k ∨ D k) (fun k => S k ∨ D5 k) w w5 := ⟨a.1.mono fun _ x => .inr x, fun k x => by
        rcases x with x | x
        · exact .inl (.inl x)
        · rcases a.2 k x with y | y
          · exact .inl (.inr y)
          · exact .inr y⟩
      have h2 : Moves (fun k => S k ∨ D5 k) (fun k => S k ∨ D5 k) w5 (w5.setCell ⟨p, 4, none⟩ (.bool true)) := Moves.of_kept (Kept.setCell _ _ _ _ _ (.inl hpS))
      have h3 : Moves (fun k => S k ∨ D5 k) (fun k => S k ∨ D6 k) (w5.setCell ⟨p, 4, none⟩ (.bool true)) w6 := ⟨hm6.1.mono fun _ x => .inr x, fun k x => by
        rcases x with x | x
        · exact .inl (.inl x)
        · rcases hm6.2 k x with y | y
          · exact .inl (.inr y)
          · exact .inr y⟩
      exact (h1.trans h2).trans h3
    have hp6 : ¬ D6 p := hb6.2 p hpS
    refine ⟨D6, ?_, ?_, hb6.2, fun k hk => ?_, ?_⟩
    · rw [e1]
      have s1 : IsLog (w6.setCell ⟨p, 4, none⟩ (.bool false)) p S { l with half := false } := hb6.1.set (fun _ _ => rfl) rfl rfl
      exact s1.set (fun _ _ => rfl) rfl rfl
    · refine IsDisk.same (w := w6) hd6 (fun k hk => ?_) (by simp)
      have ne : k ≠ p := fun e => hp6 (e ▸ hk)
      exact (heap_set _ _ _ _ ne).trans (heap_set _ _ _ _ ne)
    · rcases hm.2 k (.inr hk) with (y | y) | y
      · exact absurd hk (hb6.2 k y)
      · exact .inl y
      · exact .inr y
    · exact ((hm.kept (Kept.setCell _ _ _ _ _ (.inl hpS))).kept (Kept.setCell _ _ _ _ _ (.inl hpS))).1
  clear hC6 hb6 hd6 hm6 hL6 hD6
  go_wp2
  go_ret
  exact ⟨rfl, HF.out⟩

end

end Go.Proofs.YtgmfgkdecpldeaaGreat
