/-
  page.change of an OpInsert; page.Apply and page.Fits of one.
-/
import Derived.Test.YtnljephojonilaaPageApplyC
namespace Go.Proofs.Ytnljephojonilaa
open Go.RowKit Go.Sort
set_option linter.unusedVariables false

theorem insE_zero {p : SheetV} {o : OpV} (h : insE p o = 0) : o.at' ≤ p.slots.length ∧ p.slots.length < 64 ∧ p.head.size + slotSum p.slots + (2 + o.S.size) ≤ 485 := by
  unfold insE at h
  split at h
  · cases h
  split at h
  · cases h
  split at h
  · cases h
  · omega

set_option maxHeartbeats 1600000 in
set_option maxRecDepth 60000 in
theorem change_ins {p : SheetV} {o : OpV} (f : p.Fits) (ho : o.Ok) (hk : o.kind = 2) (ha : 0 ≤ o.at') : ChangeDoes p o (insE p o) { p with slots := insL p.slots o.at'.toNat o.S } := by
  intro B w b bs h
  have hb1 := h.b1
  have hlt := h.lt
  have HI : Hid (∀ wx, SheetAt B wx b bs p → Calls Try.prog 58 #[.pointer (some ⟨b, 0, none⟩), o.val] wx fun e w' => e = .returned (.int .i64 (insE p o)) ∧ Below B wx w' ∧
      (insE p o = 0 → ∃ bs' c, RowV w' b 5 (five (.int .u32 p.num) (.int .u64 p.lsn) (.int .i64 p.kind) (.string p.head) (.slice (some ⟨bs', 0, none⟩) (p.slots.length + 1) c)) ∧ StrRow w' bs' (insL p.slots o.at'.toNat o.S) ∧ B ≤ bs' ∧ bs' < w'.heap.size ∧ bs' ≠ b)) := fun wx hx => insert_any hx f ho ha
  have HZ : Hid (insE p o = 0 → o.at'.toNat ≤ p.slots.length) := fun e => by have := insE_zero e; omega
  generalize insE p o = E at *
  obtain ⟨K, A, S, T⟩ := o
  simp only at hk ha HI HZ ⊢
  subst hk
  generalize A.toNat = i at *
  simp only [OpV.val] at HI ⊢
  obtain ⟨W, HW⟩ : ∃ W, Hid (W = w.alloc (.cells #[.int .i64 2, .int .i64 A, .string S, .string T] 35)) := ⟨_, rfl⟩
  have bW : Below w.heap.size w W := by rw [HW.out]; exact (Below.refl _ _).alloc (Nat.le_refl _) _
  have h1 := h.below bW
  go_enter Try.func35, Try.ntmps35
  go_wp2_with fail
  rw [← HW.out]
  clear HW
  refine (HI.out _ h1).mono ?_
  rintro e w1 ⟨rfl, b1, hz⟩
  go_wp2
  go_ret
  refine ⟨rfl, (bW.mono (by omega)).trans b1, fun hE => ?_⟩
  obtain ⟨bs', c', q1, q2, q3, q4, q5⟩ := hz hE
  exact ⟨some ⟨bs', 0, none⟩, c', by rw [insL_length _ _ _ (HZ.out hE)]; exact q1, q2.not q5 q3 q4⟩

end Go.Proofs.Ytnljephojonilaa
