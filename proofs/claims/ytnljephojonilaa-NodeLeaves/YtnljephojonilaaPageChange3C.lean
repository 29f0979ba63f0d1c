/-
  page.change of an OpRemove (for PageBack).
-/
import Derived.Test.YtnljephojonilaaPageRemoveC
namespace Go.Proofs.Ytnljephojonilaa
open Go.RowKit Go.Sort
set_option linter.unusedVariables false

set_option maxHeartbeats 1600000 in
set_option maxRecDepth 60000 in
theorem change_rem {p : SheetV} {o : OpV} (f : p.Fits) (ho : o.Ok) (hk : o.kind = 3) (ha : 0 ≤ o.at') : ChangeDoes p o (standE p o) { p with slots := p.slots.eraseIdx o.at'.toNat } := by
  intro B w b bs h
  have hb1 := h.b1
  have hlt := h.lt
  have HI : Hid (∀ wx, SheetAt B wx b bs p → Calls Try.prog 59 #[.pointer (some ⟨b, 0, none⟩), o.val] wx fun e w' => e = .returned (.int .i64 (standE p o)) ∧ Below B wx w' ∧
      (standE p o = 0 → RowV w' b 5 (five (.int .u32 p.num) (.int .u64 p.lsn) (.int .i64 p.kind) (.string p.head) (.slice (some ⟨bs, 0, none⟩) (p.slots.length - 1) p.slots.length)) ∧ StrRow w' bs (p.slots.eraseIdx o.at'.toNat))) := fun wx hx => remove_any hx f ho ha
  have HZ : Hid (standE p o = 0 → o.at'.toNat < p.slots.length) := fun q => by have := (standE_zero q).1; omega
  generalize standE p o = E at *
  obtain ⟨K, A, S, T⟩ := o
  simp only at hk ha HI HZ ⊢
  subst hk
  generalize A.toNat = i at *
  simp only [OpV.val] at HI ⊢
  obtain ⟨W, HW⟩ : ∃ W, Hid (W = w.alloc (.cells #[.int .i64 3, .int .i64 A, .string S, .string T] 35)) := ⟨_, rfl⟩
  have bW : Below w.heap.size w W := by rw [HW.out]; exact (Below.refl _ _).alloc (Nat.le_refl _) _
  have h1 := h.below bW
  go_enter Try.func35, Try.ntmps35
  go_wp2_with fail
  rw [← HW.out]
  clear HW
  refine (HI.out _ h1).mono ?_
  rintro e w1 ⟨rfl, b1, hz⟩
  go_wp2
  go_ret
  refine ⟨rfl, (bW.mono (by omega)).trans b1, fun hE => ?_⟩
  obtain ⟨q1, q2⟩ := hz hE
  have hl := h1.bslt
  exact ⟨some ⟨bs, 0, none⟩, p.slots.length, by simp only [List.length_eraseIdx_of_lt (HZ.out hE)]; exact q1, q2.not h.ne h.bs1 (Nat.lt_of_lt_of_le hl b1.size)⟩

end Go.Proofs.Ytnljephojonilaa
