/-
  page.change of an OpPut (for PageBack).
-/
import Derived.Test.YtnljephojonilaaPagePutC
namespace Go.Proofs.Ytnljephojonilaa
open Go.RowKit Go.Sort
set_option linter.unusedVariables false

set_option maxHeartbeats 1600000 in
set_option maxRecDepth 60000 in
theorem change_put {p : SheetV} {o : OpV} (f : p.Fits) (ho : o.Ok) (hk : o.kind = 6) (ha : 0 ≤ o.at') (hi5 : o.at' ≤ 511) : ChangeDoes p o (putE p o) { p with slots := p.slots.set 0 (putS (p.slots.getD 0 ByteArray.empty) o.at'.toNat o.S) } := by
  intro B w b bs h
  have hb1 := h.b1
  have hlt := h.lt
  have HI : Hid (∀ wx, SheetAt B wx b bs p → Calls Try.prog 62 #[.pointer (some ⟨b, 0, none⟩), o.val] wx fun e w' => e = .returned (.int .i64 (putE p o)) ∧ Below B wx w' ∧
      (putE p o = 0 → SheetAt B w' b bs { p with slots := p.slots.set 0 (putS (p.slots.getD 0 ByteArray.empty) o.at'.toNat o.S) })) := fun wx hx => putOp_any hx f ho ha hi5
  generalize putE p o = E at *
  generalize { p with slots := p.slots.set 0 (putS (p.slots.getD 0 ByteArray.empty) o.at'.toNat o.S) } = q at *
  obtain ⟨K, A, S, T⟩ := o
  simp only at hk HI ⊢
  subst hk
  simp only [OpV.val] at HI ⊢
  obtain ⟨W, HW⟩ : ∃ W, Hid (W = w.alloc (.cells #[.int .i64 6, .int .i64 A, .string S, .string T] 35)) := ⟨_, rfl⟩
  have bW : Below w.heap.size w W := by rw [HW.out]; exact (Below.refl _ _).alloc (Nat.le_refl _) _
  have h1 := h.below bW
  go_enter Try.func35, Try.ntmps35
  go_wp2_with fail
  rw [← HW.out]
  clear HW
  refine (HI.out _ h1).mono ?_
  rintro e w1 ⟨rfl, b1, hz⟩
  go_wp2
  go_ret
  refine ⟨rfl, (bW.mono (by omega)).trans b1, fun hE => ?_⟩
  have hq := hz hE
  exact ⟨some ⟨bs, 0, none⟩, q.slots.length, hq.row, StrRow.toNot hq⟩

end Go.Proofs.Ytnljephojonilaa
