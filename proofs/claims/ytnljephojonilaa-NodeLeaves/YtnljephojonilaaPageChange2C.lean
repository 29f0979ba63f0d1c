/-
  page.change of an OpSet, an OpHead, an OpTurn (for PageBack).
-/
import Derived.Test.YtnljephojonilaaPageTurnC
namespace Go.Proofs.Ytnljephojonilaa
open Go.RowKit Go.Sort
set_option linter.unusedVariables false

theorem StrRow.toNot {w : World} {B b bs : Nat} {q : SheetV} (h : SheetAt B w b bs q) : StrsNot B b w (some ⟨bs, 0, none⟩) q.slots := h.str.not (fun e => h.ne e) h.bs1 h.bslt

set_option maxHeartbeats 1600000 in
set_option maxRecDepth 60000 in
theorem change_set {p : SheetV} {o : OpV} (f : p.Fits) (ho : o.Ok) (hk : o.kind = 4) (ha : 0 ≤ o.at') : ChangeDoes p o (setE p o) { p with slots := p.slots.set o.at'.toNat o.S } := by
  intro B w b bs h
  have hb1 := h.b1
  have hlt := h.lt
  have HI : Hid (∀ wx, SheetAt B wx b bs p → Calls Try.prog 60 #[.pointer (some ⟨b, 0, none⟩), o.val] wx fun e w' => e = .returned (.int .i64 (setE p o)) ∧ Below B wx w' ∧
      (setE p o = 0 → SheetAt B w' b bs { p with slots := p.slots.set o.at'.toNat o.S })) := fun wx hx => set_any hx f ho ha
  generalize setE p o = E at *
  generalize { p with slots := p.slots.set o.at'.toNat o.S } = q at *
  obtain ⟨K, A, S, T⟩ := o
  simp only at hk HI ⊢
  subst hk
  simp only [OpV.val] at HI ⊢
  obtain ⟨W, HW⟩ : ∃ W, Hid (W = w.alloc (.cells #[.int .i64 4, .int .i64 A, .string S, .string T] 35)) := ⟨_, rfl⟩
  have bW : Below w.heap.size w W := by rw [HW.out]; exact (Below.refl _ _).alloc (Nat.le_refl _) _
  have h1 := h.below bW
  go_enter Try.func35, Try.ntmps35
  go_wp2_with fail
  rw [← HW.out]
  clear HW
  refine (HI.out _ h1).mono ?_
  rintro e w1 ⟨rfl, b1, hz⟩
  go_wp2
  go_ret
  refine ⟨rfl, (bW.mono (by omega)).trans b1, fun hE => ?_⟩
  have hq := hz hE
  exact ⟨some ⟨bs, 0, none⟩, q.slots.length, hq.row, StrRow.toNot hq⟩

set_option maxHeartbeats 1600000 in
set_option maxRecDepth 60000 in
theorem change_head {p : SheetV} {o : OpV} (f : p.Fits) (ho : o.Ok) (hk : o.kind = 5) : ChangeDoes p o (headE p o) { p with head := o.S } := by
  intro B w b bs h
  have hb1 := h.b1
  have hlt := h.lt
  have HI : Hid (∀ wx, SheetAt B wx b bs p → Calls Try.prog 61 #[.pointer (some ⟨b, 0, none⟩), o.val] wx fun e w' => e = .returned (.int .i64 (headE p o)) ∧ Below B wx w' ∧
      (headE p o = 0 → SheetAt B w' b bs { p with head := o.S })) := fun wx hx => setHead_any hx f ho
  generalize headE p o = E at *
  generalize { p with head := o.S } = q at *
  obtain ⟨K, A, S, T⟩ := o
  simp only at hk HI ⊢
  subst hk
  simp only [OpV.val] at HI ⊢
  obtain ⟨W, HW⟩ : ∃ W, Hid (W = w.alloc (.cells #[.int .i64 5, .int .i64 A, .string S, .string T] 35)) := ⟨_, rfl⟩
  have bW : Below w.heap.size w W := by rw [HW.out]; exact (Below.refl _ _).alloc (Nat.le_refl _) _
  have h1 := h.below bW
  go_enter Try.func35, Try.ntmps35
  go_wp2_with fail
  rw [← HW.out]
  clear HW
  refine (HI.out _ h1).mono ?_
  rintro e w1 ⟨rfl, b1, hz⟩
  go_wp2
  go_ret
  refine ⟨rfl, (bW.mono (by omega)).trans b1, fun hE => ?_⟩
  have hq := hz hE
  exact ⟨some ⟨bs, 0, none⟩, q.slots.length, hq.row, StrRow.toNot hq⟩

set_option maxHeartbeats 1600000 in
set_option maxRecDepth 60000 in
theorem change_turn {p : SheetV} {o : OpV} (f : p.Fits) (ho : o.Ok) (hk : o.kind = 7) (h1S : 1 ≤ o.S.size) : ChangeDoes p o (turnE p o) { p with kind := ((o.S.data.toList.getD 0 0).toNat : Int), head := o.S.extract 1 o.S.size } := by
  intro B w b bs h
  have hb1 := h.b1
  have hlt := h.lt
  have HI : Hid (∀ wx, SheetAt B wx b bs p → Calls Try.prog 63 #[.pointer (some ⟨b, 0, none⟩), o.val] wx fun e w' => e = .returned (.int .i64 (turnE p o)) ∧ Below B wx w' ∧
      (turnE p o = 0 → SheetAt B w' b bs { p with kind := ((o.S.data.toList.getD 0 0).toNat : Int), head := o.S.extract 1 o.S.size })) := fun wx hx => turn_any hx f ho h1S
  generalize turnE p o = E at *
  generalize { p with kind := ((o.S.data.toList.getD 0 0).toNat : Int), head := o.S.extract 1 o.S.size } = q at *
  obtain ⟨K, A, S, T⟩ := o
  simp only at hk HI ⊢
  subst hk
  simp only [OpV.val] at HI ⊢
  obtain ⟨W, HW⟩ : ∃ W, Hid (W = w.alloc (.cells #[.int .i64 7, .int .i64 A, .string S, .string T] 35)) := ⟨_, rfl⟩
  have bW : Below w.heap.size w W := by rw [HW.out]; exact (Below.refl _ _).alloc (Nat.le_refl _) _
  have h1 := h.below bW
  go_enter Try.func35, Try.ntmps35
  go_wp2_with fail
  rw [← HW.out]
  clear HW
  refine (HI.out _ h1).mono ?_
  rintro e w1 ⟨rfl, b1, hz⟩
  go_wp2
  go_ret
  refine ⟨rfl, (bW.mono (by omega)).trans b1, fun hE => ?_⟩
  have hq := hz hE
  exact ⟨some ⟨bs, 0, none⟩, q.slots.length, hq.row, StrRow.toNot hq⟩

end Go.Proofs.Ytnljephojonilaa
