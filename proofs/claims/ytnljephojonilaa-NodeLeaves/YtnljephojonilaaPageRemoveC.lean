/-
  The walk of page.remove; page.change of an OpRemove (for PageBack).
-/
import Derived.Test.YtnljephojonilaaBase6C
namespace Go.Proofs.Ytnljephojonilaa
open Go.RowKit Go.Sort
set_option linter.unusedVariables false

section
variable {B : Nat} {w : World} {b bs : Nat} {p : SheetV} {o : OpV}

set_option maxHeartbeats 1600000 in
set_option maxRecDepth 60000 in
theorem remove_any (h : SheetAt B w b bs p) (f : p.Fits) (ho : o.Ok) (ha : 0 ≤ o.at') :
    Calls Try.prog 59 #[.pointer (some ⟨b, 0, none⟩), o.val] w fun e w' => e = .returned (.int .i64 (standE p o)) ∧ Below B w w' ∧
      (standE p o = 0 → RowV w' b 5 (five (.int .u32 p.num) (.int .u64 p.lsn) (.int .i64 p.kind) (.string p.head) (.slice (some ⟨bs, 0, none⟩) (p.slots.length - 1) p.slots.length)) ∧ StrRow w' bs (p.slots.eraseIdx o.at'.toNat)) := by
  have hb1 := h.b1
  have hlt := h.lt
  have hoS := ho.S
  have hoT := ho.old
  have hf := f.fits
  have hn64 := f.len
  have HST : Hid (∀ wx, SheetAt B wx b bs p → Calls Try.prog 82 #[.pointer (some ⟨b, 0, none⟩), o.val] wx fun e w' => e = .returned (.int .i64 (standE p o)) ∧ Below wx.heap.size wx w') := fun wx hx => stands_any hx f ho ha
  clear ho
  obtain ⟨K, A, S, T⟩ := o
  simp only at hoS hoT ha HST ⊢
  obtain ⟨i, rfl⟩ := Int.eq_ofNat_of_zero_le ha
  simp only [Int.toNat_natCast]
  unfold OpV.val at HST ⊢
  simp only at HST ⊢
  obtain ⟨W, HW⟩ : ∃ W, Hid (W = w.alloc (.cells #[.int .i64 K, .int .i64 i, .string S, .string T] 35)) := ⟨_, rfl⟩
  have bW : Below w.heap.size w W := by rw [HW.out]; exact (Below.refl _ _).alloc (Nat.le_refl _) _
  have zW : w.heap.size < W.heap.size := by rw [HW.out]; simp
  have h1 := h.below bW
  have r1 : RowV W w.heap.size 4 (four (.int .i64 K) (.int .i64 i) (.string S) (.string T)) := by rw [HW.out]; exact RowV.four_new w _ _ _ _ _
  obtain ⟨x0, x1, x2, x3, x4⟩ := h1.row.cells5
  obtain ⟨y0, y1, y2, y3⟩ := r1.cells4
  have bB : Below B w W := bW.mono (by omega)
  have HSZ : Hid (standE p ⟨K, i, S, T⟩ = 0 → i < p.slots.length) := fun q => by have := (standE_zero q).1; simp only at this; omega
  generalize standE p ⟨K, i, S, T⟩ = E at *
  by_cases c1 : E = 0
  · have hin := HSZ.out c1
    subst c1
    have hwr : IntKind.i64.wrap ((i : Int) + 1) = (i : Int) + 1 := wrap_small (by omega) (by omega)
    go_enter Try.func59, Try.ntmps59
    go_wp2_with fail
    rw [← HW.out]
    refine (HST.out _ h1).mono ?_
    rintro e W2 ⟨rfl, b2⟩
    have h2 := h1.below b2
    have r2 := r1.below b2 zW
    have bB2 := bB.trans (b2.mono (by have := bW.size; omega))
    have zW2 := Nat.lt_of_lt_of_le zW b2.size
    clear HW r1 h1 bB bW x0 x1 x2 x3 x4 y0 y1 y2 y3 b2
    obtain ⟨x0, x1, x2, x3, x4⟩ := h2.row.cells5
    obtain ⟨y0, y1, y2, y3⟩ := r2.cells4
    obtain ⟨f0, f1, f2, f3, f4⟩ := h2.row.open5
    go_wp2_with fail
    have HD : Hid (∀ X, SheetAt B X b bs p → Below B w X → Calls Try.prog 83 #[.slice (some ⟨bs, 0, none⟩) p.slots.length p.slots.length, .int .i64 i, .int .i64 ((i : Int) + 1)] X fun e w' =>
        e = .returned (.slice (some ⟨bs, 0, none⟩) (p.slots.length - 1) p.slots.length) ∧ StrRow w' bs (p.slots.eraseIdx i) ∧ RowV w' b 5 (five (.int .u32 p.num) (.int .u64 p.lsn) (.int .i64 p.kind) (.string p.head) (.slice (some ⟨bs, 0, none⟩) p.slots.length p.slots.length)) ∧ Below B w w') := fun X h3 hB => by
      refine (delete_call p.slots bs i _ h3.str hin hn64).mono ?_
      rintro e w' ⟨rfl, q1, q, vs, rfl⟩
      exact ⟨rfl, q1, (h3.row.below (below_drewN (Below.refl _ _) q) h3.lt).setCells_other h3.ne vs 0, below_setCells bs h3.bs1 vs 0 _ (below_drewN hB q)⟩
    have hne := h2.ne
    have h2d : SheetAt B W2.drew b bs p := h2.below ((Below.refl W2.heap.size W2).drew)
    have bBd : Below B w W2.drew := bB2.drew
    go_region_with (first | (go_at_call 83; refine (HD.out _ h2d bBd).mono ?_; rintro e w4 ⟨rfl, q1, q4, q5⟩; obtain ⟨k0, k1, k2, k3, k4⟩ := q4.cells5; obtain ⟨l0, l1, l2, l3, l4⟩ := q4.open5))
    all_goals
      go_wp2
      go_ret
      exact ⟨rfl, q5.setCell (p := ⟨b, 4, none⟩) hb1 _, fun _ => ⟨q4.set4 _, q1.set_other (fun q => hne q.symm) _⟩⟩
  · have c1' : (E != 0) = true := by rw [bne_iff_ne]; exact c1
    go_enter Try.func59, Try.ntmps59
    go_wp2_with fail
    rw [← HW.out]
    refine (HST.out _ h1).mono ?_
    rintro e W2 ⟨rfl, b2⟩
    have h2 := h1.below b2
    have r2 := r1.below b2 zW
    have bB2 := bB.trans (b2.mono (by have := bW.size; omega))
    have zW2 := Nat.lt_of_lt_of_le zW b2.size
    clear HW r1 h1 bB bW x0 x1 x2 x3 x4 y0 y1 y2 y3 b2
    obtain ⟨x0, x1, x2, x3, x4⟩ := h2.row.cells5
    obtain ⟨y0, y1, y2, y3⟩ := r2.cells4
    go_wp2
    go_ret
    exact ⟨rfl, bB2, fun h => absurd h c1⟩

end
end Go.Proofs.Ytnljephojonilaa
