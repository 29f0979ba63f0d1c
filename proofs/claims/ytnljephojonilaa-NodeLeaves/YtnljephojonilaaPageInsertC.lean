/-
  The walk of page.insert.
-/
import Derived.Test.YtnljephojonilaaBase5C
namespace Go.Proofs.Ytnljephojonilaa
open Go.RowKit Go.Sort
set_option linter.unusedVariables false

/-- A page in memory, at block b, its slots in block bs, both from B on. -/
structure SheetAt (B : Nat) (w : World) (b bs : Nat) (p : SheetV) : Prop where
  row : RowV w b 5 (five (.int .u32 p.num) (.int .u64 p.lsn) (.int .i64 p.kind) (.string p.head) (.slice (some ⟨bs, 0, none⟩) p.slots.length p.slots.length))
  str : StrRow w bs p.slots
  b1 : B ≤ b
  lt : b < w.heap.size
  bs1 : B ≤ bs
  bslt : bs < w.heap.size
  ne : bs ≠ b

theorem SheetAt.below {B : Nat} {w w' : World} {b bs : Nat} {p : SheetV} (h : SheetAt B w b bs p) (k : Below w.heap.size w w') : SheetAt B w' b bs p :=
  ⟨h.row.below k h.lt, h.str.below k h.bslt, h.b1, Nat.lt_of_lt_of_le h.lt k.size, h.bs1, Nat.lt_of_lt_of_le h.bslt k.size, h.ne⟩

theorem SheetAt.ok {B : Nat} {w : World} {b bs : Nat} {p : SheetV} (h : SheetAt B w b bs p) (f : p.Fits) : p.Ok w (some ⟨bs, 0, none⟩) := by
  have hf := f.fits
  refine ⟨f.num, f.lsn, ⟨by have := f.kind0; omega, by have := f.kind1; omega⟩, by have := f.head; omega, by have := f.len; omega, fun s hs => ?_, h.str.strs h.bslt⟩
  obtain ⟨j, hj, rfl⟩ := List.mem_iff_getElem.1 hs
  have := slotSum_at p.slots j hj
  omega

/-- The error of an OpInsert. -/
def insE (p : SheetV) (o : OpV) : Int := if (p.slots.length : Int) < o.at' then 1 else if 64 ≤ p.slots.length then 3 else if 485 < p.head.size + slotSum p.slots + (2 + o.S.size) then 30 else 0

section
variable {B : Nat} {w : World} {b bs : Nat} {p : SheetV} {o : OpV}

set_option maxHeartbeats 1600000 in
set_option maxRecDepth 60000 in
theorem insert_any (h : SheetAt B w b bs p) (f : p.Fits) (ho : o.Ok) (ha : 0 ≤ o.at') :
    Calls Try.prog 58 #[.pointer (some ⟨b, 0, none⟩), o.val] w fun e w' => e = .returned (.int .i64 (insE p o)) ∧ Below B w w' ∧
      (insE p o = 0 → ∃ bs' c, RowV w' b 5 (five (.int .u32 p.num) (.int .u64 p.lsn) (.int .i64 p.kind) (.string p.head) (.slice (some ⟨bs', 0, none⟩) (p.slots.length + 1) c)) ∧ StrRow w' bs' (insL p.slots o.at'.toNat o.S) ∧ B ≤ bs' ∧ bs' < w'.heap.size ∧ bs' ≠ b) := by
  have hb1 := h.b1
  have hlt := h.lt
  have hoS := ho.S
  have hat := ho.at'
  have hf := f.fits
  have hn64 := f.len
  clear ho
  obtain ⟨K, A, S, T⟩ := o
  simp only at ha hoS hat ⊢
  obtain ⟨i, rfl⟩ := Int.eq_ofNat_of_zero_le ha
  rw [Int.toNat_natCast]
  unfold OpV.val
  simp only
  obtain ⟨W, HW⟩ : ∃ W, Hid (W = w.alloc (.cells #[.int .i64 K, .int .i64 i, .string S, .string T] 35)) := ⟨_, rfl⟩
  have bW : Below w.heap.size w W := by rw [HW.out]; exact (Below.refl _ _).alloc (Nat.le_refl _) _
  have zW : w.heap.size < W.heap.size := by rw [HW.out]; simp
  have h1 := h.below bW
  have r1 : RowV W w.heap.size 4 (four (.int .i64 K) (.int .i64 i) (.string S) (.string T)) := by rw [HW.out]; exact RowV.four_new w _ _ _ _ _
  obtain ⟨x0, x1, x2, x3, x4⟩ := h1.row.cells5
  obtain ⟨y0, y1, y2, y3⟩ := r1.cells4
  have bB : Below B w W := bW.mono (by omega)
  by_cases c1 : (p.slots.length : Int) < (i : Int)
  · have hE : insE p ⟨K, i, S, T⟩ = 1 := by unfold insE; rw [if_pos c1]
    rw [hE]
    go_enter Try.func58, Try.ntmps58
    go_wp2_with fail
    rw [← HW.out]
    go_quiet (fail)
    go_wp2
    go_ret
    exact ⟨rfl, below_drewN bB nq, fun h => by cases h⟩
  · have hin : i ≤ p.slots.length := by omega
    by_cases c2 : 64 ≤ p.slots.length
    · have hE : insE p ⟨K, i, S, T⟩ = 3 := by unfold insE; rw [if_neg c1, if_pos c2]
      rw [hE]
      go_enter Try.func58, Try.ntmps58
      go_wp2_with fail
      rw [← HW.out]
      go_quiet (fail)
      go_wp2
      go_ret
      exact ⟨rfl, below_drewN bB nq, fun h => by cases h⟩
    · by_cases c3 : 485 < p.head.size + slotSum p.slots + (2 + S.size)
      · have hE : insE p ⟨K, i, S, T⟩ = 30 := by unfold insE; rw [if_neg c1, if_neg c2, if_pos c3]
        rw [hE]
        have hwr : IntKind.i64.wrap (2 + (S.size : Int)) = 2 + (S.size : Int) := wrap_small (by omega) (by omega)
        have hc2 : decide ((64 : Int) ≤ (p.slots.length : Int)) = false := by simp; omega
        have hc : decide (485 - (p.head.size : Int) - (slotSum p.slots : Int) < 2 + (S.size : Int)) = true := by simp; omega
        go_enter Try.func58, Try.ntmps58
        go_wp2_with fail
        rw [← HW.out]
        go_quiet (fail)
        have r2 : RowV (W.drewN nq) w.heap.size 4 (four (.int .i64 K) (.int .i64 i) (.string S) (.string T)) := r1.below (below_drewN (Below.refl W.heap.size W) nq) zW
        have h2 : SheetAt B (W.drewN nq) b bs p := h1.below (below_drewN (Below.refl W.heap.size W) nq)
        have bB2 := below_drewN bB nq
        have bW2 := below_drewN bW nq
        have zW2 : w.heap.size < (W.drewN nq).heap.size := zW
        obtain ⟨W2, HW2⟩ : ∃ W2, Hid (W2 = W.drewN nq) := ⟨_, rfl⟩
        rw [← HW2.out] at r2 h2 bB2 bW2 zW2 ⊢
        clear HW2 HW r1 h1 bB bW x0 x1 x2 x3 x4 y0 y1 y2 y3
        obtain ⟨x0, x1, x2, x3, x4⟩ := h2.row.cells5
        obtain ⟨y0, y1, y2, y3⟩ := r2.cells4
        go_wp2_with fail
        have gx0 := cell_regrown x0
        have gx1 := cell_regrown x1
        have gx2 := cell_regrown x2
        have gx3 := cell_regrown x3
        have gx4 := cell_regrown x4
        have gy2 := cell_regrown y2
        have cR : ∀ dd os, Calls Try.prog 30 #[.agg #[.int .u32 p.num, .int .u64 p.lsn, .int .i64 p.kind, .string p.head, .slice (some ⟨bs, 0, none⟩) p.slots.length p.slots.length]] (grow (redrawn W2 dd) os) fun e w'' => e = .returned (.int .i64 (485 - (p.head.size : Int) - (slotSum p.slots : Int))) ∧ ∃ p : Regrown, w'' = grow (redrawn W2 p.d) p.os := fun dd os => Calls.regrown_of (by
          have hk := (h2.below (below_regrown W2 dd os)).ok f
          have := hk.room p.slots.length
          rw [roomF_eq hk (by omega)] at this
          exact this)
        refine wp_region_quiet_below mixed (by kernel_rfl) ?_
        repeat (quiet_step (first | (go_at_call 30; exact cR _ _)))
        refine wpQuiet_nil ?_
        intro _ hw'
        obtain ⟨⟨dq, osq⟩, hw''⟩ := hw'
        subst hw''
        clear gx0 gx1 gx2 gx3 gx4 gy2 cR
        go_wp2
        go_ret
        exact ⟨rfl, bB2.trans ((below_regrown W2 dq osq).mono (by omega)), fun h => by cases h⟩
      · have hE : insE p ⟨K, i, S, T⟩ = 0 := by unfold insE; rw [if_neg c1, if_neg c2, if_neg c3]
        rw [hE]
        have hwr : IntKind.i64.wrap (2 + (S.size : Int)) = 2 + (S.size : Int) := wrap_small (by omega) (by omega)
        have hc2 : decide ((64 : Int) ≤ (p.slots.length : Int)) = false := by simp; omega
        have hc : decide (485 - (p.head.size : Int) - (slotSum p.slots : Int) < 2 + (S.size : Int)) = false := by simp; omega
        go_enter Try.func58, Try.ntmps58
        go_wp2_with fail
        rw [← HW.out]
        go_quiet (fail)
        have r2 : RowV (W.drewN nq) w.heap.size 4 (four (.int .i64 K) (.int .i64 i) (.string S) (.string T)) := r1.below (below_drewN (Below.refl W.heap.size W) nq) zW
        have h2 : SheetAt B (W.drewN nq) b bs p := h1.below (below_drewN (Below.refl W.heap.size W) nq)
        have bB2 := below_drewN bB nq
        have bW2 := below_drewN bW nq
        have zW2 : w.heap.size < (W.drewN nq).heap.size := zW
        obtain ⟨W2, HW2⟩ : ∃ W2, Hid (W2 = W.drewN nq) := ⟨_, rfl⟩
        rw [← HW2.out] at r2 h2 bB2 bW2 zW2 ⊢
        clear HW2 HW r1 h1 bB bW x0 x1 x2 x3 x4 y0 y1 y2 y3
        obtain ⟨x0, x1, x2, x3, x4⟩ := h2.row.cells5
        obtain ⟨y0, y1, y2, y3⟩ := r2.cells4
        go_wp2_with fail
        have gx0 := cell_regrown x0
        have gx1 := cell_regrown x1
        have gx2 := cell_regrown x2
        have gx3 := cell_regrown x3
        have gx4 := cell_regrown x4
        have gy2 := cell_regrown y2
        have cR : ∀ dd os, Calls Try.prog 30 #[.agg #[.int .u32 p.num, .int .u64 p.lsn, .int .i64 p.kind, .string p.head, .slice (some ⟨bs, 0, none⟩) p.slots.length p.slots.length]] (grow (redrawn W2 dd) os) fun e w'' => e = .returned (.int .i64 (485 - (p.head.size : Int) - (slotSum p.slots : Int))) ∧ ∃ p : Regrown, w'' = grow (redrawn W2 p.d) p.os := fun dd os => Calls.regrown_of (by
          have hk := (h2.below (below_regrown W2 dd os)).ok f
          have := hk.room p.slots.length
          rw [roomF_eq hk (by omega)] at this
          exact this)
        refine wp_region_quiet_below mixed (by kernel_rfl) ?_
        repeat (quiet_step (first | (go_at_call 30; exact cR _ _)))
        refine wpQuiet_nil ?_
        intro _ hw'
        obtain ⟨⟨dq, osq⟩, hw''⟩ := hw'
        subst hw''
        clear gx0 gx1 gx2 gx3 gx4 gy2 cR
        have bG := below_regrown W2 dq osq
        have h3 := h2.below bG
        have r3 := r2.below bG zW2
        have bB3 := bB2.trans (bG.mono (by omega))
        have zW3 := Nat.lt_of_lt_of_le zW2 bG.size
        obtain ⟨W3, HW3⟩ : ∃ W3, Hid (W3 = grow (redrawn W2 dq) osq) := ⟨_, rfl⟩
        rw [← HW3.out] at h3 r3 bB3 zW3 ⊢
        clear HW3 bG h2 r2 bB2 bW2 x0 x1 x2 x3 x4 y0 y1 y2 y3
        obtain ⟨x0, x1, x2, x3, x4⟩ := h3.row.cells5
        obtain ⟨f0, f1, f2, f3, f4⟩ := h3.row.open5
        obtain ⟨y0, y1, y2, y3⟩ := r3.cells4
        go_wp2_with fail
        have hz3 := h3.lt
        have HI : Hid (Calls Try.prog 81 #[.slice (some ⟨bs, 0, none⟩) p.slots.length p.slots.length, .int .i64 i, .slice (some ⟨W3.heap.size, 0, none⟩) 1 1] (W3.drew.alloc (.cells #[.string S] 9)) fun e w' =>
            ∃ c, e = .returned (.slice (some ⟨W3.heap.size + 1, 0, none⟩) (p.slots.length + 1) c) ∧ StrRow w' (W3.heap.size + 1) (insL p.slots i S) ∧ Below (W3.heap.size + 1) (W3.drew.alloc (.cells #[.string S] 9)) w' ∧ W3.heap.size + 1 < w'.heap.size ∧
              RowV w' b 5 (five (.int .u32 p.num) (.int .u64 p.lsn) (.int .i64 p.kind) (.string p.head) (.slice (some ⟨bs, 0, none⟩) p.slots.length p.slots.length)) ∧ Below B w w') := by
          have bA : Below W3.heap.size W3 (W3.drew.alloc (.cells #[.string S] 9)) := ((Below.refl _ _).drew).alloc (Nat.le_refl _) _
          have h4 := h3.below bA
          have hsz : (W3.drew.alloc (.cells #[.string S] 9)).heap.size = W3.heap.size + 1 := by simp
          refine (insert_call p.slots bs W3.heap.size S i _ h4.str hin (World.cell?_alloc_new (w := W3.drew) _ _ _) (by omega) h4.bslt).mono ?_
          rintro e w' ⟨c, rfl, q1, q2, q3⟩
          have q4 := h4.row.below q2 h4.lt
          rw [hsz] at q1 q2 q3 ⊢
          exact ⟨c, rfl, q1, q2, q3, q4, bB3.trans ((bA.mono (by omega)).trans (q2.mono (by omega)))⟩
        go_region_with (first | (go_at_call 81; refine HI.out.mono ?_; rintro e w4 ⟨c4, rfl, q1, q2, q3, q4, q5⟩; obtain ⟨k0, k1, k2, k3, k4⟩ := q4.cells5; obtain ⟨l0, l1, l2, l3, l4⟩ := q4.open5))
        all_goals
          go_wp2
          go_ret
          exact ⟨rfl, q5.setCell (p := ⟨b, 4, none⟩) hb1 _, fun _ => ⟨W3.heap.size + 1, c4, q4.set4 _, q1.set_other (by omega) _, by omega, by simpa using q3, by omega⟩⟩

end
end Go.Proofs.Ytnljephojonilaa
