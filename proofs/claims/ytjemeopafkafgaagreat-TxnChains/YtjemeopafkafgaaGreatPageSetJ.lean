/-
  The walks of page.stands and page.set (for PageBack).
  page.change of an OpSet, an OpHead, an OpTurn (for PageBack).
-/
import Derived.Test.YtjemeopafkafgaaGreatPageApplyC
namespace Go.Proofs.YtjemeopafkafgaaGreat
open Go.RowKit Go.Sort
set_option linter.unusedVariables false

/-- The error of 'stands': is there a slot at, and is it Old? -/
def standE (p : SheetV) (o : OpV) : Int := if (p.slots.length : Int) ≤ o.at' then 1 else if p.slots.getD o.at'.toNat ByteArray.empty ≠ o.old then 31 else 0

theorem getD_at {L : List ByteArray} {i : Nat} (h : i < L.length) : L.getD i ByteArray.empty = L[i] := by
  rw [List.getD_eq_getElem?_getD, List.getElem?_eq_getElem h]; rfl

section
variable {B : Nat} {w : World} {b bs : Nat} {p : SheetV} {o : OpV}

set_option maxHeartbeats 1600000 in
set_option maxRecDepth 60000 in
theorem stands_any (h : SheetAt B w b bs p) (f : p.Fits) (ho : o.Ok) (ha : 0 ≤ o.at') :
    Calls Tryz.prog 209 #[.pointer (some ⟨b, 0, none⟩), o.val] w fun e w' => e = .returned (.int .i64 (standE p o)) ∧ Below w.heap.size w w' := by
  have hb1 := h.b1
  have hlt := h.lt
  have hoS := ho.S
  have hoT := ho.old
  have hf := f.fits
  have hn64 := f.len
  clear ho
  obtain ⟨K, A, S, T⟩ := o
  simp only at hoS hoT ha ⊢
  obtain ⟨i, rfl⟩ := Int.eq_ofNat_of_zero_le ha
  try rw [Int.toNat_natCast]
  unfold OpV.val
  simp only
  obtain ⟨W, HW⟩ : ∃ W, Hid (W = w.alloc (.cells #[.int .i64 K, .int .i64 i, .string S, .string T] 48)) := ⟨_, rfl⟩
  have bW : Below w.heap.size w W := by rw [HW.out]; exact (Below.refl _ _).alloc (Nat.le_refl _) _
  have zW : w.heap.size < W.heap.size := by rw [HW.out]; simp
  have h1 := h.below bW
  have r1 : RowV W w.heap.size 4 (four (.int .i64 K) (.int .i64 i) (.string S) (.string T)) := by rw [HW.out]; exact RowV.four_new w _ _ _ _ _
  obtain ⟨x0, x1, x2, x3, x4⟩ := h1.row.cells5
  obtain ⟨y0, y1, y2, y3⟩ := r1.cells4
  have bB : Below B w W := bW.mono (by omega)
  by_cases c1 : (p.slots.length : Int) ≤ (i : Int)
  · have hE : standE p ⟨K, i, S, T⟩ = 1 := by unfold standE; rw [if_pos c1]
    rw [hE]
    go_enter Tryz.func209, Tryz.ntmps209
    go_wp2_with fail
    rw [← HW.out]
    go_quiet (fail)
    go_wp2
    go_ret
    exact ⟨rfl, below_drewN bW nq⟩
  · have hin : i < p.slots.length := by omega
    have hgd := getD_at hin
    by_cases c2 : p.slots[i] = T
    · have hE : standE p ⟨K, i, S, T⟩ = 0 := by unfold standE; rw [if_neg c1]; simp only [Int.toNat_natCast]; exact if_neg (by rw [hgd]; simpa using c2)
      rw [hE]
      have hcc := str_eq c2
      clear hgd c2
      go_enter Tryz.func209, Tryz.ntmps209
      go_wp2_with fail
      rw [← HW.out]
      go_quiet (fail)
      have r2 : RowV (W.drewN nq) w.heap.size 4 (four (.int .i64 K) (.int .i64 i) (.string S) (.string T)) := r1.below (below_drewN (Below.refl W.heap.size W) nq) zW
      have h2 : SheetAt B (W.drewN nq) b bs p := h1.below (below_drewN (Below.refl W.heap.size W) nq)
      have bW2 := below_drewN bW nq
      obtain ⟨W2, HW2⟩ : ∃ W2, Hid (W2 = W.drewN nq) := ⟨_, rfl⟩
      rw [← HW2.out] at r2 h2 bW2 ⊢
      clear HW2 HW r1 h1 bB bW x0 x1 x2 x3 x4 y0 y1 y2 y3
      obtain ⟨x0, x1, x2, x3, x4⟩ := h2.row.cells5
      obtain ⟨y0, y1, y2, y3⟩ := r2.cells4
      have hsc := h2.str.cell hin
      obtain ⟨Q, hQ⟩ : ∃ Q, p.slots[i] = Q := ⟨_, rfl⟩
      rw [hQ] at hsc hcc
      clear hQ
      have hi0 : (0 : Int) ≤ (i : Int) := by omega
      have hi1 : (i : Int) < (p.slots.length : Int) := by omega
      go_wp2_with fail
      go_quiet (fail)
      go_wp2
      go_ret
      exact ⟨rfl, below_drewN bW2 nq⟩
    · have hE : standE p ⟨K, i, S, T⟩ = 31 := by unfold standE; rw [if_neg c1]; simp only [Int.toNat_natCast]; exact if_pos (by rw [hgd]; exact c2)
      rw [hE]
      have hcc := str_ne c2
      clear hgd c2
      go_enter Tryz.func209, Tryz.ntmps209
      go_wp2_with fail
      rw [← HW.out]
      go_quiet (fail)
      have r2 : RowV (W.drewN nq) w.heap.size 4 (four (.int .i64 K) (.int .i64 i) (.string S) (.string T)) := r1.below (below_drewN (Below.refl W.heap.size W) nq) zW
      have h2 : SheetAt B (W.drewN nq) b bs p := h1.below (below_drewN (Below.refl W.heap.size W) nq)
      have bW2 := below_drewN bW nq
      obtain ⟨W2, HW2⟩ : ∃ W2, Hid (W2 = W.drewN nq) := ⟨_, rfl⟩
      rw [← HW2.out] at r2 h2 bW2 ⊢
      clear HW2 HW r1 h1 bB bW x0 x1 x2 x3 x4 y0 y1 y2 y3
      obtain ⟨x0, x1, x2, x3, x4⟩ := h2.row.cells5
      obtain ⟨y0, y1, y2, y3⟩ := r2.cells4
      have hsc := h2.str.cell hin
      obtain ⟨Q, hQ⟩ : ∃ Q, p.slots[i] = Q := ⟨_, rfl⟩
      rw [hQ] at hsc hcc
      clear hQ
      have hi0 : (0 : Int) ≤ (i : Int) := by omega
      have hi1 : (i : Int) < (p.slots.length : Int) := by omega
      go_wp2_with fail
      go_quiet (fail)
      go_wp2
      go_ret
      exact ⟨rfl, below_drewN bW2 nq⟩

/-- The error of an OpSet. -/
def setE (p : SheetV) (o : OpV) : Int := if standE p o ≠ 0 then standE p o else if 485 + o.old.size < p.head.size + slotSum p.slots + o.S.size then 30 else 0

theorem standE_zero {p : SheetV} {o : OpV} (h : standE p o = 0) : o.at' < p.slots.length ∧ p.slots.getD o.at'.toNat ByteArray.empty = o.old := by
  unfold standE at h
  split at h
  · cases h
  split at h
  · cases h
  · rename_i h1 h2; exact ⟨by omega, by simpa using h2⟩

theorem StrRow.setAt {w : World} {b : Nat} {L : List ByteArray} (h : StrRow w b L) {i : Nat} (hi : i < L.length) (s : ByteArray) : StrRow (w.setCell ⟨b, i, none⟩ (.string s)) b (L.set i s) := by
  have := h.set hi (.string s)
  refine StrRow.of fun j hj => ?_
  rw [List.length_set] at hj
  have q := this j hj
  refine ⟨?_, q.2⟩
  rw [q.1]
  by_cases e : j = i
  · subst e; simp
  · simp only [if_neg e]
    rw [getD_at hj, List.getElem_set_ne (fun q => e q.symm)]

set_option maxHeartbeats 1600000 in
set_option maxRecDepth 60000 in
theorem set_any (h : SheetAt B w b bs p) (f : p.Fits) (ho : o.Ok) (ha : 0 ≤ o.at') :
    Calls Tryz.prog 182 #[.pointer (some ⟨b, 0, none⟩), o.val] w fun e w' => e = .returned (.int .i64 (setE p o)) ∧ Below B w w' ∧
      (setE p o = 0 → SheetAt B w' b bs { p with slots := p.slots.set o.at'.toNat o.S }) := by
  have hb1 := h.b1
  have hlt := h.lt
  have hoS := ho.S
  have hoT := ho.old
  have hf := f.fits
  have hn64 := f.len
  have HST : Hid (∀ wx, SheetAt B wx b bs p → Calls Tryz.prog 209 #[.pointer (some ⟨b, 0, none⟩), o.val] wx fun e w' => e = .returned (.int .i64 (standE p o)) ∧ Below wx.heap.size wx w') := fun wx hx => stands_any hx f ho ha
  clear ho
  obtain ⟨K, A, S, T⟩ := o
  simp only at hoS hoT ha HST ⊢
  obtain ⟨i, rfl⟩ := Int.eq_ofNat_of_zero_le ha
  simp only [Int.toNat_natCast]
  unfold OpV.val at HST ⊢
  simp only at HST ⊢
  obtain ⟨W, HW⟩ : ∃ W, Hid (W = w.alloc (.cells #[.int .i64 K, .int .i64 i, .string S, .string T] 48)) := ⟨_, rfl⟩
  have bW : Below w.heap.size w W := by rw [HW.out]; exact (Below.refl _ _).alloc (Nat.le_refl _) _
  have zW : w.heap.size < W.heap.size := by rw [HW.out]; simp
  have h1 := h.below bW
  have r1 : RowV W w.heap.size 4 (four (.int .i64 K) (.int .i64 i) (.string S) (.string T)) := by rw [HW.out]; exact RowV.four_new w _ _ _ _ _
  obtain ⟨x0, x1, x2, x3, x4⟩ := h1.row.cells5
  obtain ⟨y0, y1, y2, y3⟩ := r1.cells4
  have bB : Below B w W := bW.mono (by omega)
  have HSZ : Hid (standE p ⟨K, i, S, T⟩ = 0 → i < p.slots.length) := fun q => by have := (standE_zero q).1; simp only at this; omega
  have HSE : Hid (setE p ⟨K, i, S, T⟩ = if standE p ⟨K, i, S, T⟩ ≠ 0 then standE p ⟨K, i, S, T⟩ else if 485 + T.size < p.head.size + slotSum p.slots + S.size then 30 else 0) := rfl
  generalize setE p ⟨K, i, S, T⟩ = EE at *
  generalize standE p ⟨K, i, S, T⟩ = E at *
  by_cases c1 : E = 0
  · have hin := HSZ.out c1
    subst c1
    have hwr : IntKind.i64.wrap ((S.size : Int) - (T.size : Int)) = (S.size : Int) - (T.size : Int) := wrap_small (by omega) (by omega)
    by_cases c3 : 485 + T.size < p.head.size + slotSum p.slots + S.size
    · have hE : EE = 30 := by rw [HSE.out, if_neg (by simp), if_pos c3]
      clear HSE
      subst hE
      have hc : decide (485 - (p.head.size : Int) - (slotSum p.slots : Int) < (S.size : Int) - (T.size : Int)) = true := by simp; omega
      go_enter Tryz.func182, Tryz.ntmps182
      go_wp2_with fail
      rw [← HW.out]
      refine (HST.out _ h1).mono ?_
      rintro e W2 ⟨rfl, b2⟩
      have h2 := h1.below b2
      have r2 := r1.below b2 zW
      have bB2 := bB.trans (b2.mono (by have := bW.size; omega))
      have zW2 := Nat.lt_of_lt_of_le zW b2.size
      clear HW r1 h1 bB bW x0 x1 x2 x3 x4 y0 y1 y2 y3 b2
      obtain ⟨x0, x1, x2, x3, x4⟩ := h2.row.cells5
      obtain ⟨y0, y1, y2, y3⟩ := r2.cells4
      go_wp2_with fail
      have gx0 := cell_regrown x0
      have gx1 := cell_regrown x1
      have gx2 := cell_regrown x2
      have gx3 := cell_regrown x3
      have gx4 := cell_regrown x4
      have gy2 := cell_regrown y2
      have gy3 := cell_regrown y3
      have cR : ∀ dd os, Calls Tryz.prog 134 #[.agg #[.int .u32 p.num, .int .u64 p.lsn, .int .i64 p.kind, .string p.head, .slice (some ⟨bs, 0, none⟩) p.slots.length p.slots.length]] (grow (redrawn W2 dd) os) fun e w'' => e = .returned (.int .i64 (485 - (p.head.size : Int) - (slotSum p.slots : Int))) ∧ ∃ p : Regrown, w'' = grow (redrawn W2 p.d) p.os := fun dd os => Calls.regrown_of (by
        have hk := (h2.below (below_regrown W2 dd os)).ok f
        have := hk.room p.slots.length
        rw [roomF_eq hk (by omega)] at this
        exact this)
      refine wp_region_quiet_below mixed (by kernel_rfl) ?_
      repeat (quiet_step (first | (go_at_call 134; exact cR _ _)))
      refine wpQuiet_nil ?_
      intro _ hw'
      obtain ⟨⟨dq, osq⟩, hw''⟩ := hw'
      subst hw''
      clear gx0 gx1 gx2 gx3 gx4 gy2 gy3 cR
      go_wp2
      go_ret
      exact ⟨rfl, bB2.trans ((below_regrown W2 dq osq).mono (by omega)), fun h => by cases h⟩
    · have hE : EE = 0 := by rw [HSE.out, if_neg (by simp), if_neg c3]
      clear HSE
      subst hE
      have hc : decide (485 - (p.head.size : Int) - (slotSum p.slots : Int) < (S.size : Int) - (T.size : Int)) = false := by simp; omega
      go_enter Tryz.func182, Tryz.ntmps182
      go_wp2_with fail
      rw [← HW.out]
      refine (HST.out _ h1).mono ?_
      rintro e W2 ⟨rfl, b2⟩
      have h2 := h1.below b2
      have r2 := r1.below b2 zW
      have bB2 := bB.trans (b2.mono (by have := bW.size; omega))
      have zW2 := Nat.lt_of_lt_of_le zW b2.size
      clear HW r1 h1 bB bW x0 x1 x2 x3 x4 y0 y1 y2 y3 b2
      obtain ⟨x0, x1, x2, x3, x4⟩ := h2.row.cells5
      obtain ⟨y0, y1, y2, y3⟩ := r2.cells4
      go_wp2_with fail
      have gx0 := cell_regrown x0
      have gx1 := cell_regrown x1
      have gx2 := cell_regrown x2
      have gx3 := cell_regrown x3
      have gx4 := cell_regrown x4
      have gy2 := cell_regrown y2
      have gy3 := cell_regrown y3
      have cR : ∀ dd os, Calls Tryz.prog 134 #[.agg #[.int .u32 p.num, .int .u64 p.lsn, .int .i64 p.kind, .string p.head, .slice (some ⟨bs, 0, none⟩) p.slots.length p.slots.length]] (grow (redrawn W2 dd) os) fun e w'' => e = .returned (.int .i64 (485 - (p.head.size : Int) - (slotSum p.slots : Int))) ∧ ∃ p : Regrown, w'' = grow (redrawn W2 p.d) p.os := fun dd os => Calls.regrown_of (by
        have hk := (h2.below (below_regrown W2 dd os)).ok f
        have := hk.room p.slots.length
        rw [roomF_eq hk (by omega)] at this
        exact this)
      refine wp_region_quiet_below mixed (by kernel_rfl) ?_
      repeat (quiet_step (first | (go_at_call 134; exact cR _ _)))
      refine wpQuiet_nil ?_
      intro _ hw'
      obtain ⟨⟨dq, osq⟩, hw''⟩ := hw'
      subst hw''
      clear gx0 gx1 gx2 gx3 gx4 gy2 gy3 cR
      have bG := below_regrown W2 dq osq
      have h3 := h2.below bG
      have r3 := r2.below bG zW2
      have bB3 := bB2.trans (bG.mono (by omega))
      have zW3 := Nat.lt_of_lt_of_le zW2 bG.size
      obtain ⟨W3, HW3⟩ : ∃ W3, Hid (W3 = grow (redrawn W2 dq) osq) := ⟨_, rfl⟩
      rw [← HW3.out] at h3 r3 bB3 zW3 ⊢
      clear HW3 bG h2 r2 bB2 x0 x1 x2 x3 x4 y0 y1 y2 y3
      obtain ⟨x0, x1, x2, x3, x4⟩ := h3.row.cells5
      obtain ⟨f0, f1, f2, f3, f4⟩ := h3.row.open5
      obtain ⟨y0, y1, y2, y3⟩ := r3.cells4
      have hi0 : (0 : Int) ≤ (i : Int) := by omega
      have hi1 : (i : Int) < (p.slots.length : Int) := by omega
      have hsc := (h3.str i hin).1
      have hsf := (h3.str i hin).2
      have hn1 := h3.ne
      have hn2 := h3.lt
      have hn3 := h3.bslt
      have hbo : bs ≠ w.heap.size := by have := h.bslt; omega
      go_wp2_with fail
      go_region_held3 (fun w' => w'.cell? ⟨b, 4, none⟩ = some (.slice (some ⟨bs, 0, none⟩) p.slots.length p.slots.length) ∧ w'.cell? ⟨w.heap.size, 1, none⟩ = some (.int .i64 i) ∧ w'.cell? ⟨w.heap.size, 2, none⟩ = some (.string S)) (first | go_keep | (refine ⟨?_, ?_, ?_⟩ <;> (rw [World.cell?_setCell_other _ _ _ _ (by intro q; have := congrArg Addr.block q; simp only at this; omega)]; assumption))) (fail)
      go_wp2
      go_ret
      refine ⟨rfl, (bB3.setCell (p := ⟨bs, i, none⟩) h3.bs1 _).drew, fun _ => ?_⟩
      have hrow := (h3.row.set_other (b' := bs) (k := i) h3.ne (.string S))
      have hstr := h3.str.setAt hin S
      refine SheetAt.below ⟨?_, hstr, h3.b1, by simpa using h3.lt, h3.bs1, by simpa using h3.bslt, h3.ne⟩ ((Below.refl _ _).drew)
      simp only [List.length_set]
      exact hrow
  · have hE : EE = E := by rw [HSE.out, if_pos c1]
    clear HSE
    subst hE
    have c1' : (EE != 0) = true := by rw [bne_iff_ne]; exact c1
    go_enter Tryz.func182, Tryz.ntmps182
    go_wp2_with fail
    rw [← HW.out]
    refine (HST.out _ h1).mono ?_
    rintro e W2 ⟨rfl, b2⟩
    have h2 := h1.below b2
    have r2 := r1.below b2 zW
    have bB2 := bB.trans (b2.mono (by have := bW.size; omega))
    have zW2 := Nat.lt_of_lt_of_le zW b2.size
    clear HW r1 h1 bB bW x0 x1 x2 x3 x4 y0 y1 y2 y3 b2
    obtain ⟨x0, x1, x2, x3, x4⟩ := h2.row.cells5
    obtain ⟨y0, y1, y2, y3⟩ := r2.cells4
    go_wp2
    go_ret
    exact ⟨rfl, bB2, fun h => absurd h c1⟩

end
end Go.Proofs.YtjemeopafkafgaaGreat

namespace Go.Proofs.YtjemeopafkafgaaGreat
open Go.RowKit Go.Sort
set_option linter.unusedVariables false

theorem StrRow.toNot {w : World} {B b bs : Nat} {q : SheetV} (h : SheetAt B w b bs q) : StrsNot B b w (some ⟨bs, 0, none⟩) q.slots := h.str.not (fun e => h.ne e) h.bs1 h.bslt

set_option maxHeartbeats 1600000 in
set_option maxRecDepth 60000 in
theorem change_set {p : SheetV} {o : OpV} (f : p.Fits) (ho : o.Ok) (hk : o.kind = 4) (ha : 0 ≤ o.at') : ChangeDoes p o (setE p o) { p with slots := p.slots.set o.at'.toNat o.S } := by
  intro B w b bs h
  have hb1 := h.b1
  have hlt := h.lt
  have HI : Hid (∀ wx, SheetAt B wx b bs p → Calls Tryz.prog 182 #[.pointer (some ⟨b, 0, none⟩), o.val] wx fun e w' => e = .returned (.int .i64 (setE p o)) ∧ Below B wx w' ∧
      (setE p o = 0 → SheetAt B w' b bs { p with slots := p.slots.set o.at'.toNat o.S })) := fun wx hx => set_any hx f ho ha
  generalize setE p o = E at *
  generalize { p with slots := p.slots.set o.at'.toNat o.S } = q at *
  obtain ⟨K, A, S, T⟩ := o
  simp only at hk HI ⊢
  subst hk
  simp only [OpV.val] at HI ⊢
  obtain ⟨W, HW⟩ : ∃ W, Hid (W = w.alloc (.cells #[.int .i64 4, .int .i64 A, .string S, .string T] 48)) := ⟨_, rfl⟩
  have bW : Below w.heap.size w W := by rw [HW.out]; exact (Below.refl _ _).alloc (Nat.le_refl _) _
  have h1 := h.below bW
  go_enter Tryz.func150, Tryz.ntmps150
  go_wp2_with fail
  rw [← HW.out]
  clear HW
  refine (HI.out _ h1).mono ?_
  rintro e w1 ⟨rfl, b1, hz⟩
  go_wp2
  go_ret
  refine ⟨rfl, (bW.mono (by omega)).trans b1, fun hE => ?_⟩
  have hq := hz hE
  exact ⟨some ⟨bs, 0, none⟩, q.slots.length, hq.row, StrRow.toNot hq⟩

end Go.Proofs.YtjemeopafkafgaaGreat
