/-
  The walks of page.stands and page.set (for PageBack).
-/
import Derived.Test.YtdhphbokkmofaaaGreatPageApplyJ
import Derived.Test.YtdhphbokkmofaaaGreatProg
import Derived.Shelf.Slices.Delete
import Derived.Shelf.Slices.Cells
set_option linter.unusedVariables false
set_option linter.unusedSimpArgs false
namespace Go.Proofs.YtdhphbokkmofaaaGreat
open Go.RowKit Go.Sort

def standE (p : SheetV) (o : OpV) : Int := if (p.slots.length : Int) ≤ o.at' then 1 else if p.slots.getD o.at'.toNat ByteArray.empty ≠ o.old then 31 else 0

theorem getD_at {L : List ByteArray} {i : Nat} (h : i < L.length) : L.getD i ByteArray.empty = L[i] := by
  rw [List.getD_eq_getElem?_getD, List.getElem?_eq_getElem h]; rfl

section
variable {B : Nat} {w : World} {b bs : Nat} {p : SheetV} {o : OpV}

set_option maxHeartbeats 1600000 in
set_option maxRecDepth 60000 in
theorem stands_any (h : SheetAt B w b bs p) (f : p.Fits) (ho : o.Ok) (ha : 0 ≤ o.at') :
    Calls Tryz.prog 205 #[.pointer (some ⟨b, 0, none⟩), o.val] w fun e w' => e = .returned (.int .i64 (standE p o)) ∧ Below w.heap.size w w' := by
  have hb1 := h.b1
  have hlt := h.lt
  have hoS := ho.S
  have hoT := ho.old
  have hf := f.fits
  have hn64 := f.len
  clear ho
  obtain ⟨K, A, S, T⟩ := o
  simp only at hoS hoT ha ⊢
  obtain ⟨i, rfl⟩ := Int.eq_ofNat_of_zero_le ha
  try rw [Int.toNat_natCast]
  unfold OpV.val
  simp only
  obtain ⟨W, HW⟩ : ∃ W, Hid (W = w.alloc (.cells #[.int .i64 K, .int .i64 i, .string S, .string T] 46)) := ⟨_, rfl⟩
  have bW : Below w.heap.size w W := by rw [HW.out]; exact (Below.refl _ _).alloc (Nat.le_refl _) _
  have zW : w.heap.size < W.heap.size := by rw [HW.out]; simp
  have h1 := h.below bW
  have r1 : RowV W w.heap.size 4 (four (.int .i64 K) (.int .i64 i) (.string S) (.string T)) := by rw [HW.out]; exact RowV.four_new w _ _ _ _ _
  obtain ⟨x0, x1, x2, x3, x4⟩ := h1.row.cells5
  obtain ⟨y0, y1, y2, y3⟩ := r1.cells4
  have bB : Below B w W := bW.mono (by omega)
  by_cases c1 : (p.slots.length : Int) ≤ (i : Int)
  · have hE : standE p ⟨K, i, S, T⟩ = 1 := by unfold standE; rw [if_pos c1]
    rw [hE]
    go_enter Tryz.func205, Tryz.ntmps205
    go_wp2_with fail
    rw [← HW.out]
    go_quiet (fail)
    go_wp2
    go_ret
    exact ⟨rfl, below_drewN bW nq⟩
  · have hin : i < p.slots.length := by omega
    have hgd := getD_at hin
    by_cases c2 : p.slots[i] = T
    · have hE : standE p ⟨K, i, S, T⟩ = 0 := by unfold standE; rw [if_neg c1]; simp only [Int.toNat_natCast]; exact if_neg (by rw [hgd]; simpa using c2)
      rw [hE]
      have hcc := str_eq c2
      clear hgd c2
      go_enter Tryz.func205, Tryz.ntmps205
      go_wp2_with fail
      rw [← HW.out]
      go_quiet (fail)
      have r2 : RowV (W.drewN nq) w.heap.size 4 (four (.int .i64 K) (.int .i64 i) (.string S) (.string T)) := r1.below (below_drewN (Below.refl W.heap.size W) nq) zW
      have h2 : SheetAt B (W.drewN nq) b bs p := h1.below (below_drewN (Below.refl W.heap.size W) nq)
      have bW2 := below_drewN bW nq
      obtain ⟨W2, HW2⟩ : ∃ W2, Hid (W2 = W.drewN nq) := ⟨_, rfl⟩
      rw [← HW2.out] at r2 h2 bW2 ⊢
      clear HW2 HW r1 h1 bB bW x0 x1 x2 x3 x4 y0 y1 y2 y3
      obtain ⟨x0, x1, x2, x3, x4⟩ := h2.row.cells5
      obtain ⟨y0, y1, y2, y3⟩ := r2.cells4
      have hsc := h2.str.cell hin
      obtain ⟨Q, hQ⟩ : ∃ Q, p.slots[i] = Q := ⟨_, rfl⟩
      rw [hQ] at hsc hcc
      clear hQ
      have hi0 : (0 : Int) ≤ (i : Int) := by omega
      have hi1 : (i : Int) < (p.slots.length : Int) := by omega
      go_wp2_with fail
      go_quiet (fail)
      go_wp2
      go_ret
      exact ⟨rfl, below_drewN bW2 nq⟩
    · have hE : standE p ⟨K, i, S, T⟩ = 31 := by unfold standE; rw [if_neg c1]; simp only [Int.toNat_natCast]; exact if_pos (by rw [hgd]; exact c2)
      rw [hE]
      have hcc := str_ne c2
      clear hgd c2
      go_enter Tryz.func205, Tryz.ntmps205
      go_wp2_with fail
      rw [← HW.out]
      go_quiet (fail)
      have r2 : RowV (W.drewN nq) w.heap.size 4 (four (.int .i64 K) (.int .i64 i) (.string S) (.string T)) := r1.below (below_drewN (Below.refl W.heap.size W) nq) zW
      have h2 : SheetAt B (W.drewN nq) b bs p := h1.below (below_drewN (Below.refl W.heap.size W) nq)
      have bW2 := below_drewN bW nq
      obtain ⟨W2, HW2⟩ : ∃ W2, Hid (W2 = W.drewN nq) := ⟨_, rfl⟩
      rw [← HW2.out] at r2 h2 bW2 ⊢
      clear HW2 HW r1 h1 bB bW x0 x1 x2 x3 x4 y0 y1 y2 y3
      obtain ⟨x0, x1, x2, x3, x4⟩ := h2.row.cells5
      obtain ⟨y0, y1, y2, y3⟩ := r2.cells4
      have hsc := h2.str.cell hin
      obtain ⟨Q, hQ⟩ : ∃ Q, p.slots[i] = Q := ⟨_, rfl⟩
      rw [hQ] at hsc hcc
      clear hQ
      have hi0 : (0 : Int) ≤ (i : Int) := by omega
      have hi1 : (i : Int) < (p.slots.length : Int) := by omega
      go_wp2_with fail
      go_quiet (fail)
      go_wp2
      go_ret
      exact ⟨rfl, below_drewN bW2 nq⟩

def setE (p : SheetV) (o : OpV) : Int := if standE p o ≠ 0 then standE p o else if 485 + o.old.size < p.head.size + slotSum p.slots + o.S.size then 30 else 0

theorem standE_zero {p : SheetV} {o : OpV} (h : standE p o = 0) : o.at' < p.slots.length ∧ p.slots.getD o.at'.toNat ByteArray.empty = o.old := by
  unfold standE at h
  split at h
  · cases h
  split at h
  · cases h
  · rename_i h1 h2; exact ⟨by omega, by simpa using h2⟩

theorem StrRow.setAt {w : World} {b : Nat} {L : List ByteArray} (h : StrRow w b L) {i : Nat} (hi : i < L.length) (s : ByteArray) : StrRow (w.setCell ⟨b, i, none⟩ (.string s)) b (L.set i s) := by
  have := h.set hi (.string s)
  refine StrRow.of fun j hj => ?_
  rw [List.length_set] at hj
  have q := this j hj
  refine ⟨?_, q.2⟩
  rw [q.1]
  by_cases e : j = i
  · subst e; simp
  · simp only [if_neg e]
    rw [getD_at hj, List.getElem_set_ne (fun q => e q.symm)]

set_option maxHeartbeats 1600000 in
set_option maxRecDepth 60000 in
theorem set_any (h : SheetAt B w b bs p) (f : p.Fits) (ho : o.Ok) (ha : 0 ≤ o.at') :
    Calls Tryz.prog 171 #[.pointer (some ⟨b, 0, none⟩), o.val] w fun e w' => e = .returned (.int .i64 (setE p o)) ∧ Below B w w' ∧
      (setE p o = 0 → SheetAt B w' b bs { p with slots := p.slots.set o.at'.toNat o.S }) := by
  have hb1 := h.b1
  have hlt := h.lt
  have hoS := ho.S
  have hoT := ho.old
  have hf := f.fits
  have hn64 := f.len
  have HST : Hid (∀ wx, SheetAt B wx b bs p → Calls Tryz.prog 205 #[.pointer (some ⟨b, 0, none⟩), o.val] wx fun e w' => e = .returned (.int .i64 (standE p o)) ∧ Below wx.heap.size wx w') := fun wx hx => stands_any hx f ho ha
  clear ho
  obtain ⟨K, A, S, T⟩ := o
  simp only at hoS hoT ha HST ⊢
  obtain ⟨i, rfl⟩ := Int.eq_ofNat_of_zero_le ha
  simp only [Int.toNat_natCast]
  unfold OpV.val at HST ⊢
  simp only at HST ⊢
  obtain ⟨W, HW⟩ : ∃ W, Hid (W = w.alloc (.cells #[.int .i64 K, .int .i64 i, .string S, .string T] 46)) := ⟨_, rfl⟩
  have bW : Below w.heap.size w W := by rw [HW.out]; exact (Below.refl _ _).alloc (Nat.le_refl _) _
  have zW : w.heap.size < W.heap.size := by rw [HW.out]; simp
  have h1 := h.below bW
  have r1 : RowV W w.heap.size 4 (four (.int .i64 K) (.int .i64 i) (.string S) (.string T)) := by rw [HW.out]; exact RowV.four_new w _ _ _ _ _
  obtain ⟨x0, x1, x2, x3, x4⟩ := h1.row.cells5
  obtain ⟨y0, y1, y2, y3⟩ := r1.cells4
  have bB : Below B w W := bW.mono (by omega)
  have HSZ : Hid (standE p ⟨K, i, S, T⟩ = 0 → i < p.slots.length) := fun q => by have := (standE_zero q).1; simp only at this; omega
  have HSE : Hid (setE p ⟨K, i, S, T⟩ = if standE p ⟨K, i, S, T⟩ ≠ 0 then standE p ⟨K, i, S, T⟩ else if 485 + T.size < p.head.size + slotSum p.slots + S.size then 30 else 0) := rfl
  generalize setE p ⟨K, i, S, T⟩ = EE at *
  generalize standE p ⟨K, i, S, T⟩ = E at *
  by_cases c1 : E = 0
  · have hin := HSZ.out c1
    subst c1
    have hwr : IntKind.i64.wrap ((S.size : Int) - (T.size : Int)) = (S.size : Int) - (T.size : Int) := wrap_small (by omega) (by omega)
    by_cases c3 : 485 + T.size < p.head.size + slotSum p.slots + S.size
    · have hE : EE = 30 := by rw [HSE.out, if_neg (by simp), if_pos c3]
      clear HSE
      subst hE
      have hc : decide (485 - (p.head.size : Int) - (slotSum p.slots : Int) < (S.size : Int) - (T.size : Int)) = true := by simp; omega
      go_enter Tryz.func171, Tryz.ntmps171
      go_wp2_with fail
      rw [← HW.out]
      refine (HST.out _ h1).mono ?_
      rintro e W2 ⟨rfl, b2⟩
      have h2 := h1.below b2
      have r2 := r1.below b2 zW
      have bB2 := bB.trans (b2.mono (by have := bW.size; omega))
      have zW2 := Nat.lt_of_lt_of_le zW b2.size
      clear HW r1 h1 bB bW x0 x1 x2 x3 x4 y0 y1 y2 y3 b2
      obtain ⟨x0, x1, x2, x3, x4⟩ := h2.row.cells5
      obtain ⟨y0, y1, y2, y3⟩ := r2.cells4
      go_wp2_with fail
      have gx0 := cell_regrown x0
      have gx1 := cell_regrown x1
      have gx2 := cell_regrown x2
      have gx3 := cell_regrown x3
      have gx4 := cell_regrown x4
      have gy2 := cell_regrown y2
      have gy3 := cell_regrown y3
      have cR : ∀ dd os, Calls Tryz.prog 203 #[.agg #[.int .u32 p.num, .int .u64 p.lsn, .int .i64 p.kind, .string p.head, .slice (some ⟨bs, 0, none⟩) p.slots.length p.slots.length]] (grow (redrawn W2 dd) os) fun e w'' => e = .returned (.int .i64 (485 - (p.head.size : Int) - (slotSum p.slots : Int))) ∧ ∃ p : Regrown, w'' = grow (redrawn W2 p.d) p.os := fun dd os => Calls.regrown_of (by
        have hk := (h2.below (below_regrown W2 dd os)).ok f
        have := hk.room p.slots.length
        rw [roomF_eq hk (by omega)] at this
        exact this)
      refine wp_region_quiet_below mixed (by kernel_rfl) ?_
      repeat (quiet_step (first | (go_at_call 203; exact cR _ _)))
      refine wpQuiet_nil ?_
      intro _ hw'
      obtain ⟨⟨dq, osq⟩, hw''⟩ := hw'
      subst hw''
      clear gx0 gx1 gx2 gx3 gx4 gy2 gy3 cR
      go_wp2
      go_ret
      exact ⟨rfl, bB2.trans ((below_regrown W2 dq osq).mono (by omega)), fun h => by cases h⟩
    · have hE : EE = 0 := by rw [HSE.out, if_neg (by simp), if_neg c3]
      clear HSE
      subst hE
      have hc : decide (485 - (p.head.size : Int) - (slotSum p.slots : Int) < (S.size : Int) - (T.size : Int)) = false := by simp; omega
      go_enter Tryz.func171, Tryz.ntmps171
      go_wp2_with fail
      rw [← HW.out]
      refine (HST.out _ h1).mono ?_
      rintro e W2 ⟨rfl, b2⟩
      have h2 := h1.below b2
      have r2 := r1.below b2 zW
      have bB2 := bB.trans (b2.mono (by have := bW.size; omega))
      have zW2 := Nat.lt_of_lt_of_le zW b2.size
      clear HW r1 h1 bB bW x0 x1 x2 x3 x4 y0 y1 y2 y3 b2
      obtain ⟨x0, x1, x2, x3, x4⟩ := h2.row.cells5
      obtain ⟨y0, y1, y2, y3⟩ := r2.cells4
      go_wp2_with fail
      have gx0 := cell_regrown x0
      have gx1 := cell_regrown x1
      have gx2 := cell_regrown x2
      have gx3 := cell_regrown x3
      have gx4 := cell_regrown x4
      have gy2 := cell_regrown y2
      have gy3 := cell_regrown y3
      have cR : ∀ dd os, Calls Tryz.prog 203 #[.agg #[.int .u32 p.num, .int .u64 p.lsn, .int .i64 p.kind, .string p.head, .slice (some ⟨bs, 0, none⟩) p.slots.length p.slots.length]] (grow (redrawn W2 dd) os) fun e w'' => e = .returned (.int .i64 (485 - (p.head.size : Int) - (slotSum p.slots : Int))) ∧ ∃ p : Regrown, w'' = grow (redrawn W2 p.d) p.os := fun dd os => Calls.regrown_of (by
        have hk := (h2.below (below_regrown W2 dd os)).ok f
        have := hk.room p.slots.length
        rw [roomF_eq hk (by omega)] at this
        exact this)
      refine wp_region_quiet_below mixed (by kernel_rfl) ?_
      repeat (quiet_step (first | (go_at_call 203; exact cR _ _)))
      refine wpQuiet_nil ?_
      intro _ hw'
      obtain ⟨⟨dq, osq⟩, hw''⟩ := hw'
      subst hw''
      clear gx0 gx1 gx2 gx3 gx4 gy2 gy3 cR
      have bG := below_regrown W2 dq osq
      have h3 := h2.below bG
      have r3 := r2.below bG zW2
      have bB3 := bB2.trans (bG.mono (by omega))
      have zW3 := Nat.lt_of_lt_of_le zW2 bG.size
      obtain ⟨W3, HW3⟩ : ∃ W3, Hid (W3 = grow (redrawn W2 dq) osq) := ⟨_, rfl⟩
      rw [← HW3.out] at h3 r3 bB3 zW3 ⊢
      clear HW3 bG h2 r2 bB2 x0 x1 x2 x3 x4 y0 y1 y2 y3
      obtain ⟨x0, x1, x2, x3, x4⟩ := h3.row.cells5
      obtain ⟨f0, f1, f2, f3, f4⟩ := h3.row.open5
      obtain ⟨y0, y1, y2, y3⟩ := r3.cells4
      have hi0 : (0 : Int) ≤ (i : Int) := by omega
      have hi1 : (i : Int) < (p.slots.length : Int) := by omega
      have hsc := (h3.str i hin).1
      have hsf := (h3.str i hin).2
      have hn1 := h3.ne
      have hn2 := h3.lt
      have hn3 := h3.bslt
      have hbo : bs ≠ w.heap.size := by have := h.bslt; omega
      go_wp2_with fail
      go_region_held3 (fun w' => w'.cell? ⟨b, 4, none⟩ = some (.slice (some ⟨bs, 0, none⟩) p.slots.length p.slots.length) ∧ w'.cell? ⟨w.heap.size, 1, none⟩ = some (.int .i64 i) ∧ w'.cell? ⟨w.heap.size, 2, none⟩ = some (.string S)) (first | go_keep | (refine ⟨?_, ?_, ?_⟩ <;> (rw [World.cell?_setCell_other _ _ _ _ (by intro q; have := congrArg Addr.block q; simp only at this; omega)]; assumption))) (fail)
      go_wp2
      go_ret
      refine ⟨rfl, (bB3.setCell (p := ⟨bs, i, none⟩) h3.bs1 _).drew, fun _ => ?_⟩
      have hrow := (h3.row.set_other (b' := bs) (k := i) h3.ne (.string S))
      have hstr := h3.str.setAt hin S
      refine SheetAt.below ⟨?_, hstr, h3.b1, by simpa using h3.lt, h3.bs1, by simpa using h3.bslt, h3.ne⟩ ((Below.refl _ _).drew)
      simp only [List.length_set]
      exact hrow
  · have hE : EE = E := by rw [HSE.out, if_pos c1]
    clear HSE
    subst hE
    have c1' : (EE != 0) = true := by rw [bne_iff_ne]; exact c1
    go_enter Tryz.func171, Tryz.ntmps171
    go_wp2_with fail
    rw [← HW.out]
    refine (HST.out _ h1).mono ?_
    rintro e W2 ⟨rfl, b2⟩
    have h2 := h1.below b2
    have r2 := r1.below b2 zW
    have bB2 := bB.trans (b2.mono (by have := bW.size; omega))
    have zW2 := Nat.lt_of_lt_of_le zW b2.size
    clear HW r1 h1 bB bW x0 x1 x2 x3 x4 y0 y1 y2 y3 b2
    obtain ⟨x0, x1, x2, x3, x4⟩ := h2.row.cells5
    obtain ⟨y0, y1, y2, y3⟩ := r2.cells4
    go_wp2
    go_ret
    exact ⟨rfl, bB2, fun h => absurd h c1⟩

end
end Go.Proofs.YtdhphbokkmofaaaGreat

namespace Go.Proofs.YtdhphbokkmofaaaGreat
open Go.RowKit Go.Sort

def turnE (p : SheetV) (o : OpV) : Int := if 0 < p.slots.length then 1 else if kindS p.kind p.head ≠ o.old then 31 else 0

section
variable {B : Nat} {w : World} {b bs : Nat} {p : SheetV} {o : OpV}

set_option maxHeartbeats 1600000 in
set_option maxRecDepth 60000 in
theorem turn_any (h : SheetAt B w b bs p) (f : p.Fits) (ho : o.Ok) (h1S : 1 ≤ o.S.size) :
    Calls Tryz.prog 174 #[.pointer (some ⟨b, 0, none⟩), o.val] w fun e w' => e = .returned (.int .i64 (turnE p o)) ∧ Below B w w' ∧
      (turnE p o = 0 → SheetAt B w' b bs { p with kind := ((o.S.data.toList.getD 0 0).toNat : Int), head := o.S.extract 1 o.S.size }) := by
  have HKD : Hid (∀ wx, Calls Tryz.prog 207 #[.int .i64 p.kind, .string p.head] wx fun e w' => e = .returned (.string (kindS p.kind p.head)) ∧ Below wx.heap.size wx w') := fun wx => kind_any _ _ wx (by have := f.head; omega)
  have HTE : Hid (turnE p o = if 0 < p.slots.length then 1 else if kindS p.kind p.head ≠ o.old then 31 else 0) := rfl
  have hb1 := h.b1
  have hlt := h.lt
  have hoS := ho.S
  have hoT := ho.old
  have hf := f.fits
  have hn64 := f.len
  clear ho
  obtain ⟨K, A, S, T⟩ := o
  simp only at hoS hoT h1S HTE ⊢
  unfold OpV.val
  simp only
  obtain ⟨W, HW⟩ : ∃ W, Hid (W = w.alloc (.cells #[.int .i64 K, .int .i64 A, .string S, .string T] 46)) := ⟨_, rfl⟩
  have bW : Below w.heap.size w W := by rw [HW.out]; exact (Below.refl _ _).alloc (Nat.le_refl _) _
  have zW : w.heap.size < W.heap.size := by rw [HW.out]; simp
  have h1 := h.below bW
  have r1 : RowV W w.heap.size 4 (four (.int .i64 K) (.int .i64 A) (.string S) (.string T)) := by rw [HW.out]; exact RowV.four_new w _ _ _ _ _
  obtain ⟨x0, x1, x2, x3, x4⟩ := h1.row.cells5
  obtain ⟨y0, y1, y2, y3⟩ := r1.cells4
  have bB : Below B w W := bW.mono (by omega)
  generalize turnE p ⟨K, A, S, T⟩ = EE at *
  obtain ⟨KS, HKS⟩ : ∃ KS, Hid (kindS p.kind p.head = KS) := ⟨_, rfl⟩
  rw [HKS.out] at HKD
  have x4' := x4
  rw [HW.out] at x4'
  by_cases c1 : 0 < p.slots.length
  · have hE : EE = 1 := by rw [HTE.out, if_pos c1]
    clear HTE
    subst hE
    go_enter Tryz.func174, Tryz.ntmps174
    go_wp2
    rw [← HW.out]
    go_ret
    exact ⟨rfl, bB, fun h => by cases h⟩
  · by_cases c2 : KS = T
    · have hE : EE = 0 := by rw [HTE.out, if_neg c1, if_neg (by rw [HKS.out]; simpa using c2)]
      have c2' := str_eq c2
      clear HTE c2
      subst hE
      go_enter Tryz.func174, Tryz.ntmps174
      go_wp2_with fail
      rw [← HW.out]
      clear HW x4'
      have gx2 := cell_regrown x2
      have gx3 := cell_regrown x3
      have gy2 := cell_regrown y2
      have gy3 := cell_regrown y3
      have cK : ∀ dd os, Calls Tryz.prog 207 #[.int .i64 p.kind, .string p.head] (grow (redrawn W dd) os) fun e w'' => e = .returned (.string KS) ∧ ∃ p : Regrown, w'' = grow (redrawn W p.d) p.os := fun dd os => Calls.regrown_of (HKD.out _)
      refine wp_region_quiet_below mixed (by kernel_rfl) ?_
      repeat (quiet_step (first | (go_at_call 207; exact cK _ _)))
      refine wpQuiet_nil ?_
      intro _ hw'
      obtain ⟨⟨dq, osq⟩, hw''⟩ := hw'
      subst hw''
      clear gx2 gx3 gy2 gy3 cK
      have bG := below_regrown W dq osq
      have h3 := h1.below bG
      have r3 := r1.below bG zW
      have bB3 := bB.trans (bG.mono (by have := bW.size; omega))
      obtain ⟨W3, HW3⟩ : ∃ W3, Hid (W3 = grow (redrawn W dq) osq) := ⟨_, rfl⟩
      rw [← HW3.out] at h3 r3 bB3 ⊢
      clear HW3 bG r1 h1 bB bW x0 x1 x2 x3 x4 y0 y1 y2 y3
      obtain ⟨x0, x1, x2, x3, x4⟩ := h3.row.cells5
      obtain ⟨f0, f1, f2, f3, f4⟩ := h3.row.open5
      obtain ⟨y0, y1, y2, y3⟩ := r3.cells4
      have q0 : 0 < S.size := h1S
      have q1 : (1 : Int) ≤ ↑S.size := by omega
      have hg0 : S.data.toList.getD 0 0 = S[0] := by
        rw [List.getD_eq_getElem?_getD, List.getElem?_eq_getElem (by simpa using q0)]; rfl
      have hwr : IntKind.i64.wrap ↑S[0].toNat = ↑S[0].toNat := by have := S[0].toNat_lt; exact wrap_small (by omega) (by omega)
      have hbo : b ≠ w.heap.size := by omega
      go_wp2_with fail
      go_region_held3 (fun w' => w'.cell? ⟨w.heap.size, 2, none⟩ = some (.string S)) (first | go_keep | (rw [World.cell?_setCell_other _ _ _ _ (by intro q; have := congrArg Addr.block q; simp only at this; omega)]; assumption)) (fail)
      go_wp2
      go_ret
      try rw [hwr]
      refine ⟨rfl, ((bB3.setCell (p := ⟨b, 2, none⟩) hb1 _).setCell (p := ⟨b, 3, none⟩) hb1 _).drew, fun _ => ?_⟩
      rw [hg0]
      exact SheetAt.below ⟨(h3.row.set2 _).set3 _, (h3.str.set_other (fun q => h3.ne q.symm) _).set_other (fun q => h3.ne q.symm) _, h3.b1, by simpa using h3.lt, h3.bs1, by simpa using h3.bslt, h3.ne⟩ ((Below.refl _ _).drew)
    · have hE : EE = 31 := by rw [HTE.out, if_neg c1, if_pos (by rw [HKS.out]; exact c2)]
      have c2' := str_ne c2
      clear HTE c2
      subst hE
      go_enter Tryz.func174, Tryz.ntmps174
      go_wp2_with fail
      rw [← HW.out]
      clear HW x4'
      have gx2 := cell_regrown x2
      have gx3 := cell_regrown x3
      have gy2 := cell_regrown y2
      have gy3 := cell_regrown y3
      have cK : ∀ dd os, Calls Tryz.prog 207 #[.int .i64 p.kind, .string p.head] (grow (redrawn W dd) os) fun e w'' => e = .returned (.string KS) ∧ ∃ p : Regrown, w'' = grow (redrawn W p.d) p.os := fun dd os => Calls.regrown_of (HKD.out _)
      refine wp_region_quiet_below mixed (by kernel_rfl) ?_
      repeat (quiet_step (first | (go_at_call 207; exact cK _ _)))
      refine wpQuiet_nil ?_
      intro _ hw'
      obtain ⟨⟨dq, osq⟩, hw''⟩ := hw'
      subst hw''
      clear gx2 gx3 gy2 gy3 cK
      go_wp2
      go_ret
      exact ⟨rfl, bB.trans ((below_regrown W dq osq).mono (by have := bW.size; omega)), fun h => by cases h⟩

end
end Go.Proofs.YtdhphbokkmofaaaGreat

namespace Go.Proofs.YtdhphbokkmofaaaGreat
open Go.RowKit Go.Sort

theorem StrRow.toNot {w : World} {B b bs : Nat} {q : SheetV} (h : SheetAt B w b bs q) : StrsNot B b w (some ⟨bs, 0, none⟩) q.slots := h.str.not (fun e => h.ne e) h.bs1 h.bslt

set_option maxHeartbeats 1600000 in
set_option maxRecDepth 60000 in
theorem change_set {p : SheetV} {o : OpV} (f : p.Fits) (ho : o.Ok) (hk : o.kind = 4) (ha : 0 ≤ o.at') : ChangeDoes p o (setE p o) { p with slots := p.slots.set o.at'.toNat o.S } := by
  intro B w b bs h
  have hb1 := h.b1
  have hlt := h.lt
  have HI : Hid (∀ wx, SheetAt B wx b bs p → Calls Tryz.prog 171 #[.pointer (some ⟨b, 0, none⟩), o.val] wx fun e w' => e = .returned (.int .i64 (setE p o)) ∧ Below B wx w' ∧
      (setE p o = 0 → SheetAt B w' b bs { p with slots := p.slots.set o.at'.toNat o.S })) := fun wx hx => set_any hx f ho ha
  generalize setE p o = E at *
  generalize { p with slots := p.slots.set o.at'.toNat o.S } = q at *
  obtain ⟨K, A, S, T⟩ := o
  simp only at hk HI ⊢
  subst hk
  simp only [OpV.val] at HI ⊢
  obtain ⟨W, HW⟩ : ∃ W, Hid (W = w.alloc (.cells #[.int .i64 4, .int .i64 A, .string S, .string T] 46)) := ⟨_, rfl⟩
  have bW : Below w.heap.size w W := by rw [HW.out]; exact (Below.refl _ _).alloc (Nat.le_refl _) _
  have h1 := h.below bW
  go_enter Tryz.func116, Tryz.ntmps116
  go_wp2_with fail
  rw [← HW.out]
  clear HW
  refine (HI.out _ h1).mono ?_
  rintro e w1 ⟨rfl, b1, hz⟩
  go_wp2
  go_ret
  refine ⟨rfl, (bW.mono (by omega)).trans b1, fun hE => ?_⟩
  have hq := hz hE
  exact ⟨some ⟨bs, 0, none⟩, q.slots.length, hq.row, StrRow.toNot hq⟩

set_option maxHeartbeats 1600000 in
set_option maxRecDepth 60000 in
theorem change_head {p : SheetV} {o : OpV} (f : p.Fits) (ho : o.Ok) (hk : o.kind = 5) : ChangeDoes p o (headE p o) { p with head := o.S } := by
  intro B w b bs h
  have hb1 := h.b1
  have hlt := h.lt
  have HI : Hid (∀ wx, SheetAt B wx b bs p → Calls Tryz.prog 172 #[.pointer (some ⟨b, 0, none⟩), o.val] wx fun e w' => e = .returned (.int .i64 (headE p o)) ∧ Below B wx w' ∧
      (headE p o = 0 → SheetAt B w' b bs { p with head := o.S })) := fun wx hx => setHead_any hx f ho
  generalize headE p o = E at *
  generalize { p with head := o.S } = q at *
  obtain ⟨K, A, S, T⟩ := o
  simp only at hk HI ⊢
  subst hk
  simp only [OpV.val] at HI ⊢
  obtain ⟨W, HW⟩ : ∃ W, Hid (W = w.alloc (.cells #[.int .i64 5, .int .i64 A, .string S, .string T] 46)) := ⟨_, rfl⟩
  have bW : Below w.heap.size w W := by rw [HW.out]; exact (Below.refl _ _).alloc (Nat.le_refl _) _
  have h1 := h.below bW
  go_enter Tryz.func116, Tryz.ntmps116
  go_wp2_with fail
  rw [← HW.out]
  clear HW
  refine (HI.out _ h1).mono ?_
  rintro e w1 ⟨rfl, b1, hz⟩
  go_wp2
  go_ret
  refine ⟨rfl, (bW.mono (by omega)).trans b1, fun hE => ?_⟩
  have hq := hz hE
  exact ⟨some ⟨bs, 0, none⟩, q.slots.length, hq.row, StrRow.toNot hq⟩

set_option maxHeartbeats 1600000 in
set_option maxRecDepth 60000 in
theorem change_turn {p : SheetV} {o : OpV} (f : p.Fits) (ho : o.Ok) (hk : o.kind = 7) (h1S : 1 ≤ o.S.size) : ChangeDoes p o (turnE p o) { p with kind := ((o.S.data.toList.getD 0 0).toNat : Int), head := o.S.extract 1 o.S.size } := by
  intro B w b bs h
  have hb1 := h.b1
  have hlt := h.lt
  have HI : Hid (∀ wx, SheetAt B wx b bs p → Calls Tryz.prog 174 #[.pointer (some ⟨b, 0, none⟩), o.val] wx fun e w' => e = .returned (.int .i64 (turnE p o)) ∧ Below B wx w' ∧
      (turnE p o = 0 → SheetAt B w' b bs { p with kind := ((o.S.data.toList.getD 0 0).toNat : Int), head := o.S.extract 1 o.S.size })) := fun wx hx => turn_any hx f ho h1S
  generalize turnE p o = E at *
  generalize { p with kind := ((o.S.data.toList.getD 0 0).toNat : Int), head := o.S.extract 1 o.S.size } = q at *
  obtain ⟨K, A, S, T⟩ := o
  simp only at hk HI ⊢
  subst hk
  simp only [OpV.val] at HI ⊢
  obtain ⟨W, HW⟩ : ∃ W, Hid (W = w.alloc (.cells #[.int .i64 7, .int .i64 A, .string S, .string T] 46)) := ⟨_, rfl⟩
  have bW : Below w.heap.size w W := by rw [HW.out]; exact (Below.refl _ _).alloc (Nat.le_refl _) _
  have h1 := h.below bW
  go_enter Tryz.func116, Tryz.ntmps116
  go_wp2_with fail
  rw [← HW.out]
  clear HW
  refine (HI.out _ h1).mono ?_
  rintro e w1 ⟨rfl, b1, hz⟩
  go_wp2
  go_ret
  refine ⟨rfl, (bW.mono (by omega)).trans b1, fun hE => ?_⟩
  have hq := hz hE
  exact ⟨some ⟨bs, 0, none⟩, q.slots.length, hq.row, StrRow.toNot hq⟩

end Go.Proofs.YtdhphbokkmofaaaGreat

namespace Go.Proofs.YtdhphbokkmofaaaGreat
open Go.Shelf

def deleteLays_ren : Go.Shelf.Ren := ⟨fun | 24 => 206 | n => n, fun | 24 => 42 | 9 => 9 | 3 => 3 | 4 => 4 | 0 => 0 | n => n, fun | n => n⟩
theorem deleteLays : Go.Proofs.Lays2.n24 Tryz.prog deleteLays_ren := {
  mixed := by kernel_rfl
  f24 := Tryz.func206.trans (congrArg some (by kernel_rfl))
  t0 := Tryz.underlying0
  a0 := Tryz.isAgg0
  z0 := Tryz.sizeOf0
  v0 := Tryz.zeroValue0
  t3 := Tryz.underlying3
  a3 := Tryz.isAgg3
  z3 := Tryz.sizeOf3
  v3 := Tryz.zeroValue3
  t4 := Tryz.underlying4
  a4 := Tryz.isAgg4
  z4 := Tryz.sizeOf4
  v4 := Tryz.zeroValue4
  t9 := Tryz.underlying9
  a9 := Tryz.isAgg9
  z9 := Tryz.sizeOf9
  v9 := Tryz.zeroValue9
  t24 := Tryz.underlying42
  a24 := Tryz.isAgg42
  z24 := Tryz.sizeOf42
  v24 := Tryz.zeroValue42
  i9 := by kernel_rfl }

end Go.Proofs.YtdhphbokkmofaaaGreat

namespace Go.Proofs.YtdhphbokkmofaaaGreat
open Go.RowKit Go.Sort

theorem delete_call (L : List ByteArray) (bs i : Nat) (w : World) (h : StrRow w bs L) (hi : i < L.length) (hn : L.length ≤ 64) :
    Calls Tryz.prog 206 #[.slice (some ⟨bs, 0, none⟩) L.length L.length, .int .i64 i, .int .i64 ((i : Int) + 1)] w fun e w' =>
      e = .returned (.slice (some ⟨bs, 0, none⟩) (L.length - 1) L.length) ∧ StrRow w' bs (L.eraseIdx i) ∧ ∃ q vs, w' = (w.drewN q).setCells bs 0 vs := by
  have hc := Any.slices_Delete_string_cells deleteLays bs 0 L.length L.length i (i + 1) (fun j => L.getD j ByteArray.empty) w (Nat.le_refl _) (by omega) (by omega) (by omega)
    (fun j hj => by rw [Nat.zero_add]; exact (h j hj).1) (fun j hj => by rw [Nat.zero_add]; exact (h j hj).2)
  rw [Int.natCast_add] at hc
  refine Calls.mono hc ?_
  rintro e w' ⟨rfl, q, rfl⟩
  refine ⟨by rw [Nat.add_sub_cancel_left], ?_, q, _, rfl⟩
  intro j hj
  have hj' : j < L.length - 1 := by rw [List.length_eraseIdx_of_lt hi] at hj; exact hj
  refine ⟨?_, by rw [World.frozen?_setCells]; exact (h j (by omega)).2⟩
  have hin := World.cell?_setCells_in bs (((Lib.strsOf (fun j => L.getD j ByteArray.empty) L.length).take i ++ (Lib.strsOf (fun j => L.getD j ByteArray.empty) L.length).drop (i + 1) ++ List.replicate (i + 1 - i) []).map encStr) 0 (w.drewN q)
    (fun k hk => by
      rw [Nat.zero_add]
      have : k < L.length := by simp [Lib.strsOf_length] at hk; omega
      show (w.cell? _).isSome = true
      rw [(h k this).1]; rfl) j (by simp [Lib.strsOf_length]; omega)
  rw [Nat.zero_add] at hin
  rw [hin]
  congr 1
  rw [List.getElem_map, List.getElem_append_left (by simp [Lib.strsOf_length]; omega)]
  have e0 : (L.eraseIdx i).getD j ByteArray.empty = (L.eraseIdx i)[j] := by rw [List.getD_eq_getElem?_getD, List.getElem?_eq_getElem hj, Option.getD_some]
  show _ = Value.string ((L.eraseIdx i).getD j ByteArray.empty)
  rw [e0, List.getElem_eraseIdx]
  by_cases c : j < i
  · rw [List.getElem_append_left (by simp [Lib.strsOf_length]; omega), dif_pos c, List.getElem_take]
    simp only [Lib.strsOf, List.getElem_map, List.getElem_range]
    rw [List.getD_eq_getElem?_getD, List.getElem?_eq_getElem (by omega), Option.getD_some]
  · rw [List.getElem_append_right (by simp [Lib.strsOf_length]; omega), dif_neg c, List.getElem_drop]
    simp only [Lib.strsOf, List.getElem_map, List.getElem_range]
    have e1 : i + 1 + (j - (List.take i (Lib.strsOf (fun j => L.getD j ByteArray.empty) L.length)).length) = j + 1 := by simp [Lib.strsOf_length]; omega
    simp only [Lib.strsOf] at e1
    rw [e1, List.getD_eq_getElem?_getD, List.getElem?_eq_getElem (by omega), Option.getD_some]

theorem RowV.setCells_other {w : World} {b N : Nat} {f : Nat → Value} (h : RowV w b N f) {b' : Nat} (hk : b' ≠ b) (vs : List Value) (o : Nat) : RowV (w.setCells b' o vs) b N f := fun j hj =>
  ⟨by rw [World.cell?_setCells_out b' vs o w _ (fun e _ => absurd e.symm hk)]; exact (h j hj).1, by rw [World.frozen?_setCells]; exact (h j hj).2⟩

end Go.Proofs.YtdhphbokkmofaaaGreat

namespace Go.Proofs.YtdhphbokkmofaaaGreat
open Go.RowKit Go.Sort

section
variable {B : Nat} {w : World} {b bs : Nat} {p : SheetV} {o : OpV}

set_option maxHeartbeats 1600000 in
set_option maxRecDepth 60000 in
theorem remove_any (h : SheetAt B w b bs p) (f : p.Fits) (ho : o.Ok) (ha : 0 ≤ o.at') :
    Calls Tryz.prog 170 #[.pointer (some ⟨b, 0, none⟩), o.val] w fun e w' => e = .returned (.int .i64 (standE p o)) ∧ Below B w w' ∧
      (standE p o = 0 → RowV w' b 5 (five (.int .u32 p.num) (.int .u64 p.lsn) (.int .i64 p.kind) (.string p.head) (.slice (some ⟨bs, 0, none⟩) (p.slots.length - 1) p.slots.length)) ∧ StrRow w' bs (p.slots.eraseIdx o.at'.toNat)) := by
  have hb1 := h.b1
  have hlt := h.lt
  have hoS := ho.S
  have hoT := ho.old
  have hf := f.fits
  have hn64 := f.len
  have HST : Hid (∀ wx, SheetAt B wx b bs p → Calls Tryz.prog 205 #[.pointer (some ⟨b, 0, none⟩), o.val] wx fun e w' => e = .returned (.int .i64 (standE p o)) ∧ Below wx.heap.size wx w') := fun wx hx => stands_any hx f ho ha
  clear ho
  obtain ⟨K, A, S, T⟩ := o
  simp only at hoS hoT ha HST ⊢
  obtain ⟨i, rfl⟩ := Int.eq_ofNat_of_zero_le ha
  simp only [Int.toNat_natCast]
  unfold OpV.val at HST ⊢
  simp only at HST ⊢
  obtain ⟨W, HW⟩ : ∃ W, Hid (W = w.alloc (.cells #[.int .i64 K, .int .i64 i, .string S, .string T] 46)) := ⟨_, rfl⟩
  have bW : Below w.heap.size w W := by rw [HW.out]; exact (Below.refl _ _).alloc (Nat.le_refl _) _
  have zW : w.heap.size < W.heap.size := by rw [HW.out]; simp
  have h1 := h.below bW
  have r1 : RowV W w.heap.size 4 (four (.int .i64 K) (.int .i64 i) (.string S) (.string T)) := by rw [HW.out]; exact RowV.four_new w _ _ _ _ _
  obtain ⟨x0, x1, x2, x3, x4⟩ := h1.row.cells5
  obtain ⟨y0, y1, y2, y3⟩ := r1.cells4
  have bB : Below B w W := bW.mono (by omega)
  have HSZ : Hid (standE p ⟨K, i, S, T⟩ = 0 → i < p.slots.length) := fun q => by have := (standE_zero q).1; simp only at this; omega
  generalize standE p ⟨K, i, S, T⟩ = E at *
  by_cases c1 : E = 0
  · have hin := HSZ.out c1
    subst c1
    have hwr : IntKind.i64.wrap ((i : Int) + 1) = (i : Int) + 1 := wrap_small (by omega) (by omega)
    go_enter Tryz.func170, Tryz.ntmps170
    go_wp2_with fail
    rw [← HW.out]
    refine (HST.out _ h1).mono ?_
    rintro e W2 ⟨rfl, b2⟩
    have h2 := h1.below b2
    have r2 := r1.below b2 zW
    have bB2 := bB.trans (b2.mono (by have := bW.size; omega))
    have zW2 := Nat.lt_of_lt_of_le zW b2.size
    clear HW r1 h1 bB bW x0 x1 x2 x3 x4 y0 y1 y2 y3 b2
    obtain ⟨x0, x1, x2, x3, x4⟩ := h2.row.cells5
    obtain ⟨y0, y1, y2, y3⟩ := r2.cells4
    obtain ⟨f0, f1, f2, f3, f4⟩ := h2.row.open5
    go_wp2_with fail
    have HD : Hid (∀ X, SheetAt B X b bs p → Below B w X → Calls Tryz.prog 206 #[.slice (some ⟨bs, 0, none⟩) p.slots.length p.slots.length, .int .i64 i, .int .i64 ((i : Int) + 1)] X fun e w' =>
        e = .returned (.slice (some ⟨bs, 0, none⟩) (p.slots.length - 1) p.slots.length) ∧ StrRow w' bs (p.slots.eraseIdx i) ∧ RowV w' b 5 (five (.int .u32 p.num) (.int .u64 p.lsn) (.int .i64 p.kind) (.string p.head) (.slice (some ⟨bs, 0, none⟩) p.slots.length p.slots.length)) ∧ Below B w w') := fun X h3 hB => by
      refine (delete_call p.slots bs i _ h3.str hin hn64).mono ?_
      rintro e w' ⟨rfl, q1, q, vs, rfl⟩
      exact ⟨rfl, q1, (h3.row.below (below_drewN (Below.refl _ _) q) h3.lt).setCells_other h3.ne vs 0, below_setCells bs h3.bs1 vs 0 _ (below_drewN hB q)⟩
    have hne := h2.ne
    have h2d : SheetAt B W2.drew b bs p := h2.below ((Below.refl W2.heap.size W2).drew)
    have bBd : Below B w W2.drew := bB2.drew
    go_region_with (first | (go_at_call 206; refine (HD.out _ h2d bBd).mono ?_; rintro e w4 ⟨rfl, q1, q4, q5⟩; obtain ⟨k0, k1, k2, k3, k4⟩ := q4.cells5; obtain ⟨l0, l1, l2, l3, l4⟩ := q4.open5))
    all_goals
      go_wp2
      go_ret
      exact ⟨rfl, q5.setCell (p := ⟨b, 4, none⟩) hb1 _, fun _ => ⟨q4.set4 _, q1.set_other (fun q => hne q.symm) _⟩⟩
  · have c1' : (E != 0) = true := by rw [bne_iff_ne]; exact c1
    go_enter Tryz.func170, Tryz.ntmps170
    go_wp2_with fail
    rw [← HW.out]
    refine (HST.out _ h1).mono ?_
    rintro e W2 ⟨rfl, b2⟩
    have h2 := h1.below b2
    have r2 := r1.below b2 zW
    have bB2 := bB.trans (b2.mono (by have := bW.size; omega))
    have zW2 := Nat.lt_of_lt_of_le zW b2.size
    clear HW r1 h1 bB bW x0 x1 x2 x3 x4 y0 y1 y2 y3 b2
    obtain ⟨x0, x1, x2, x3, x4⟩ := h2.row.cells5
    obtain ⟨y0, y1, y2, y3⟩ := r2.cells4
    go_wp2
    go_ret
    exact ⟨rfl, bB2, fun h => absurd h c1⟩

end
end Go.Proofs.YtdhphbokkmofaaaGreat

namespace Go.Proofs.YtdhphbokkmofaaaGreat
open Go.RowKit Go.Sort

set_option maxHeartbeats 1600000 in
set_option maxRecDepth 60000 in
theorem change_rem {p : SheetV} {o : OpV} (f : p.Fits) (ho : o.Ok) (hk : o.kind = 3) (ha : 0 ≤ o.at') : ChangeDoes p o (standE p o) { p with slots := p.slots.eraseIdx o.at'.toNat } := by
  intro B w b bs h
  have hb1 := h.b1
  have hlt := h.lt
  have HI : Hid (∀ wx, SheetAt B wx b bs p → Calls Tryz.prog 170 #[.pointer (some ⟨b, 0, none⟩), o.val] wx fun e w' => e = .returned (.int .i64 (standE p o)) ∧ Below B wx w' ∧
      (standE p o = 0 → RowV w' b 5 (five (.int .u32 p.num) (.int .u64 p.lsn) (.int .i64 p.kind) (.string p.head) (.slice (some ⟨bs, 0, none⟩) (p.slots.length - 1) p.slots.length)) ∧ StrRow w' bs (p.slots.eraseIdx o.at'.toNat))) := fun wx hx => remove_any hx f ho ha
  have HZ : Hid (standE p o = 0 → o.at'.toNat < p.slots.length) := fun q => by have := (standE_zero q).1; omega
  generalize standE p o = E at *
  obtain ⟨K, A, S, T⟩ := o
  simp only at hk ha HI HZ ⊢
  subst hk
  generalize A.toNat = i at *
  simp only [OpV.val] at HI ⊢
  obtain ⟨W, HW⟩ : ∃ W, Hid (W = w.alloc (.cells #[.int .i64 3, .int .i64 A, .string S, .string T] 46)) := ⟨_, rfl⟩
  have bW : Below w.heap.size w W := by rw [HW.out]; exact (Below.refl _ _).alloc (Nat.le_refl _) _
  have h1 := h.below bW
  go_enter Tryz.func116, Tryz.ntmps116
  go_wp2_with fail
  rw [← HW.out]
  clear HW
  refine (HI.out _ h1).mono ?_
  rintro e w1 ⟨rfl, b1, hz⟩
  go_wp2
  go_ret
  refine ⟨rfl, (bW.mono (by omega)).trans b1, fun hE => ?_⟩
  obtain ⟨q1, q2⟩ := hz hE
  have hl := h1.bslt
  exact ⟨some ⟨bs, 0, none⟩, p.slots.length, by simp only [List.length_eraseIdx_of_lt (HZ.out hE)]; exact q1, q2.not h.ne h.bs1 (Nat.lt_of_lt_of_le hl b1.size)⟩

end Go.Proofs.YtdhphbokkmofaaaGreat

namespace Go.Proofs.YtdhphbokkmofaaaGreat
open Go.RowKit Go.Sort

def putE (p : SheetV) (o : OpV) : Int := if p.slots.length = 0 ∨ (p.slots.getD 0 ByteArray.empty).size < o.at'.toNat + o.S.size then 1 else if (p.slots.getD 0 ByteArray.empty).extract o.at'.toNat (o.at'.toNat + o.S.size) ≠ o.old then 31 else 0

def putS (s : ByteArray) (i : Nat) (S : ByteArray) : ByteArray := s.extract 0 i ++ S ++ s.extract (i + S.size) s.size

section
variable {B : Nat} {w : World} {b bs : Nat} {p : SheetV} {o : OpV}

set_option maxHeartbeats 1600000 in
set_option maxRecDepth 60000 in
theorem putOp_any (h : SheetAt B w b bs p) (f : p.Fits) (ho : o.Ok) (ha : 0 ≤ o.at') (hi5 : o.at' ≤ 511) :
    Calls Tryz.prog 173 #[.pointer (some ⟨b, 0, none⟩), o.val] w fun e w' => e = .returned (.int .i64 (putE p o)) ∧ Below B w w' ∧
      (putE p o = 0 → SheetAt B w' b bs { p with slots := p.slots.set 0 (putS (p.slots.getD 0 ByteArray.empty) o.at'.toNat o.S) }) := by
  have hb1 := h.b1
  have hlt := h.lt
  have hoS := ho.S
  have hoT := ho.old
  have hf := f.fits
  have hn64 := f.len
  clear ho
  obtain ⟨K, A, S, T⟩ := o
  simp only at hoS hoT ha hi5 ⊢
  obtain ⟨i, rfl⟩ := Int.eq_ofNat_of_zero_le ha
  simp only [Int.toNat_natCast]
  unfold OpV.val
  simp only
  obtain ⟨W, HW⟩ : ∃ W, Hid (W = w.alloc (.cells #[.int .i64 K, .int .i64 i, .string S, .string T] 46)) := ⟨_, rfl⟩
  have bW : Below w.heap.size w W := by rw [HW.out]; exact (Below.refl _ _).alloc (Nat.le_refl _) _
  have zW : w.heap.size < W.heap.size := by rw [HW.out]; simp
  have h1 := h.below bW
  have r1 : RowV W w.heap.size 4 (four (.int .i64 K) (.int .i64 i) (.string S) (.string T)) := by rw [HW.out]; exact RowV.four_new w _ _ _ _ _
  obtain ⟨x0, x1, x2, x3, x4⟩ := h1.row.cells5
  obtain ⟨y0, y1, y2, y3⟩ := r1.cells4
  have bB : Below B w W := bW.mono (by omega)
  have HPE : Hid (putE p ⟨K, i, S, T⟩ = if p.slots.length = 0 ∨ (p.slots.getD 0 ByteArray.empty).size < i + S.size then 1 else if (p.slots.getD 0 ByteArray.empty).extract i (i + S.size) ≠ T then 31 else 0) := rfl
  generalize putE p ⟨K, i, S, T⟩ = EE at *
  obtain ⟨e, he⟩ : ∃ e, Hid (i + S.size = e) := ⟨_, rfl⟩
  have hie : i ≤ e := by rw [← he.out]; omega
  have hwr : IntKind.i64.wrap ((i : Int) + (S.size : Int)) = (e : Int) := by rw [← he.out, Int.natCast_add]; exact wrap_small (by omega) (by omega)
  rw [he.out] at HPE
  have x4' := x4
  have y1' := y1
  have y2' := y2
  rw [HW.out] at x4' y1' y2'
  by_cases c0 : p.slots.length = 0
  · have hE : EE = 1 := by rw [HPE.out, if_pos (.inl c0)]
    subst hE
    clear HPE
    rw [c0] at x4' x4
    go_enter Tryz.func173, Tryz.ntmps173
    go_wp2
    rw [← HW.out]
    go_ret
    exact ⟨rfl, bB, fun h => by cases h⟩
  · have hz := (h1.str 0 (by omega))
    have hz1 := hz.1
    have hz2 := hz.2
    simp only at hz1
    clear hz
    have hs5 : (p.slots.getD 0 ByteArray.empty).size ≤ 140737488351232 := by
      have hm := slotSum_at p.slots 0 (by omega)
      rw [List.getD_eq_getElem?_getD, List.getElem?_eq_getElem (by omega), Option.getD_some]
      omega
    generalize p.slots.getD 0 ByteArray.empty = s at *
    have hz1' := hz1
    rw [HW.out] at hz1'
    have hl0 : ((p.slots.length : Int) == 0) = false := by rw [beq_eq_false_iff_ne]; omega
    have hl1 : (0 : Int) < (p.slots.length : Int) := by omega
    have hl2 : 0 < p.slots.length := by omega
    by_cases c1 : s.size < e
    · have hE : EE = 1 := by rw [HPE.out, if_pos (.inr c1)]
      subst hE
      clear HPE
      have hc1 : decide ((s.size : Int) < (e : Int)) = true := by simp; omega
      go_enter Tryz.func173, Tryz.ntmps173
      go_wp2
      rw [← HW.out]
      go_ret
      exact ⟨rfl, bB, fun h => by cases h⟩
    · have hc1 : decide ((s.size : Int) < (e : Int)) = false := by simp; omega
      have hb3 : (0 : Int) ≤ (i : Int) := by omega
      have hb4 : (i : Int) ≤ (e : Int) := by omega
      have hb5 : (e : Int) ≤ (s.size : Int) := by omega
      have hb6 : (i : Int) ≤ (s.size : Int) := by omega
      by_cases c2 : s.extract i e = T
      · have hE : EE = 0 := by rw [HPE.out, if_neg (by omega), if_neg (by simpa using c2)]
        subst hE
        clear HPE
        have c2' := str_eq c2
        go_enter Tryz.func173, Tryz.ntmps173
        go_wp2_with fail
        rw [← HW.out]
        clear HW x4' y1' y2' hz1'
        go_quiet (fail)
        have h3 : SheetAt B (W.drewN nq) b bs p := h1.below (below_drewN (Below.refl W.heap.size W) nq)
        have r3 : RowV (W.drewN nq) w.heap.size 4 (four (.int .i64 K) (.int .i64 i) (.string S) (.string T)) := r1.below (below_drewN (Below.refl W.heap.size W) nq) zW
        have bB3 := below_drewN bB nq
        have hz3 : (W.drewN nq).cell? ⟨bs, 0, none⟩ = some (.string s) := hz1
        have hf3 : (W.drewN nq).frozen? ⟨bs, 0, none⟩ = false := hz2
        obtain ⟨W3, HW3⟩ : ∃ W3, Hid (W3 = W.drewN nq) := ⟨_, rfl⟩
        rw [← HW3.out] at h3 r3 bB3 hz3 hf3 ⊢
        clear HW3 r1 h1 bB bW x0 x1 x2 x3 x4 y0 y1 y2 y3 hz1 hz2
        obtain ⟨x0, x1, x2, x3, x4⟩ := h3.row.cells5
        obtain ⟨y0, y1, y2, y3⟩ := r3.cells4
        have hn1 := h3.ne
        have hbo : bs ≠ w.heap.size := by have := h.bslt; omega
        have hss : s.size ≤ 140737488351232 := hs5
        obtain ⟨sa, hsa⟩ : ∃ sa, s.extract 0 i = sa := ⟨_, rfl⟩
        obtain ⟨sb, hsb⟩ : ∃ sb, s.extract e s.size = sb := ⟨_, rfl⟩
        obtain ⟨sc, hsc⟩ : ∃ sc, sa ++ S = sc := ⟨_, rfl⟩
        have la : sa.size ≤ s.size := by rw [← hsa, ByteArray.size_extract]; omega
        have lb : sb.size ≤ s.size := by rw [← hsb, ByteArray.size_extract]; omega
        have lc : sc.size = sa.size + S.size := by rw [← hsc, ByteArray.size_append]
        have hA : ¬ ((9223372036854775807 : Int) < (sa.size : Int) + (S.size : Int)) := by omega
        have hB : ¬ ((9223372036854775807 : Int) < (sc.size : Int) + (sb.size : Int)) := by omega
        have hA2 : (sa.size : Int) + (S.size : Int) ≤ 9223372036854775807 := by omega
        have hB2 : (sc.size : Int) + (sb.size : Int) ≤ 9223372036854775807 := by omega
        have hA3 : ∀ (P : Program) (wx : World), (Op.stringOp .add sa S).run P wx = .ok (.string sc) wx := fun P wx => by rw [run_string_add_sum wx sa S (by omega), hsc]
        have hB3 : ∀ (P : Program) (wx : World), (Op.stringOp .add sc sb).run P wx = .ok (.string (sc ++ sb)) wx := fun P wx => run_string_add_sum wx sc sb (by omega)
        have HR : Hid (putS s i S = sc ++ sb) := by show _ = _; unfold putS; rw [he.out, hsa, hsb, hsc]
        clear la lb lc
        go_wp2_with fail
        go_region_held3 (fun w' => w'.cell? ⟨b, 4, none⟩ = some (.slice (some ⟨bs, 0, none⟩) p.slots.length p.slots.length) ∧ w'.cell? ⟨w.heap.size, 1, none⟩ = some (.int .i64 i) ∧ w'.cell? ⟨w.heap.size, 2, none⟩ = some (.string S)) (first | go_keep | (refine ⟨?_, ?_, ?_⟩ <;> (rw [World.cell?_setCell_other _ _ _ _ (by intro q; have := congrArg Addr.block q; simp only at this; omega)]; assumption))) (fail)
        go_wp2
        go_ret
        refine ⟨rfl, (bB3.setCell (p := ⟨bs, 0, none⟩) h3.bs1 _).drew, fun _ => ?_⟩
        have hrow := (h3.row.set_other (b' := bs) (k := 0) h3.ne (.string (sc ++ sb)))
        have hstr := h3.str.setAt (i := 0) (by omega) (sc ++ sb)
        rw [HR.out]
        refine SheetAt.below ⟨?_, hstr, h3.b1, by simpa using h3.lt, h3.bs1, by simpa using h3.bslt, h3.ne⟩ ((Below.refl _ _).drew)
        simp only [List.length_set]
        exact hrow
      · have hE : EE = 31 := by rw [HPE.out, if_neg (by omega), if_pos c2]
        subst hE
        clear HPE
        have c2' := str_ne c2
        go_enter Tryz.func173, Tryz.ntmps173
        go_wp2_with fail
        rw [← HW.out]
        clear HW x4' y1' y2' hz1'
        go_quiet (fail)
        go_wp2
        go_ret
        exact ⟨rfl, below_drewN bB nq, fun h => by cases h⟩

end
end Go.Proofs.YtdhphbokkmofaaaGreat

namespace Go.Proofs.YtdhphbokkmofaaaGreat
open Go.RowKit Go.Sort

set_option maxHeartbeats 1600000 in
set_option maxRecDepth 60000 in
theorem change_put {p : SheetV} {o : OpV} (f : p.Fits) (ho : o.Ok) (hk : o.kind = 6) (ha : 0 ≤ o.at') (hi5 : o.at' ≤ 511) : ChangeDoes p o (putE p o) { p with slots := p.slots.set 0 (putS (p.slots.getD 0 ByteArray.empty) o.at'.toNat o.S) } := by
  intro B w b bs h
  have hb1 := h.b1
  have hlt := h.lt
  have HI : Hid (∀ wx, SheetAt B wx b bs p → Calls Tryz.prog 173 #[.pointer (some ⟨b, 0, none⟩), o.val] wx fun e w' => e = .returned (.int .i64 (putE p o)) ∧ Below B wx w' ∧
      (putE p o = 0 → SheetAt B w' b bs { p with slots := p.slots.set 0 (putS (p.slots.getD 0 ByteArray.empty) o.at'.toNat o.S) })) := fun wx hx => putOp_any hx f ho ha hi5
  generalize putE p o = E at *
  generalize { p with slots := p.slots.set 0 (putS (p.slots.getD 0 ByteArray.empty) o.at'.toNat o.S) } = q at *
  obtain ⟨K, A, S, T⟩ := o
  simp only at hk HI ⊢
  subst hk
  simp only [OpV.val] at HI ⊢
  obtain ⟨W, HW⟩ : ∃ W, Hid (W = w.alloc (.cells #[.int .i64 6, .int .i64 A, .string S, .string T] 46)) := ⟨_, rfl⟩
  have bW : Below w.heap.size w W := by rw [HW.out]; exact (Below.refl _ _).alloc (Nat.le_refl _) _
  have h1 := h.below bW
  go_enter Tryz.func116, Tryz.ntmps116
  go_wp2_with fail
  rw [← HW.out]
  clear HW
  refine (HI.out _ h1).mono ?_
  rintro e w1 ⟨rfl, b1, hz⟩
  go_wp2
  go_ret
  refine ⟨rfl, (bW.mono (by omega)).trans b1, fun hE => ?_⟩
  have hq := hz hE
  exact ⟨some ⟨bs, 0, none⟩, q.slots.length, hq.row, StrRow.toNot hq⟩

end Go.Proofs.YtdhphbokkmofaaaGreat
