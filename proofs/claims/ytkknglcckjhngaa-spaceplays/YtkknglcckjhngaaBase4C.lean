/-
  The walk of page.turn (for PageBack).
  page.change of an OpSet, an OpHead, an OpTurn (for PageBack).
  slices.Delete of one slot, in place (for PageBack).
  The walk of page.remove; page.change of an OpRemove (for PageBack).
  page.change of an OpRemove (for PageBack).
  The walk of page.put (for PageBack).
  page.change of an OpPut (for PageBack).
  What a change does to a page that fits, as plain data; its inverse leads back.
-/
import Derived.Test.YtkknglcckjhngaaBase3C
import Derived.Test.YtkknglcckjhngaaBase1C
import Derived.Shelf.Slices.Cells
namespace Go.Proofs.Ytkknglcckjhngaa
open Go.RowKit Go.Sort
set_option linter.unusedVariables false

/-- The error of an OpTurn. -/
def turnE (p : SheetV) (o : OpV) : Int := if 0 < p.slots.length then 1 else if kindS p.kind p.head ≠ o.old then 31 else 0

section
variable {B : Nat} {w : World} {b bs : Nat} {p : SheetV} {o : OpV}

set_option maxHeartbeats 1600000 in
theorem turn_any (h : SheetAt B w b bs p) (f : p.Fits) (ho : o.Ok) (h1S : 1 ≤ o.S.size) :
    Calls Try.prog 37 #[.pointer (some ⟨b, 0, none⟩), o.val] w fun e w' => e = .returned (.int .i64 (turnE p o)) ∧ Below B w w' ∧
      (turnE p o = 0 → SheetAt B w' b bs { p with kind := ((o.S.data.toList.getD 0 0).toNat : Int), head := o.S.extract 1 o.S.size }) := by
  have HKD : Hid (∀ wx, Calls Try.prog 44 #[.int .i64 p.kind, .string p.head] wx fun e w' => e = .returned (.string (kindS p.kind p.head)) ∧ Below wx.heap.size wx w') := fun wx => kind_any _ _ wx (by have := f.head; omega)
  have HTE : Hid (turnE p o = if 0 < p.slots.length then 1 else if kindS p.kind p.head ≠ o.old then 31 else 0) := rfl
  have hb1 := h.b1
  have hlt := h.lt
  have hoS := ho.S
  have hoT := ho.old
  have hf := f.fits
  have hn64 := f.len
  clear ho
  obtain ⟨K, A, S, T⟩ := o
  simp only at hoS hoT h1S HTE ⊢
  unfold OpV.val
  simp only
  obtain ⟨W, HW⟩ : ∃ W, Hid (W = w.alloc (.cells #[.int .i64 K, .int .i64 A, .string S, .string T] 41)) := ⟨_, rfl⟩
  have bW : Below w.heap.size w W := by rw [HW.out]; exact (Below.refl _ _).alloc (Nat.le_refl _) _
  have zW : w.heap.size < W.heap.size := by rw [HW.out]; simp
  have h1 := h.below bW
  have r1 : RowV W w.heap.size 4 (four (.int .i64 K) (.int .i64 A) (.string S) (.string T)) := by rw [HW.out]; exact RowV.four_new w _ _ _ _ _
  obtain ⟨x0, x1, x2, x3, x4⟩ := h1.row.cells5
  obtain ⟨y0, y1, y2, y3⟩ := r1.cells4
  have bB : Below B w W := bW.mono (by omega)
  generalize turnE p ⟨K, A, S, T⟩ = EE at *
  obtain ⟨KS, HKS⟩ : ∃ KS, Hid (kindS p.kind p.head = KS) := ⟨_, rfl⟩
  rw [HKS.out] at HKD
  have x4' := x4
  rw [HW.out] at x4'
  by_cases c1 : 0 < p.slots.length
  · have hE : EE = 1 := by rw [HTE.out, if_pos c1]
    clear HTE
    subst hE
    go_enter Try.func37, Try.ntmps37
    go_wp2
    rw [← HW.out]
    go_ret
    exact ⟨rfl, bB, fun h => by cases h⟩
  · by_cases c2 : KS = T
    · have hE : EE = 0 := by rw [HTE.out, if_neg c1, if_neg (by rw [HKS.out]; simpa using c2)]
      have c2' := str_eq c2
      clear HTE c2
      subst hE
      go_enter Try.func37, Try.ntmps37
      go_wp2_with fail
      rw [← HW.out]
      clear HW x4'
      have gx2 := cell_regrown x2
      have gx3 := cell_regrown x3
      have gy2 := cell_regrown y2
      have gy3 := cell_regrown y3
      have cK : ∀ dd os, Calls Try.prog 44 #[.int .i64 p.kind, .string p.head] (grow (redrawn W dd) os) fun e w'' => e = .returned (.string KS) ∧ ∃ p : Regrown, w'' = grow (redrawn W p.d) p.os := fun dd os => Calls.regrown_of (HKD.out _)
      refine wp_region_quiet_below mixed (by kernel_rfl) ?_
      repeat (quiet_step (first | (go_at_call 44; exact cK _ _)))
      refine wpQuiet_nil ?_
      intro _ hw'
      obtain ⟨⟨dq, osq⟩, hw''⟩ := hw'
      subst hw''
      clear gx2 gx3 gy2 gy3 cK
      have bG := below_regrown W dq osq
      have h3 := h1.below bG
      have r3 := r1.below bG zW
      have bB3 := bB.trans (bG.mono (by have := bW.size; omega))
      obtain ⟨W3, HW3⟩ : ∃ W3, Hid (W3 = grow (redrawn W dq) osq) := ⟨_, rfl⟩
      rw [← HW3.out] at h3 r3 bB3 ⊢
      clear HW3 bG r1 h1 bB bW x0 x1 x2 x3 x4 y0 y1 y2 y3
      obtain ⟨x0, x1, x2, x3, x4⟩ := h3.row.cells5
      obtain ⟨f0, f1, f2, f3, f4⟩ := h3.row.open5
      obtain ⟨y0, y1, y2, y3⟩ := r3.cells4
      have q0 : 0 < S.size := h1S
      have q1 : (1 : Int) ≤ ↑S.size := by omega
      have hg0 : S.data.toList.getD 0 0 = S[0] := by
        rw [List.getD_eq_getElem?_getD, List.getElem?_eq_getElem (by simpa using q0)]; rfl
      have hwr : IntKind.i64.wrap ↑S[0].toNat = ↑S[0].toNat := by have := S[0].toNat_lt; exact wrap_small (by omega) (by omega)
      have hbo : b ≠ w.heap.size := by omega
      go_wp2_with fail
      go_region_held3 (fun w' => w'.cell? ⟨w.heap.size, 2, none⟩ = some (.string S)) (first | go_keep | (rw [World.cell?_setCell_other _ _ _ _ (by intro q; have := congrArg Addr.block q; simp only at this; omega)]; assumption)) (fail)
      go_wp2
      go_ret
      try rw [hwr]
      refine ⟨rfl, ((bB3.setCell (p := ⟨b, 2, none⟩) hb1 _).setCell (p := ⟨b, 3, none⟩) hb1 _).drew, fun _ => ?_⟩
      rw [hg0]
      exact SheetAt.below ⟨(h3.row.set2 _).set3 _, (h3.str.set_other (fun q => h3.ne q.symm) _).set_other (fun q => h3.ne q.symm) _, h3.b1, by simpa using h3.lt, h3.bs1, by simpa using h3.bslt, h3.ne⟩ ((Below.refl _ _).drew)
    · have hE : EE = 31 := by rw [HTE.out, if_neg c1, if_pos (by rw [HKS.out]; exact c2)]
      have c2' := str_ne c2
      clear HTE c2
      subst hE
      go_enter Try.func37, Try.ntmps37
      go_wp2_with fail
      rw [← HW.out]
      clear HW x4'
      have gx2 := cell_regrown x2
      have gx3 := cell_regrown x3
      have gy2 := cell_regrown y2
      have gy3 := cell_regrown y3
      have cK : ∀ dd os, Calls Try.prog 44 #[.int .i64 p.kind, .string p.head] (grow (redrawn W dd) os) fun e w'' => e = .returned (.string KS) ∧ ∃ p : Regrown, w'' = grow (redrawn W p.d) p.os := fun dd os => Calls.regrown_of (HKD.out _)
      refine wp_region_quiet_below mixed (by kernel_rfl) ?_
      repeat (quiet_step (first | (go_at_call 44; exact cK _ _)))
      refine wpQuiet_nil ?_
      intro _ hw'
      obtain ⟨⟨dq, osq⟩, hw''⟩ := hw'
      subst hw''
      clear gx2 gx3 gy2 gy3 cK
      go_wp2
      go_ret
      exact ⟨rfl, bB.trans ((below_regrown W dq osq).mono (by have := bW.size; omega)), fun h => by cases h⟩

end
end Go.Proofs.Ytkknglcckjhngaa

namespace Go.Proofs.Ytkknglcckjhngaa
open Go.RowKit Go.Sort
set_option linter.unusedVariables false

theorem StrRow.toNot {w : World} {B b bs : Nat} {q : SheetV} (h : SheetAt B w b bs q) : StrsNot B b w (some ⟨bs, 0, none⟩) q.slots := h.str.not (fun e => h.ne e) h.bs1 h.bslt

set_option maxHeartbeats 1600000 in
theorem change_set {p : SheetV} {o : OpV} (f : p.Fits) (ho : o.Ok) (hk : o.kind = 4) (ha : 0 ≤ o.at') : ChangeDoes p o (setE p o) { p with slots := p.slots.set o.at'.toNat o.S } := by
  intro B w b bs h
  have hb1 := h.b1
  have hlt := h.lt
  have HI : Hid (∀ wx, SheetAt B wx b bs p → Calls Try.prog 34 #[.pointer (some ⟨b, 0, none⟩), o.val] wx fun e w' => e = .returned (.int .i64 (setE p o)) ∧ Below B wx w' ∧
      (setE p o = 0 → SheetAt B w' b bs { p with slots := p.slots.set o.at'.toNat o.S })) := fun wx hx => set_any hx f ho ha
  generalize setE p o = E at *
  generalize { p with slots := p.slots.set o.at'.toNat o.S } = q at *
  obtain ⟨K, A, S, T⟩ := o
  simp only at hk HI ⊢
  subst hk
  simp only [OpV.val] at HI ⊢
  obtain ⟨W, HW⟩ : ∃ W, Hid (W = w.alloc (.cells #[.int .i64 4, .int .i64 A, .string S, .string T] 41)) := ⟨_, rfl⟩
  have bW : Below w.heap.size w W := by rw [HW.out]; exact (Below.refl _ _).alloc (Nat.le_refl _) _
  have h1 := h.below bW
  go_enter Try.func26, Try.ntmps26
  go_wp2_with fail
  rw [← HW.out]
  clear HW
  refine (HI.out _ h1).mono ?_
  rintro e w1 ⟨rfl, b1, hz⟩
  go_wp2
  go_ret
  refine ⟨rfl, (bW.mono (by omega)).trans b1, fun hE => ?_⟩
  have hq := hz hE
  exact ⟨some ⟨bs, 0, none⟩, q.slots.length, hq.row, StrRow.toNot hq⟩

set_option maxHeartbeats 1600000 in
theorem change_head {p : SheetV} {o : OpV} (f : p.Fits) (ho : o.Ok) (hk : o.kind = 5) : ChangeDoes p o (headE p o) { p with head := o.S } := by
  intro B w b bs h
  have hb1 := h.b1
  have hlt := h.lt
  have HI : Hid (∀ wx, SheetAt B wx b bs p → Calls Try.prog 35 #[.pointer (some ⟨b, 0, none⟩), o.val] wx fun e w' => e = .returned (.int .i64 (headE p o)) ∧ Below B wx w' ∧
      (headE p o = 0 → SheetAt B w' b bs { p with head := o.S })) := fun wx hx => setHead_any hx f ho
  generalize headE p o = E at *
  generalize { p with head := o.S } = q at *
  obtain ⟨K, A, S, T⟩ := o
  simp only at hk HI ⊢
  subst hk
  simp only [OpV.val] at HI ⊢
  obtain ⟨W, HW⟩ : ∃ W, Hid (W = w.alloc (.cells #[.int .i64 5, .int .i64 A, .string S, .string T] 41)) := ⟨_, rfl⟩
  have bW : Below w.heap.size w W := by rw [HW.out]; exact (Below.refl _ _).alloc (Nat.le_refl _) _
  have h1 := h.below bW
  go_enter Try.func26, Try.ntmps26
  go_wp2_with fail
  rw [← HW.out]
  clear HW
  refine (HI.out _ h1).mono ?_
  rintro e w1 ⟨rfl, b1, hz⟩
  go_wp2
  go_ret
  refine ⟨rfl, (bW.mono (by omega)).trans b1, fun hE => ?_⟩
  have hq := hz hE
  exact ⟨some ⟨bs, 0, none⟩, q.slots.length, hq.row, StrRow.toNot hq⟩

set_option maxHeartbeats 1600000 in
theorem change_turn {p : SheetV} {o : OpV} (f : p.Fits) (ho : o.Ok) (hk : o.kind = 7) (h1S : 1 ≤ o.S.size) : ChangeDoes p o (turnE p o) { p with kind := ((o.S.data.toList.getD 0 0).toNat : Int), head := o.S.extract 1 o.S.size } := by
  intro B w b bs h
  have hb1 := h.b1
  have hlt := h.lt
  have HI : Hid (∀ wx, SheetAt B wx b bs p → Calls Try.prog 37 #[.pointer (some ⟨b, 0, none⟩), o.val] wx fun e w' => e = .returned (.int .i64 (turnE p o)) ∧ Below B wx w' ∧
      (turnE p o = 0 → SheetAt B w' b bs { p with kind := ((o.S.data.toList.getD 0 0).toNat : Int), head := o.S.extract 1 o.S.size })) := fun wx hx => turn_any hx f ho h1S
  generalize turnE p o = E at *
  generalize { p with kind := ((o.S.data.toList.getD 0 0).toNat : Int), head := o.S.extract 1 o.S.size } = q at *
  obtain ⟨K, A, S, T⟩ := o
  simp only at hk HI ⊢
  subst hk
  simp only [OpV.val] at HI ⊢
  obtain ⟨W, HW⟩ : ∃ W, Hid (W = w.alloc (.cells #[.int .i64 7, .int .i64 A, .string S, .string T] 41)) := ⟨_, rfl⟩
  have bW : Below w.heap.size w W := by rw [HW.out]; exact (Below.refl _ _).alloc (Nat.le_refl _) _
  have h1 := h.below bW
  go_enter Try.func26, Try.ntmps26
  go_wp2_with fail
  rw [← HW.out]
  clear HW
  refine (HI.out _ h1).mono ?_
  rintro e w1 ⟨rfl, b1, hz⟩
  go_wp2
  go_ret
  refine ⟨rfl, (bW.mono (by omega)).trans b1, fun hE => ?_⟩
  have hq := hz hE
  exact ⟨some ⟨bs, 0, none⟩, q.slots.length, hq.row, StrRow.toNot hq⟩

end Go.Proofs.Ytkknglcckjhngaa

namespace Go.Proofs.Ytkknglcckjhngaa
open Go.RowKit Go.Sort
set_option linter.unusedVariables false

theorem delete_call (L : List ByteArray) (bs i : Nat) (w : World) (h : StrRow w bs L) (hi : i < L.length) (hn : L.length ≤ 64) :
    Calls Try.prog 43 #[.slice (some ⟨bs, 0, none⟩) L.length L.length, .int .i64 i, .int .i64 ((i : Int) + 1)] w fun e w' =>
      e = .returned (.slice (some ⟨bs, 0, none⟩) (L.length - 1) L.length) ∧ StrRow w' bs (L.eraseIdx i) ∧ ∃ q vs, w' = (w.drewN q).setCells bs 0 vs := by
  have hc := Any.slices_Delete_string_cells deleteLays bs 0 L.length L.length i (i + 1) (fun j => L.getD j ByteArray.empty) w (Nat.le_refl _) (by omega) (by omega) (by omega)
    (fun j hj => by rw [Nat.zero_add]; exact (h j hj).1) (fun j hj => by rw [Nat.zero_add]; exact (h j hj).2)
  rw [Int.natCast_add] at hc
  refine Calls.mono hc ?_
  rintro e w' ⟨rfl, q, rfl⟩
  refine ⟨by rw [Nat.add_sub_cancel_left], ?_, q, _, rfl⟩
  intro j hj
  have hj' : j < L.length - 1 := by rw [List.length_eraseIdx_of_lt hi] at hj; exact hj
  refine ⟨?_, by rw [World.frozen?_setCells]; exact (h j (by omega)).2⟩
  have hin := World.cell?_setCells_in bs (((Lib.strsOf (fun j => L.getD j ByteArray.empty) L.length).take i ++ (Lib.strsOf (fun j => L.getD j ByteArray.empty) L.length).drop (i + 1) ++ List.replicate (i + 1 - i) []).map encStr) 0 (w.drewN q)
    (fun k hk => by
      rw [Nat.zero_add]
      have : k < L.length := by simp [Lib.strsOf_length] at hk; omega
      show (w.cell? _).isSome = true
      rw [(h k this).1]; rfl) j (by simp [Lib.strsOf_length]; omega)
  rw [Nat.zero_add] at hin
  rw [hin]
  congr 1
  rw [List.getElem_map, List.getElem_append_left (by simp [Lib.strsOf_length]; omega)]
  have e0 : (L.eraseIdx i).getD j ByteArray.empty = (L.eraseIdx i)[j] := by rw [List.getD_eq_getElem?_getD, List.getElem?_eq_getElem hj, Option.getD_some]
  show _ = Value.string ((L.eraseIdx i).getD j ByteArray.empty)
  rw [e0, List.getElem_eraseIdx]
  by_cases c : j < i
  · rw [List.getElem_append_left (by simp [Lib.strsOf_length]; omega), dif_pos c, List.getElem_take]
    simp only [Lib.strsOf, List.getElem_map, List.getElem_range]
    rw [List.getD_eq_getElem?_getD, List.getElem?_eq_getElem (by omega), Option.getD_some]
  · rw [List.getElem_append_right (by simp [Lib.strsOf_length]; omega), dif_neg c, List.getElem_drop]
    simp only [Lib.strsOf, List.getElem_map, List.getElem_range]
    have e1 : i + 1 + (j - (List.take i (Lib.strsOf (fun j => L.getD j ByteArray.empty) L.length)).length) = j + 1 := by simp [Lib.strsOf_length]; omega
    simp only [Lib.strsOf] at e1
    rw [e1, List.getD_eq_getElem?_getD, List.getElem?_eq_getElem (by omega), Option.getD_some]

theorem RowV.setCells_other {w : World} {b N : Nat} {f : Nat → Value} (h : RowV w b N f) {b' : Nat} (hk : b' ≠ b) (vs : List Value) (o : Nat) : RowV (w.setCells b' o vs) b N f := fun j hj =>
  ⟨by rw [World.cell?_setCells_out b' vs o w _ (fun e _ => absurd e.symm hk)]; exact (h j hj).1, by rw [World.frozen?_setCells]; exact (h j hj).2⟩

end Go.Proofs.Ytkknglcckjhngaa

namespace Go.Proofs.Ytkknglcckjhngaa
open Go.RowKit Go.Sort
set_option linter.unusedVariables false

section
variable {B : Nat} {w : World} {b bs : Nat} {p : SheetV} {o : OpV}

set_option maxHeartbeats 1600000 in
theorem remove_any (h : SheetAt B w b bs p) (f : p.Fits) (ho : o.Ok) (ha : 0 ≤ o.at') :
    Calls Try.prog 33 #[.pointer (some ⟨b, 0, none⟩), o.val] w fun e w' => e = .returned (.int .i64 (standE p o)) ∧ Below B w w' ∧
      (standE p o = 0 → RowV w' b 5 (five (.int .u32 p.num) (.int .u64 p.lsn) (.int .i64 p.kind) (.string p.head) (.slice (some ⟨bs, 0, none⟩) (p.slots.length - 1) p.slots.length)) ∧ StrRow w' bs (p.slots.eraseIdx o.at'.toNat)) := by
  have hb1 := h.b1
  have hlt := h.lt
  have hoS := ho.S
  have hoT := ho.old
  have hf := f.fits
  have hn64 := f.len
  have HST : Hid (∀ wx, SheetAt B wx b bs p → Calls Try.prog 42 #[.pointer (some ⟨b, 0, none⟩), o.val] wx fun e w' => e = .returned (.int .i64 (standE p o)) ∧ Below wx.heap.size wx w') := fun wx hx => stands_any hx f ho ha
  clear ho
  obtain ⟨K, A, S, T⟩ := o
  simp only at hoS hoT ha HST ⊢
  obtain ⟨i, rfl⟩ := Int.eq_ofNat_of_zero_le ha
  simp only [Int.toNat_natCast]
  unfold OpV.val at HST ⊢
  simp only at HST ⊢
  obtain ⟨W, HW⟩ : ∃ W, Hid (W = w.alloc (.cells #[.int .i64 K, .int .i64 i, .string S, .string T] 41)) := ⟨_, rfl⟩
  have bW : Below w.heap.size w W := by rw [HW.out]; exact (Below.refl _ _).alloc (Nat.le_refl _) _
  have zW : w.heap.size < W.heap.size := by rw [HW.out]; simp
  have h1 := h.below bW
  have r1 : RowV W w.heap.size 4 (four (.int .i64 K) (.int .i64 i) (.string S) (.string T)) := by rw [HW.out]; exact RowV.four_new w _ _ _ _ _
  obtain ⟨x0, x1, x2, x3, x4⟩ := h1.row.cells5
  obtain ⟨y0, y1, y2, y3⟩ := r1.cells4
  have bB : Below B w W := bW.mono (by omega)
  have HSZ : Hid (standE p ⟨K, i, S, T⟩ = 0 → i < p.slots.length) := fun q => by have := (standE_zero q).1; simp only at this; omega
  generalize standE p ⟨K, i, S, T⟩ = E at *
  by_cases c1 : E = 0
  · have hin := HSZ.out c1
    subst c1
    have hwr : IntKind.i64.wrap ((i : Int) + 1) = (i : Int) + 1 := wrap_small (by omega) (by omega)
    go_enter Try.func33, Try.ntmps33
    go_wp2_with fail
    rw [← HW.out]
    refine (HST.out _ h1).mono ?_
    rintro e W2 ⟨rfl, b2⟩
    have h2 := h1.below b2
    have r2 := r1.below b2 zW
    have bB2 := bB.trans (b2.mono (by have := bW.size; omega))
    have zW2 := Nat.lt_of_lt_of_le zW b2.size
    clear HW r1 h1 bB bW x0 x1 x2 x3 x4 y0 y1 y2 y3 b2
    obtain ⟨x0, x1, x2, x3, x4⟩ := h2.row.cells5
    obtain ⟨y0, y1, y2, y3⟩ := r2.cells4
    obtain ⟨f0, f1, f2, f3, f4⟩ := h2.row.open5
    go_wp2_with fail
    have HD : Hid (∀ X, SheetAt B X b bs p → Below B w X → Calls Try.prog 43 #[.slice (some ⟨bs, 0, none⟩) p.slots.length p.slots.length, .int .i64 i, .int .i64 ((i : Int) + 1)] X fun e w' =>
        e = .returned (.slice (some ⟨bs, 0, none⟩) (p.slots.length - 1) p.slots.length) ∧ StrRow w' bs (p.slots.eraseIdx i) ∧ RowV w' b 5 (five (.int .u32 p.num) (.int .u64 p.lsn) (.int .i64 p.kind) (.string p.head) (.slice (some ⟨bs, 0, none⟩) p.slots.length p.slots.length)) ∧ Below B w w') := fun X h3 hB => by
      refine (delete_call p.slots bs i _ h3.str hin hn64).mono ?_
      rintro e w' ⟨rfl, q1, q, vs, rfl⟩
      exact ⟨rfl, q1, (h3.row.below (below_drewN (Below.refl _ _) q) h3.lt).setCells_other h3.ne vs 0, below_setCells bs h3.bs1 vs 0 _ (below_drewN hB q)⟩
    have hne := h2.ne
    have h2d : SheetAt B W2.drew b bs p := h2.below ((Below.refl W2.heap.size W2).drew)
    have bBd : Below B w W2.drew := bB2.drew
    go_region_with (first | (go_at_call 43; refine (HD.out _ h2d bBd).mono ?_; rintro e w4 ⟨rfl, q1, q4, q5⟩; obtain ⟨k0, k1, k2, k3, k4⟩ := q4.cells5; obtain ⟨l0, l1, l2, l3, l4⟩ := q4.open5))
    all_goals
      go_wp2
      go_ret
      exact ⟨rfl, q5.setCell (p := ⟨b, 4, none⟩) hb1 _, fun _ => ⟨q4.set4 _, q1.set_other (fun q => hne q.symm) _⟩⟩
  · have c1' : (E != 0) = true := by rw [bne_iff_ne]; exact c1
    go_enter Try.func33, Try.ntmps33
    go_wp2_with fail
    rw [← HW.out]
    refine (HST.out _ h1).mono ?_
    rintro e W2 ⟨rfl, b2⟩
    have h2 := h1.below b2
    have r2 := r1.below b2 zW
    have bB2 := bB.trans (b2.mono (by have := bW.size; omega))
    have zW2 := Nat.lt_of_lt_of_le zW b2.size
    clear HW r1 h1 bB bW x0 x1 x2 x3 x4 y0 y1 y2 y3 b2
    obtain ⟨x0, x1, x2, x3, x4⟩ := h2.row.cells5
    obtain ⟨y0, y1, y2, y3⟩ := r2.cells4
    go_wp2
    go_ret
    exact ⟨rfl, bB2, fun h => absurd h c1⟩

end
end Go.Proofs.Ytkknglcckjhngaa

namespace Go.Proofs.Ytkknglcckjhngaa
open Go.RowKit Go.Sort
set_option linter.unusedVariables false

set_option maxHeartbeats 1600000 in
theorem change_rem {p : SheetV} {o : OpV} (f : p.Fits) (ho : o.Ok) (hk : o.kind = 3) (ha : 0 ≤ o.at') : ChangeDoes p o (standE p o) { p with slots := p.slots.eraseIdx o.at'.toNat } := by
  intro B w b bs h
  have hb1 := h.b1
  have hlt := h.lt
  have HI : Hid (∀ wx, SheetAt B wx b bs p → Calls Try.prog 33 #[.pointer (some ⟨b, 0, none⟩), o.val] wx fun e w' => e = .returned (.int .i64 (standE p o)) ∧ Below B wx w' ∧
      (standE p o = 0 → RowV w' b 5 (five (.int .u32 p.num) (.int .u64 p.lsn) (.int .i64 p.kind) (.string p.head) (.slice (some ⟨bs, 0, none⟩) (p.slots.length - 1) p.slots.length)) ∧ StrRow w' bs (p.slots.eraseIdx o.at'.toNat))) := fun wx hx => remove_any hx f ho ha
  have HZ : Hid (standE p o = 0 → o.at'.toNat < p.slots.length) := fun q => by have := (standE_zero q).1; omega
  generalize standE p o = E at *
  obtain ⟨K, A, S, T⟩ := o
  simp only at hk ha HI HZ ⊢
  subst hk
  generalize A.toNat = i at *
  simp only [OpV.val] at HI ⊢
  obtain ⟨W, HW⟩ : ∃ W, Hid (W = w.alloc (.cells #[.int .i64 3, .int .i64 A, .string S, .string T] 41)) := ⟨_, rfl⟩
  have bW : Below w.heap.size w W := by rw [HW.out]; exact (Below.refl _ _).alloc (Nat.le_refl _) _
  have h1 := h.below bW
  go_enter Try.func26, Try.ntmps26
  go_wp2_with fail
  rw [← HW.out]
  clear HW
  refine (HI.out _ h1).mono ?_
  rintro e w1 ⟨rfl, b1, hz⟩
  go_wp2
  go_ret
  refine ⟨rfl, (bW.mono (by omega)).trans b1, fun hE => ?_⟩
  obtain ⟨q1, q2⟩ := hz hE
  have hl := h1.bslt
  exact ⟨some ⟨bs, 0, none⟩, p.slots.length, by simp only [List.length_eraseIdx_of_lt (HZ.out hE)]; exact q1, q2.not h.ne h.bs1 (Nat.lt_of_lt_of_le hl b1.size)⟩

end Go.Proofs.Ytkknglcckjhngaa

namespace Go.Proofs.Ytkknglcckjhngaa
open Go.RowKit Go.Sort
set_option linter.unusedVariables false

/-- The error of an OpPut. -/
def putE (p : SheetV) (o : OpV) : Int := if p.slots.length = 0 ∨ (p.slots.getD 0 ByteArray.empty).size < o.at'.toNat + o.S.size then 1 else if (p.slots.getD 0 ByteArray.empty).extract o.at'.toNat (o.at'.toNat + o.S.size) ≠ o.old then 31 else 0

/-- The slot that an OpPut leaves. -/
def putS (s : ByteArray) (i : Nat) (S : ByteArray) : ByteArray := s.extract 0 i ++ S ++ s.extract (i + S.size) s.size

section
variable {B : Nat} {w : World} {b bs : Nat} {p : SheetV} {o : OpV}

set_option maxHeartbeats 1600000 in
theorem putOp_any (h : SheetAt B w b bs p) (f : p.Fits) (ho : o.Ok) (ha : 0 ≤ o.at') (hi5 : o.at' ≤ 511) :
    Calls Try.prog 36 #[.pointer (some ⟨b, 0, none⟩), o.val] w fun e w' => e = .returned (.int .i64 (putE p o)) ∧ Below B w w' ∧
      (putE p o = 0 → SheetAt B w' b bs { p with slots := p.slots.set 0 (putS (p.slots.getD 0 ByteArray.empty) o.at'.toNat o.S) }) := by
  have hb1 := h.b1
  have hlt := h.lt
  have hoS := ho.S
  have hoT := ho.old
  have hf := f.fits
  have hn64 := f.len
  clear ho
  obtain ⟨K, A, S, T⟩ := o
  simp only at hoS hoT ha hi5 ⊢
  obtain ⟨i, rfl⟩ := Int.eq_ofNat_of_zero_le ha
  simp only [Int.toNat_natCast]
  unfold OpV.val
  simp only
  obtain ⟨W, HW⟩ : ∃ W, Hid (W = w.alloc (.cells #[.int .i64 K, .int .i64 i, .string S, .string T] 41)) := ⟨_, rfl⟩
  have bW : Below w.heap.size w W := by rw [HW.out]; exact (Below.refl _ _).alloc (Nat.le_refl _) _
  have zW : w.heap.size < W.heap.size := by rw [HW.out]; simp
  have h1 := h.below bW
  have r1 : RowV W w.heap.size 4 (four (.int .i64 K) (.int .i64 i) (.string S) (.string T)) := by rw [HW.out]; exact RowV.four_new w _ _ _ _ _
  obtain ⟨x0, x1, x2, x3, x4⟩ := h1.row.cells5
  obtain ⟨y0, y1, y2, y3⟩ := r1.cells4
  have bB : Below B w W := bW.mono (by omega)
  have HPE : Hid (putE p ⟨K, i, S, T⟩ = if p.slots.length = 0 ∨ (p.slots.getD 0 ByteArray.empty).size < i + S.size then 1 else if (p.slots.getD 0 ByteArray.empty).extract i (i + S.size) ≠ T then 31 else 0) := rfl
  generalize putE p ⟨K, i, S, T⟩ = EE at *
  obtain ⟨e, he⟩ : ∃ e, Hid (i + S.size = e) := ⟨_, rfl⟩
  have hie : i ≤ e := by rw [← he.out]; omega
  have hwr : IntKind.i64.wrap ((i : Int) + (S.size : Int)) = (e : Int) := by rw [← he.out, Int.natCast_add]; exact wrap_small (by omega) (by omega)
  rw [he.out] at HPE
  have x4' := x4
  have y1' := y1
  have y2' := y2
  rw [HW.out] at x4' y1' y2'
  by_cases c0 : p.slots.length = 0
  · have hE : EE = 1 := by rw [HPE.out, if_pos (.inl c0)]
    subst hE
    clear HPE
    rw [c0] at x4' x4
    go_enter Try.func36, Try.ntmps36
    go_wp2
    rw [← HW.out]
    go_ret
    exact ⟨rfl, bB, fun h => by cases h⟩
  · have hz := (h1.str 0 (by omega))
    have hz1 := hz.1
    have hz2 := hz.2
    simp only at hz1
    clear hz
    have hs5 : (p.slots.getD 0 ByteArray.empty).size ≤ 140737488351232 := by
      have hm := slotSum_at p.slots 0 (by omega)
      rw [List.getD_eq_getElem?_getD, List.getElem?_eq_getElem (by omega), Option.getD_some]
      omega
    generalize p.slots.getD 0 ByteArray.empty = s at *
    have hz1' := hz1
    rw [HW.out] at hz1'
    have hl0 : ((p.slots.length : Int) == 0) = false := by rw [beq_eq_false_iff_ne]; omega
    have hl1 : (0 : Int) < (p.slots.length : Int) := by omega
    have hl2 : 0 < p.slots.length := by omega
    by_cases c1 : s.size < e
    · have hE : EE = 1 := by rw [HPE.out, if_pos (.inr c1)]
      subst hE
      clear HPE
      have hc1 : decide ((s.size : Int) < (e : Int)) = true := by simp; omega
      go_enter Try.func36, Try.ntmps36
      go_wp2
      rw [← HW.out]
      go_ret
      exact ⟨rfl, bB, fun h => by cases h⟩
    · have hc1 : decide ((s.size : Int) < (e : Int)) = false := by simp; omega
      have hb3 : (0 : Int) ≤ (i : Int) := by omega
      have hb4 : (i : Int) ≤ (e : Int) := by omega
      have hb5 : (e : Int) ≤ (s.size : Int) := by omega
      have hb6 : (i : Int) ≤ (s.size : Int) := by omega
      by_cases c2 : s.extract i e = T
      · have hE : EE = 0 := by rw [HPE.out, if_neg (by omega), if_neg (by simpa using c2)]
        subst hE
        clear HPE
        have c2' := str_eq c2
        go_enter Try.func36, Try.ntmps36
        go_wp2_with fail
        rw [← HW.out]
        clear HW x4' y1' y2' hz1'
        go_quiet (fail)
        have h3 : SheetAt B (W.drewN nq) b bs p := h1.below (below_drewN (Below.refl W.heap.size W) nq)
        have r3 : RowV (W.drewN nq) w.heap.size 4 (four (.int .i64 K) (.int .i64 i) (.string S) (.string T)) := r1.below (below_drewN (Below.refl W.heap.size W) nq) zW
        have bB3 := below_drewN bB nq
        have hz3 : (W.drewN nq).cell? ⟨bs, 0, none⟩ = some (.string s) := hz1
        have hf3 : (W.drewN nq).frozen? ⟨bs, 0, none⟩ = false := hz2
        obtain ⟨W3, HW3⟩ : ∃ W3, Hid (W3 = W.drewN nq) := ⟨_, rfl⟩
        rw [← HW3.out] at h3 r3 bB3 hz3 hf3 ⊢
        clear HW3 r1 h1 bB bW x0 x1 x2 x3 x4 y0 y1 y2 y3 hz1 hz2
        obtain ⟨x0, x1, x2, x3, x4⟩ := h3.row.cells5
        obtain ⟨y0, y1, y2, y3⟩ := r3.cells4
        have hn1 := h3.ne
        have hbo : bs ≠ w.heap.size := by have := h.bslt; omega
        have hss : s.size ≤ 140737488351232 := hs5
        obtain ⟨sa, hsa⟩ : ∃ sa, s.extract 0 i = sa := ⟨_, rfl⟩
        obtain ⟨sb, hsb⟩ : ∃ sb, s.extract e s.size = sb := ⟨_, rfl⟩
        obtain ⟨sc, hsc⟩ : ∃ sc, sa ++ S = sc := ⟨_, rfl⟩
        have la : sa.size ≤ s.size := by rw [← hsa, ByteArray.size_extract]; omega
        have lb : sb.size ≤ s.size := by rw [← hsb, ByteArray.size_extract]; omega
        have lc : sc.size = sa.size + S.size := by rw [← hsc, ByteArray.size_append]
        have hA : ¬ ((9223372036854775807 : Int) < (sa.size : Int) + (S.size : Int)) := by omega
        have hB : ¬ ((9223372036854775807 : Int) < (sc.size : Int) + (sb.size : Int)) := by omega
        have hA2 : (sa.size : Int) + (S.size : Int) ≤ 9223372036854775807 := by omega
        have hB2 : (sc.size : Int) + (sb.size : Int) ≤ 9223372036854775807 := by omega
        have hA3 : ∀ (P : Program) (wx : World), (Op.stringOp .add sa S).run P wx = .ok (.string sc) wx := fun P wx => by rw [run_string_add_sum wx sa S (by omega), hsc]
        have hB3 : ∀ (P : Program) (wx : World), (Op.stringOp .add sc sb).run P wx = .ok (.string (sc ++ sb)) wx := fun P wx => run_string_add_sum wx sc sb (by omega)
        have HR : Hid (putS s i S = sc ++ sb) := by show _ = _; unfold putS; rw [he.out, hsa, hsb, hsc]
        clear la lb lc
        go_wp2_with fail
        go_region_held3 (fun w' => w'.cell? ⟨b, 4, none⟩ = some (.slice (some ⟨bs, 0, none⟩) p.slots.length p.slots.length) ∧ w'.cell? ⟨w.heap.size, 1, none⟩ = some (.int .i64 i) ∧ w'.cell? ⟨w.heap.size, 2, none⟩ = some (.string S)) (first | go_keep | (refine ⟨?_, ?_, ?_⟩ <;> (rw [World.cell?_setCell_other _ _ _ _ (by intro q; have := congrArg Addr.block q; simp only at this; omega)]; assumption))) (fail)
        go_wp2
        go_ret
        refine ⟨rfl, (bB3.setCell (p := ⟨bs, 0, none⟩) h3.bs1 _).drew, fun _ => ?_⟩
        have hrow := (h3.row.set_other (b' := bs) (k := 0) h3.ne (.string (sc ++ sb)))
        have hstr := h3.str.setAt (i := 0) (by omega) (sc ++ sb)
        rw [HR.out]
        refine SheetAt.below ⟨?_, hstr, h3.b1, by simpa using h3.lt, h3.bs1, by simpa using h3.bslt, h3.ne⟩ ((Below.refl _ _).drew)
        simp only [List.length_set]
        exact hrow
      · have hE : EE = 31 := by rw [HPE.out, if_neg (by omega), if_pos c2]
        subst hE
        clear HPE
        have c2' := str_ne c2
        go_enter Try.func36, Try.ntmps36
        go_wp2_with fail
        rw [← HW.out]
        clear HW x4' y1' y2' hz1'
        go_quiet (fail)
        go_wp2
        go_ret
        exact ⟨rfl, below_drewN bB nq, fun h => by cases h⟩

end
end Go.Proofs.Ytkknglcckjhngaa

namespace Go.Proofs.Ytkknglcckjhngaa
open Go.RowKit Go.Sort
set_option linter.unusedVariables false

set_option maxHeartbeats 1600000 in
theorem change_put {p : SheetV} {o : OpV} (f : p.Fits) (ho : o.Ok) (hk : o.kind = 6) (ha : 0 ≤ o.at') (hi5 : o.at' ≤ 511) : ChangeDoes p o (putE p o) { p with slots := p.slots.set 0 (putS (p.slots.getD 0 ByteArray.empty) o.at'.toNat o.S) } := by
  intro B w b bs h
  have hb1 := h.b1
  have hlt := h.lt
  have HI : Hid (∀ wx, SheetAt B wx b bs p → Calls Try.prog 36 #[.pointer (some ⟨b, 0, none⟩), o.val] wx fun e w' => e = .returned (.int .i64 (putE p o)) ∧ Below B wx w' ∧
      (putE p o = 0 → SheetAt B w' b bs { p with slots := p.slots.set 0 (putS (p.slots.getD 0 ByteArray.empty) o.at'.toNat o.S) })) := fun wx hx => putOp_any hx f ho ha hi5
  generalize putE p o = E at *
  generalize { p with slots := p.slots.set 0 (putS (p.slots.getD 0 ByteArray.empty) o.at'.toNat o.S) } = q at *
  obtain ⟨K, A, S, T⟩ := o
  simp only at hk HI ⊢
  subst hk
  simp only [OpV.val] at HI ⊢
  obtain ⟨W, HW⟩ : ∃ W, Hid (W = w.alloc (.cells #[.int .i64 6, .int .i64 A, .string S, .string T] 41)) := ⟨_, rfl⟩
  have bW : Below w.heap.size w W := by rw [HW.out]; exact (Below.refl _ _).alloc (Nat.le_refl _) _
  have h1 := h.below bW
  go_enter Try.func26, Try.ntmps26
  go_wp2_with fail
  rw [← HW.out]
  clear HW
  refine (HI.out _ h1).mono ?_
  rintro e w1 ⟨rfl, b1, hz⟩
  go_wp2
  go_ret
  refine ⟨rfl, (bW.mono (by omega)).trans b1, fun hE => ?_⟩
  have hq := hz hE
  exact ⟨some ⟨bs, 0, none⟩, q.slots.length, hq.row, StrRow.toNot hq⟩

end Go.Proofs.Ytkknglcckjhngaa

namespace Go.Proofs.Ytkknglcckjhngaa
open Go.RowKit Go.Sort
set_option linter.unusedVariables false

/-- The error of a change other than OpFormat. -/
def doE (p : SheetV) (o : OpV) : Int :=
  if o.kind = 2 then insE p o else if o.kind = 3 then standE p o else if o.kind = 4 then setE p o else if o.kind = 5 then headE p o else if o.kind = 6 then putE p o else turnE p o

/-- The page behind it. -/
def doQ (p : SheetV) (o : OpV) : SheetV :=
  if o.kind = 2 then { p with slots := insL p.slots o.at'.toNat o.S } else
  if o.kind = 3 then { p with slots := p.slots.eraseIdx o.at'.toNat } else
  if o.kind = 4 then { p with slots := p.slots.set o.at'.toNat o.S } else
  if o.kind = 5 then { p with head := o.S } else
  if o.kind = 6 then { p with slots := p.slots.set 0 (putS (p.slots.getD 0 ByteArray.empty) o.at'.toNat o.S) } else
  { p with kind := ((o.S.data.toList.getD 0 0).toNat : Int), head := o.S.extract 1 o.S.size }

/-- The inverse of a change. -/
def invO (o : OpV) : OpV :=
  if o.kind = 1 then ⟨1, 0, ⟨#[]⟩, ⟨#[]⟩⟩ else
  if o.kind = 2 then ⟨3, o.at', ⟨#[]⟩, o.S⟩ else
  if o.kind = 3 then ⟨2, o.at', o.old, ⟨#[]⟩⟩ else
  if 4 ≤ o.kind ∧ o.kind ≤ 7 then ⟨o.kind, o.at', o.old, o.S⟩ else o

/-- Two pages are the same in all but the LSN. -/
def SameS (p q : SheetV) : Prop := p.num = q.num ∧ p.kind = q.kind ∧ p.head = q.head ∧ p.slots = q.slots

theorem SameS.eq {p q : SheetV} (h : SameS p q) : p = { q with lsn := p.lsn } := by
  obtain ⟨n, l, k, hd, s⟩ := p
  obtain ⟨n', l', k', hd', s'⟩ := q
  obtain ⟨h1, h2, h3, h4⟩ := h
  simp only at h1 h2 h3 h4
  subst h1; subst h2; subst h3; subst h4
  rfl

theorem doE_lsn (p : SheetV) (o : OpV) (n : Nat) : doE { p with lsn := n } o = doE p o := rfl

theorem doQ_lsn (p : SheetV) (o : OpV) (n : Nat) : doQ { p with lsn := n } o = { doQ p o with lsn := n } := by
  unfold doQ
  split
  · rfl
  split
  · rfl
  split
  · rfl
  split
  · rfl
  split
  · rfl
  · rfl

theorem Fits.lsn {p : SheetV} (h : p.Fits) (n : Nat) (hn : n < 18446744073709551616) : ({ p with lsn := n } : SheetV).Fits := ⟨h.num, hn, h.kind0, h.kind1, h.head, h.len, h.fits⟩

theorem chk_parts {o : OpV} (h : chkB o = true) : o.S.size ≤ 512 ∧ o.old.size ≤ 512 ∧ mayP o := by
  unfold chkB at h
  simp only [Bool.and_eq_true, decide_eq_true_eq] at h
  exact ⟨h.1.1, h.1.2, (mayB_iff o).1 h.2⟩

theorem chk_of {o : OpV} (h1 : o.S.size ≤ 512) (h2 : o.old.size ≤ 512) (h3 : mayP o) : chkB o = true := by
  unfold chkB
  simp only [Bool.and_eq_true, decide_eq_true_eq]
  exact ⟨⟨h1, h2⟩, (mayB_iff o).2 h3⟩

theorem empty_size : (ByteArray.mk #[]).size = 0 := rfl

/-- The kinds of a change that may be. -/
theorem may_kinds {o : OpV} (h : mayP o) (h1 : o.kind ≠ 1) : o.kind = 2 ∨ o.kind = 3 ∨ o.kind = 4 ∨ o.kind = 5 ∨ o.kind = 6 ∨ o.kind = 7 := by
  unfold mayP at h
  rw [if_neg h1] at h
  by_cases k2 : o.kind = 2
  · exact .inl k2
  by_cases k3 : o.kind = 3
  · exact .inr (.inl k3)
  by_cases k4 : o.kind = 4
  · exact .inr (.inr (.inl k4))
  by_cases k5 : o.kind = 5
  · exact .inr (.inr (.inr (.inl k5)))
  by_cases k6 : o.kind = 6
  · exact .inr (.inr (.inr (.inr (.inl k6))))
  by_cases k7 : o.kind = 7
  · exact .inr (.inr (.inr (.inr (.inr k7))))
  rw [if_neg k2, if_neg k3, if_neg k4, if_neg k5, if_neg k6, if_neg k7] at h
  exact h.elim

theorem may2 {o : OpV} (h : mayP o) (k : o.kind = 2) : (0 ≤ o.at' ∧ o.at' ≤ 63) ∧ o.old.size = 0 := by simpa [mayP, k] using h
theorem may3 {o : OpV} (h : mayP o) (k : o.kind = 3) : (0 ≤ o.at' ∧ o.at' ≤ 63) ∧ o.S.size = 0 := by simpa [mayP, k] using h
theorem may4 {o : OpV} (h : mayP o) (k : o.kind = 4) : (0 ≤ o.at' ∧ o.at' ≤ 63) := by simpa [mayP, k] using h
theorem may5 {o : OpV} (h : mayP o) (k : o.kind = 5) : o.at' = 0 ∧ o.S.size ≤ 32 ∧ o.old.size ≤ 32 := by simpa [mayP, k] using h
theorem may6 {o : OpV} (h : mayP o) (k : o.kind = 6) : (0 ≤ o.at' ∧ o.at' ≤ 511) ∧ o.S.size = o.old.size ∧ 0 < o.S.size := by simpa [mayP, k] using h
theorem may7 {o : OpV} (h : mayP o) (k : o.kind = 7) : o.at' = 0 ∧ (1 ≤ o.S.size ∧ o.S.size ≤ 33) ∧ (1 ≤ o.old.size ∧ o.old.size ≤ 33) := by simpa [mayP, k] using h

theorem invO2 {o : OpV} (k : o.kind = 2) : invO o = ⟨3, o.at', ⟨#[]⟩, o.S⟩ := by simp [invO, k]
theorem invO3 {o : OpV} (k : o.kind = 3) : invO o = ⟨2, o.at', o.old, ⟨#[]⟩⟩ := by simp [invO, k]
theorem invO4 {o : OpV} (k : 4 ≤ o.kind ∧ o.kind ≤ 7) : invO o = ⟨o.kind, o.at', o.old, o.S⟩ := by
  unfold invO
  rw [if_neg (by omega), if_neg (by omega), if_neg (by omega), if_pos k]

theorem chk_inv {o : OpV} (h : chkB o = true) (h1 : o.kind ≠ 1) : chkB (invO o) = true ∧ (invO o).kind ≠ 1 := by
  obtain ⟨hS, hT, hm⟩ := chk_parts h
  rcases may_kinds hm h1 with k | k | k | k | k | k
  · rw [invO2 k]
    have := may2 hm k
    exact ⟨chk_of (by rw [empty_size]; omega) hS (by simp [mayP]; exact ⟨this.1, rfl⟩), by show ¬ _ = _; simp⟩
  · rw [invO3 k]
    have := may3 hm k
    exact ⟨chk_of hT (by rw [empty_size]; omega) (by simp [mayP]; exact ⟨this.1, rfl⟩), by show ¬ _ = _; simp⟩
  · rw [invO4 (by omega)]
    have := may4 hm k
    exact ⟨chk_of hT hS (by simp [mayP, k]; exact this), by simp only; omega⟩
  · rw [invO4 (by omega)]
    have := may5 hm k
    exact ⟨chk_of hT hS (by simp [mayP, k]; exact ⟨this.1, this.2.2, this.2.1⟩), by simp only; omega⟩
  · rw [invO4 (by omega)]
    have := may6 hm k
    exact ⟨chk_of hT hS (by simp [mayP, k]; omega), by simp only; omega⟩
  · rw [invO4 (by omega)]
    have := may7 hm k
    exact ⟨chk_of hT hS (by simp [mayP, k]; exact ⟨this.1, this.2.2, this.2.1⟩), by simp only; omega⟩

theorem inv_ok {o : OpV} (h : o.Ok) : (invO o).Ok := by
  unfold invO
  split
  · exact ⟨⟨by decide, by decide⟩, ⟨by decide, by decide⟩, by decide, by decide⟩
  split
  · exact ⟨⟨by show (_ : Int) ≤ 3; decide, by show (3 : Int) ≤ _; decide⟩, h.at', by show (ByteArray.mk #[]).size ≤ _; decide, h.S⟩
  split
  · exact ⟨⟨by show (_ : Int) ≤ 2; decide, by show (2 : Int) ≤ _; decide⟩, h.at', h.old, by show (ByteArray.mk #[]).size ≤ _; decide⟩
  split
  · exact ⟨h.kind, h.at', h.old, h.S⟩
  · exact h

theorem does {p : SheetV} {o : OpV} (f : p.Fits) (ho : o.Ok) (hc : chkB o = true) (h1 : o.kind ≠ 1) : ChangeDoes p o (doE p o) (doQ p o) := by
  obtain ⟨hS, hT, hm⟩ := chk_parts hc
  rcases may_kinds hm h1 with k | k | k | k | k | k
  · have := may2 hm k
    have h := change_ins f ho k this.1.1
    simpa [doE, doQ, k] using h
  · have := may3 hm k
    have h := change_rem f ho k this.1.1
    simpa [doE, doQ, k] using h
  · have := may4 hm k
    have h := change_set f ho k this.1
    simpa [doE, doQ, k] using h
  · have h := change_head f ho k
    simpa [doE, doQ, k] using h
  · have := may6 hm k
    have h := change_put f ho k this.1.1 this.1.2
    simpa [doE, doQ, k] using h
  · have := may7 hm k
    have h := change_turn f ho k this.2.1.1
    simpa [doE, doQ, k] using h

theorem insL_erase (L : List ByteArray) (i : Nat) (s : ByteArray) (hi : i ≤ L.length) : (insL L i s).eraseIdx i = L := by
  unfold insL
  have hl : (L.take i).length = i := by simp; omega
  rw [List.eraseIdx_append_of_length_le (by omega), hl, Nat.sub_self]
  simp

theorem insL_getD (L : List ByteArray) (i : Nat) (s : ByteArray) (hi : i ≤ L.length) : (insL L i s).getD i ByteArray.empty = s := by
  unfold insL
  have hl : (L.take i).length = i := by simp; omega
  rw [List.getD_eq_getElem?_getD, List.getElem?_append_right (by omega), hl, Nat.sub_self]
  rfl

theorem erase_ins (L : List ByteArray) (i : Nat) (hi : i < L.length) : insL (L.eraseIdx i) i (L.getD i ByteArray.empty) = L := by
  rw [getD_at hi, List.eraseIdx_eq_take_drop_succ]
  unfold insL
  have hl : (L.take i).length = i := by simp; omega
  rw [List.take_append_of_le_length (by omega), List.take_take, Nat.min_self, List.drop_append_of_le_length (by omega), List.drop_of_length_le (by omega), List.nil_append]
  rw [← List.drop_eq_getElem_cons hi, List.take_append_drop]

theorem slotSum_erase (L : List ByteArray) (i : Nat) (hi : i < L.length) : slotSum (L.eraseIdx i) + (2 + (L.getD i ByteArray.empty).size) = slotSum L := by
  have h := insL_sum (L.eraseIdx i) i (L.getD i ByteArray.empty)
  rw [erase_ins L i hi] at h
  omega

theorem set_as_ins (L : List ByteArray) (i : Nat) (s : ByteArray) (hi : i < L.length) : L.set i s = insL (L.eraseIdx i) i s := by
  rw [List.eraseIdx_eq_take_drop_succ]
  unfold insL
  have hl : (L.take i).length = i := by simp; omega
  rw [List.take_append_of_le_length (by omega), List.take_take, Nat.min_self, List.drop_append_of_le_length (by omega), List.drop_of_length_le (by omega), List.nil_append]
  rw [List.set_eq_take_append_cons_drop, if_pos hi]

theorem slotSum_set (L : List ByteArray) (i : Nat) (s : ByteArray) (hi : i < L.length) : slotSum (L.set i s) + (L.getD i ByteArray.empty).size = slotSum L + s.size := by
  have h := insL_sum (L.eraseIdx i) i s
  rw [← set_as_ins L i s hi] at h
  have h2 := slotSum_erase L i hi
  omega

theorem set_getD (L : List ByteArray) (i : Nat) (s : ByteArray) (hi : i < L.length) : (L.set i s).getD i ByteArray.empty = s := by
  rw [getD_at (by simpa using hi)]; simp

theorem set_back (L : List ByteArray) (i : Nat) (s : ByteArray) (hi : i < L.length) : (L.set i s).set i (L.getD i ByteArray.empty) = L := by
  rw [List.set_set, getD_at hi, List.set_getElem_self]

theorem putS_parts {s S : ByteArray} {i : Nat} (h : i + S.size ≤ s.size) : ∃ A M Z : List UInt8, A.length = i ∧ M.length = S.size ∧ s.data.toList = A ++ (M ++ Z) ∧ s.extract i (i + S.size) = ⟨M.toArray⟩ ∧ putS s i S = ⟨(A ++ (S.data.toList ++ Z)).toArray⟩ := by
  have hs : s.data.toList.length = s.size := by simp
  refine ⟨s.data.toList.take i, (s.data.toList.drop i).take S.size, s.data.toList.drop (i + S.size), by rw [List.length_take, hs]; omega, by rw [List.length_take, List.length_drop, hs]; omega, ?_, ?_, ?_⟩
  · rw [← List.drop_drop, List.take_append_drop, List.take_append_drop]
  · apply ByteArray.ext
    simp [ByteArray.data_extract]
    apply Array.ext'
    simp [List.extract_eq_take_drop]
  · unfold putS
    apply ByteArray.ext
    apply Array.ext'
    simp [ByteArray.data_append, ByteArray.data_extract, List.extract_eq_take_drop]
    exact List.take_of_length_le (by rw [List.length_drop, hs]; exact Nat.le_refl _)

theorem bytes_of_list (s : ByteArray) : s = ⟨s.data.toList.toArray⟩ := by cases s; simp

theorem put_back {s S T : ByteArray} {i : Nat} (h : i + S.size ≤ s.size) (hl : S.size = T.size) (ht : s.extract i (i + S.size) = T) :
    (putS s i S).size = s.size ∧ (putS s i S).extract i (i + T.size) = S ∧ putS (putS s i S) i T = s := by
  obtain ⟨A, M, Z, hA, hM, hd, he, hp⟩ := putS_parts h
  have hSl : S.data.toList.length = S.size := by simp
  have hsz : (putS s i S).size = s.size := by
    rw [hp, bytes_size]
    have : s.data.toList.length = s.size := by simp
    rw [← this, hd]
    simp only [List.length_append]
    omega
  obtain ⟨A', M', Z', hA', hM', hd', he', hp'⟩ := putS_parts (s := putS s i S) (S := T) (i := i) (by omega)
  rw [hp] at hd'
  have hd2 : A ++ (S.data.toList ++ Z) = A' ++ (M' ++ Z') := by simpa using hd'
  obtain ⟨rfl, h2⟩ := List.append_inj hd2 (by omega)
  obtain ⟨h3, rfl⟩ := List.append_inj h2 (by omega)
  refine ⟨hsz, ?_, ?_⟩
  · rw [he', ← h3]
  · rw [hp', ← ht, he]
    show ByteArray.mk (A ++ (M.toArray.toList ++ Z)).toArray = s
    rw [List.toList_toArray, ← hd]

theorem turn_there (S : ByteArray) (h : 1 ≤ S.size) : kindS ((S.data.toList.getD 0 0).toNat : Int) (S.extract 1 S.size) = S := by
  obtain ⟨⟨L⟩⟩ := S
  cases L with
  | nil => exact absurd h (by simp [ByteArray.size])
  | cons x L =>
    unfold kindS
    apply ByteArray.ext
    apply Array.ext'
    have hx : x.toNat < 256 := x.toNat_lt
    have e : (((x.toNat : Int) % 256)).toNat = x.toNat := by omega
    simp [ByteArray.data_append, ByteArray.data_extract, List.extract_eq_take_drop, e, ByteArray.size]

theorem turn_back (k : Int) (h : ByteArray) (h0 : 0 ≤ k) (h1 : k ≤ 255) : (((kindS k h).data.toList.getD 0 0).toNat : Int) = k ∧ (kindS k h).extract 1 (kindS k h).size = h := by
  have e : (k % 256).toNat = k.toNat := by omega
  have e2 : (UInt8.ofNat k.toNat).toNat = k.toNat := by rw [UInt8.toNat_ofNat']; omega
  constructor
  · unfold kindS
    simp only [ByteArray.data_append, Array.toList_append, e]
    show ((UInt8.ofNat k.toNat).toNat : Int) = k
    rw [e2]; omega
  · unfold kindS
    apply ByteArray.ext
    apply Array.ext'
    simp [ByteArray.data_append, ByteArray.data_extract, List.extract_eq_take_drop, ByteArray.size_append]
    exact List.take_of_length_le (by rw [show h.data.toList.length = h.size from by simp]; show _ ≤ 1 + h.size - 1; omega)

theorem SameS.refl (p : SheetV) : SameS p p := ⟨rfl, rfl, rfl, rfl⟩

/-- A change that is done leaves a page that fits, and its inverse leads back. -/
theorem do_back {p : SheetV} {o : OpV} (f : p.Fits) (hc : chkB o = true) (h1 : o.kind ≠ 1) (he : doE p o = 0) :
    (doQ p o).Fits ∧ doE (doQ p o) (invO o) = 0 ∧ doQ (doQ p o) (invO o) = p := by
  obtain ⟨hS, hT, hm⟩ := chk_parts hc
  have f1 := f.len
  have f2 := f.fits
  rcases may_kinds hm h1 with k | k | k | k | k | k
  · have m := may2 hm k
    have hE : insE p o = 0 := by simpa [doE, k] using he
    obtain ⟨z1, z2, z3⟩ := insE_zero hE
    have hi : o.at'.toNat ≤ p.slots.length := by omega
    have hq : doQ p o = { p with slots := insL p.slots o.at'.toNat o.S } := by simp [doQ, k]
    have hl := insL_length p.slots o.at'.toNat o.S hi
    have hs := insL_sum p.slots o.at'.toNat o.S
    rw [hq, invO2 k]
    refine ⟨⟨f.num, f.lsn, f.kind0, f.kind1, f.head, by show (insL _ _ _).length ≤ 64; omega, by show p.head.size + slotSum (insL _ _ _) ≤ 485; omega⟩, ?_, ?_⟩
    · show standE _ _ = 0
      unfold standE
      simp only [hl]
      rw [if_neg (by omega), if_neg (by rw [insL_getD _ _ _ hi]; simp)]
    · show ({ p with slots := (insL p.slots o.at'.toNat o.S).eraseIdx o.at'.toNat } : SheetV) = p
      rw [insL_erase _ _ _ hi]
  · have m := may3 hm k
    have hE : standE p o = 0 := by simpa [doE, k] using he
    obtain ⟨z1, z2⟩ := standE_zero hE
    have hi : o.at'.toNat < p.slots.length := by omega
    have hq : doQ p o = { p with slots := p.slots.eraseIdx o.at'.toNat } := by simp [doQ, k]
    have hl := List.length_eraseIdx_of_lt hi
    have hs := slotSum_erase p.slots o.at'.toNat hi
    rw [z2] at hs
    rw [hq, invO3 k]
    refine ⟨⟨f.num, f.lsn, f.kind0, f.kind1, f.head, by show (p.slots.eraseIdx _).length ≤ 64; omega, by show p.head.size + slotSum (p.slots.eraseIdx _) ≤ 485; omega⟩, ?_, ?_⟩
    · show insE _ _ = 0
      unfold insE
      simp only [hl]
      rw [if_neg (by omega), if_neg (by omega), if_neg (by omega)]
    · show ({ p with slots := insL (p.slots.eraseIdx o.at'.toNat) o.at'.toNat o.old } : SheetV) = p
      rw [← z2, erase_ins _ _ hi]
  · have m := may4 hm k
    have hE : setE p o = 0 := by simpa [doE, k] using he
    unfold setE at hE
    split at hE
    · rename_i hx; exact absurd hE hx
    rename_i hx
    split at hE
    · cases hE
    rename_i hy
    obtain ⟨z1, z2⟩ := standE_zero (Decidable.not_not.1 hx)
    have hi : o.at'.toNat < p.slots.length := by omega
    have hq : doQ p o = { p with slots := p.slots.set o.at'.toNat o.S } := by simp [doQ, k]
    have hs := slotSum_set p.slots o.at'.toNat o.S hi
    rw [z2] at hs
    rw [hq, invO4 (by omega)]
    refine ⟨⟨f.num, f.lsn, f.kind0, f.kind1, f.head, by show (p.slots.set _ _).length ≤ 64; simpa using f1, by show p.head.size + slotSum (p.slots.set _ _) ≤ 485; omega⟩, ?_, ?_⟩
    · have : standE { p with slots := p.slots.set o.at'.toNat o.S } ⟨o.kind, o.at', o.old, o.S⟩ = 0 := by
        unfold standE
        simp only [List.length_set]
        rw [if_neg (by omega), if_neg (by rw [set_getD _ _ _ hi]; simp)]
      simp only [doE, k]
      rw [if_neg (by decide), if_neg (by decide), if_pos trivial]
      rw [k] at this
      unfold setE
      rw [this, if_neg (by simp), if_neg]
      simp only
      omega
    · simp only [doQ, k]
      rw [if_neg (by decide), if_neg (by decide), if_pos trivial, ← z2, set_back _ _ _ hi]
  · have m := may5 hm k
    have hE : headE p o = 0 := by simpa [doE, k] using he
    unfold headE at hE
    split at hE
    · cases hE
    rename_i hx
    split at hE
    · cases hE
    rename_i hy
    have hx' : p.head = o.old := Decidable.not_not.1 hx
    have hq : doQ p o = { p with head := o.S } := by simp [doQ, k]
    rw [hq, invO4 (by omega)]
    refine ⟨⟨f.num, f.lsn, f.kind0, f.kind1, m.2.1, f.len, by show o.S.size + slotSum p.slots ≤ 485; omega⟩, ?_, ?_⟩
    · simp only [doE, k]
      rw [if_neg (by decide), if_neg (by decide), if_neg (by decide), if_pos trivial]
      unfold headE
      rw [if_neg (by simp), if_neg]
      simp only
      rw [← hx']
      omega
    · simp only [doQ, k]
      rw [if_neg (by decide), if_neg (by decide), if_neg (by decide), if_pos trivial, ← hx']
  · have m := may6 hm k
    have hE : putE p o = 0 := by simpa [doE, k] using he
    unfold putE at hE
    split at hE
    · cases hE
    rename_i hx
    split at hE
    · cases hE
    rename_i hy
    have hx1 : 0 < p.slots.length := by omega
    have hx2 : o.at'.toNat + o.S.size ≤ (p.slots.getD 0 ByteArray.empty).size := by omega
    have hy' := Decidable.not_not.1 hy
    obtain ⟨b1, b2, b3⟩ := put_back hx2 m.2.1 hy'
    have hq : doQ p o = { p with slots := p.slots.set 0 (putS (p.slots.getD 0 ByteArray.empty) o.at'.toNat o.S) } := by simp [doQ, k]
    have hs := slotSum_set p.slots 0 (putS (p.slots.getD 0 ByteArray.empty) o.at'.toNat o.S) hx1
    rw [hq, invO4 (by omega)]
    refine ⟨⟨f.num, f.lsn, f.kind0, f.kind1, f.head, by show (p.slots.set _ _).length ≤ 64; simpa using f1, by show p.head.size + slotSum (p.slots.set _ _) ≤ 485; omega⟩, ?_, ?_⟩
    · simp only [doE, k]
      rw [if_neg (by decide), if_neg (by decide), if_neg (by decide), if_neg (by decide), if_pos trivial]
      unfold putE
      simp only
      rw [set_getD _ _ _ hx1, List.length_set, if_neg (by omega), if_neg (by rw [b2]; simp)]
    · simp only [doQ, k]
      rw [if_neg (by decide), if_neg (by decide), if_neg (by decide), if_neg (by decide), if_pos trivial]
      rw [set_getD _ _ _ hx1, b3, set_back _ _ _ hx1]
  · have m := may7 hm k
    have hE : turnE p o = 0 := by simpa [doE, k] using he
    unfold turnE at hE
    split at hE
    · cases hE
    rename_i hx
    split at hE
    · cases hE
    rename_i hy
    have hx0 : p.slots = [] := by cases hp : p.slots with
      | nil => rfl
      | cons a b => rw [hp] at hx; simp at hx
    have hy' : kindS p.kind p.head = o.old := Decidable.not_not.1 hy
    have hq : doQ p o = { p with kind := ((o.S.data.toList.getD 0 0).toNat : Int), head := o.S.extract 1 o.S.size } := by simp [doQ, k]
    have hxs : (o.S.extract 1 o.S.size).size = o.S.size - 1 := by simp [ByteArray.size_extract]
    have hx2 : (o.S.data.toList.getD 0 0).toNat < 256 := (o.S.data.toList.getD 0 0).toNat_lt
    obtain ⟨t1, t2⟩ := turn_back p.kind p.head f.kind0 f.kind1
    rw [hq, invO4 (by omega)]
    refine ⟨⟨f.num, f.lsn, by show (0 : Int) ≤ ((o.S.data.toList.getD 0 0).toNat : Int); omega, by show ((o.S.data.toList.getD 0 0).toNat : Int) ≤ 255; omega, by show (o.S.extract 1 o.S.size).size ≤ 32; omega, f.len, by show (o.S.extract 1 o.S.size).size + slotSum p.slots ≤ 485; rw [hx0]; simp only [slotSum]; omega⟩, ?_, ?_⟩
    · simp only [doE, k]
      rw [if_neg (by decide), if_neg (by decide), if_neg (by decide), if_neg (by decide), if_neg (by decide)]
      unfold turnE
      simp only
      rw [if_neg hx, if_neg (by rw [turn_there _ m.2.1.1]; simp)]
    · simp only [doQ, k]
      rw [if_neg (by decide), if_neg (by decide), if_neg (by decide), if_neg (by decide), if_neg (by decide), ← hy', t1, t2]

end Go.Proofs.Ytkknglcckjhngaa
