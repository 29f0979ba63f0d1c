/-
  The walk of page.put (for PageBack).
-/
import Derived.Test.YtnljephojonilaaPageChange3C
namespace Go.Proofs.Ytnljephojonilaa
open Go.RowKit Go.Sort
set_option linter.unusedVariables false

/-- The error of an OpPut. -/
def putE (p : SheetV) (o : OpV) : Int := if p.slots.length = 0 ∨ (p.slots.getD 0 ByteArray.empty).size < o.at'.toNat + o.S.size then 1 else if (p.slots.getD 0 ByteArray.empty).extract o.at'.toNat (o.at'.toNat + o.S.size) ≠ o.old then 31 else 0

/-- The slot that an OpPut leaves. -/
def putS (s : ByteArray) (i : Nat) (S : ByteArray) : ByteArray := s.extract 0 i ++ S ++ s.extract (i + S.size) s.size

section
variable {B : Nat} {w : World} {b bs : Nat} {p : SheetV} {o : OpV}

set_option maxHeartbeats 1600000 in
set_option maxRecDepth 60000 in
theorem putOp_any (h : SheetAt B w b bs p) (f : p.Fits) (ho : o.Ok) (ha : 0 ≤ o.at') (hi5 : o.at' ≤ 511) :
    Calls Try.prog 62 #[.pointer (some ⟨b, 0, none⟩), o.val] w fun e w' => e = .returned (.int .i64 (putE p o)) ∧ Below B w w' ∧
      (putE p o = 0 → SheetAt B w' b bs { p with slots := p.slots.set 0 (putS (p.slots.getD 0 ByteArray.empty) o.at'.toNat o.S) }) := by
  have hb1 := h.b1
  have hlt := h.lt
  have hoS := ho.S
  have hoT := ho.old
  have hf := f.fits
  have hn64 := f.len
  clear ho
  obtain ⟨K, A, S, T⟩ := o
  simp only at hoS hoT ha hi5 ⊢
  obtain ⟨i, rfl⟩ := Int.eq_ofNat_of_zero_le ha
  simp only [Int.toNat_natCast]
  unfold OpV.val
  simp only
  obtain ⟨W, HW⟩ : ∃ W, Hid (W = w.alloc (.cells #[.int .i64 K, .int .i64 i, .string S, .string T] 35)) := ⟨_, rfl⟩
  have bW : Below w.heap.size w W := by rw [HW.out]; exact (Below.refl _ _).alloc (Nat.le_refl _) _
  have zW : w.heap.size < W.heap.size := by rw [HW.out]; simp
  have h1 := h.below bW
  have r1 : RowV W w.heap.size 4 (four (.int .i64 K) (.int .i64 i) (.string S) (.string T)) := by rw [HW.out]; exact RowV.four_new w _ _ _ _ _
  obtain ⟨x0, x1, x2, x3, x4⟩ := h1.row.cells5
  obtain ⟨y0, y1, y2, y3⟩ := r1.cells4
  have bB : Below B w W := bW.mono (by omega)
  have HPE : Hid (putE p ⟨K, i, S, T⟩ = if p.slots.length = 0 ∨ (p.slots.getD 0 ByteArray.empty).size < i + S.size then 1 else if (p.slots.getD 0 ByteArray.empty).extract i (i + S.size) ≠ T then 31 else 0) := rfl
  generalize putE p ⟨K, i, S, T⟩ = EE at *
  obtain ⟨e, he⟩ : ∃ e, Hid (i + S.size = e) := ⟨_, rfl⟩
  have hie : i ≤ e := by rw [← he.out]; omega
  have hwr : IntKind.i64.wrap ((i : Int) + (S.size : Int)) = (e : Int) := by rw [← he.out, Int.natCast_add]; exact wrap_small (by omega) (by omega)
  rw [he.out] at HPE
  have x4' := x4
  have y1' := y1
  have y2' := y2
  rw [HW.out] at x4' y1' y2'
  by_cases c0 : p.slots.length = 0
  · have hE : EE = 1 := by rw [HPE.out, if_pos (.inl c0)]
    subst hE
    clear HPE
    rw [c0] at x4' x4
    go_enter Try.func62, Try.ntmps62
    go_wp2
    rw [← HW.out]
    go_ret
    exact ⟨rfl, bB, fun h => by cases h⟩
  · have hz := (h1.str 0 (by omega))
    have hz1 := hz.1
    have hz2 := hz.2
    simp only at hz1
    clear hz
    have hs5 : (p.slots.getD 0 ByteArray.empty).size ≤ 140737488351232 := by
      have hm := slotSum_at p.slots 0 (by omega)
      rw [List.getD_eq_getElem?_getD, List.getElem?_eq_getElem (by omega), Option.getD_some]
      omega
    generalize p.slots.getD 0 ByteArray.empty = s at *
    have hz1' := hz1
    rw [HW.out] at hz1'
    have hl0 : ((p.slots.length : Int) == 0) = false := by rw [beq_eq_false_iff_ne]; omega
    have hl1 : (0 : Int) < (p.slots.length : Int) := by omega
    have hl2 : 0 < p.slots.length := by omega
    by_cases c1 : s.size < e
    · have hE : EE = 1 := by rw [HPE.out, if_pos (.inr c1)]
      subst hE
      clear HPE
      have hc1 : decide ((s.size : Int) < (e : Int)) = true := by simp; omega
      go_enter Try.func62, Try.ntmps62
      go_wp2
      rw [← HW.out]
      go_ret
      exact ⟨rfl, bB, fun h => by cases h⟩
    · have hc1 : decide ((s.size : Int) < (e : Int)) = false := by simp; omega
      have hb3 : (0 : Int) ≤ (i : Int) := by omega
      have hb4 : (i : Int) ≤ (e : Int) := by omega
      have hb5 : (e : Int) ≤ (s.size : Int) := by omega
      have hb6 : (i : Int) ≤ (s.size : Int) := by omega
      by_cases c2 : s.extract i e = T
      · have hE : EE = 0 := by rw [HPE.out, if_neg (by omega), if_neg (by simpa using c2)]
        subst hE
        clear HPE
        have c2' := str_eq c2
        go_enter Try.func62, Try.ntmps62
        go_wp2_with fail
        rw [← HW.out]
        clear HW x4' y1' y2' hz1'
        go_quiet (fail)
        have h3 : SheetAt B (W.drewN nq) b bs p := h1.below (below_drewN (Below.refl W.heap.size W) nq)
        have r3 : RowV (W.drewN nq) w.heap.size 4 (four (.int .i64 K) (.int .i64 i) (.string S) (.string T)) := r1.below (below_drewN (Below.refl W.heap.size W) nq) zW
        have bB3 := below_drewN bB nq
        have hz3 : (W.drewN nq).cell? ⟨bs, 0, none⟩ = some (.string s) := hz1
        have hf3 : (W.drewN nq).frozen? ⟨bs, 0, none⟩ = false := hz2
        obtain ⟨W3, HW3⟩ : ∃ W3, Hid (W3 = W.drewN nq) := ⟨_, rfl⟩
        rw [← HW3.out] at h3 r3 bB3 hz3 hf3 ⊢
        clear HW3 r1 h1 bB bW x0 x1 x2 x3 x4 y0 y1 y2 y3 hz1 hz2
        obtain ⟨x0, x1, x2, x3, x4⟩ := h3.row.cells5
        obtain ⟨y0, y1, y2, y3⟩ := r3.cells4
        have hn1 := h3.ne
        have hbo : bs ≠ w.heap.size := by have := h.bslt; omega
        have hss : s.size ≤ 140737488351232 := hs5
        obtain ⟨sa, hsa⟩ : ∃ sa, s.extract 0 i = sa := ⟨_, rfl⟩
        obtain ⟨sb, hsb⟩ : ∃ sb, s.extract e s.size = sb := ⟨_, rfl⟩
        obtain ⟨sc, hsc⟩ : ∃ sc, sa ++ S = sc := ⟨_, rfl⟩
        have la : sa.size ≤ s.size := by rw [← hsa, ByteArray.size_extract]; omega
        have lb : sb.size ≤ s.size := by rw [← hsb, ByteArray.size_extract]; omega
        have lc : sc.size = sa.size + S.size := by rw [← hsc, ByteArray.size_append]
        have hA : ¬ ((9223372036854775807 : Int) < (sa.size : Int) + (S.size : Int)) := by omega
        have hB : ¬ ((9223372036854775807 : Int) < (sc.size : Int) + (sb.size : Int)) := by omega
        have hA2 : (sa.size : Int) + (S.size : Int) ≤ 9223372036854775807 := by omega
        have hB2 : (sc.size : Int) + (sb.size : Int) ≤ 9223372036854775807 := by omega
        have hA3 : ∀ (P : Program) (wx : World), (Op.stringOp .add sa S).run P wx = .ok (.string sc) wx := fun P wx => by rw [run_string_add_sum wx sa S (by omega), hsc]
        have hB3 : ∀ (P : Program) (wx : World), (Op.stringOp .add sc sb).run P wx = .ok (.string (sc ++ sb)) wx := fun P wx => run_string_add_sum wx sc sb (by omega)
        have HR : Hid (putS s i S = sc ++ sb) := by show _ = _; unfold putS; rw [he.out, hsa, hsb, hsc]
        clear la lb lc
        go_wp2_with fail
        go_region_held3 (fun w' => w'.cell? ⟨b, 4, none⟩ = some (.slice (some ⟨bs, 0, none⟩) p.slots.length p.slots.length) ∧ w'.cell? ⟨w.heap.size, 1, none⟩ = some (.int .i64 i) ∧ w'.cell? ⟨w.heap.size, 2, none⟩ = some (.string S)) (first | go_keep | (refine ⟨?_, ?_, ?_⟩ <;> (rw [World.cell?_setCell_other _ _ _ _ (by intro q; have := congrArg Addr.block q; simp only at this; omega)]; assumption))) (fail)
        go_wp2
        go_ret
        refine ⟨rfl, (bB3.setCell (p := ⟨bs, 0, none⟩) h3.bs1 _).drew, fun _ => ?_⟩
        have hrow := (h3.row.set_other (b' := bs) (k := 0) h3.ne (.string (sc ++ sb)))
        have hstr := h3.str.setAt (i := 0) (by omega) (sc ++ sb)
        rw [HR.out]
        refine SheetAt.below ⟨?_, hstr, h3.b1, by simpa using h3.lt, h3.bs1, by simpa using h3.bslt, h3.ne⟩ ((Below.refl _ _).drew)
        simp only [List.length_set]
        exact hrow
      · have hE : EE = 31 := by rw [HPE.out, if_neg (by omega), if_pos c2]
        subst hE
        clear HPE
        have c2' := str_ne c2
        go_enter Try.func62, Try.ntmps62
        go_wp2_with fail
        rw [← HW.out]
        clear HW x4' y1' y2' hz1'
        go_quiet (fail)
        go_wp2
        go_ret
        exact ⟨rfl, below_drewN bB nq, fun h => by cases h⟩

end
end Go.Proofs.Ytnljephojonilaa
