/-
  The walk of KeyTexts (printed by wip/gentexts.py).
-/
import Derived.Test.YtgammhmgdafpkaaDoorKeyText
import Derived.Test.YtgammhmgdafpkaaDoorKeyRef
import Derived.Test.YtgammhmgdafpkaaDoorKeySame
import Derived.Deep.CutRange
import Derived.Deep.CutBlock
import Derived.BigRegion
namespace Go.Proofs.YtgammhmgdafpkaaDoor
open Go.RowKit Go.Sort
set_option linter.unusedVariables false
set_option linter.unusedSimpArgs false

theorem cells3 {w : World} {b : Nat} {x y z : Value} {t : TypeId} (h : w.heap[b]? = some (.cells #[x, y, z] t (0, 0))) :
    w.cell? ⟨b, 0, none⟩ = some x ∧ w.cell? ⟨b, 1, none⟩ = some y ∧ w.cell? ⟨b, 2, none⟩ = some z := by
  refine ⟨?_, ?_, ?_⟩ <;> (unfold World.cell?; simp [h])

theorem vals_one {w : World} {b : Nat} {v : ValV} {t : TypeId} (h : w.heap[b]? = some (.cells #[.int .i64 v.kind, .int .i64 v.n, .string v.S] t (0, 0))) : ValsAt w (some ⟨b, 0, none⟩) [v] := by
  obtain ⟨c0, c1, c2⟩ := cells3 h
  have hb : b < w.heap.size := World.block_lt_of_cell? _ _ c0
  refine .inr ⟨b, 0, rfl, hb, fun i hi => ?_⟩
  obtain rfl : i = 0 := by simp at hi; omega
  exact ⟨c0, c1, c2⟩

theorem ref_one (v : ValV) (w : World) (b : Nat) (t : TypeId) (h : w.heap[b]? = some (.cells #[.int .i64 v.kind, .int .i64 v.n, .string v.S] t (0, 0))) :
    Calls Tryd.prog 8 #[.slice (some ⟨b, 0, none⟩) 1 1] w fun e w' =>
      (∃ b' o' c', e = .returned (.slice (some ⟨b', o', none⟩) 1 c') ∧ Hid (VlAt w' b' o' v)) ∧ Below w.heap.size w w' := by
  refine (ref_any (some ⟨b, 0, none⟩) 1 [v] w (vals_one h) (by simp)).mono ?_
  rintro e w' ⟨a', c', rfl, HV, bel⟩
  rcases HV.out with h | ⟨b', o', rfl, _, g⟩
  · cases h
  · exact ⟨⟨b', o', c', rfl, by have := g 0 (by simp); rw [Nat.zero_mul, Nat.add_zero] at this; exact this⟩, bel⟩

theorem same_one (v : ValV) (w : World) (b1 b2 : Nat) (t1 t2 : TypeId) (h1 : w.heap[b1]? = some (.cells #[.int .i64 v.kind, .int .i64 v.n, .string v.S] t1 (0, 0))) (h2 : w.heap[b2]? = some (.cells #[.int .i64 v.kind, .int .i64 v.n, .string v.S] t2 (0, 0))) :
    Calls Tryd.prog 16 #[.slice (some ⟨b1, 0, none⟩) 1 1, .slice (some ⟨b2, 0, none⟩) 1 1] w fun e w' => e = .returned (.bool true) ∧ Below w.heap.size w w' :=
  same_yes (some ⟨b1, 0, none⟩) (some ⟨b2, 0, none⟩) 1 1 [v] w (vals_one h1) (vals_one h2) (by simp)

set_option maxHeartbeats 6400000 in
set_option maxRecDepth 20000 in
theorem texts_walk (v : ValV) (s : ByteArray) (w : World) (hin : v.In) (hS : v.S.size ≤ 140737488351232) (hs : s.size ≤ 140737488351232) (hw : NumW w) :
    Calls Tryd.prog 4 #[.agg #[.int .i64 v.kind, .int .i64 v.n, .string v.S], .string s] w fun e w' => e = .returned (.bool true) ∧ Below w.heap.size w w' := by
  have hn : In64 v.n := ⟨hin.n0, hin.n1⟩
  have HPar : Hid (∀ w1, Below w.heap.size w w1 → Calls Tryd.prog 12 #[.string s] w1 fun e w' => e = .returned (.tuple #[.agg #[.int .i64 (parseV s).1.kind, .int .i64 (parseV s).1.n, .string (parseV s).1.S], .int .i64 (parseV s).2]) ∧ Below w1.heap.size w1 w') := fun w1 b => parse_any s w1 (by omega) (hw.below b)
  have HRP : Hid (∀ w1, Calls Tryd.prog 13 #[.string s] w1 fun e w' => e = .returned (.tuple #[.agg #[.int .i64 (parseV s).1.kind, .int .i64 (parseV s).1.n, .string (parseV s).1.S], .int .i64 (parseV s).2]) ∧ Below w1.heap.size w1 w') := fun w1 => rparse_any s w1 (by omega)
  have HTx : Hid (∀ w1, Below w.heap.size w w1 → Calls Tryd.prog 14 #[.agg #[.int .i64 v.kind, .int .i64 v.n, .string v.S]] w1 fun e w' => e = .returned (.string (textV v)) ∧ Below w1.heap.size w1 w') := fun w1 b => text_any v w1 hn (by omega) (hw.below b)
  have HRT : Hid (∀ w1, Calls Tryd.prog 17 #[.agg #[.int .i64 v.kind, .int .i64 v.n, .string v.S]] w1 fun e w' => e = .returned (.string (textV v)) ∧ Below w1.heap.size w1 w') := fun w1 => rtext_any v w1 hn (by omega)
  have HMay : Hid (∀ w1, Calls Tryd.prog 15 #[.agg #[.int .i64 v.kind, .int .i64 v.n, .string v.S]] w1 fun e w' => e = .returned (.bool v.may) ∧ Below w1.heap.size w1 w') := fun w1 => rmay_any v w1 (by omega)
  have HChk : Hid (∀ w1, Calls Tryd.prog 18 #[.agg #[.int .i64 v.kind, .int .i64 v.n, .string v.S]] w1 fun e w' => e = .returned (.int .i64 v.chk) ∧ Below w1.heap.size w1 w') := fun w1 => check_any v w1 (by omega)
  have HRef : Hid (∀ (w1 : World) (b : Nat) (t : TypeId), w1.heap[b]? = some (.cells #[.int .i64 v.kind, .int .i64 v.n, .string v.S] t (0, 0)) → Calls Tryd.prog 8 #[.slice (some ⟨b, 0, none⟩) 1 1] w1 fun e w' => (∃ b' o' c', e = .returned (.slice (some ⟨b', o', none⟩) 1 c') ∧ Hid (VlAt w' b' o' v)) ∧ Below w1.heap.size w1 w') := fun w1 b t h => ref_one v w1 b t h
  have HSame : Hid (∀ (w1 : World) (b1 b2 : Nat) (t1 t2 : TypeId), w1.heap[b1]? = some (.cells #[.int .i64 (parseV s).1.kind, .int .i64 (parseV s).1.n, .string (parseV s).1.S] t1 (0, 0)) → w1.heap[b2]? = some (.cells #[.int .i64 (parseV s).1.kind, .int .i64 (parseV s).1.n, .string (parseV s).1.S] t2 (0, 0)) →
    Calls Tryd.prog 16 #[.slice (some ⟨b1, 0, none⟩) 1 1, .slice (some ⟨b2, 0, none⟩) 1 1] w1 fun e w' => e = .returned (.bool true) ∧ Below w1.heap.size w1 w') := fun w1 b1 b2 t1 t2 h1 h2 => same_one (parseV s).1 w1 b1 b2 t1 t2 h1 h2
  have HBack : Hid (v.may = true → ∀ w1, Below w.heap.size w w1 → Calls Tryd.prog 12 #[.string (textV v)] w1 fun e w' => e = .returned (.tuple #[.agg #[.int .i64 v.kind, .int .i64 v.n, .string v.S], .int .i64 0]) ∧ Below w1.heap.size w1 w') := fun hm w1 b => by
    have hts : (textV v).size ≤ 281474976710655 := by
      unfold textV
      split
      · rw [bytes_size]; have := itoa_le20 v.n hn; omega
      · split
        · rw [ByteArray.size_append]
          have : (⟨#[39]⟩ : ByteArray).size = 1 := rfl
          omega
        · exact Nat.le_of_lt (show (1 : Nat) < 281474976710655 by omega)
    have := parse_any (textV v) w1 hts (hw.below b)
    rw [parse_text v hm hn] at this
    exact this
  have hmc : (v.may = true ∧ v.chk = 0) ∨ (v.may = false ∧ v.chk = 110) := by
    cases hm : v.may
    · exact Or.inr ⟨rfl, chk_no hm⟩
    · exact Or.inl ⟨rfl, chk_ok hm⟩
  clear hin hS hs hn hw
  generalize textV v = T at *
  generalize v.may = R at *
  generalize v.chk = C at *
  obtain ⟨k, n, S⟩ := v
  obtain ⟨⟨⟨pk, pn, pS⟩, E⟩, Hpv⟩ : ∃ X, Hid (parseV s = X) := ⟨_, rfl⟩
  rw [Hpv.out] at HPar HRP HSame
  clear Hpv
  simp only at *
  have eE : (E != E) = false := by simp
  have eT : (T.toList == T.toList) = true := by simp
  have eS : (S.toList == S.toList) = true := by simp
  have ek : (k == k) = true := by simp
  have en : (n == n) = true := by simp
  obtain ⟨W0, HW0⟩ : ∃ W0, Hid (W0 = w.alloc (.cells #[.int .i64 k, .int .i64 n, .string S] 35)) := ⟨_, rfl⟩
  have B0 : Hid (Below w.heap.size w W0) := by rw [HW0.out]; exact (Below.refl _ _).alloc (Nat.le_refl _) _
  have hl0 : w.heap.size < W0.heap.size := by rw [HW0.out]; simp
  have HV0 : Hid (W0.heap[w.heap.size]? = some (.cells #[.int .i64 k, .int .i64 n, .string S] 35 (0, 0))) := by show _ = _; rw [HW0.out]; exact heap_alloc_new _ _
  go_enter Tryd.func4, Tryd.ntmps4
  go_wp2_with fail
  rw [← HW0.out]
  clear HW0
  refine (HPar.out W0 B0.out).mono ?_
  rintro e w1 ⟨rfl, b1⟩
  have B1 := hidk (below_chain B0.out b1)
  have HV1 := hidk ((b1.block _ hl0).trans HV0.out)
  have hl1 := Nat.lt_of_lt_of_le hl0 b1.size
  clear HV0 B0 b1 hl0
  obtain ⟨W1, HW1⟩ : ∃ W1, Hid (W1 = w1.alloc (.cells #[.int .i64 pk, .int .i64 pn, .string pS] 35)) := ⟨_, rfl⟩
  have b1 : Below w1.heap.size w1 W1 := by rw [HW1.out]; exact (Below.refl _ _).alloc (Nat.le_refl _) _
  have hx : w1.heap.size < W1.heap.size := by rw [HW1.out]; simp
  have HX1 : Hid (W1.heap[w1.heap.size]? = some (.cells #[.int .i64 pk, .int .i64 pn, .string pS] 35 (0, 0))) := by show _ = _; rw [HW1.out]; exact heap_alloc_new _ _
  have BB1 := hidk (below_chain B1.out b1)
  have HVb := hidk ((b1.block _ hl1).trans HV1.out)
  have hlb := Nat.lt_of_lt_of_le hl1 b1.size
  clear HV1 B1 b1
  go_wp2_with fail
  rw [← HW1.out]
  clear HW1
  refine (HRP.out W1).mono ?_
  rintro e w2 ⟨rfl, b2⟩
  have B2 := hidk (below_chain BB1.out b2)
  have HV2 := hidk ((b2.block _ hlb).trans HVb.out)
  have HX2 := hidk ((b2.block _ hx).trans HX1.out)
  have hl2 := Nat.lt_of_lt_of_le hlb b2.size
  have hx2 := Nat.lt_of_lt_of_le hx b2.size
  clear HVb HX1 BB1 b2 hlb hx
  obtain ⟨W2, HW2⟩ : ∃ W2, Hid (W2 = w2.alloc (.cells #[.int .i64 pk, .int .i64 pn, .string pS] 38)) := ⟨_, rfl⟩
  have b2 : Below w2.heap.size w2 W2 := by rw [HW2.out]; exact (Below.refl _ _).alloc (Nat.le_refl _) _
  have hy : w2.heap.size < W2.heap.size := by rw [HW2.out]; simp
  have HY : Hid (W2.heap[w2.heap.size]? = some (.cells #[.int .i64 pk, .int .i64 pn, .string pS] 38 (0, 0))) := by show _ = _; rw [HW2.out]; exact heap_alloc_new _ _
  have B3 := hidk (below_chain B2.out b2)
  have HV3 := hidk ((b2.block _ hl2).trans HV2.out)
  have HX3 := hidk ((b2.block _ hx2).trans HX2.out)
  have hl3 := Nat.lt_of_lt_of_le hl2 b2.size
  have hx3 := Nat.lt_of_lt_of_le hx2 b2.size
  obtain ⟨c0, c1, c2⟩ := cells3 HV3.out
  clear HV2 HX2 B2 b2
  go_upto_region 3 with fail
  rw [← HW2.out]
  clear HW2
  go_wp2_with fail
  refine (HTx.out W2 B3.out).mono ?_
  rintro e w3 ⟨rfl, b3⟩
  have hy3 := hy
  have HY3 := HY
  clear hy HY c0 c1 c2
  have B4 := hidk (below_chain B3.out b3)
  have HV4 := hidk ((b3.block _ hl3).trans HV3.out)
  have hl4 := Nat.lt_of_lt_of_le hl3 b3.size
  have HX4 := hidk ((b3.block _ hx3).trans HX3.out)
  have hx4 := Nat.lt_of_lt_of_le hx3 b3.size
  have HY4 := hidk ((b3.block _ hy3).trans HY3.out)
  have hy4 := Nat.lt_of_lt_of_le hy3 b3.size
  clear HV3 HX3 HY3 B3
  obtain ⟨c0, c1, c2⟩ := cells3 HV4.out
  clear b3
  obtain ⟨W4, HW4⟩ : ∃ W, Hid (W = w3.alloc (.cells #[.int .i64 k, .int .i64 n, .string S] 35)) := ⟨_, rfl⟩
  have d4 : Below w3.heap.size w3 W4 := by rw [HW4.out]; exact (Below.refl _ _).alloc (Nat.le_refl _) _
  have HNW4 : Hid (W4.heap[w3.heap.size]? = some (.cells #[.int .i64 k, .int .i64 n, .string S] 35 (0, 0))) := by show _ = _; rw [HW4.out]; exact heap_alloc_new _ _
  have hnW4 : w3.heap.size < W4.heap.size := by rw [HW4.out]; simp
  go_wp2_with fail
  rw [← HW4.out]
  clear HW4 c0 c1 c2
  have B4a := hidk (below_chain B4.out d4)
  have HV4a := hidk ((d4.block _ hl4).trans HV4.out)
  have hl4a := Nat.lt_of_lt_of_le hl4 d4.size
  have HX4a := hidk ((d4.block _ hx4).trans HX4.out)
  have hx4a := Nat.lt_of_lt_of_le hx4 d4.size
  have HY4a := hidk ((d4.block _ hy4).trans HY4.out)
  have hy4a := Nat.lt_of_lt_of_le hy4 d4.size
  clear HV4 HX4 HY4 B4
  refine (HRef.out W4 _ _ HNW4.out).mono ?_
  rintro e w5 ⟨⟨rb, ro, rc, rfl, HR5⟩, b5⟩
  have B5 := hidk (below_chain B4a.out b5)
  have HV5 := hidk ((b5.block _ hl4a).trans HV4a.out)
  have hl5 := Nat.lt_of_lt_of_le hl4a b5.size
  have HX5 := hidk ((b5.block _ hx4a).trans HX4a.out)
  have hx5 := Nat.lt_of_lt_of_le hx4a b5.size
  have HY5 := hidk ((b5.block _ hy4a).trans HY4a.out)
  have hy5 := Nat.lt_of_lt_of_le hy4a b5.size
  clear HV4a HX4a HY4a B4a
  obtain ⟨q0, q1, q2⟩ := HR5.out
  simp only at q0 q1 q2
  clear b5 d4 HNW4 hnW4 HR5
  go_wp2_with fail
  refine (HMay.out w5).mono ?_
  rintro e w6 ⟨rfl, b6⟩
  have B6 := hidk (below_chain B5.out b6)
  have HV6 := hidk ((b6.block _ hl5).trans HV5.out)
  have hl6 := Nat.lt_of_lt_of_le hl5 b6.size
  have HX6 := hidk ((b6.block _ hx5).trans HX5.out)
  have hx6 := Nat.lt_of_lt_of_le hx5 b6.size
  have HY6 := hidk ((b6.block _ hy5).trans HY5.out)
  have hy6 := Nat.lt_of_lt_of_le hy5 b6.size
  clear HV5 HX5 HY5 B5
  clear q0 q1 q2 b6
  rcases hmc with ⟨rfl, rfl⟩ | ⟨rfl, rfl⟩
  · go_wp2_with fail
    refine (kawake_any _).mono ?_
    rintro e w7 ⟨rfl, b7⟩
    have B7 := hidk (below_chain B6.out b7)
    have HV7 := hidk ((b7.block _ hl6).trans HV6.out)
    have hl7 := Nat.lt_of_lt_of_le hl6 b7.size
    have HX7 := hidk ((b7.block _ hx6).trans HX6.out)
    have hx7 := Nat.lt_of_lt_of_le hx6 b7.size
    have HY7 := hidk ((b7.block _ hy6).trans HY6.out)
    have hy7 := Nat.lt_of_lt_of_le hy6 b7.size
    clear HV6 HX6 HY6 B6
    clear b7
    obtain ⟨x0, x1, x2⟩ := cells3 HX7.out
    obtain ⟨W8, HW8⟩ : ∃ W, Hid (W = w7.alloc (.cells #[.int .i64 pk, .int .i64 pn, .string pS] 35)) := ⟨_, rfl⟩
    have d8 : Below w7.heap.size w7 W8 := by rw [HW8.out]; exact (Below.refl _ _).alloc (Nat.le_refl _) _
    have HNW8 : Hid (W8.heap[w7.heap.size]? = some (.cells #[.int .i64 pk, .int .i64 pn, .string pS] 35 (0, 0))) := by show _ = _; rw [HW8.out]; exact heap_alloc_new _ _
    have hnW8 : w7.heap.size < W8.heap.size := by rw [HW8.out]; simp
    have B8 := hidk (below_chain B7.out d8)
    have HV8 := hidk ((d8.block _ hl7).trans HV7.out)
    have hl8 := Nat.lt_of_lt_of_le hl7 d8.size
    have HX8 := hidk ((d8.block _ hx7).trans HX7.out)
    have hx8 := Nat.lt_of_lt_of_le hx7 d8.size
    have HY8 := hidk ((d8.block _ hy7).trans HY7.out)
    have hy8 := Nat.lt_of_lt_of_le hy7 d8.size
    clear HV7 HX7 HY7 B7
    have y := cells3 HY8.out
    rw [HW8.out] at y
    obtain ⟨y0, y1, y2⟩ := y
    obtain ⟨W9, HW9⟩ : ∃ W, Hid (W = W8.alloc (.cells #[.int .i64 pk, .int .i64 pn, .string pS] 38)) := ⟨_, rfl⟩
    have d9 : Below W8.heap.size W8 W9 := by rw [HW9.out]; exact (Below.refl _ _).alloc (Nat.le_refl _) _
    have HNW9 : Hid (W9.heap[W8.heap.size]? = some (.cells #[.int .i64 pk, .int .i64 pn, .string pS] 38 (0, 0))) := by show _ = _; rw [HW9.out]; exact heap_alloc_new _ _
    have hnW9 : W8.heap.size < W9.heap.size := by rw [HW9.out]; simp
    have hsz : W8.heap.size = w7.heap.size + 1 := by rw [HW8.out]; simp
    have B9 := hidk (below_chain B8.out d9)
    have HV9 := hidk ((d9.block _ hl8).trans HV8.out)
    have hl9 := Nat.lt_of_lt_of_le hl8 d9.size
    have HX9 := hidk ((d9.block _ hx8).trans HX8.out)
    have hx9 := Nat.lt_of_lt_of_le hx8 d9.size
    have HY9 := hidk ((d9.block _ hy8).trans HY8.out)
    have hy9 := Nat.lt_of_lt_of_le hy8 d9.size
    clear HV8 HX8 HY8 B8
    have HN8 := hidk ((d9.block _ hnW8).trans HNW8.out)
    rw [hsz] at HNW9
    go_wp2_with fail
    rw [← HW8.out, ← HW9.out]
    clear HW8 HW9 x0 x1 x2 y0 y1 y2
    refine (HSame.out W9 _ _ _ _ HN8.out HNW9.out).mono ?_
    rintro e wa ⟨rfl, ba⟩
    have Ba := hidk (below_chain B9.out ba)
    have HVa := hidk ((ba.block _ hl9).trans HV9.out)
    have hla := Nat.lt_of_lt_of_le hl9 ba.size
    have HXa := hidk ((ba.block _ hx9).trans HX9.out)
    have hxa := Nat.lt_of_lt_of_le hx9 ba.size
    have HYa := hidk ((ba.block _ hy9).trans HY9.out)
    have hya := Nat.lt_of_lt_of_le hy9 ba.size
    clear HV9 HX9 HY9 B9
    clear HN8 HNW9 HNW8 hnW8 hnW9 d8 d9 ba hsz
    obtain ⟨c0, c1, c2⟩ := cells3 HVa.out
    obtain ⟨Wb, HWb⟩ : ∃ W, Hid (W = wa.alloc (.cells #[.int .i64 k, .int .i64 n, .string S] 35)) := ⟨_, rfl⟩
    have db : Below wa.heap.size wa Wb := by rw [HWb.out]; exact (Below.refl _ _).alloc (Nat.le_refl _) _
    have HNWb : Hid (Wb.heap[wa.heap.size]? = some (.cells #[.int .i64 k, .int .i64 n, .string S] 35 (0, 0))) := by show _ = _; rw [HWb.out]; exact heap_alloc_new _ _
    have hnWb : wa.heap.size < Wb.heap.size := by rw [HWb.out]; simp
    go_wp2_with fail
    rw [← HWb.out]
    clear HWb c0 c1 c2
    have Bb := hidk (below_chain Ba.out db)
    have HVb := hidk ((db.block _ hla).trans HVa.out)
    have hlb := Nat.lt_of_lt_of_le hla db.size
    have HXb := hidk ((db.block _ hxa).trans HXa.out)
    have hxb := Nat.lt_of_lt_of_le hxa db.size
    have HYb := hidk ((db.block _ hya).trans HYa.out)
    have hyb := Nat.lt_of_lt_of_le hya db.size
    clear HVa HXa HYa Ba
    refine (HRef.out Wb _ _ HNWb.out).mono ?_
    rintro e wc' ⟨⟨sb, so, sc, rfl, HRc⟩, bc⟩
    have Bc := hidk (below_chain Bb.out bc)
    have HVc := hidk ((bc.block _ hlb).trans HVb.out)
    have hlc := Nat.lt_of_lt_of_le hlb bc.size
    have HXc := hidk ((bc.block _ hxb).trans HXb.out)
    have hxc := Nat.lt_of_lt_of_le hxb bc.size
    have HYc := hidk ((bc.block _ hyb).trans HYb.out)
    have hyc := Nat.lt_of_lt_of_le hyb bc.size
    clear HVb HXb HYb Bb
    obtain ⟨q0, q1, q2⟩ := HRc.out
    simp only at q0 q1 q2
    clear bc db HNWb hnWb HRc
    go_wp2_with fail
    refine (HRT.out wc').mono ?_
    rintro e wd ⟨rfl, bd⟩
    have Bd := hidk (below_chain Bc.out bd)
    have HVd := hidk ((bd.block _ hlc).trans HVc.out)
    have hld := Nat.lt_of_lt_of_le hlc bd.size
    have HXd := hidk ((bd.block _ hxc).trans HXc.out)
    have hxd := Nat.lt_of_lt_of_le hxc bd.size
    have HYd := hidk ((bd.block _ hyc).trans HYc.out)
    have hyd := Nat.lt_of_lt_of_le hyc bd.size
    clear HVc HXc HYc Bc
    clear q0 q1 q2 bd
    obtain ⟨c0, c1, c2⟩ := cells3 HVd.out
    go_wp2_with fail
    refine (HChk.out wd).mono ?_
    rintro e we ⟨rfl, be⟩
    have Be := hidk (below_chain Bd.out be)
    have HVe := hidk ((be.block _ hld).trans HVd.out)
    have hle := Nat.lt_of_lt_of_le hld be.size
    have HXe := hidk ((be.block _ hxd).trans HXd.out)
    have hxe := Nat.lt_of_lt_of_le hxd be.size
    have HYe := hidk ((be.block _ hyd).trans HYd.out)
    have hye := Nat.lt_of_lt_of_le hyd be.size
    clear HVd HXd HYd Bd
    clear c0 c1 c2 be
    go_wp2_with fail
    refine (HBack.out (by trivial) we Be.out).mono ?_
    rintro e wf ⟨rfl, bf⟩
    have Bf := hidk (below_chain Be.out bf)
    have HVf := hidk ((bf.block _ hle).trans HVe.out)
    have hlf := Nat.lt_of_lt_of_le hle bf.size
    have HXf := hidk ((bf.block _ hxe).trans HXe.out)
    have hxf := Nat.lt_of_lt_of_le hxe bf.size
    have HYf := hidk ((bf.block _ hye).trans HYe.out)
    have hyf := Nat.lt_of_lt_of_le hye bf.size
    clear HVe HXe HYe Be
    clear bf
    obtain ⟨Wg, HWg⟩ : ∃ W, Hid (W = wf.alloc (.cells #[.int .i64 k, .int .i64 n, .string S] 35)) := ⟨_, rfl⟩
    have dg : Below wf.heap.size wf Wg := by rw [HWg.out]; exact (Below.refl _ _).alloc (Nat.le_refl _) _
    have HNWg : Hid (Wg.heap[wf.heap.size]? = some (.cells #[.int .i64 k, .int .i64 n, .string S] 35 (0, 0))) := by show _ = _; rw [HWg.out]; exact heap_alloc_new _ _
    have hnWg : wf.heap.size < Wg.heap.size := by rw [HWg.out]; simp
    go_upto_region 13 with fail
    rw [← HWg.out]
    clear HWg
    have Bg := hidk (below_chain Bf.out dg)
    have HVg := hidk ((dg.block _ hlf).trans HVf.out)
    have hlg := Nat.lt_of_lt_of_le hlf dg.size
    have HXg := hidk ((dg.block _ hxf).trans HXf.out)
    have hxg := Nat.lt_of_lt_of_le hxf dg.size
    have HYg := hidk ((dg.block _ hyf).trans HYf.out)
    have hyg := Nat.lt_of_lt_of_le hyf dg.size
    clear HVf HXf HYf Bf
    obtain ⟨c0, c1, c2⟩ := cells3 HVg.out
    obtain ⟨x0, x1, x2⟩ := cells3 HNWg.out
    go_wp2
    go_ret
    exact ⟨rfl, Bg.out⟩
  · go_wp2_with fail
    refine (kawake_any _).mono ?_
    rintro e w7 ⟨rfl, b7⟩
    have B7 := hidk (below_chain B6.out b7)
    have HV7 := hidk ((b7.block _ hl6).trans HV6.out)
    have hl7 := Nat.lt_of_lt_of_le hl6 b7.size
    have HX7 := hidk ((b7.block _ hx6).trans HX6.out)
    have hx7 := Nat.lt_of_lt_of_le hx6 b7.size
    have HY7 := hidk ((b7.block _ hy6).trans HY6.out)
    have hy7 := Nat.lt_of_lt_of_le hy6 b7.size
    clear HV6 HX6 HY6 B6
    clear b7
    obtain ⟨x0, x1, x2⟩ := cells3 HX7.out
    obtain ⟨W8, HW8⟩ : ∃ W, Hid (W = w7.alloc (.cells #[.int .i64 pk, .int .i64 pn, .string pS] 35)) := ⟨_, rfl⟩
    have d8 : Below w7.heap.size w7 W8 := by rw [HW8.out]; exact (Below.refl _ _).alloc (Nat.le_refl _) _
    have HNW8 : Hid (W8.heap[w7.heap.size]? = some (.cells #[.int .i64 pk, .int .i64 pn, .string pS] 35 (0, 0))) := by show _ = _; rw [HW8.out]; exact heap_alloc_new _ _
    have hnW8 : w7.heap.size < W8.heap.size := by rw [HW8.out]; simp
    have B8 := hidk (below_chain B7.out d8)
    have HV8 := hidk ((d8.block _ hl7).trans HV7.out)
    have hl8 := Nat.lt_of_lt_of_le hl7 d8.size
    have HX8 := hidk ((d8.block _ hx7).trans HX7.out)
    have hx8 := Nat.lt_of_lt_of_le hx7 d8.size
    have HY8 := hidk ((d8.block _ hy7).trans HY7.out)
    have hy8 := Nat.lt_of_lt_of_le hy7 d8.size
    clear HV7 HX7 HY7 B7
    have y := cells3 HY8.out
    rw [HW8.out] at y
    obtain ⟨y0, y1, y2⟩ := y
    obtain ⟨W9, HW9⟩ : ∃ W, Hid (W = W8.alloc (.cells #[.int .i64 pk, .int .i64 pn, .string pS] 38)) := ⟨_, rfl⟩
    have d9 : Below W8.heap.size W8 W9 := by rw [HW9.out]; exact (Below.refl _ _).alloc (Nat.le_refl _) _
    have HNW9 : Hid (W9.heap[W8.heap.size]? = some (.cells #[.int .i64 pk, .int .i64 pn, .string pS] 38 (0, 0))) := by show _ = _; rw [HW9.out]; exact heap_alloc_new _ _
    have hnW9 : W8.heap.size < W9.heap.size := by rw [HW9.out]; simp
    have hsz : W8.heap.size = w7.heap.size + 1 := by rw [HW8.out]; simp
    have B9 := hidk (below_chain B8.out d9)
    have HV9 := hidk ((d9.block _ hl8).trans HV8.out)
    have hl9 := Nat.lt_of_lt_of_le hl8 d9.size
    have HX9 := hidk ((d9.block _ hx8).trans HX8.out)
    have hx9 := Nat.lt_of_lt_of_le hx8 d9.size
    have HY9 := hidk ((d9.block _ hy8).trans HY8.out)
    have hy9 := Nat.lt_of_lt_of_le hy8 d9.size
    clear HV8 HX8 HY8 B8
    have HN8 := hidk ((d9.block _ hnW8).trans HNW8.out)
    rw [hsz] at HNW9
    go_wp2_with fail
    rw [← HW8.out, ← HW9.out]
    clear HW8 HW9 x0 x1 x2 y0 y1 y2
    refine (HSame.out W9 _ _ _ _ HN8.out HNW9.out).mono ?_
    rintro e wa ⟨rfl, ba⟩
    have Ba := hidk (below_chain B9.out ba)
    have HVa := hidk ((ba.block _ hl9).trans HV9.out)
    have hla := Nat.lt_of_lt_of_le hl9 ba.size
    have HXa := hidk ((ba.block _ hx9).trans HX9.out)
    have hxa := Nat.lt_of_lt_of_le hx9 ba.size
    have HYa := hidk ((ba.block _ hy9).trans HY9.out)
    have hya := Nat.lt_of_lt_of_le hy9 ba.size
    clear HV9 HX9 HY9 B9
    clear HN8 HNW9 HNW8 hnW8 hnW9 d8 d9 ba hsz
    obtain ⟨c0, c1, c2⟩ := cells3 HVa.out
    obtain ⟨Wb, HWb⟩ : ∃ W, Hid (W = wa.alloc (.cells #[.int .i64 k, .int .i64 n, .string S] 35)) := ⟨_, rfl⟩
    have db : Below wa.heap.size wa Wb := by rw [HWb.out]; exact (Below.refl _ _).alloc (Nat.le_refl _) _
    have HNWb : Hid (Wb.heap[wa.heap.size]? = some (.cells #[.int .i64 k, .int .i64 n, .string S] 35 (0, 0))) := by show _ = _; rw [HWb.out]; exact heap_alloc_new _ _
    have hnWb : wa.heap.size < Wb.heap.size := by rw [HWb.out]; simp
    go_wp2_with fail
    rw [← HWb.out]
    clear HWb c0 c1 c2
    have Bb := hidk (below_chain Ba.out db)
    have HVb := hidk ((db.block _ hla).trans HVa.out)
    have hlb := Nat.lt_of_lt_of_le hla db.size
    have HXb := hidk ((db.block _ hxa).trans HXa.out)
    have hxb := Nat.lt_of_lt_of_le hxa db.size
    have HYb := hidk ((db.block _ hya).trans HYa.out)
    have hyb := Nat.lt_of_lt_of_le hya db.size
    clear HVa HXa HYa Ba
    refine (HRef.out Wb _ _ HNWb.out).mono ?_
    rintro e wc' ⟨⟨sb, so, sc, rfl, HRc⟩, bc⟩
    have Bc := hidk (below_chain Bb.out bc)
    have HVc := hidk ((bc.block _ hlb).trans HVb.out)
    have hlc := Nat.lt_of_lt_of_le hlb bc.size
    have HXc := hidk ((bc.block _ hxb).trans HXb.out)
    have hxc := Nat.lt_of_lt_of_le hxb bc.size
    have HYc := hidk ((bc.block _ hyb).trans HYb.out)
    have hyc := Nat.lt_of_lt_of_le hyb bc.size
    clear HVb HXb HYb Bb
    obtain ⟨q0, q1, q2⟩ := HRc.out
    simp only at q0 q1 q2
    clear bc db HNWb hnWb HRc
    go_wp2_with fail
    refine (HRT.out wc').mono ?_
    rintro e wd ⟨rfl, bd⟩
    have Bd := hidk (below_chain Bc.out bd)
    have HVd := hidk ((bd.block _ hlc).trans HVc.out)
    have hld := Nat.lt_of_lt_of_le hlc bd.size
    have HXd := hidk ((bd.block _ hxc).trans HXc.out)
    have hxd := Nat.lt_of_lt_of_le hxc bd.size
    have HYd := hidk ((bd.block _ hyc).trans HYc.out)
    have hyd := Nat.lt_of_lt_of_le hyc bd.size
    clear HVc HXc HYc Bc
    clear q0 q1 q2 bd
    obtain ⟨c0, c1, c2⟩ := cells3 HVd.out
    go_wp2_with fail
    refine (HChk.out wd).mono ?_
    rintro e we ⟨rfl, be⟩
    have Be := hidk (below_chain Bd.out be)
    have HVe := hidk ((be.block _ hld).trans HVd.out)
    have hle := Nat.lt_of_lt_of_le hld be.size
    have HXe := hidk ((be.block _ hxd).trans HXd.out)
    have hxe := Nat.lt_of_lt_of_le hxd be.size
    have HYe := hidk ((be.block _ hyd).trans HYd.out)
    have hye := Nat.lt_of_lt_of_le hyd be.size
    clear HVd HXd HYd Bd
    clear c0 c1 c2 be
    go_wp2
    go_ret
    exact ⟨rfl, Be.out⟩

end Go.Proofs.YtgammhmgdafpkaaDoor
