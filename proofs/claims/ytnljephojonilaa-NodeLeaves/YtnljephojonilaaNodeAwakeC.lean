/-
  The walk of girderlaw12.awake.
-/
import Derived.Test.YtnljephojonilaaNodePgC
namespace Go.Proofs.Ytnljephojonilaa
open Go.RowKit Go.Sort
set_option linter.unusedVariables false
set_option linter.unusedSimpArgs false

def itA : ItemV := ⟨⟨⟨#[97]⟩, 0, 0⟩, true⟩

theorem itA_may : ∀ x ∈ [itA], x.e.May := by
  intro x hx
  rw [List.mem_singleton.1 hx]
  exact ⟨by decide, by decide, by decide⟩

theorem itA_none : ∀ x ∈ ([] : List ItemV), x.e.May := fun x hx => by simp at hx

theorem p1_fits : (leafV 1 0 []).Fits := leafV_fits (by omega) (by simp) (by simp [slotSum])
theorem p2_fits : (leafV 2 0 [itA]).Fits := leafV_fits (by omega) (by simp) (by simp [slotSum, ItemV.bs_size]; decide)

theorem findF_nil (e : EntV) : findF [] e = (0, false) := rfl

set_option maxHeartbeats 3200000 in
set_option maxRecDepth 60000 in
theorem nawake_any (w : World) : Calls Try.prog 11 #[] w fun e w' => e = .returned (.bool true) ∧ Below w.heap.size w w' := by
  have HB : Hid (∀ wx, Calls Try.prog 9 #[.int .u32 3] wx fun x w' => x = .returned (blankV.val none 0) ∧ Below wx.heap.size wx w') := fun wx => blank_any 3 wx
  have HF : Hid (∀ wx, Calls Try.prog 10 #[.int .u32 0] wx fun e w' => e = .returned (opFmtN 3 (num4 0)).val ∧ Below wx.heap.size wx w') := fun wx => formatLeaf_any 0 wx (by omega)
  have HA : Hid (∀ wx, Calls Try.prog 8 #[blankV.val none 0, (opFmtN 3 (num4 0)).val, .int .u64 1] wx fun e w' => ∃ a' c', e = .returned (.tuple #[(leafV 1 0 []).val a' c', .int .i64 0]) ∧ Below wx.heap.size wx w' ∧ StrsAt w' a' []) := fun wx => apply_leaf 0
  have HP : Hid (∀ (a : Option Addr) (c : Nat) wx, Calls Try.prog 19 #[(leafV 1 0 []).val a c, itA.val] wx fun r w' => r = .returned (.tuple #[(OpV.mk 2 0 itA.bs ⟨#[]⟩).val, .int .i64 0]) ∧ Below wx.heap.size wx w') := fun a c wx => by
    have hL := leafV_L itA_none 1 0
    have := putItem_ok (leafV 1 0 []) a c itA wx (SheetV.Fits.ok p1_fits (.inl rfl)) (by show ([] : List ByteArray).length ≤ _; simp) (by decide) (by decide) (leafV_B itA_none 1 0) (by rw [hL]; rfl)
    rw [hL, findF_nil] at this
    exact this
  have HI : Hid (∀ (a : Option Addr) (c : Nat) wx, Calls Try.prog 8 #[(leafV 1 0 []).val a c, (OpV.mk 2 0 itA.bs ⟨#[]⟩).val, .int .u64 2] wx fun e w' => ∃ a' c', e = .returned (.tuple #[(leafV 2 0 [itA]).val a' c', .int .i64 0]) ∧ Below wx.heap.size wx w' ∧ StrsAt w' a' [itA.bs]) := fun a c wx => by
    have hE : insE (leafV 1 0 []) (opIns 0 itA.bs) = 0 := by
      unfold insE
      rw [if_neg (by show ¬ ((0 : Nat) : Int) < ((0 : Nat) : Int); omega), if_neg (by show ¬ 64 ≤ 0; omega), if_neg (by show ¬ 485 < (num4 0).size + 0 + (2 + itA.bs.size); rw [num4_size, ItemV.bs_size]; decide)]
    refine (apply_ins (c := c) 2 0 itA.bs (SheetV.Fits.ok p1_fits (.inl rfl)) p1_fits (by omega) (by rw [ItemV.bs_size]; decide)).mono ?_
    rintro e w' ⟨X, rfl, b, hX, _⟩
    obtain ⟨a', c', rfl, hq⟩ := hX hE
    exact ⟨a', c', by rw [hE]; rfl, b, hq.at⟩
  have HL : Hid (∀ (a : Option Addr) (c : Nat) wx, StrsAt wx a [itA.bs] → Calls Try.prog 32 #[(leafV 2 0 [itA]).val a c] wx fun r w' => ∃ bb o c', r = .returned (.tuple #[.slice (some ⟨bb, o, none⟩) 1 c', .int .i64 0]) ∧ w'.cell? ⟨bb, o, none⟩ = some (.string ⟨#[97]⟩) ∧ w'.cell? ⟨bb, o + 3, none⟩ = some (.bool true) ∧ Below wx.heap.size wx w') := fun a c wx h => by
    refine (leaf_yes (c := c) (SheetV.Fits.ok p2_fits h) (by show ([itA].map ItemV.bs).length ≤ _; simp) (leafV_B itA_may 2 0)).mono ?_
    rintro r w' ⟨a', c', rfl, hr, b⟩
    rw [leafV_L itA_may] at hr
    obtain ⟨bb, o, rfl, hb, c0, c1, c2, c3⟩ := hr.item (i := 0) (by simp)
    exact ⟨bb, o, c', rfl, by simpa [itA] using c0, by simpa [itA] using c3, b⟩
  simp only [SheetV.val, OpV.val, ItemV.val, blankV, leafV, opFmtN, itA, List.map_nil, List.map_cons, List.length_nil, List.length_cons, Nat.zero_add] at HB HF HA HP HI HL
  generalize num4 0 = N4 at *
  generalize (ItemV.mk ⟨⟨#[97]⟩, 0, 0⟩ true).bs = X at *
  go_enter Try.func11, Try.ntmps11
  go_wp2_with fail
  refine (HB.out _).mono ?_
  rintro e w1 ⟨rfl, b1⟩
  go_wp2_with fail
  refine (HF.out _).mono ?_
  rintro e w2 ⟨rfl, b2⟩
  have B2 := below_chain b1 b2
  go_wp2_with fail
  refine (HA.out _).mono ?_
  rintro e w3 ⟨a3, c3, rfl, b3, s3⟩
  have B3 := below_chain B2 b3
  obtain ⟨W3, HW3⟩ : ∃ W, Hid (W = w3.alloc (.cells #[.int .u32 3, .int .u64 1, .int .i64 3, .string N4, .slice a3 0 c3] 29)) := ⟨_, rfl⟩
  have m3 : RowV W3 w3.heap.size 5 (five (.int .u32 3) (.int .u64 1) (.int .i64 3) (.string N4) (.slice a3 0 c3)) := by rw [HW3.out]; exact RowV.five_new _ _ _ _ _ _ _
  have BW3 : Below w.heap.size w W3 := by rw [HW3.out]; exact B3.alloc B3.size _
  have z3 : w3.heap.size < W3.heap.size := by rw [HW3.out]; simp
  clear b1 b2 b3 B2 B3 s3 HB HF HA
  go_wp2_with fail
  rw [← HW3.out]
  clear HW3
  refine (HP.out _ _ _).mono ?_
  rintro e w4 ⟨rfl, b4⟩
  have m4 := m3.below b4 z3
  have B4 := below_chain BW3 b4
  have z4 := Nat.lt_of_lt_of_le z3 b4.size
  clear m3 BW3 b4
  obtain ⟨W4, HW4⟩ : ∃ W, Hid (W = w4.alloc (.cells #[.int .i64 2, .int .i64 0, .string X, .string ⟨#[]⟩] 35)) := ⟨_, rfl⟩
  have k4 : Below w4.heap.size w4 W4 := by rw [HW4.out]; exact (Below.refl _ _).alloc (Nat.le_refl _) _
  have m5 := m4.below k4 z4
  have B5 := hidn (below_chain B4 k4)
  obtain ⟨x0, x1, x2, x3, x4⟩ := m5.cells5
  rw [HW4.out] at x0 x1 x2 x3 x4
  clear m4 B4 k4
  go_wp2_with fail
  rw [← HW4.out]
  refine (HI.out _ _ _).mono ?_
  rintro e w6 ⟨a6, c6, rfl, b6, s6⟩
  have B6 := below_chain B5.out b6
  obtain ⟨W6, HW6⟩ : ∃ W, Hid (W = w6.alloc (.cells #[.int .u32 3, .int .u64 2, .int .i64 3, .string N4, .slice a6 1 c6] 29)) := ⟨_, rfl⟩
  have k6 : Below w6.heap.size w6 W6 := by rw [HW6.out]; exact (Below.refl _ _).alloc (Nat.le_refl _) _
  have B7 := hidn (below_chain B6 k6)
  have s7 := s6.below k6
  clear HW4 x0 x1 x2 x3 x4 m5 B5 B6 k6 s6 b6
  go_wp2_with fail
  rw [← HW6.out]
  refine (HL.out _ _ _ s7).mono ?_
  rintro e w8 ⟨bb, o, c8, rfl, q0, q3, b8⟩
  have B8 := hidn (below_chain B7.out b8)
  clear HW6 HL HI HP s7 B7 b8
  go_wp2
  go_ret
  exact ⟨rfl, B8.out⟩

end Go.Proofs.Ytnljephojonilaa
