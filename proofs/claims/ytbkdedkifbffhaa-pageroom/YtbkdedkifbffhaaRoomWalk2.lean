/-
  The walk of PageRoom.
-/
import Derived.Test.YtbkdedkifbffhaaRoomWalk
namespace Go.Proofs.Ytbkdedkifbffhaa
open Go.RowKit Go.Sort
set_option linter.unusedVariables false

theorem SheetV.Fits.ok {q : SheetV} {w : World} {a : Option Addr} (f : q.Fits) (h : StrsAt w a q.slots) : q.Ok w a := by
  have hf := f.fits
  refine ⟨f.num, f.lsn, ⟨by have := f.kind0; omega, by have := f.kind1; omega⟩, by have := f.head; omega, by have := f.len; omega, fun s hs => ?_, h⟩
  obtain ⟨j, hj, rfl⟩ := List.mem_iff_getElem.1 hs
  have := slotSum_at q.slots j hj
  omega

set_option maxHeartbeats 3200000 in
set_option maxRecDepth 20000 in
theorem room_walk (p : SheetV) (a : Option Addr) (c : Nat) (n : Int) (hn1 : -9223372036854775808 ≤ n) (hn2 : n ≤ 9223372036854775807) (w : World) (hp : p.Ok w a) :
    Calls Try.prog 8 #[p.val a c, .int .i64 n] w fun e w' => e = .returned (.bool true) ∧ Below w.heap.size w w' := by
  have HE1 : Hid (∀ wx, Below w.heap.size w wx → Calls Try.prog 9 #[p.val a c] wx fun e w' => e = .returned (.tuple #[.string (encS p), .int .i64 (encE p)]) ∧ Below wx.heap.size wx w') := fun wx hb => encode_any p a c wx (hp.below hb)
  have HF1 : Hid (encE p = 0 → p.Fits) := (encE_fits hp).1
  have hln := hp.len
  have HB0 : ∃ W0, Hid (W0 = w.alloc (.cells #[.int .u32 p.num, .int .u64 p.lsn, .int .i64 p.kind, .string p.head, .slice a p.slots.length c] 28)) := ⟨_, rfl⟩
  obtain ⟨W0, HW0⟩ := HB0
  have bel0 : Below w.heap.size w W0 := by rw [HW0.out]; exact (Below.refl _ _).alloc (Nat.le_refl _) _
  have z0 : w.heap.size < W0.heap.size := by rw [HW0.out]; simp
  have p0 : RowV W0 w.heap.size 5 (five (.int .u32 p.num) (.int .u64 p.lsn) (.int .i64 p.kind) (.string p.head) (.slice a p.slots.length c)) := by rw [HW0.out]; exact RowV.five_new w _ _ _ _ _ _
  obtain ⟨S, HS⟩ : ∃ S, Hid (encS p = S) := ⟨_, rfl⟩
  rw [HS.out] at HE1
  by_cases e1 : encE p = 0
  · rw [e1] at HE1
    have F := HF1.out e1
    by_cases e2 : 64 ≤ p.slots.length
    · simp only [SheetV.val] at HE1 ⊢
      clear e1
      go_enter Try.func8, Try.ntmps8
      go_wp2_with fail
      rw [← HW0.out]
      refine (HE1.out _ bel0).mono ?_
      rintro e w1 ⟨rfl, b1⟩
      have p1 := p0.below b1 z0
      have bel1 := below_chain bel0 b1
      have z1 := Nat.lt_of_lt_of_le z0 b1.size
      go_wp2_with fail
      refine (awake_any _).mono ?_
      rintro e w2 ⟨rfl, b2⟩
      have p2 := p1.below b2 z1
      have bel2 := below_chain bel1 b2
      have z2 := Nat.lt_of_lt_of_le z1 b2.size
      clear HW0 p0 p1 b1 b2 bel0 bel1 z0 z1
      obtain ⟨x0, x1, x2, x3, x4⟩ := p2.cells5
      go_wp2_with fail
      refine (awake_any _).mono ?_
      rintro e w4 ⟨rfl, b4⟩
      go_wp2
      go_ret
      exact ⟨rfl, below_chain bel2 b4⟩
    · have hfit := F.fits
      have hbd := place_bounds n p.slots.length
      have hcut := placeAt_cast n p.slots.length
      have hcl := placeAt_le n p.slots.length
      have hroomE := roomF_eq hp F.len
      have HR : Hid (∀ wx, Below w.heap.size w wx → Calls Try.prog 15 #[p.val a c] wx fun e w' => e = .returned (.int .i64 (485 - (p.head.size : Int) - (slotSum p.slots : Int))) ∧ Below wx.heap.size wx w') := fun wx hb => by
        have := (hp.below hb).room c
        rw [hroomE] at this
        exact this
      obtain ⟨k, Hk⟩ : ∃ k, Hid (placeAt n p.slots.length = k) := ⟨_, rfl⟩
      rw [Hk.out] at hcut hcl
      have hk63 : k ≤ 63 := by omega
      by_cases e3 : 485 - (p.head.size : Int) - (slotSum p.slots : Int) < 2
      · have hE : insE p (opIns k ⟨#[]⟩) = 30 := by
          have h0 : (ByteArray.mk #[]).size = 0 := rfl
          unfold insE opIns
          simp only
          rw [if_neg (by omega), if_neg (by omega), if_pos (by omega)]
        have HFI : Hid (∀ wx, Below w.heap.size w wx → Calls Try.prog 24 #[p.val a c, .agg #[.int .i64 2, .int .i64 k, .string ⟨#[]⟩, .string ⟨#[]⟩]] wx fun e w' => e = .returned (.bool false) ∧ Below wx.heap.size wx w') := fun wx hb => fits_ins k (hp.below hb) F hk63 hE
        simp only [SheetV.val] at HE1 HR HFI ⊢
        clear e1 hE hroomE
        go_enter Try.func8, Try.ntmps8
        go_wp2_with fail
        rw [← HW0.out]
        refine (HE1.out _ bel0).mono ?_
        rintro e w1 ⟨rfl, b1⟩
        have p1 := p0.below b1 z0
        have bel1 := below_chain bel0 b1
        have z1 := Nat.lt_of_lt_of_le z0 b1.size
        go_wp2_with fail
        refine (awake_any _).mono ?_
        rintro e w2 ⟨rfl, b2⟩
        have p2 := p1.below b2 z1
        have bel2 := below_chain bel1 b2
        have z2 := Nat.lt_of_lt_of_le z1 b2.size
        clear HW0 p0 p1 b1 b2 bel0 bel1 z0 z1
        obtain ⟨x0, x1, x2, x3, x4⟩ := p2.cells5
        have hw1 : IntKind.i64.wrap ((p.slots.length : Int) + 1) = (p.slots.length : Int) + 1 := wrap_small (by omega) (by omega)
        have hw2 : IntKind.i64.wrap (n.tmod ((p.slots.length : Int) + 1) + (p.slots.length : Int)) = n.tmod ((p.slots.length : Int) + 1) + (p.slots.length : Int) := wrap_small (by omega) (by omega)
        have hw3 : IntKind.i64.wrap (n.tmod ((p.slots.length : Int) + 1) + (p.slots.length : Int) + 1) = n.tmod ((p.slots.length : Int) + 1) + (p.slots.length : Int) + 1 := wrap_small (by omega) (by omega)
        have hnz : ¬ ((p.slots.length : Int) + 1 = 0) := by omega
        have hc64 : decide ((64 : Int) ≤ (p.slots.length : Int)) = false := by simp; omega
        go_wp2_with fail
        go_quiet (fail)
        have p3 := p2.below (below_drewN (Below.refl w2.heap.size w2) nq) z2
        have bel3 := below_drewN bel2 nq
        have z3 : w.heap.size < (w2.drewN nq).heap.size := z2
        obtain ⟨w3, HW3⟩ : ∃ w3, Hid (w3 = w2.drewN nq) := ⟨_, rfl⟩
        rw [← HW3.out] at p3 bel3 z3 ⊢
        clear HW3 p2 bel2 z2 x0 x1 x2 x3 x4 hw1 hw2 hw3 hnz hcut hbd
        obtain ⟨x0, x1, x2, x3, x4⟩ := p3.cells5
        go_wp2_with fail
        refine (HR.out _ bel3).mono ?_
        rintro e w4 ⟨rfl, b4⟩
        have p4 := p3.below b4 z3
        have bel4 := below_chain bel3 b4
        have z4 := Nat.lt_of_lt_of_le z3 b4.size
        clear p3 bel3 z3 b4 x0 x1 x2 x3 x4
        obtain ⟨x0, x1, x2, x3, x4⟩ := p4.cells5
        go_wp2_with fail
        refine (HFI.out _ bel4).mono ?_
        rintro e w5 ⟨rfl, b5⟩
        go_wp2
        go_ret
        exact ⟨rfl, below_chain bel4 b5⟩
      · obtain ⟨m, hm⟩ : ∃ m : Nat, 485 - (p.head.size : Int) - (slotSum p.slots : Int) = (m : Int) + 2 := ⟨(485 - (p.head.size : Int) - (slotSum p.slots : Int) - 2).toNat, by omega⟩
        rw [hm] at HR
        have hm485 : m ≤ 485 := by omega
        obtain ⟨Z, HZ⟩ : ∃ Z : ByteArray, Hid (Z = ⟨(List.replicate m 0).toArray⟩) := ⟨_, rfl⟩
        have hZs : Z.size = m := by rw [HZ.out, bytes_size, List.length_replicate]
        obtain ⟨Y, HY⟩ : ∃ Y : ByteArray, Hid (Y = Z ++ ⟨#[120]⟩) := ⟨_, rfl⟩
        have hYs : Y.size = m + 1 := by rw [HY.out, ByteArray.size_append, hZs]; rfl
        have hE1 : insE p (opIns k Z) = 0 := by
          unfold insE opIns
          simp only
          rw [if_neg (by omega), if_neg (by omega), if_neg (by omega)]
        have hE2 : insE p (opIns k Y) = 30 := by
          unfold insE opIns
          simp only
          rw [if_neg (by omega), if_neg (by omega), if_pos (by omega)]
        have hil := insL_length p.slots k Z hcl
        have his := insL_sum p.slots k Z
        have FQ : ({ p with slots := insL p.slots k Z, lsn := 1 } : SheetV).Fits := ⟨F.num, by show (1 : Nat) < _; omega, F.kind0, F.kind1, F.head, by show (insL p.slots k Z).length ≤ 64; omega, by show p.head.size + slotSum (insL p.slots k Z) ≤ 485; omega⟩
        have HA1 : Hid (∀ wx, Below w.heap.size w wx → Calls Try.prog 19 #[p.val a c, .agg #[.int .i64 2, .int .i64 k, .string Z, .string ⟨#[]⟩], .int .u64 1] wx fun e w' => ∃ a' c', e = .returned (.tuple #[.agg #[.int .u32 p.num, .int .u64 1, .int .i64 p.kind, .string p.head, .slice a' (p.slots.length + 1) c'], .int .i64 0]) ∧ Below wx.heap.size wx w' ∧ StrsAt w' a' (insL p.slots k Z)) := fun wx hb => by
          refine (apply_ins (p := p) (w := wx) (a := a) (c := c) 1 k Z (hp.below hb) F hk63 (by omega)).mono ?_
          rintro e w' ⟨X, rfl, b1, hy, _⟩
          obtain ⟨a', c', rfl, hs⟩ := hy hE1
          refine ⟨a', c', ?_, b1, hs.at⟩
          rw [hE1]
          simp only [SheetV.val, hil]
          rfl
        have HA2 : Hid (∀ wx, Below w.heap.size w wx → Calls Try.prog 19 #[p.val a c, .agg #[.int .i64 2, .int .i64 k, .string Y, .string ⟨#[]⟩], .int .u64 1] wx fun e w' => e = .returned (.tuple #[.agg #[.int .u32 0, .int .u64 0, .int .i64 0, .string ⟨#[]⟩, .slice none 0 0], .int .i64 30]) ∧ Below wx.heap.size wx w') := fun wx hb => by
          refine (apply_ins (p := p) (w := wx) (a := a) (c := c) 1 k Y (hp.below hb) F hk63 (by omega)).mono ?_
          rintro e w' ⟨X, rfl, b1, _, hn⟩
          rw [hE2] at hn ⊢
          rw [hn (by decide)]
          exact ⟨rfl, b1⟩
        have HRQ : Hid (∀ wx a' c', StrsAt wx a' (insL p.slots k Z) → Calls Try.prog 15 #[.agg #[.int .u32 p.num, .int .u64 1, .int .i64 p.kind, .string p.head, .slice a' (p.slots.length + 1) c']] wx fun e w' => e = .returned (.int .i64 0) ∧ Below wx.heap.size wx w') := fun wx a' c' hs => by
          have hq := FQ.ok (w := wx) (a := a') hs
          have := hq.room c'
          rw [roomF_eq hq FQ.len] at this
          have e0 : (485 - (p.head.size : Int) - (slotSum (insL p.slots k Z) : Int)) = 0 := by omega
          simp only [SheetV.val, hil, e0] at this
          exact this
        have hmk := run_make_row' (P := Try.prog) 67 5 (.int .u8 0) 1 Try.underlying67 info5 rfl .i64 .i64 m (by omega) (by omega)
        have HCV : Hid (∀ wx : World, (convert 67 9 (.slice (some ⟨wx.heap.size, 0, none⟩) m m)).run Try.prog (wx.alloc (.cells (madeCells #[.int .u8 0] m) 5)) = .ok (.string Z) (wx.alloc (.cells (madeCells #[.int .u8 0] m) 5))) := fun wx => by
          rw [HZ.out]
          exact (RowU.made wx m 5).toString (List.replicate m 0) (by simp) (fun j hj => by simp) 67 9 5 Try.underlying67 Try.underlying5 Try.underlying9
        simp only [SheetV.val] at HE1 HR HA1 HA2 ⊢
        clear e1 hroomE hE1 hE2 FQ his hil hm
        go_enter Try.func8, Try.ntmps8
        go_wp2_with fail
        rw [← HW0.out]
        refine (HE1.out _ bel0).mono ?_
        rintro e w1 ⟨rfl, b1⟩
        have p1 := p0.below b1 z0
        have bel1 := below_chain bel0 b1
        have z1 := Nat.lt_of_lt_of_le z0 b1.size
        go_wp2_with fail
        refine (awake_any _).mono ?_
        rintro e w2 ⟨rfl, b2⟩
        have p2 := p1.below b2 z1
        have bel2 := below_chain bel1 b2
        have z2 := Nat.lt_of_lt_of_le z1 b2.size
        clear HW0 p0 p1 b1 b2 bel0 bel1 z0 z1
        obtain ⟨x0, x1, x2, x3, x4⟩ := p2.cells5
        have hw1 : IntKind.i64.wrap ((p.slots.length : Int) + 1) = (p.slots.length : Int) + 1 := wrap_small (by omega) (by omega)
        have hw2 : IntKind.i64.wrap (n.tmod ((p.slots.length : Int) + 1) + (p.slots.length : Int)) = n.tmod ((p.slots.length : Int) + 1) + (p.slots.length : Int) := wrap_small (by omega) (by omega)
        have hw3 : IntKind.i64.wrap (n.tmod ((p.slots.length : Int) + 1) + (p.slots.length : Int) + 1) = n.tmod ((p.slots.length : Int) + 1) + (p.slots.length : Int) + 1 := wrap_small (by omega) (by omega)
        have hnz : ¬ ((p.slots.length : Int) + 1 = 0) := by omega
        have hc64 : decide ((64 : Int) ≤ (p.slots.length : Int)) = false := by simp; omega
        go_wp2_with fail
        go_quiet (fail)
        have p3 := p2.below (below_drewN (Below.refl w2.heap.size w2) nq) z2
        have bel3 := below_drewN bel2 nq
        have z3 : w.heap.size < (w2.drewN nq).heap.size := z2
        obtain ⟨w3, HW3⟩ : ∃ w3, Hid (w3 = w2.drewN nq) := ⟨_, rfl⟩
        rw [← HW3.out] at p3 bel3 z3 ⊢
        clear HW3 p2 bel2 z2 x0 x1 x2 x3 x4 hw1 hw2 hw3 hnz hcut hbd
        obtain ⟨x0, x1, x2, x3, x4⟩ := p3.cells5
        go_wp2_with fail
        refine (HR.out _ bel3).mono ?_
        rintro e w4 ⟨rfl, b4⟩
        have p4 := p3.below b4 z3
        have bel4 := below_chain bel3 b4
        have z4 := Nat.lt_of_lt_of_le z3 b4.size
        clear p3 bel3 z3 b4 x0 x1 x2 x3 x4
        obtain ⟨x0, x1, x2, x3, x4⟩ := p4.cells5
        have hcv := HCV.out w4
        go_wp2_with fail
        obtain ⟨w5, HW5⟩ : ∃ w5, Hid (w5 = w4.alloc (.cells (madeCells #[.int .u8 0] m) 5)) := ⟨_, rfl⟩
        have bA : Below w4.heap.size w4 w5 := by rw [HW5.out]; exact (Below.refl _ _).alloc (Nat.le_refl _) _
        have p5 := p4.below bA z4
        have bel5 := below_chain bel4 bA
        have z5 := Nat.lt_of_lt_of_le z4 bA.size
        rw [← HW5.out]
        clear HW5 bA hcv p4 bel4 z4 x0 x1 x2 x3 x4 hmk HCV
        refine (HA1.out _ bel5).mono ?_
        rintro e w6 ⟨a', c', rfl, b6, hs6⟩
        have p6 := p5.below b6 z5
        have bel6 := below_chain bel5 b6
        have z6 := Nat.lt_of_lt_of_le z5 b6.size
        clear p5 bel5 z5 b6
        obtain ⟨x0, x1, x2, x3, x4⟩ := p6.cells5
        have hadd : ¬ (9223372036854775807 < Z.size + (ByteArray.mk #[120]).size) := by rw [hZs]; show ¬ (_ < m + 1); omega
        have hx1 : (ByteArray.mk #[120]).size = 1 := rfl
        go_wp2_with fail
        rw [← HY.out]
        obtain ⟨w7, HW7⟩ : ∃ w7, Hid (w7 = w6.alloc (.cells #[.int .u32 p.num, .int .u64 1, .int .i64 p.kind, .string p.head, .slice a' (p.slots.length + 1) c'] 28)) := ⟨_, rfl⟩
        have bB : Below w6.heap.size w6 w7 := by rw [HW7.out]; exact (Below.refl _ _).alloc (Nat.le_refl _) _
        have q7 : RowV w7 w6.heap.size 5 (five (.int .u32 p.num) (.int .u64 1) (.int .i64 p.kind) (.string p.head) (.slice a' (p.slots.length + 1) c')) := by rw [HW7.out]; exact RowV.five_new w6 _ _ _ _ _ _
        have zq : w6.heap.size < w7.heap.size := by rw [HW7.out]; simp
        have hs7 := hs6.below bB
        have bel7 := below_chain bel6 bB
        rw [← HW7.out]
        clear HW7 bB hs6 bel6 p6 x0 x1 x2 x3 x4 HY hadd hx1
        refine (HA2.out _ bel7).mono ?_
        rintro e w8 ⟨rfl, b8⟩
        have q8 := q7.below b8 zq
        have hs8 := hs7.below b8
        have bel8 := below_chain bel7 b8
        have z8 := Nat.lt_of_lt_of_le zq b8.size
        clear q7 hs7 bel7 zq b8
        obtain ⟨x0, x1, x2, x3, x4⟩ := q8.cells5
        go_wp2_with fail
        refine (HRQ.out _ a' c' (hs8.below ((Below.refl _ _).alloc (Nat.le_refl _) _))).mono ?_
        rintro e w9 ⟨rfl, b9⟩
        go_wp2
        go_ret
        exact ⟨rfl, below_chain (bel8.alloc (by omega) _) b9⟩
  · have e1' : (encE p != 0) = true := by rw [bne_iff_ne]; exact e1
    simp only [SheetV.val] at HE1 ⊢
    go_enter Try.func8, Try.ntmps8
    go_wp2_with fail
    rw [← HW0.out]
    refine (HE1.out _ bel0).mono ?_
    rintro e w1 ⟨rfl, b1⟩
    have p1 := p0.below b1 z0
    have bel1 := below_chain bel0 b1
    have z1 := Nat.lt_of_lt_of_le z0 b1.size
    go_wp2_with fail
    refine (awake_any _).mono ?_
    rintro e w2 ⟨rfl, b2⟩
    have p2 := p1.below b2 z1
    have bel2 := below_chain bel1 b2
    have z2 := Nat.lt_of_lt_of_le z1 b2.size
    clear HW0 p0 p1 b1 b2 bel0 bel1 z0 z1
    obtain ⟨x0, x1, x2, x3, x4⟩ := p2.cells5
    go_wp2_with fail
    refine (awake_any _).mono ?_
    rintro e w4 ⟨rfl, b4⟩
    go_wp2
    go_ret
    exact ⟨rfl, below_chain bel2 b4⟩

end Go.Proofs.Ytbkdedkifbffhaa
