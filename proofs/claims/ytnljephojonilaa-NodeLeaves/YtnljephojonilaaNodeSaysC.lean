/-
  girderlaw12.says of a leaf and its items.
-/
import Derived.Test.YtnljephojonilaaBase8C
import Derived.Test.YtnljephojonilaaNodeAwakeC
import Derived.Test.YtnljephojonilaaNodeLawC
import Derived.BigRegion
import Derived.Deep.RegionLaw
import Derived.Deep.QuietTactic
import Derived.BigQuiet
namespace Go.Proofs.Ytnljephojonilaa
open Go.RowKit Go.Sort
set_option linter.unusedVariables false
set_option linter.unusedSimpArgs false

set_option maxHeartbeats 6400000 in
set_option maxRecDepth 20000 in
theorem says_any (lsn nx : Nat) (M : List ItemV) (a : Option Addr) (c : Nat) (am : Option Addr) (cm : Nat) (w : World) (h : HInv M) (hl : lsn < 18446744073709551616) (hs : StrsAt w a (M.map ItemV.bs)) (hm : ItemsAt w am M) :
    Calls Try.prog 20 #[(leafV lsn nx M).val a c, .slice am M.length cm] w fun r w' => r = .returned (.bool true) ∧ Below w.heap.size w w' := by
  have hlen := h.len
  have HLF : Hid (∀ wx, StrsAt wx a (M.map ItemV.bs) → Calls Try.prog 32 #[(leafV lsn nx M).val a c] wx fun r w' => ∃ a' c', r = .returned (.tuple #[.slice a' M.length c', .int .i64 0]) ∧ ItemsAt w' a' M ∧ Below wx.heap.size wx w') := fun wx hs => by
    refine (leaf_yes (c := c) (SheetV.Fits.ok (h.fits hl) hs) (by show (M.map ItemV.bs).length ≤ _; rw [List.length_map]; omega) (leafV_B h.may lsn nx)).mono ?_
    rintro r w' ⟨a', c', rfl, hr, b⟩
    rw [leafV_L h.may] at hr
    refine ⟨a', c', ?_, hr, b⟩
    rw [show (leafV lsn nx M).slots.length = M.length from by show (M.map ItemV.bs).length = _; rw [List.length_map]]
  simp only [SheetV.val, leafV, List.length_map] at HLF ⊢
  go_enter Try.func20, Try.ntmps20
  obtain ⟨W1, HW1⟩ : ∃ W, Hid (W = w.alloc (.cells #[.int .u32 3, .int .u64 lsn, .int .i64 3, .string (num4 nx), .slice a M.length c] 29)) := ⟨_, rfl⟩
  have p1 : RowV W1 w.heap.size 5 (five (.int .u32 3) (.int .u64 lsn) (.int .i64 3) (.string (num4 nx)) (.slice a M.length c)) := by rw [HW1.out]; exact RowV.five_new _ _ _ _ _ _ _
  have b1 : Below w.heap.size w W1 := by rw [HW1.out]; exact (Below.refl _ _).alloc (Nat.le_refl _) _
  have hz1 : w.heap.size < W1.heap.size := by rw [HW1.out]; simp
  go_wp2_with fail
  rw [← HW1.out]
  clear HW1
  refine (HLF.out _ (hs.below b1)).mono ?_
  rintro r w2 ⟨al, cl, rfl, hA, b2⟩
  have p2 := p1.below b2 hz1
  have B2 := below_chain b1 b2
  have hs2 := hs.below B2
  have hm2 := hm.below B2
  have hz2 : w.heap.size < w2.heap.size := Nat.lt_of_lt_of_le hz1 b2.size
  clear HLF p1 b1 b2 hz1
  obtain ⟨x0, x1, x2, x3, x4⟩ := p2.cells5
  obtain ⟨K0, HK0⟩ : ∃ W, W = w2 := ⟨_, rfl⟩
  rw [← HK0] at p2 B2 hs2 hm2 hz2 hA x0 x1 x2 x3 x4 ⊢
  clear HK0
  go_upto_block 1 with fail
  go_loopw [7] (fun i wr => ∃ k : Nat, k ≤ M.length ∧ i = .int .i64 k ∧ Hid (Below K0.heap.size K0 wr)) (fun i _ => M.length - (intOf i).toNat)
  case atStart => exact ⟨0, by omega, rfl, Below.refl _ _⟩
  case round =>
    obtain ⟨k, hk, rfl, HB⟩ := hrel
    by_cases hlt : k < M.length
    · have hi0 : (0 : Int) ≤ (k : Int) := by omega
      have hi1 : (k : Int) < (M.length : Int) := by omega
      obtain ⟨bk, ok, rfl, hbk, c0, c1, c2, c3⟩ := (hA.below HB.out).item hlt
      obtain ⟨bm, om, rfl, hbm, d0, d1, d2, d3⟩ := (hm2.below HB.out).item hlt
      obtain ⟨bs, os, rfl, hbs, s0⟩ : ∃ b o, a = some ⟨b, o, none⟩ ∧ b < wr.heap.size ∧ wr.cell? ⟨b, o + k, none⟩ = some (.string M[k].bs) := by
        rcases hs2.below HB.out with q | ⟨b, o, e1, hb, hc⟩
        · rw [List.map_eq_nil_iff.1 q] at hlt; simp at hlt
        · refine ⟨b, o, e1, hb, ?_⟩
          have := hc k (by rw [List.length_map]; exact hlt)
          simpa using this
      have y4 := (HB.out.cell (p := ⟨w.heap.size, 4, none⟩) hz2).trans x4
      have hmay := h.may M[k] (List.getElem_mem hlt)
      have hkey := h.key M[k] (List.getElem_mem hlt)
      clear x0 x1 x2 x3
      generalize M[k] = x at *
      obtain ⟨⟨K, P, S⟩, v⟩ := x
      have HSL := hidn (fun wx => slot_any ⟨K, P, S⟩ wx hmay.page (by have := hkey; simp only at this ⊢; omega))
      obtain ⟨B2', HB2⟩ : ∃ B, Hid ((⟨(EntV.bytes ⟨K, P, S⟩).toArray⟩ : ByteArray) = B) := ⟨_, rfl⟩
      have zB2 : B2'.size ≤ 80 := by rw [← HB2.out, bytes_size, EntV.bytes_length]; have := hkey; simp only at this ⊢; omega
      rw [HB2.out] at HSL
      simp only [EntV.val] at HSL c0 c1 c2 c3 d0 d1 d2 d3
      cases v with
      | true =>
        have hbs2 : (ItemV.mk ⟨K, P, S⟩ true).bs = (⟨#[1]⟩ : ByteArray) ++ B2' := by rw [← HB2.out]; unfold ItemV.bs ItemV.bytes; rw [show (⟨#[1]⟩ : ByteArray) = ⟨([1] : List UInt8).toArray⟩ from rfl, bytes_add]; rfl
        rw [hbs2] at s0
        have hTT := str_eq (rfl : (⟨#[1]⟩ : ByteArray) ++ B2' = (⟨#[1]⟩ : ByteArray) ++ B2')
        have n1 : ¬ (9223372036854775807 < (⟨#[1]⟩ : ByteArray).size + B2'.size) := by have : (⟨#[1]⟩ : ByteArray).size = 1 := rfl; omega
        have n2 : ¬ (9223372036854775807 < 1 + B2'.size) := by omega
        go_upto_region 10 with fail
        have gs0 := cell_regrown s0
        have gy4 := cell_regrown y4
        have gc0 := cell_regrown c0
        have gc1 := cell_regrown c1
        have gc2 := cell_regrown c2
        have gc3 := cell_regrown c3
        have gd0 := cell_regrown d0
        have gd1 := cell_regrown d1
        have gd2 := cell_regrown d2
        have gd3 := cell_regrown d3
        have cS : ∀ dd os, Calls Try.prog 25 #[.agg #[.string K, .int .u32 P, .int .i64 S]] (grow (redrawn wr dd) os) fun r w'' => r = .returned (.string B2') ∧ ∃ p : Regrown, w'' = grow (redrawn wr p.d) p.os := fun dd os => Calls.regrown_of (HSL.out _)
        clear c0 c1 c2 c3 d0 d1 d2 d3 s0 y4 HSL
        refine wp_region_quiet_below nmixed (by kernel_rfl) ?_
        iterate 25 (quiet_step (first | (go_at_call 25; exact cS _ _)))
        refine wpQuiet_nil ?_
        intro _ hw'
        obtain ⟨⟨dq, osq⟩, hw''⟩ := hw'
        have bb := hidn (below_chain HB.out (below_regrown wr dq osq))
        rw [hw'']
        generalize grow (redrawn wr dq) osq = V9 at *
        go_wp2
        go_roundw
        case rel => exact ⟨k + 1, by omega, by go_num, bb⟩
        case measure => simp [intOf]; omega
      | false =>
        have hbs2 : (ItemV.mk ⟨K, P, S⟩ false).bs = (⟨#[0]⟩ : ByteArray) ++ B2' := by rw [← HB2.out]; unfold ItemV.bs ItemV.bytes; rw [show (⟨#[0]⟩ : ByteArray) = ⟨([0] : List UInt8).toArray⟩ from rfl, bytes_add]; rfl
        rw [hbs2] at s0
        have hTT := str_eq (rfl : (⟨#[0]⟩ : ByteArray) ++ B2' = (⟨#[0]⟩ : ByteArray) ++ B2')
        have n1 : ¬ (9223372036854775807 < (⟨#[0]⟩ : ByteArray).size + B2'.size) := by have : (⟨#[0]⟩ : ByteArray).size = 1 := rfl; omega
        have n2 : ¬ (9223372036854775807 < 1 + B2'.size) := by omega
        go_upto_region 10 with fail
        have gs0 := cell_regrown s0
        have gy4 := cell_regrown y4
        have gc0 := cell_regrown c0
        have gc1 := cell_regrown c1
        have gc2 := cell_regrown c2
        have gc3 := cell_regrown c3
        have gd0 := cell_regrown d0
        have gd1 := cell_regrown d1
        have gd2 := cell_regrown d2
        have gd3 := cell_regrown d3
        have cS : ∀ dd os, Calls Try.prog 25 #[.agg #[.string K, .int .u32 P, .int .i64 S]] (grow (redrawn wr dd) os) fun r w'' => r = .returned (.string B2') ∧ ∃ p : Regrown, w'' = grow (redrawn wr p.d) p.os := fun dd os => Calls.regrown_of (HSL.out _)
        clear c0 c1 c2 c3 d0 d1 d2 d3 s0 y4 HSL
        refine wp_region_quiet_below nmixed (by kernel_rfl) ?_
        iterate 25 (quiet_step (first | (go_at_call 25; exact cS _ _)))
        refine wpQuiet_nil ?_
        intro _ hw'
        obtain ⟨⟨dq, osq⟩, hw''⟩ := hw'
        have bb := hidn (below_chain HB.out (below_regrown wr dq osq))
        rw [hw'']
        generalize grow (redrawn wr dq) osq = V9 at *
        go_wp2
        go_roundw
        case rel => exact ⟨k + 1, by omega, by go_num, bb⟩
        case measure => simp [intOf]; omega
    · obtain rfl : k = M.length := by omega
      have bb := hidn (below_chain B2 HB.out)
      go_wp2
      go_ret
      exact ⟨rfl, bb.out⟩

end Go.Proofs.Ytnljephojonilaa
