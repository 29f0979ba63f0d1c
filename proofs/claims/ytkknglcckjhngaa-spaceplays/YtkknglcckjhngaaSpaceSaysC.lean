/-
  The walk of girderlaw07.says: the map says what the array of booleans says.
-/
import Derived.Test.YtkknglcckjhngaaSpaceAwakeC
import Derived.Test.YtkknglcckjhngaaBase5C
import Derived.Lib.SmallJoins
namespace Go.Proofs.Ytkknglcckjhngaa
open Go.RowKit Go.Sort Go.Joins
set_option linter.unusedVariables false

theorem tkP_none {p : SheetV} {n : Nat} (h : n = 0 ∨ 2048 < n) : tkP p n = false := by
  have : decide (1 ≤ n ∧ n ≤ 2048) = false := by simp; omega
  unfold tkP tkB
  rw [this]; simp

/-- How many pages below n are taken. -/
def cntB (p : SheetV) (n : Nat) : Nat := (tkPL p (n - 1)).length

theorem cntB_succ (p : SheetV) (n : Nat) : cntB p (n + 1) = cntB p n + (tkP p n).toNat := by
  unfold cntB
  cases n with
  | zero => rw [tkP_none (.inl rfl)]; rfl
  | succ n =>
    rw [show n + 1 + 1 - 1 = n + 1 from rfl, show n + 1 - 1 = n from rfl, tkPL_snoc, List.length_append]
    cases tkP p (n + 1) <;> simp

theorem tkPL_at {p : SheetV} {n : Nat} (h : tkP p n = true) (m : Nat) (hm : n ≤ m) : (tkPL p m)[cntB p n]? = some n := by
  have hn : n ≠ 0 := fun e => by rw [tkP_none (.inl e)] at h; cases h
  obtain ⟨k, rfl⟩ : ∃ k, n = k + 1 := ⟨n - 1, by omega⟩
  have hk : (tkPL p (k + 1))[cntB p (k + 1)]? = some (k + 1) := by
    rw [tkPL_snoc, h]
    unfold cntB
    rw [show k + 1 - 1 = k from rfl, List.getElem?_append_right (Nat.le_refl _)]
    simp
  obtain ⟨d, rfl⟩ : ∃ d, m = k + 1 + d := ⟨m - (k + 1), by omega⟩
  clear hm
  induction d with
  | zero => exact hk
  | succ d ih =>
    rw [← Nat.add_assoc, tkPL_snoc]
    have hlt := (List.getElem?_eq_some_iff.1 ih).1
    rw [List.getElem?_append_left hlt]
    exact ih

theorem own_cell {w : World} {B : Nat} {e : TypeId} {n g cap : Nat} {xs : List Value} (h : w.ownsRow B e 1 (.slice (some ⟨g, 0, none⟩) n cap) n xs) (k : Nat) (u : Value) (hk : xs[k]? = some u) : w.cell? ⟨g, k, none⟩ = some u :=
  owns_cells ⟨h.1, by
    rcases h.2 with ⟨e1, h1⟩ | ⟨g', cap', cur, e1, h0, hb, hr⟩
    · exact .inl ⟨e1, h1⟩
    · exact .inr ⟨g', cap', cur, e1, Nat.zero_le _, hb, hr⟩⟩ k u hk

section
variable {p : SheetV} {a : Option Addr} {c : Nat} {w : World}

set_option maxHeartbeats 3200000 in
set_option maxRecDepth 60000 in
theorem says_any (h : p.Lies w a) (hm : isB p = true) (C : Array Value) (hC : ∀ n, n ≤ 2049 → C[n]? = some (.bool (tkP p n))) :
    Calls Try.prog 13 #[p.val a c, .agg C] w fun e w' => e = .returned (.bool true) ∧ Below w.heap.size w w' := by
  have HIS : Hid (∀ wx, Below w.heap.size w wx → Calls Try.prog 14 #[p.val a c] wx fun e w' => e = .returned (.bool true) ∧ Below wx.heap.size wx w') := fun wx k => by have := is_any (c := c) (h.below k); rw [hm] at this; exact this
  have HTK : Hid (∀ n : Nat, n < 4294967296 → ∀ wx, Below w.heap.size w wx → Calls Try.prog 15 #[p.val a c, .int .u32 n] wx fun e w' => e = .returned (.bool (tkP p n)) ∧ Below wx.heap.size wx w') := fun n hn wx k => taken_any (h.below k) n hn
  have HCN : Hid (∀ wx, Below w.heap.size w wx → Calls Try.prog 17 #[p.val a c] wx fun e w' => e = .returned (.int .i64 (tkPL p 2048).length) ∧ Below wx.heap.size wx w') := fun wx k => by have := count_any (c := c) (h.below k); rw [← tkPL_cnt p] at this; exact this
  have HAL : Hid (∀ wx, Below w.heap.size w wx → Calls Try.prog 16 #[p.val a c] wx fun e w' => ∃ g N, e = .returned (.slice (some ⟨g, 0, none⟩) (tkPL p 2048).length N) ∧ Below wx.heap.size wx w' ∧ w'.ownsRow (wx.heap.size + 1) 24 1 (.slice (some ⟨g, 0, none⟩) (tkPL p 2048).length N) (tkPL p 2048).length (pgL (tkPL p 2048))) := fun wx k => all_any (h.below k)
  have HAT : Hid (∀ n, tkP p n = true → n ≤ 2048 → (tkPL p 2048)[cntB p n]? = some n) := fun n hn h2 => tkPL_at hn 2048 h2
  have HPG : Hid (∀ n, tkP p n = true → n ≤ 2048) := fun n hn => by
    by_cases c : n ≤ 2048
    · exact c
    · rw [tkP_none (.inr (by omega))] at hn; cases hn
  have HEND : Hid (cntB p 2050 = (tkPL p 2048).length) := by
    show _ = _
    rw [cntB_succ, tkP_none (.inr (by omega))]
    rfl
  have hLEN : (tkPL p 2048).length ≤ 2048 := by
    have := cntN_le (slot0 p) 256
    rw [tkPL_cnt]; unfold cntP; split <;> omega
  have HC : Hid (∀ n, n ≤ 2049 → C[n]? = some (.bool (tkP p n))) := hC
  clear h hm hC
  obtain ⟨W, HW⟩ : ∃ W, Hid (W = (boxP p a c w).alloc (.cells C 37)) := ⟨_, rfl⟩
  have hin : PageIn p a c w W := by rw [HW.out]; exact (PageIn.start p a c w).below ((Below.refl _ _).alloc (Nat.le_refl _) _)
  have hb1 : W.heap[w.heap.size + 1]? = some (.cells C 37 (0, 0)) := by
    rw [HW.out]
    have := heap_alloc_new (boxP p a c w) (.cells C 37)
    simpa [boxP] using this
  have hz1 : w.heap.size + 1 < W.heap.size := by rw [HW.out]; simp [boxP]
  unfold boxP at HW
  obtain ⟨T, HT⟩ : ∃ T, Hid ((tkPL p 2048) = T) := ⟨_, rfl⟩
  rw [HT.out] at HCN HAL HAT HEND hLEN
  unfold SheetV.val at HIS HTK HCN HAL ⊢
  go_enter Try.func13, Try.ntmps13
  go_wp2_with fail
  rw [← HW.out]
  clear HW
  refine (HAL.out _ hin.bel).mono ?_
  rintro e w1 ⟨g, N, rfl, b1, hown⟩
  have h1 := hin.below b1
  have hb2 : w1.heap[w.heap.size + 1]? = some (.cells C 37 (0, 0)) := (b1.block _ hz1).trans hb1
  have hz2 := Nat.lt_of_lt_of_le hz1 b1.size
  have HG : Hid (g < w1.heap.size ∧ ∀ n, tkP p n = true → n ≤ 2048 → w1.cell? ⟨g, cntB p n, none⟩ = some (.int .u32 n)) := by
    refine ⟨(hown.lt g rfl).2, fun n hn h2 => own_cell hown (cntB p n) _ ?_⟩
    unfold pgL
    rw [List.getElem?_map, HAT.out n hn h2]
    rfl
  have HP1 : Hid (PageIn p a c w w1) := h1
  have HB1 : Hid (w1.heap[w.heap.size + 1]? = some (.cells C 37 (0, 0)) ∧ w.heap.size + 1 < w1.heap.size) := ⟨hb2, hz2⟩
  clear hin b1 hown h1 hb1 hb2 hz1 hz2 HAL HAT
  go_wp2_with fail
  go_loopw [6, 7] (fun kv i wr => ∃ n : Nat, n ≤ 2050 ∧ i = .int .i64 n ∧ kv = .int .i64 (cntB p n : Nat) ∧ Hid (Below w1.heap.size w1 wr)) (fun _ i _ => 2050 - (intOf i).toNat)
  case atStart => exact ⟨0, Nat.zero_le _, rfl, rfl, Below.refl _ _⟩
  case round =>
    obtain ⟨n, hn, rfl, rfl, HBR⟩ := hrel
    have hin := HP1.out.below HBR.out
    obtain ⟨x0, x1, x2, x3, x4⟩ : _ ∧ _ ∧ _ ∧ _ ∧ _ := ⟨hin.c0, hin.c1, hin.c2, hin.c3, hin.c4⟩
    have hcn : cntB p n ≤ T.length := by
      rw [← HEND.out]
      unfold cntB
      have := tkPL_mono p (n - 1) (2050 - 1 - (n - 1))
      rw [show n - 1 + (2050 - 1 - (n - 1)) = 2050 - 1 from by omega] at this
      exact this
    by_cases hlt : n ≤ 2049
    · have hlt' : (n : Int) ≤ 2049 := by omega
      have hbn : n < 2050 := by omega
      have hcc : wr.cell? ⟨w.heap.size + 1, n, none⟩ = some (.bool (tkP p n)) := by
        rw [cell_of_block ((HBR.out.block _ HB1.out.2).trans HB1.out.1) n]
        exact HC.out n hlt
      have HSC : Hid (cntB p (n + 1) = cntB p n + (tkP p n).toNat) := cntB_succ p n
      have HK := HTK.out n (by omega)
      have HGN : Hid (tkP p n = true → wr.cell? ⟨g, cntB p n, none⟩ = some (.int .u32 n) ∧ cntB p n < T.length) := fun ht => by
        have h2 := HPG.out n ht
        have hm := cntB_succ p n
        rw [ht] at hm
        have hmn : cntB p (n + 1) ≤ T.length := by
          rw [← HEND.out]
          unfold cntB
          have := tkPL_mono p (n + 1 - 1) (2050 - 1 - (n + 1 - 1))
          rw [show n + 1 - 1 + (2050 - 1 - (n + 1 - 1)) = 2050 - 1 from by omega] at this
          exact this
        refine ⟨(HBR.out.cell (p := ⟨g, cntB p n, none⟩) HG.out.1).trans (HG.out.2 n ht h2), ?_⟩
        simp at hm
        omega
      generalize cntB p n = k at *
      obtain ⟨B, HB⟩ : ∃ B, Hid (tkP p n = B) := ⟨_, rfl⟩
      rw [HB.out] at hcc HSC HK HGN
      have HK' : Hid (∀ wx, Below w.heap.size w wx → Calls Try.prog 15 #[.agg #[.int .u32 p.num, .int .u64 p.lsn, .int .i64 p.kind, .string p.head, .slice a p.slots.length c], .int .u32 (n : Int)] wx fun e w' => e = .returned (.bool B) ∧ Below wx.heap.size wx w') := HK
      clear HK
      have hkeep : ∀ wy : World, Below wr.heap.size wr wy → (wy.cell? ⟨w.heap.size, 0, none⟩ = some (.int .u32 p.num) ∧ wy.cell? ⟨w.heap.size, 1, none⟩ = some (.int .u64 p.lsn) ∧ wy.cell? ⟨w.heap.size, 2, none⟩ = some (.int .i64 p.kind) ∧ wy.cell? ⟨w.heap.size, 3, none⟩ = some (.string p.head) ∧ wy.cell? ⟨w.heap.size, 4, none⟩ = some (.slice a p.slots.length c) ∧ wy.cell? ⟨w.heap.size + 1, n, none⟩ = some (.bool B)) := fun wy b => by
        have h := hin.below b
        have hz := Nat.lt_of_lt_of_le HB1.out.2 HBR.out.size
        exact ⟨h.c0, h.c1, h.c2, h.c3, h.c4, (b.cell (p := ⟨w.heap.size + 1, n, none⟩) hz).trans hcc⟩
      have HDR : Hid (Below w.heap.size w wr.drew) := hin.bel.drew
      go_upto_region 6 with fail
      have hu : IntKind.u32.wrap (n : Int) = (n : Int) := by rw [IntKind.wrap_u32]; omega
      have hn0 : (0 : Int) ≤ (n : Int) := by omega
      have hn1 : (n : Int) < 2050 := by omega
      go_cut [21] from 14 to 20 (fun v wx => v = .bool false ∧ Hid (Below wr.heap.size wr wx))
      case first =>
        go_region_held3 (fun wy => wy.cell? ⟨w.heap.size, 0, none⟩ = some (.int .u32 p.num) ∧ wy.cell? ⟨w.heap.size, 1, none⟩ = some (.int .u64 p.lsn) ∧ wy.cell? ⟨w.heap.size, 2, none⟩ = some (.int .i64 p.kind) ∧ wy.cell? ⟨w.heap.size, 3, none⟩ = some (.string p.head) ∧ wy.cell? ⟨w.heap.size, 4, none⟩ = some (.slice a p.slots.length c) ∧ wy.cell? ⟨w.heap.size + 1, n, none⟩ = some (.bool B))
          (first | go_keep | exact hkeep _ c5)
          (first | (go_at_call 15; refine (HK'.out wr.drew HDR.out).mono ?_; rintro e w5 ⟨rfl, b5⟩; have c5 : Below wr.heap.size wr w5 := ((Below.refl _ _).drew).trans b5))
        all_goals
          cases B
          all_goals
            go_wp2_with fail
            go_meet
            case rel => exact ⟨rfl, c5⟩
      case rest =>
        obtain ⟨rfl, HBC⟩ := hcut
        have HBR2 : Hid (Below w1.heap.size w1 wc) := HBR.out.trans (HBC.out.mono HBR.out.size)
        have hcc2 : wc.cell? ⟨w.heap.size + 1, n, none⟩ = some (.bool B) := (hkeep wc HBC.out).2.2.2.2.2
        have HGN2 : Hid (B = true → wc.cell? ⟨g, k, none⟩ = some (.int .u32 n) ∧ k < T.length) := fun hb => ⟨(HBC.out.cell (p := ⟨g, k, none⟩) (Nat.lt_of_lt_of_le HG.out.1 HBR.out.size)).trans (HGN.out hb).1, (HGN.out hb).2⟩
        clear hu HDR HGN hkeep hcc HK' hin x0 x1 x2 x3 x4 HBR HBC
        cases B with
        | true =>
          obtain ⟨hg1, hg2⟩ := HGN2.out rfl
          have hg2' : (k : Int) < T.length := by omega
          have hk0 : (0 : Int) ≤ (k : Int) := by omega
          have HSC' : Hid (cntB p (n + 1) = k + 1) := HSC.out
          clear HSC
          go_wp2_with fail
          go_roundw
          case rel => exact ⟨n + 1, by omega, by go_num, by rw [HSC'.out]; go_num, HBR2⟩
          case measure => simp [intOf]; omega
        | false =>
          have HSC' : Hid (cntB p (n + 1) = k) := HSC.out
          clear HSC
          go_wp2_with fail
          go_roundw
          case rel => exact ⟨n + 1, by omega, by go_num, by rw [HSC'.out], HBR2⟩
          case measure => simp [intOf]; omega
    · obtain rfl : n = 2050 := by omega
      rw [HEND.out]
      clear hcn
      go_wp2_with fail
      refine (HIS.out _ hin.bel).mono ?_
      rintro e w5 ⟨rfl, b5⟩
      have h5 := hin.below b5
      clear hin x0 x1 x2 x3 x4
      obtain ⟨x0, x1, x2, x3, x4⟩ : _ ∧ _ ∧ _ ∧ _ ∧ _ := ⟨h5.c0, h5.c1, h5.c2, h5.c3, h5.c4⟩
      go_wp2_with fail
      refine (HCN.out _ h5.bel).mono ?_
      rintro e w6 ⟨rfl, b6⟩
      go_wp2
      go_ret
      exact ⟨rfl, h5.bel.trans (b6.mono (Nat.le_of_lt h5.lt))⟩

end
end Go.Proofs.Ytkknglcckjhngaa
