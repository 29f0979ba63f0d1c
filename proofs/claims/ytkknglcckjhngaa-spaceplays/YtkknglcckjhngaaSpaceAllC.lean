/-
  The walk of space.All.
-/
import Derived.Test.YtkknglcckjhngaaSpaceCountC
import Derived.Deep.DeepAppendRoom
import Derived.OwnWalk
namespace Go.Proofs.Ytkknglcckjhngaa
open Go.RowKit
set_option linter.unusedVariables false

section
variable {p : SheetV} {a : Option Addr} {c : Nat} {w : World}

theorem infoPage : (Try.prog.info? 24).map (fun i => (i.zero, i.size, i.bytes)) = some (some (.int .u32 0), 1, 4) := by kernel_rfl

/-- Pages as values. -/
def pgL (L : List Nat) : List Value := L.map fun (n : Nat) => .int .u32 (n : Int)

/-- The pages that a page says are taken, up to k. -/
def tkPL (p : SheetV) (k : Nat) : List Nat := ((List.range k).map (· + 1)).filter (tkP p)

theorem tkPL_snoc (p : SheetV) (k : Nat) : tkPL p (k + 1) = tkPL p k ++ (if tkP p (k + 1) then [k + 1] else []) := by
  unfold tkPL
  rw [List.range_succ, List.map_append, List.filter_append]
  simp only [List.map_cons, List.map_nil, List.filter_cons, List.filter_nil]

theorem tkPL_mono (p : SheetV) (k m : Nat) : (tkPL p k).length ≤ (tkPL p (k + m)).length := by
  induction m with
  | zero => exact Nat.le_refl _
  | succ m ih => rw [← Nat.add_assoc, tkPL_snoc, List.length_append]; omega

theorem tkPL_map {p : SheetV} (h : isB p = true) (K : Nat) : tkPL p K = tkL (slot0 p) K := by
  unfold tkPL tkL
  apply List.filter_congr
  intro n _
  unfold tkP; rw [h]; rfl

theorem own_keep {w w' : World} {B : Nat} {e : TypeId} {z n : Nat} {v : Value} {xs : List Value} (h : w.ownsRow B e z v n xs) (k : Below w.heap.size w w') : w'.ownsRow B e z v n xs := by
  have hl := h.lt
  refine ⟨h.1, ?_⟩
  rcases h.2 with ⟨rfl, h1⟩ | ⟨g', cap, cur, rfl, h0, hb, hr⟩
  · exact .inl ⟨rfl, h1⟩
  · exact .inr ⟨g', cap, cur, rfl, h0, (k.block g' (hl g' rfl).2).trans hb, hr⟩

theorem tkPL_cnt' (p : SheetV) (K : Nat) (hK : K = 8 * 256) : (tkPL p K).length = cntP p := by
  unfold cntP
  by_cases c1 : isB p = true
  · rw [if_pos c1, tkPL_map c1, hK]
    exact tkL_len (slot0 p) 256 (Nat.le_refl _)
  · rw [if_neg c1]
    have c1' : isB p = false := by simpa using c1
    have : tkPL p K = [] := by
      unfold tkPL
      rw [List.filter_eq_nil_iff]
      intro n _
      unfold tkP; rw [c1']; simp
    rw [this]; rfl

theorem tkPL_cnt (p : SheetV) : (tkPL p 2048).length = cntP p := tkPL_cnt' p 2048 (by decide)

/-- Where All's loop stands: k pages were looked at. -/
structure AllAt (p : SheetV) (a : Option Addr) (c : Nat) (w wx : World) (g N k : Nat) : Prop where
  page : PageIn p a c w wx
  own : wx.ownsRow (w.heap.size + 1) 24 1 (.slice (some ⟨g, 0, none⟩) (tkPL p k).length N) (tkPL p k).length (pgL (tkPL p k))

set_option maxHeartbeats 1600000 in
set_option maxRecDepth 8000 in
theorem all_any (h : p.Lies w a) :
    Calls Try.prog 16 #[p.val a c] w fun e w' => ∃ g N, e = .returned (.slice (some ⟨g, 0, none⟩) (tkPL p 2048).length N) ∧ Below w.heap.size w w' ∧ w'.ownsRow (w.heap.size + 1) 24 1 (.slice (some ⟨g, 0, none⟩) (tkPL p 2048).length N) (tkPL p 2048).length (pgL (tkPL p 2048)) := by
  have HCN : Hid (∀ wx, Below w.heap.size w wx → Calls Try.prog 17 #[p.val a c] wx fun e w' => e = .returned (.int .i64 (cntP p)) ∧ Below wx.heap.size wx w') := fun wx k => count_any (h.below k)
  have HTK : Hid (∀ n : Nat, n < 4294967296 → ∀ wx, Below w.heap.size w wx → Calls Try.prog 15 #[p.val a c, .int .u32 n] wx fun e w' => e = .returned (.bool (tkP p n)) ∧ Below wx.heap.size wx w') := fun n hn wx k => taken_any (h.below k) n hn
  have HCT : Hid ((tkPL p 2048).length = cntP p) := tkPL_cnt p
  have hcl : cntP p ≤ 2048 := by unfold cntP; split; exact (by have := cntN_le (slot0 p) 256; omega); omega
  obtain ⟨i0, hi, hzz⟩ := Option.map_eq_some_iff.1 infoPage
  simp only [Prod.mk.injEq] at hzz
  obtain ⟨hz0, hz1, hz2⟩ := hzz
  obtain ⟨W, HW⟩ : ∃ W, Hid (W = boxP p a c w) := ⟨_, rfl⟩
  have hin : PageIn p a c w W := by rw [HW.out]; exact PageIn.start p a c w
  unfold boxP at HW
  clear h
  generalize cntP p = N at *
  unfold SheetV.val at HCN HTK ⊢
  go_enter Try.func16, Try.ntmps16
  go_wp2_with fail
  rw [← HW.out]
  clear HW
  refine (HCN.out _ hin.bel).mono ?_
  rintro e w1 ⟨rfl, b1⟩
  have h1 := hin.below b1
  clear b1 hin HCN
  have hw1 := h1.lt
  go_wp2_with (refine wpList_make_own _ rfl _ _ 52 rfl (w.heap.size + 1) 24 i0 (.int .u32 0) 1 Try.underlying52 hi hz0 hz1 .i64 .i64 _ N rfl rfl rfl (by rw [hz2]; omega) (by unfold maxLen; omega) (by omega) ?_)
  intro w2 hown hgrow
  have b2 : Below w1.heap.size w1 w2 := (Below.refl _ _).grown hgrow (Nat.le_refl _) (fun k hk => by cases hk)
  have HA0 : Hid (AllAt p a c w w2 w1.heap.size N 0) := ⟨h1.below b2, hown⟩
  clear hown hgrow b2
  generalize w1.heap.size = g at *
  clear h1
  go_wp2_with fail
  go_loopw [3, 4] (fun t i wr => ∃ k : Nat, k ≤ 2048 ∧ i = .int .u32 ((k + 1 : Nat) : Int) ∧ t = .slice (some ⟨g, 0, none⟩) (tkPL p k).length N ∧ Hid (AllAt p a c w wr g N k)) (fun _ i _ => 2049 - (intOf i).toNat)
  case atStart => exact ⟨0, Nat.zero_le _, rfl, rfl, HA0⟩
  case round =>
    obtain ⟨k, hk, hi4, rfl, HA⟩ := hrel
    clear HA0
    obtain ⟨n, Hn⟩ : ∃ n : Nat, Hid (k + 1 = n) := ⟨_, rfl⟩
    rw [Hn.out] at hi4
    subst hi4
    have hkn : k < n := by rw [← Hn.out]; omega
    have hnk : n ≤ k + 1 := by rw [← Hn.out]; exact Nat.le_refl _
    have hin := HA.out.page
    obtain ⟨x0, x1, x2, x3, x4⟩ : _ ∧ _ ∧ _ ∧ _ ∧ _ := ⟨hin.c0, hin.c1, hin.c2, hin.c3, hin.c4⟩
    by_cases hlt : k < 2048
    · have hlt' : (n : Int) ≤ 2048 := by omega
      have HSN : Hid (tkPL p n = tkPL p k ++ (if tkP p n then [n] else [])) := by have := tkPL_snoc p k; rw [Hn.out] at this; exact this
      have HK := HTK.out n (by omega)
      by_cases c2 : tkP p n = true
      · rw [c2] at HK HSN
        have HK' : Hid (∀ wx, Below w.heap.size w wx → Calls Try.prog 15 #[.agg #[.int .u32 p.num, .int .u64 p.lsn, .int .i64 p.kind, .string p.head, .slice a p.slots.length c], .int .u32 (n : Int)] wx fun e w' => e = .returned (.bool true) ∧ Below wx.heap.size wx w') := HK
        clear HK
        have hroom : (tkPL p k).length + 1 ≤ N := by
          rw [← HCT.out]
          have := tkPL_mono p n (2048 - n)
          rw [show n + (2048 - n) = 2048 from by omega, HSN.out] at this
          simpa using this
        go_wp2_with fail
        refine (HK'.out _ hin.bel).mono ?_
        rintro e w3 ⟨rfl, b3⟩
        have h3 := hin.below b3
        have hown3 := (own_keep HA.out.own b3).alloc (.cells #[.int .u32 (n : Int)] 24)
        clear HA hin x0 x1 x2 x3 x4 b3
        have hw3 := h3.lt
        have hnews : ∀ j u, ([.int .u32 (n : Int)] : List Value)[j]? = some u → (w3.alloc (.cells #[.int .u32 (n : Int)] 24)).cell? ((⟨w3.heap.size, 0, none⟩ : Addr).add j) = some u := fun j u hj => by
          match j, hj with
          | 0, hj => simp at hj; subst hj; simp [Addr.add]
        obtain ⟨M, HM⟩ : ∃ M, Hid ((tkPL p k).length = M) := ⟨_, rfl⟩
        rw [HM.out] at hroom hown3 ⊢
        go_wp2_with (at_builtin; refine wpList_append_own_spare _ rfl _ _ 52 rfl (w.heap.size + 1) 24 i0 1 Try.underlying52 hi hz1 g M N (pgL (tkPL p k)) rfl hown3 ⟨w3.heap.size, 0, none⟩ 1 1 [.int .u32 (n : Int)] rfl rfl hnews (by intro u hu; simp at hu; subst hu; rfl) hroom ?_)
        intro w4 hown4 hgrow4
        have b4 := (Below.refl (w.heap.size + 1) _).grown hgrow4 (by simp; omega) (fun k hk => by cases hk; exact (hown3.lt g rfl).1)
        have h4 : PageIn p a c w w4 := by
          have b5 : Below (w.heap.size + 1) w3 w4 := ((Below.refl _ _).alloc (by omega) _).trans b4
          have e := fun i => b5.cell (p := ⟨w.heap.size, i, none⟩) (by show w.heap.size < w.heap.size + 1; omega)
          exact ⟨h3.bel.trans (b5.mono (by omega)), Nat.lt_of_lt_of_le h3.lt b5.size, (e 0).trans h3.c0, (e 1).trans h3.c1, (e 2).trans h3.c2, (e 3).trans h3.c3, (e 4).trans h3.c4⟩
        have hL : (tkPL p n).length = M + 1 := by rw [HSN.out, List.length_append, HM.out]; rfl
        have HA4 : Hid (AllAt p a c w w4 g N n) := ⟨h4, by rw [hL, HSN.out]; unfold pgL at hown4 ⊢; rw [List.map_append]; exact hown4⟩
        have HL := hL.symm
        rw [HL]
        clear hown4 hgrow4 b4 h4 hown3 hnews h3 HM hroom hL
        go_wp2
        go_roundw
        case rel => exact ⟨n, by omega, by go_num, rfl, HA4⟩
        case measure => simp [intOf]; omega
      · have c2' : tkP p n = false := by simpa using c2
        rw [c2'] at HK HSN
        have HK' : Hid (∀ wx, Below w.heap.size w wx → Calls Try.prog 15 #[.agg #[.int .u32 p.num, .int .u64 p.lsn, .int .i64 p.kind, .string p.head, .slice a p.slots.length c], .int .u32 (n : Int)] wx fun e w' => e = .returned (.bool false) ∧ Below wx.heap.size wx w') := HK
        clear HK
        have hL : tkPL p n = tkPL p k := by rw [HSN.out]; simp
        have HL : Hid (tkPL p n = tkPL p k) := hL
        clear hL HSN
        go_wp2_with fail
        refine (HK'.out _ hin.bel).mono ?_
        rintro e w3 ⟨rfl, b3⟩
        have HA4 : Hid (AllAt p a c w w3 g N n) := ⟨hin.below b3, by rw [HL.out]; exact own_keep HA.out.own b3⟩
        clear b3 HA hin x0 x1 x2 x3 x4
        go_wp2
        go_roundw
        case rel => exact ⟨n, by omega, by go_num, by rw [HL.out], HA4⟩
        case measure => simp [intOf]; omega
    · obtain rfl : k = 2048 := by omega
      have hn' : ¬ (n : Int) ≤ 2048 := by omega
      go_wp2
      go_ret
      exact ⟨g, N, rfl, hin.bel, HA.out.own⟩

end
end Go.Proofs.Ytkknglcckjhngaa
