/-
  The walk of AnalyzeWrong.
-/
import Derived.Test.YtchjboijoebifaaGreatAnDecJ
set_option linter.unusedVariables false
set_option linter.unusedSimpArgs false
namespace Go.Proofs.YtchjboijoebifaaGreat
open Go.RowKit Go.Sort Go.Shelf Go.Lib

theorem laid_more {RL : List RIn} {w wr : World} {q : Nat} {A : Nat → Prop} {sure j : Nat} {s : ByteArray} (hj : j ≤ 100) (hl : LgAt wr q A ((laidTo RL (min RL.length 60)).1 ++ [s]) sure 0 j) (hok : ∀ x ∈ RL, x.Ok w) {r : RecV} (B : Bool) (h1 : B = true → DecGood s r ∧ HrOk r) (h2 : B = false → DecBad s) :
    Calls Tryz.prog 8 #[.pointer (some ⟨q, 0, none⟩)] wr fun e w' => (B = true → ∃ a1 c1 n1 a2 c2 n2 re mo rc, e = .returned (.tuple #[.agg #[.slice a1 n1 c1, .slice a2 n2 c2, .int .u64 re, .int .i64 mo, .int .i64 rc], .int .i64 0])) ∧ (B = false → e = .returned (.tuple #[.agg fdZero, .int .i64 40])) ∧ Below wr.heap.size wr w' := by
  obtain ⟨rs, hrs⟩ : ∃ rs, (laidTo RL (min RL.length 60)).1 = rs := ⟨_, rfl⟩
  have hd := laid_dec (RL := RL) (n := min RL.length 60) (by omega) hok
  rw [hrs] at hl hd
  have hlen : (rs ++ [s]).length = rs.length + 1 := by simp
  have g1 : ∀ i, i < rs.length → (rs ++ [s]).getD i ⟨#[]⟩ = rs.getD i ⟨#[]⟩ := fun i hi => by
    rw [List.getD_eq_getElem?_getD, List.getD_eq_getElem?_getD, List.getElem?_append_left hi]
  refine (lg_run hl (by omega) (fun i => if i < rs.length then recN RL (min RL.length 60) i else r) (fun i => if i < rs.length then true else B) 0 (Nat.zero_le _) (.inl ⟨rfl, rfl⟩) (fun i hi hB => ?_) (fun i hi hB => ?_)).mono ?_
  · by_cases h : i < rs.length
    · rw [g1 i h]
      simp only [if_pos h]
      exact hd i h
    · have hi2 : i = rs.length := by rw [hlen] at hi; omega
      subst hi2
      simp only [if_neg h] at hB ⊢
      rw [getD_last]
      exact h1 hB
  · by_cases h : i < rs.length
    · simp only [if_pos h] at hB
      cases hB
    · have hi2 : i = rs.length := by rw [hlen] at hi; omega
      subst hi2
      simp only [if_neg h] at hB
      rw [getD_last]
      exact h2 hB
  · rintro e w' hro
    refine ⟨fun hB => ?_, fun hB => hro.no fun q => ?_, hro.bel⟩
    · obtain ⟨v1, v2, L1, L2, n, he, _, _, _, o1, o2⟩ := hro.yes fun i _ _ => by
        by_cases h : i < rs.length
        · simp only [if_pos h]
        · simp only [if_neg h]; exact hB
      obtain ⟨a1, c1, rfl⟩ := owns_val7 o1
      obtain ⟨a2, c2, rfl⟩ := owns_val7 o2
      exact ⟨a1, c1, _, a2, c2, _, _, _, _, he⟩
    · have := q rs.length (Nat.zero_le _) (by rw [hlen]; omega)
      simp only [Nat.lt_irrefl, if_false] at this
      rw [hB] at this
      cases this

set_option maxHeartbeats 6400000 in
set_option maxRecDepth 20000 in
theorem wrong19_any (RL : List RIn) (la : Option Addr) (lc : Nat) (s : ByteArray) (w : World) (hA : InsAt w la RL) (hlen : RL.length ≤ 9000000000000000) (hs : s.size ≤ 140737488351232) :
    Calls Tryz.prog 4 #[.slice la RL.length lc, .string s] w fun e w' => e = .returned (.bool true) ∧ Below w.heap.size w w' := by
  have HLD := hida (laid19_any RL (-1) (by omega) la lc w hA hlen)
  have HOK := hida hA.all
  have HS := hida hs
  clear hA hlen hs
  have HZ : Hid (fdZero = #[.slice none 0 0, .slice none 0 0, .int .u64 0, .int .i64 0, .int .i64 0]) := rfl
  go_enter Tryz.func4, Tryz.ntmps4
  go_wp2_with fail
  refine HLD.out.mono ?_
  rintro e w1 ⟨q, A, mark, i0, j, v, v', X, rfl, hla, hj, hX, hXl, hX60, hpl, hmm⟩
  have hnn : i0 = 0 ∧ mark = 0 ∧ v' = v := by
    rcases hmm with h | h
    · omega
    · exact h.2
  obtain ⟨rfl, rfl, rfl⟩ := hnn
  have HLA := hida hla
  have HPL := hida hpl
  clear HLD hla hmm hX hXl hX60 hpl
  go_wp2_with fail
  refine (run_nil w1).mono ?_
  rintro e w2 ⟨rfl, b2⟩
  rw [HZ.out]
  obtain ⟨W2, HW2⟩ : ∃ W2, Hid (W2 = w2.alloc (.cells #[.slice none 0 0, .slice none 0 0, .int .u64 0, .int .i64 0, .int .i64 0] 33)) := ⟨_, rfl⟩
  have bW2 : Below w2.heap.size w2 W2 := by rw [HW2.out]; exact (Below.refl _ _).alloc (Nat.le_refl _) _
  have HLA2 := hida ((HLA.out.below b2).below bW2)
  clear HLA b2 bW2
  go_upto_region 3 with fail
  rw [← HW2.out]
  clear HW2
  go_wp2_with fail
  refine (awake19_any W2).mono ?_
  rintro e w3 ⟨rfl, b3⟩
  have HLA3 := hida (HLA2.out.below b3)
  clear HLA2 b3
  by_cases h1 : s.size < 1
  · have d1 : decide ((s.size : Int) < 1) = true := decide_eq_true (by omega)
    go_wp2_with fail
    go_ret
    exact ⟨rfl, HLA3.out.bel⟩
  have d1 : decide ((s.size : Int) < 1) = false := decide_eq_false (by omega)
  by_cases h2 : 1000 < s.size
  · have d2 : decide ((1000 : Int) < (s.size : Int)) = true := decide_eq_true (by omega)
    go_wp2_with fail
    go_ret
    exact ⟨rfl, HLA3.out.bel⟩
  have d2 : decide ((1000 : Int) < (s.size : Int)) = false := decide_eq_false (by omega)
  have HAP := hida (lg_append HLA3.out.lg (by omega) s (by omega) (by omega) (by have := HPL.out; omega))
  go_wp2_with fail
  refine HAP.out.mono ?_
  rintro e w4 ⟨rfl, A4, hl4, mv4⟩
  have HLA4 := hida (HLA3.out.log hl4 mv4)
  clear HAP HLA3 hl4 mv4 HPL
  rcases an_any s HS.out with ⟨r, hg⟩ | hb
  · have HRN := hida (laid_more (by omega) HLA4.out.lg HOK.out (r := r) true (fun _ => hg) (fun h => by cases h))
    have HDC := hida hg.1
    go_wp2_with fail
    refine HRN.out.mono ?_
    rintro e w5 ⟨hy, _, b5⟩
    obtain ⟨a1, c1, n1, a2, c2, n2, re, mo, rc, rfl⟩ := hy (by trivial)
    have HLA5 := hida (HLA4.out.below b5)
    clear HRN HLA4 hy b5 hg
    obtain ⟨W5, HW5⟩ : ∃ W5, Hid (W5 = w5.alloc (.cells #[.slice a1 n1 c1, .slice a2 n2 c2, .int .u64 re, .int .i64 mo, .int .i64 rc] 33)) := ⟨_, rfl⟩
    have bW5 : Below w5.heap.size w5 W5 := by rw [HW5.out]; exact (Below.refl _ _).alloc (Nat.le_refl _) _
    have HLA6 := hida (HLA5.out.below bW5)
    clear HLA5 bW5
    go_upto_region 11 with fail
    rw [← HW5.out]
    clear HW5
    go_wp2_with fail
    refine (HDC.out W5).mono ?_
    rintro e w6 ⟨ta, da, tc, dc, rfl, b6, _, _⟩
    have HLA7 := hida (HLA6.out.below b6)
    clear HLA6 b6 HDC
    rw [show r.cells ta da tc dc = #[.int .i64 r.kind, .int .i64 r.tx, .int .u64 r.prev, .int .u64 r.next, .int .u32 r.page, .int .i64 r.op.kind, .int .i64 r.op.at', .string r.op.S, .string r.op.old, .int .i64 r.undo, .int .i64 r.index, .string r.key, .int .u32 r.rpage, .int .i64 r.rslot, .bool r.live, .slice ta r.txs.length tc, .slice da r.dirty.length dc] from rfl]
    have HB7 := hida (HLA7.out.bel)
    clear HLA7
    go_wp2_with fail
    go_ret
    exact ⟨rfl, HB7.out.alloc HB7.out.size _⟩
  · have HRN := hida (laid_more (by omega) HLA4.out.lg HOK.out (r := awR) false (fun h => by cases h) (fun _ => hb))
    have HDC := hida hb
    have HZC : Hid (zeroCellsR = #[.int .i64 0, .int .i64 0, .int .u64 0, .int .u64 0, .int .u32 0, .int .i64 0, .int .i64 0, .string ⟨#[]⟩, .string ⟨#[]⟩, .int .i64 0, .int .i64 0, .string ⟨#[]⟩, .int .u32 0, .int .i64 0, .bool false, .slice none 0 0, .slice none 0 0]) := rfl
    go_wp2_with fail
    refine HRN.out.mono ?_
    rintro e w5 ⟨_, hy, b5⟩
    rw [hy (by trivial)]
    rw [HZ.out]
    have HLA5 := hida (HLA4.out.below b5)
    clear HRN HLA4 hy b5 hb
    obtain ⟨W5, HW5⟩ : ∃ W5, Hid (W5 = w5.alloc (.cells #[.slice none 0 0, .slice none 0 0, .int .u64 0, .int .i64 0, .int .i64 0] 33)) := ⟨_, rfl⟩
    have bW5 : Below w5.heap.size w5 W5 := by rw [HW5.out]; exact (Below.refl _ _).alloc (Nat.le_refl _) _
    have kW5 : Blk W5 w5.heap.size #[.slice none 0 0, .slice none 0 0, .int .u64 0, .int .i64 0, .int .i64 0] 33 := by rw [HW5.out]; exact Blk.made _ _ _
    have HLA6 := hida (HLA5.out.below bW5)
    clear HLA5 bW5
    go_upto_region 11 with fail
    rw [← HW5.out]
    clear HW5
    have HK5 := hida kW5
    clear kW5
    go_wp2_with fail
    refine (HDC.out W5).mono ?_
    rintro e w6 ⟨rfl, b6⟩
    have HK6 := hida (HK5.out.same (b6.block _ HK5.out.lt))
    have HLA7 := hida (HLA6.out.below b6)
    clear HLA6 b6 HDC HK5
    rw [HZC.out]
    have HB7 := hida (HLA7.out.bel)
    clear HLA7
    have hlt := HK6.out.lt
    have hne : w5.heap.size ≠ w6.heap.size := by omega
    have z0 : w6.cell? ⟨w5.heap.size, 0, none⟩ = some (.slice none 0 0) := HK6.out.cell 0
    have z4 : w6.cell? ⟨w5.heap.size, 4, none⟩ = some (.int .i64 0) := HK6.out.cell 4
    go_wp2_with fail
    go_ret
    exact ⟨rfl, HB7.out.alloc HB7.out.size _⟩

end Go.Proofs.YtchjboijoebifaaGreat
