/-
  Run of no log; girderlaw19.awake.
-/
import Derived.Test.YtchjboijoebifaaGreatAnDecC
set_option linter.unusedVariables false
set_option linter.unusedSimpArgs false
namespace Go.Proofs.YtchjboijoebifaaGreat
open Go.RowKit Go.Sort Go.Shelf Go.Lib

theorem run_nil (w : World) : Calls Tryz.prog 8 #[.pointer none] w fun e w' => e = .returned (.tuple #[.agg fdZero, .int .i64 1]) ∧ Below w.heap.size w w' := by
  go_enter Tryz.func8, Tryz.ntmps8
  go_wp2_with fail
  refine bodyPost_ret (v := .tuple #[.agg fdZero, .int .i64 1]) (by simp [results, Tryz.results8, go_sem, fdZero]) rfl ?_
  exact ⟨rfl, (Below.refl _ _).alloc (Nat.le_refl _) _⟩

def awR : RecV := ⟨1, 3, 0, 0, 5, ⟨2, 0, ⟨#[]⟩, ⟨#[]⟩⟩, 0, 0, ⟨#[]⟩, 0, 0, false, [], []⟩
def awI : RIn := ⟨awR, none, none, 0, 0⟩

theorem aw_may : mayR awR = true := by kernel_rfl
theorem aw_to : laidTo [awI] (min [awI].length 60) = ([textR awR], [refV 1 awR]) := by
  show stepL ([], []) awI = _
  unfold stepL
  rw [show mayR awI.r = true from aw_may]
  rfl
theorem aw_ok (w : World) : awI.Ok w :=
  ⟨⟨by decide, by decide, by decide, by decide, by decide, ⟨by decide, by decide, by decide, by decide⟩, by decide, by decide, by decide, by decide, by decide, by decide, by decide, .inl rfl, .inl rfl⟩, ⟨fun i hi => absurd hi (Nat.not_lt_zero _), fun i hi => absurd hi (Nat.not_lt_zero _)⟩⟩

theorem aw_T : Can keyT [(3, 1, 1, 1)] (heardTo [textR awR] (fun _ => awR) 0 1).T :=
  ((Can.nil (key := keyT)).ins (3, 1, 1, 1)).ext fun n => rfl
theorem aw_D : Can keyD [(5, 1)] (heardTo [textR awR] (fun _ => awR) 0 1).D :=
  ((Can.nil (key := keyD)).ins (5, 1)).ext fun n => rfl
theorem aw_most : (heardTo [textR awR] (fun _ => awR) 0 1).most = 3 := rfl

theorem aw_cells (w : World) (b : Nat) (t : TypeId) (h : BlkR w b awI.cells t) : InsAt w (some ⟨b, 0, none⟩) [awI] := by
  refine .inr ⟨b, 0, rfl, h.lt, fun i hi => ?_⟩
  have hi0 : i = 0 := by simp at hi; exact hi
  subst hi0
  refine ⟨fun j v hv => ?_, aw_ok w⟩
  rw [Nat.zero_mul, Nat.zero_add]
  rw [Array.getElem?_toList] at hv
  exact (h.cell j).trans hv

set_option maxHeartbeats 6400000 in
set_option maxRecDepth 20000 in
theorem awake19_any (w : World) : Calls Tryz.prog 7 #[] w fun e w' => e = .returned (.bool true) ∧ Below w.heap.size w w' := by
  obtain ⟨W, HW⟩ : ∃ W, Hid (W = w.alloc (.cells awI.cells 63)) := ⟨_, rfl⟩
  have bW : Below w.heap.size w W := by rw [HW.out]; exact (Below.refl _ _).alloc (Nat.le_refl _) _
  have hb : BlkR W w.heap.size awI.cells 63 := by rw [HW.out]; exact heap_alloc_new w _
  have HLD := hida (laid19_any [awI] (-1) (by omega) (some ⟨w.heap.size, 0, none⟩) 1 W (aw_cells W _ _ hb) (by simp))
  have HBW := hida bW
  have HC : Hid (awI.cells = #[.int .i64 1, .int .i64 3, .int .u64 0, .int .u64 0, .int .u32 5, .int .i64 2, .int .i64 0, .string ⟨#[]⟩, .string ⟨#[]⟩, .int .i64 0, .int .i64 0, .string ⟨#[]⟩, .int .u32 0, .int .i64 0, .bool false, .slice none 0 0, .slice none 0 0]) := rfl
  rw [HC.out] at HW
  clear bW hb HC
  go_enter Tryz.func7, Tryz.ntmps7
  go_wp2_with fail
  rw [← HW.out]
  refine HLD.out.mono ?_
  rintro e w1 ⟨q, A, mark, i0, j, v, v', X, rfl, hla, hj, hX, hXl, hX60, hpl, hmm⟩
  rw [aw_to] at hla
  have hnn : i0 = 0 ∧ mark = 0 ∧ v' = v := by
    rcases hmm with h | h
    · omega
    · exact h.2
  obtain ⟨rfl, rfl, rfl⟩ := hnn
  have HRN := hida (lg_run hla.lg (by omega) (fun _ => awR) (fun _ => true) 0 (Nat.zero_le _) (.inl ⟨rfl, rfl⟩) (fun i hi _ => by
    have hi0 : i = 0 := by simp at hi; exact hi
    subst hi0
    exact an_good aw_may (aw_ok w).wide (aw_ok w).ok) (fun i hi h => by cases h))
  have HB1 := hida (below_chain HBW.out hla.bel)
  clear HLD HW HBW hla hmm hX hXl hX60 hpl
  go_wp2_with fail
  refine HRN.out.mono ?_
  rintro e w2 hro
  obtain ⟨v1, v2, L1, L2, n, rfl, h1, h2, hn, o1, o2⟩ := hro.yes fun _ _ _ => rfl
  have e1 : L1 = [(3, 1, 1, 1)] := h1.same aw_T
  have e2 : L2 = [(5, 1)] := h2.same aw_D
  subst e1
  subst e2
  have HB2 := hida (below_chain HB1.out hro.bel)
  obtain ⟨g1, c1, cur1, rfl, _, hg1, _, _, hz1, ht1⟩ := o1.2.resolve_left (by intro h; have := h.2; simp at this)
  obtain ⟨a2, c2, hv2⟩ := owns_val7 o2
  subst hv2
  have k1 : w2.cell? ⟨g1, 0, none⟩ = some (.int .i64 3) := World.ownsRow.cellAt o1 0 (by simp)
  have hl1 : g1 < w2.heap.size := (World.ownsRow.lt o1 g1 rfl).2
  have hne : g1 ≠ w2.heap.size := by omega
  have hre : redoL (placeOf [textR awR] [textR awR].length) [(5, 1)] = 1 := rfl
  have hfd : fdCells (.slice (some ⟨g1, 0, none⟩) 1 c1) (.slice a2 1 c2) (redoL (placeOf [textR awR] [textR awR].length) [(5, 1)]) (heardTo [textR awR] (fun _ => awR) 0 ([textR awR].length - 0)) = #[.slice (some ⟨g1, 0, none⟩) 1 c1, .slice a2 1 c2, .int .u64 1, .int .i64 3, .int .i64 1] := rfl
  simp only [List.length_cons, List.length_nil, Nat.zero_add] at hfd ⊢
  rw [hfd]
  clear hro h1 h2 o1 o2 HRN HB1 hfd hre
  go_wp2_with fail
  go_ret
  exact ⟨rfl, HB2.out.alloc HB2.out.size _⟩

end Go.Proofs.YtchjboijoebifaaGreat
