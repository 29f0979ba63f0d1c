/-
  The walks of girderlaw05's model: at, room, find, put.
-/
import Derived.Test.YthmhigjdjclckaaWalGetC
import Derived.Test.YthmhigjdjclckaaBase7C
import Derived.Deep.RegionLaw
import Derived.Deep.AppendLies
namespace Go.Proofs.Ythmhigjdjclckaa
open Go.RowKit
set_option linter.unusedVariables false

/-- A list of texts in memory. -/
def TextsAt (w : World) (a : Option Addr) (rs : List ByteArray) : Prop :=
  rs = [] ∨ ∃ g o, a = some ⟨g, o, none⟩ ∧ g < w.heap.size ∧ ∀ i, i < rs.length → w.cell? ⟨g, o + i, none⟩ = some (.string (rs.getD i ⟨#[]⟩))

theorem TextsAt.below {w w' : World} {a : Option Addr} {rs : List ByteArray} (h : TextsAt w a rs) (b : Below w.heap.size w w') : TextsAt w' a rs := by
  rcases h with h | ⟨g, o, e, hg, hc⟩
  · exact .inl h
  · exact .inr ⟨g, o, e, Nat.lt_of_lt_of_le hg b.size, fun i hi => (World.cell?_of_block (w := w) (a := ⟨g, o + i, none⟩) (b.block g hg)).trans (hc i hi)⟩

/-- What records are told. -/
def Sized (rs : List ByteArray) : Prop := placeOf rs rs.length ≤ 4194305

theorem placeOf_le (rs : List ByteArray) (h : Sized rs) (i : Nat) (hi : i ≤ rs.length) : placeOf rs i ≤ 4194305 := by
  have a := placeOf_mono rs hi
  unfold Sized at h
  omega

theorem infoU : (Try.prog.info? 32).map (fun i => (i.zero, i.size, i.bytes)) = some (some (.int .u64 0), 1, 8) := by kernel_rfl

/-- Places as cells. -/
def placeCells (rs : List ByteArray) (n : Nat) : List Value := (List.range n).map fun i => .int .u64 (placeOf rs i : Nat)

set_option maxHeartbeats 800000 in
set_option maxRecDepth 8000 in
theorem at_any (w : World) (a : Option Addr) (cap : Nat) (rs : List ByteArray) (sure kept mark : Int) (hT : TextsAt w a rs) (hs : Sized rs) (hn : rs.length ≤ 400000) :
    Calls Try.prog 30 #[.agg #[.slice a rs.length cap, .int .i64 sure, .int .i64 kept, .int .u64 mark]] w fun e w' => ∃ g c, e = .returned (.slice (some ⟨g, 0, none⟩) (rs.length + 1) c) ∧ Below w.heap.size w w' ∧
      (∀ i, i ≤ rs.length → w'.cell? ⟨g, i, none⟩ = some (.int .u64 (placeOf rs i : Nat))) := by
  obtain ⟨i0, hi, hz0, hz1, hz2⟩ := info_parts infoU
  have HT := hid hT
  have HS := hid hs
  clear hT hs
  go_enter Try.func30, Try.ntmps30
  go_wp2_with fail
  have hW1 : Below w.heap.size w (w.alloc (.cells #[.slice a rs.length cap, .int .i64 sure, .int .i64 kept, .int .u64 mark] 34)) := (Below.refl _ _).alloc (Nat.le_refl _) _
  have hb1 : Blk (w.alloc (.cells #[.slice a rs.length cap, .int .i64 sure, .int .i64 kept, .int .u64 mark] 34)) w.heap.size #[.slice a rs.length cap, .int .i64 sure, .int .i64 kept, .int .u64 mark] 34 := Blk.made _ _ _
  have hz1' : (w.alloc (.cells #[.slice a rs.length cap, .int .i64 sure, .int .i64 kept, .int .u64 mark] 34)).heap.size = w.heap.size + 1 := by simp
  generalize w.alloc (.cells #[.slice a rs.length cap, .int .i64 sure, .int .i64 kept, .int .u64 mark] 34) = W1 at *
  have HB1 := hid hb1
  have HW1 := hid hW1
  have HO : Hid ((W1.alloc (.cells #[.int .u64 1] 32)).ownsRow (w.heap.size + 1) 32 1 (.slice (some ⟨w.heap.size + 1, 0, none⟩) 1 1) 1 (placeCells rs 1)) := by
    refine ⟨rfl, .inr ⟨w.heap.size + 1, 1, #[.int .u64 1], rfl, Nat.le_refl _, ?_, Nat.le_refl _, by decide, rfl, rfl⟩⟩
    have := heap_alloc_new W1 (.cells #[.int .u64 1] 32)
    rw [hz1'] at this
    exact this
  have HQ : Hid (Below W1.heap.size W1 (W1.alloc (.cells #[.int .u64 1] 32))) := (Below.refl _ _).alloc (Nat.le_refl _) _
  clear hb1 hW1
  go_loopw [3, 4] (fun v x wr => ∃ k : Nat, k ≤ rs.length ∧ x = .int .i64 k ∧ Hid (wr.ownsRow (w.heap.size + 1) 32 1 v (k + 1) (placeCells rs (k + 1))) ∧ Hid (Below W1.heap.size W1 wr)) (fun _ x _ => rs.length - (intOf x).toNat)
  case atStart => exact ⟨0, Nat.zero_le _, rfl, HO, HQ⟩
  case round =>
    obtain ⟨k, hk, rfl, HV, HW⟩ := hrel
    clear HO HQ
    have hp1 : w.heap.size < W1.heap.size := by omega
    have hblk := HB1.out.same (HW.out.block w.heap.size hp1)
    have c0 : wr.cell? ⟨w.heap.size, 0, none⟩ = some (.slice a rs.length cap) := hblk.cell 0
    clear hblk
    obtain ⟨g, gc, hv⟩ : ∃ g gc, u3 = .slice (some ⟨g, 0, none⟩) (k + 1) gc := by
      rcases HV.out.2 with ⟨e1, e2⟩ | ⟨g, c, cur, e1, _⟩
      · omega
      · exact ⟨g, c, e1⟩
    subst hv
    by_cases hlt : k < rs.length
    · have hcg : wr.cell? ⟨g, k, none⟩ = some (.int .u64 (placeOf rs k : Nat)) := by
        have := HV.out.cells (g := g) rfl k (.int .u64 (placeOf rs k : Nat)) (by simp [placeCells])
        simpa [Addr.add_lit] using this
      obtain ⟨tg, tf, rfl, ct⟩ : ∃ tg tf, a = some ⟨tg, tf, none⟩ ∧ wr.cell? ⟨tg, tf + k, none⟩ = some (.string (rs.getD k ⟨#[]⟩)) := by
        have hT := HT.out.below (below_chain HW1.out HW.out)
        rcases hT with h | ⟨tg, tf, e, _, hc⟩
        · rw [h] at hlt; simp at hlt
        · exact ⟨tg, tf, e, hc k hlt⟩
      have hps := placeOf_le rs HS.out k hk
      have hsz : placeOf rs k + ((rs.getD k ⟨#[]⟩).size + 12) ≤ 4194305 := placeOf_le rs HS.out (k + 1) (by omega)
      have HP : Hid (placeOf rs (k + 1) = placeOf rs k + ((rs.getD k ⟨#[]⟩).size + 12)) := rfl
      generalize placeOf rs k = P at *
      generalize rs.getD k ⟨#[]⟩ = R at *
      have d1 : decide ((k : Int) < (rs.length : Int)) = true := by simp; omega
      have i1 : (0 : Int) ≤ (k : Int) := by omega
      have i2 : (k : Int) < (rs.length : Int) := by omega
      have i3 : (k : Int) < ((k + 1 : Nat) : Int) := by omega
      have i4 : (k : Int) < (k : Int) + 1 := by omega
      have q1 : IntKind.u64.wrap (R.size : Int) = (R.size : Int) := by rw [IntKind.wrap_u64]; omega
      have q2 : IntKind.u64.wrap ((P : Int) + (R.size : Int)) = (P : Int) + (R.size : Int) := by rw [IntKind.wrap_u64]; omega
      have q3 : IntKind.u64.wrap ((P : Int) + (R.size : Int) + 12) = (P : Int) + (R.size : Int) + 12 := by rw [IntKind.wrap_u64]; omega
      go_wp2_with fail
      have HO1 : Hid (((wr.alloc (.cells #[.int .u64 ((P : Int) + (R.size : Int) + 12)] 32)).drew).ownsRow (w.heap.size + 1) 32 1 (.slice (some ⟨g, 0, none⟩) (k + 1) gc) (k + 1) (placeCells rs (k + 1))) := by
        refine ⟨HV.out.1, ?_⟩
        rcases HV.out.2 with h | ⟨g', c', cur, e1, e2, e3, e4⟩
        · exact .inl h
        · exact .inr ⟨g', c', cur, e1, e2, (Below.heap_alloc _ _ g' (Array.getElem?_eq_some_iff.1 e3).1).trans e3, e4⟩
      have HN1 : Hid (∀ j u, [Value.int .u64 ((P : Int) + (R.size : Int) + 12)][j]? = some u → ((wr.alloc (.cells #[.int .u64 ((P : Int) + (R.size : Int) + 12)] 32)).drew).cell? ((⟨wr.heap.size, 0, none⟩ : Addr).add j) = some u) := World.news_of_block (w := (wr.alloc (.cells #[.int .u64 ((P : Int) + (R.size : Int) + 12)] 32)).drew) (heap_alloc_new wr _)
      have H1C : Hid (∀ u ∈ [Value.int .u64 ((P : Int) + (R.size : Int) + 12)], u.oneCell' = true) := by intro u hu; simp at hu; subst hu; rfl
      have hzr : w.heap.size + 1 ≤ wr.heap.size := by have := HW.out.size; omega
      go_region_law (refine step_append_lies _ (by rfl) _ _ 72 (by rfl) (w.heap.size + 1) 32 i0 _ 1 8 Try.underlying72 hi hz0 hz1 hz2 (by rfl) (by decide) (.slice (some ⟨g, 0, none⟩) (k + 1) gc) (k + 1) (placeCells rs (k + 1)) (by rfl) HO1.out ⟨wr.heap.size, 0, none⟩ 1 1 [.int .u64 ((P : Int) + (R.size : Int) + 12)] (by rfl) (by rfl) HN1.out H1C.out (by decide) (by unfold maxLen; omega) (by omega) (by simp; omega) _ (by rfl) ?_; intro g5 cap5 w5 hown5 hgrow5 hloc5 hlt5)
      all_goals
        have HV5 : Hid (w5.ownsRow (w.heap.size + 1) 32 1 (.slice (some ⟨g5, 0, none⟩) (k + 1 + 1) cap5) (k + 1 + 1) (placeCells rs (k + 1 + 1))) := by
          have e : placeCells rs (k + 1 + 1) = placeCells rs (k + 1) ++ [.int .u64 ((P : Int) + (R.size : Int) + 12)] := by
            unfold placeCells
            rw [List.range_succ (n := k + 1), List.map_append, List.map_singleton, HP.out]
            congr 3
          rw [e]
          exact hown5
        have HW5 : Hid (Below W1.heap.size W1 w5) := by
          have b1 : Below W1.heap.size W1 ((wr.alloc (.cells #[.int .u64 ((P : Int) + (R.size : Int) + 12)] 32)).drew) := (HW.out.alloc HW.out.size _).drew
          have hgl := (HV.out.lt g rfl).1
          refine ⟨hgrow5.os.trans b1.os, hgrow5.tape.trans b1.tape, hgrow5.output.trans b1.output, Nat.le_trans b1.size hgrow5.size, fun i hi' => ?_⟩
          refine (hgrow5.block i (Nat.lt_of_lt_of_le hi' b1.size) fun e => ?_).trans (b1.block i hi')
          have e' : i = g := Option.some.inj e
          omega
        clear hown5 hgrow5 hloc5 hlt5 HO1 HN1 H1C
        go_wp2_with fail
        exact ⟨⟨k + 1, by omega, by simp, HV5, HW5⟩, by simp [intOf]; omega⟩
    · obtain rfl : k = rs.length := by omega
      have hcg : ∀ i, i ≤ rs.length → wr.cell? ⟨g, i, none⟩ = some (.int .u64 (placeOf rs i : Nat)) := by
        intro i hi'
        have := HV.out.cells (g := g) rfl i (.int .u64 (placeOf rs i : Nat)) (by rw [placeCells, List.getElem?_map, List.getElem?_range (by omega)]; rfl)
        simpa [Addr.add_lit] using this
      have HC := hid hcg
      clear hcg
      go_wp2_with fail
      go_ret
      exact ⟨g, gc, rfl, below_chain HW1.out HW.out, HC.out⟩

end Go.Proofs.Ythmhigjdjclckaa
