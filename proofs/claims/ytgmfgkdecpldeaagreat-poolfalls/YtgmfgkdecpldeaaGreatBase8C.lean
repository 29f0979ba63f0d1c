/-
  The walk of (*pool.Pool).Dirty; pool.New; what a nil pool answers.
  pool.New; what a nil pool answers.
  girderlaw06.begun and girderlaw06.awake.
  girderlaw06.awake.
  What a pool reads of a new disk on which both places of page 5 were spoilt.
  The walk of PoolNil.
-/
import Derived.Test.YtgmfgkdecpldeaaGreatBase7C
namespace Go.Proofs.YtgmfgkdecpldeaaGreat
open Go.RowKit Go.Sort Go.Shelf
set_option linter.unusedVariables false
set_option linter.unusedSimpArgs false

theorem infoDir : (Tryz.prog.info? 94).map (fun i => (i.zero, i.size, i.bytes)) = some (some (.agg #[.int .u32 0, .int .u64 0]), 2, 16) := by kernel_rfl

/-- The dirty ones of some pages. -/
def dirtyL (P : PG) (L : List Nat) : List (Nat × Nat) := L.filterMap fun n => if oldS P n = 0 then none else some (n, oldS P n)

def dcell (x : Nat × Nat) : List Value := [.int .u32 (x.1 : Int), .int .u64 (x.2 : Int)]

/-- Dirty pages in a row of their own. -/
def DrsAt (B : Nat) (w : World) (v : Value) (L : List (Nat × Nat)) : Prop := w.ownsRow B 94 2 v L.length (L.flatMap dcell)

theorem DrsAt.same {B : Nat} {w w' : World} {v : Value} {L : List (Nat × Nat)} (h : DrsAt B w v L) (k : ∀ g, v.ownBlock = some g → w'.heap[g]? = w.heap[g]?) : DrsAt B w' v L := by
  refine ⟨h.1, ?_⟩
  rcases h.2 with ⟨rfl, h1⟩ | ⟨g', cap, cur, rfl, h0, hb, hr⟩
  · exact .inl ⟨rfl, h1⟩
  · exact .inr ⟨g', cap, cur, rfl, h0, (k g' rfl).trans hb, hr⟩

theorem DrsAt.lt {B : Nat} {w : World} {v : Value} {L : List (Nat × Nat)} (h : DrsAt B w v L) : ∀ g, v.ownBlock = some g → B ≤ g ∧ g < w.heap.size := fun g hg => World.ownsRow.lt h g hg
theorem DrsAt.below {B : Nat} {w w' : World} {v : Value} {L : List (Nat × Nat)} (h : DrsAt B w v L) (k : Below w.heap.size w w') : DrsAt B w' v L := h.same fun g hg => k.block g (h.lt g hg).2
theorem DrsAt.val {B : Nat} {w : World} {v : Value} {L : List (Nat × Nat)} (h : DrsAt B w v L) : ∃ a c, v = .slice a L.length c := by
  rcases h.2 with ⟨rfl, h1⟩ | ⟨g', cap, cur, rfl, _⟩
  · exact ⟨none, 0, by rw [h1]⟩
  · exact ⟨_, _, rfl⟩

theorem dirtyL_succ (P : PG) (L : List Nat) (k : Nat) (hk : k < L.length) : dirtyL P (L.take (k + 1)) = dirtyL P (L.take k) ++ (if oldS P L[k] = 0 then [] else [(L[k], oldS P L[k])]) := by
  unfold dirtyL
  rw [List.take_succ_eq_append_getElem hk, List.filterMap_append]
  congr 1
  by_cases e : oldS P L[k] = 0 <;> simp [e]

/-- What a look-up of one's since tells. -/
theorem PoolAt.since {w : World} {p fb : Nat} {pv : Value} {M : DataW Value} {S : Nat → Prop} {P : PG} (h : PoolAt w p fb pv M S P) {n : Nat} (hn : n < 4294967296) :
    ∃ (g : FrV) (ga : Option Addr) (gc : Nat), (∀ w', Below w.heap.size w w' → (Instr.lookup 110 (.map (some fb)) (.int .u32 n) false).run Tryz.prog w' = .ok (.agg #[.int .u32 g.sh.num, .int .u64 g.sh.lsn, .int .i64 g.sh.kind, .string g.sh.head, .slice ga g.sh.slots.length gc, .int .u64 g.since]) w') ∧
      g.since = oldS P n ∧ g.since < 18446744073709551616 ∧ (∀ f, P.F n = some f → g = f ∧ StrsIn S w ga f.sh.slots) := by
  cases e : P.F n with
  | none =>
    refine ⟨⟨sheet0, 0⟩, none, 0, fun w' hb => ?_, by simp only [oldS, e], by show (0 : Nat) < _; omega, fun f hf => by cases hf⟩
    have hl := (h.below hb).map.look pageKeyed Tryz.underlying110 (frameZero w') (keyL_key hn)
    rw [getV_none (h.frs.no n hn e)] at hl
    exact hl
  | some f =>
    obtain ⟨h1, ⟨a, c, ev, hm⟩, _, _, h5⟩ := h.frs.yes n f hn e
    refine ⟨f, a, c, fun w' hb => ?_, by simp only [oldS, e], h5, fun g hg => by cases hg; exact ⟨rfl, hm⟩⟩
    have hl' := (h.below hb).map.look pageKeyed Tryz.underlying110 (frameZero w') (keyL_key hn)
    rw [ev] at hl'
    exact hl'

theorem fieldSince (v0 v1 v2 v3 v4 : Value) (x : Int) (wx : World) : (Instr.field 108 (.agg #[v0, v1, v2, v3, v4, .int .u64 x]) 1).run Tryz.prog wx = .ok (.int .u64 x) wx := by
  first
    | (simp [Instr.field, run_underlying Tryz.underlying108, go_sem]; done)
    | kernel_rfl

/-- Where the loop of Dirty stands. -/
structure DyAt (w wr : World) (p fb : Nat) (pv : Value) (M : DataW Value) (S : Nat → Prop) (P : PG) (nv v : Value) (NL : List Nat) (k : Nat) : Prop where
  bel : Below w.heap.size w wr
  pool : PoolAt wr p fb pv M S P
  nums : PgsAt w.heap.size wr nv NL
  own : DrsAt w.heap.size wr v (dirtyL P (NL.take k))

set_option maxHeartbeats 3200000 in
set_option maxRecDepth 20000 in
theorem dirty_any {w : World} {p fb : Nat} {pv : Value} {M : DataW Value} {S : Nat → Prop} {P : PG} (h : PoolAt w p fb pv M S P) (hz : P.z ≤ 12) :
    Calls Tryz.prog 30 #[.pointer (some ⟨p, 0, none⟩)] w fun e w' => ∃ v NL, e = .returned v ∧ DrsAt w.heap.size w' v (dirtyL P NL) ∧ NumsOf P NL ∧ Below w.heap.size w w' := by
  obtain ⟨i0, hi, hzz⟩ := Option.map_eq_some_iff.1 infoDir
  simp only [Prod.mk.injEq] at hzz
  obtain ⟨hz0, hz1, hz2⟩ := hzz
  have HN := hid (numbers_any h hz)
  have HT := hid h
  have hlt := h.lt p h.sp
  clear h
  go_enter Tryz.func30, Tryz.ntmps30
  go_wp2_with fail
  refine HN.out.mono ?_
  rintro e w1 ⟨v1, NL, rfl, hv1, hn1, b1⟩
  have HD0 : Hid (DyAt w w1 p fb pv M S P v1 (.slice none 0 0) NL 0) := ⟨b1, HT.out.below b1, hv1, by simp [dirtyL]; exact ⟨rfl, .inl ⟨rfl, rfl⟩⟩⟩
  have HNO := hid hn1
  have hlen := hn1.len
  obtain ⟨va, vc, hva, hvr⟩ : ∃ va vc, v1 = .slice va NL.length vc ∧ (NL = [] ∨ ∃ g, va = some ⟨g, 0, none⟩ ∧ NL.length ≤ vc ∧ vc ≤ 9223372036854775807) := by
    rcases hv1.2 with ⟨e, e1⟩ | ⟨g', cap, cur, e, h0, hb, hn, hm, _⟩
    · exact ⟨none, 0, by rw [e, e1], .inl (List.eq_nil_of_length_eq_zero e1)⟩
    · exact ⟨_, _, e, .inr ⟨g', rfl, hn, by unfold maxLen at hm; omega⟩⟩
  subst hva
  have HVR := hid hvr
  clear hv1 b1 hn1 HN hvr
  go_wp2_with fail
  go_loopw [3, 10] (fun v i wr => ∃ k : Nat, k ≤ NL.length ∧ i = .int .i64 k ∧ Hid (DyAt w wr p fb pv M S P (.slice va NL.length vc) v NL k)) (fun _ i _ => NL.length - (intOf i).toNat)
  case atStart => exact ⟨0, by omega, rfl, HD0⟩
  case round =>
    clear HD0
    obtain ⟨k, hk, rfl, HD⟩ := hrel
    by_cases hklt : k < NL.length
    · obtain ⟨n, HNK⟩ : ∃ n, Hid (n = NL[k]) := ⟨NL[k], rfl⟩
      have hrng := HNO.out.rng n (by rw [HNK.out]; exact List.getElem_mem _)
      obtain ⟨g, rfl, hvc1, hvc2⟩ : ∃ g, va = some ⟨g, 0, none⟩ ∧ NL.length ≤ vc ∧ vc ≤ 9223372036854775807 := by
        rcases HVR.out with e | e
        · rw [e] at hklt; simp at hklt
        · exact e
      have hcell : wr.cell? ⟨g, k, none⟩ = some (.int .u32 n) := by
        rcases HD.out.nums.2 with ⟨e, _⟩ | ⟨g', cap, cur, e, h0, hb, hn, hm, hs, ht⟩
        · cases e
        · simp only [Value.slice.injEq, Option.some.injEq, Addr.mk.injEq] at e
          obtain ⟨⟨rfl, _, _⟩, _, _⟩ := e
          have := (pgRow_of hb ht).2 k hklt
          rw [this.1, HNK.out]
          simp [Array.getD, hklt]
      obtain ⟨f, fa, fc, hlook, hold, h64, _⟩ := HD.out.pool.since (n := n) (by omega)
      have hl1 := hlook wr (Below.refl _ _)
      have hf1 := fieldSince
      have c3 := HD.out.pool.cells.c3
      have HOLD := hid hold
      have HSU := hid (dirtyL_succ P NL k hklt)
      rw [← HNK.out] at HSU
      rw [← hold] at HSU
      clear hlook hold
      have hdl : (dirtyL P (NL.take k)).length ≤ k := by
        unfold dirtyL
        exact Nat.le_trans (List.length_filterMap_le _ _) (by simp; omega)
      by_cases hs : f.since = 0
      · have hs' : (f.since : Int) = 0 := by omega
        go_wp2_with fail
        go_roundw
        case rel =>
          refine ⟨k + 1, by omega, by go_num, HD.out.bel, HD.out.pool, HD.out.nums, ?_⟩
          rw [HSU.out, if_pos hs, List.append_nil]
          exact HD.out.own
        case measure => simp [intOf]; omega
      · have hs' : ¬ (f.since : Int) = 0 := by omega
        have hown : (wr.alloc (.cells #[.int .u32 n, .int .u64 f.since] 94)).ownsRow w.heap.size 94 2 u3 (dirtyL P (NL.take k)).length ((dirtyL P (NL.take k)).flatMap dcell) := HD.out.own.below ((Below.refl _ _).alloc (Nat.le_refl _) _)
        have hbs := HD.out.bel.size
        go_wp2_with (at_builtin; refine wpList_append_own_at _ rfl _ _ 76 rfl w.heap.size 94 i0 _ 2 16 Tryz.underlying76 hi hz0 hz1 hz2 rfl (by decide) u3 (dirtyL P (NL.take k)).length ((dirtyL P (NL.take k)).flatMap dcell) rfl hown ⟨wr.heap.size, 0, none⟩ 1 1 [.int .u32 n, .int .u64 f.since] rfl rfl (by intro j u hj; match j, hj with | 0, hj => (simp at hj; subst hj; simp [Addr.add]) | 1, hj => (simp at hj; subst hj; simp [Addr.add])) (by intro u hu; simp at hu; rcases hu with rfl | rfl <;> rfl) (by unfold maxLen; omega) (by omega) (by simp; omega) ?_; intro v' w4 hown4 hgrow4 hnil4 hloc4)
        have bel4 : Below w.heap.size w w4 := (HD.out.bel.alloc hbs (.cells #[.int .u32 n, .int .u64 f.since] 94)).grown hgrow4 (by simp; omega) (fun k hk => (HD.out.own.lt k hk).1)
        have bal : Below wr.heap.size wr (wr.alloc (.cells #[.int .u32 n, .int .u64 f.since] 94)) := (Below.refl _ _).alloc (Nat.le_refl _) _
        have HD4 : Hid (DyAt w w4 p fb pv M S P (.slice (some ⟨g, 0, none⟩) NL.length vc) v' NL (k + 1)) := by
          refine ⟨bel4, HT.out.below bel4, ?_, ?_⟩
          · refine (HD.out.nums.below bal).same fun g' hg' => hgrow4.block g' (HD.out.nums.below bal |>.lt g' hg').2 fun e => ?_
            have hb1 := owns_block (owns_zero HD.out.nums) hg'
            have hb2 := owns_block (owns_zero HD.out.own) e.symm
            obtain ⟨cu1, hb1⟩ := hb1
            obtain ⟨cu2, hb2⟩ := hb2
            unfold Blk at hb1 hb2
            rw [hb1] at hb2
            simp only [Option.some.injEq, Obj.cells.injEq] at hb2
            exact absurd hb2.2.1 (by decide)
          · rw [HSU.out, if_neg hs]
            unfold DrsAt
            rw [List.length_append, List.flatMap_append]
            simpa [dcell] using hown4
        clear hown4 hgrow4 hnil4 hloc4 hown bel4 bal HD
        go_roundw
        case rel => exact ⟨k + 1, by omega, by go_num, HD4⟩
        case measure => simp [intOf]; omega
    · have hke : k = NL.length := by omega
      subst hke
      go_wp2
      go_ret
      refine ⟨_, NL, rfl, ?_, HNO.out, HD.out.bel⟩
      have := HD.out.own
      rw [List.take_length] at this
      exact this

end Go.Proofs.YtgmfgkdecpldeaaGreat

namespace Go.Proofs.YtgmfgkdecpldeaaGreat
open Go.RowKit Go.Sort Go.Shelf
set_option linter.unusedVariables false
set_option linter.unusedSimpArgs false

/-- A new pool. -/
def pool0 (dp lp most : Nat) : PG := ⟨dp, lp, most, fun _ => none, 0, [], 0, 0⟩

set_option maxHeartbeats 800000 in
theorem pnew_ok (w : World) (dp lp most : Nat) (h1 : 4 ≤ most) (h2 : most ≤ 256) :
    Calls Tryz.prog 20 #[.pointer (some ⟨dp, 0, none⟩), .pointer (some ⟨lp, 0, none⟩), .int .i64 most] w fun e w' => ∃ p S, e = .returned (.tuple #[.pointer (some ⟨p, 0, none⟩), .int .i64 0]) ∧ IsPool w' p S (pool0 dp lp most) ∧ (∀ k, S k → w.heap.size ≤ k) ∧ Below w.heap.size w w' := by
  have hmm := @run_makeMap Tryz.prog
  have h1' : (4 : Int) ≤ most := by omega
  have h2' : (most : Int) ≤ 256 := by omega
  go_enter Tryz.func20, Tryz.ntmps20
  go_wp2
  go_ret2
  refine ⟨w.heap.size + 1, fun k => k = w.heap.size ∨ k = w.heap.size + 1, rfl, ⟨w.heap.size, .slice none 0 0, .map [], ⟨?_, ?_, ⟨fun n _ _ => rfl, (fun n f _ e => by cases e), (fun l hl => by cases hl)⟩, ⟨none, 0, rfl, Nat.le_refl _, by unfold maxLen; omega, .inl rfl⟩, .inr rfl, .inl rfl, (fun b e => by cases e), (fun b e => by cases e), ?_⟩⟩, (by rintro k (e | e) <;> omega), ((Below.refl _ _).alloc (Nat.le_refl _) _).alloc (by simp) _⟩
  · have h := Blk.made (w.alloc (.map #[] 0)) (pvals w.heap.size (.slice none 0 0) (pool0 dp lp most)) 112
    have e : (w.alloc (.map #[] 0)).heap.size = w.heap.size + 1 := by simp
    rw [e] at h
    exact h
  · exact (MapV.made 54 w).same (heap_old _ _ (by simp))
  · rintro k (e | e)
    · simp; omega
    · simp; omega

theorem pnew_arg (w : World) (dv lv : Value) (most : Int) (h0 : -9223372036854775808 ≤ most) (h00 : most ≤ 9223372036854775807) (hd : dv = .pointer none ∨ ∃ b, dv = .pointer (some ⟨b, 0, none⟩)) (hl : lv = .pointer none ∨ ∃ b, lv = .pointer (some ⟨b, 0, none⟩)) (h : dv = .pointer none ∨ lv = .pointer none ∨ most < 4 ∨ 256 < most) :
    Calls Tryz.prog 20 #[dv, lv, .int .i64 most] w fun e w' => e = .returned (.tuple #[.pointer none, .int .i64 1]) ∧ w' = w := by
  rcases hd with rfl | ⟨b, rfl⟩
  · go_enter Tryz.func20, Tryz.ntmps20
    go_wp2
    go_ret2
    exact ⟨rfl, rfl⟩
  · rcases hl with rfl | ⟨b', rfl⟩
    · go_enter Tryz.func20, Tryz.ntmps20
      go_wp2
      go_ret2
      exact ⟨rfl, rfl⟩
    · have h' : most < 4 ∨ 256 < most := by
        rcases h with h | h | h
        · cases h
        · cases h
        · exact h
      by_cases h4 : most < 4
      · go_enter Tryz.func20, Tryz.ntmps20
        go_wp2
        go_ret2
        exact ⟨rfl, rfl⟩
      · have h5 : 256 < most := by omega
        go_enter Tryz.func20, Tryz.ntmps20
        go_wp2
        go_ret2
        exact ⟨rfl, rfl⟩

section
variable (w : World)

theorem nil_picks : Calls Tryz.prog 25 #[.pointer none, .slice none 0 0] w fun e w' => e = .returned (.tuple #[]) ∧ w' = w := by
  go_enter Tryz.func25, Tryz.ntmps25
  go_wp2
  refine bodyPost_ret (results_none rfl _ _ _) rfl ?_
  exact ⟨rfl, rfl⟩

theorem nil_get (n : Nat) : Calls Tryz.prog 21 #[.pointer none, .int .u32 n] w fun e w' => e = .returned (.tuple #[.agg #[.int .u32 0, .int .u64 0, .int .i64 0, .string ⟨#[]⟩, .slice none 0 0], .int .i64 1]) ∧ Below w.heap.size w w' := by
  go_enter Tryz.func21, Tryz.ntmps21
  go_wp2
  refine bodyPost_ret (v := .tuple #[.agg #[.int .u32 0, .int .u64 0, .int .i64 0, .string ⟨#[]⟩, .slice none 0 0], .int .i64 1]) (by simp [results, Tryz.results21, go_sem]) rfl ?_
  exact ⟨rfl, (Below.refl _ _).alloc (Nat.le_refl _) _⟩

theorem nil_counts : Calls Tryz.prog 26 #[.pointer none] w fun e w' => e = .returned (.tuple #[.int .i64 0, .int .i64 0]) ∧ w' = w := by
  go_enter Tryz.func26, Tryz.ntmps26
  go_wp2
  go_ret2
  exact ⟨rfl, rfl⟩

theorem nil_put (v0 v1 v2 v3 v4 : Value) : Calls Tryz.prog 15 #[.pointer none, .agg #[v0, v1, v2, v3, v4]] w fun e w' => e = .returned (.int .i64 1) ∧ Below w.heap.size w w' := by
  go_enter Tryz.func15, Tryz.ntmps15
  go_wp2
  go_ret
  exact ⟨rfl, (Below.refl _ _).alloc (Nat.le_refl _) _⟩

theorem nil_write (n : Nat) : Calls Tryz.prog 16 #[.pointer none, .int .u32 n] w fun e w' => e = .returned (.int .i64 1) ∧ w' = w := by
  go_enter Tryz.func16, Tryz.ntmps16
  go_wp2
  go_ret
  exact ⟨rfl, rfl⟩

theorem nil_writeAll : Calls Tryz.prog 27 #[.pointer none] w fun e w' => e = .returned (.int .i64 1) ∧ w' = w := by
  go_enter Tryz.func27, Tryz.ntmps27
  go_wp2
  go_ret
  exact ⟨rfl, rfl⟩

theorem nil_has (n : Nat) : Calls Tryz.prog 29 #[.pointer none, .int .u32 n] w fun e w' => e = .returned (.bool false) ∧ w' = w := by
  go_enter Tryz.func29, Tryz.ntmps29
  go_wp2
  go_ret
  exact ⟨rfl, rfl⟩

theorem nil_drop (n : Nat) : Calls Tryz.prog 28 #[.pointer none, .int .u32 n] w fun e w' => e = .returned (.bool false) ∧ w' = w := by
  go_enter Tryz.func28, Tryz.ntmps28
  go_wp2_with fail
  refine (nil_has _ n).mono ?_
  rintro e w1 ⟨rfl, rfl⟩
  go_wp2
  go_ret
  exact ⟨rfl, rfl⟩

theorem nil_numbers : Calls Tryz.prog 31 #[.pointer none] w fun e w' => e = .returned (.slice none 0 0) ∧ w' = w := by
  go_enter Tryz.func31, Tryz.ntmps31
  go_wp2
  go_ret
  exact ⟨rfl, rfl⟩

theorem nil_dirty : Calls Tryz.prog 30 #[.pointer none] w fun e w' => e = .returned (.slice none 0 0) ∧ w' = w := by
  go_enter Tryz.func30, Tryz.ntmps30
  go_wp2_with fail
  refine (nil_numbers _).mono ?_
  rintro e w1 ⟨rfl, rfl⟩
  go_wp2_with fail
  go_loopw [3, 10] (fun v i wr => v = .slice none 0 0 ∧ i = .int .i64 0 ∧ wr = w1) (fun _ _ _ => 0)
  case atStart => exact ⟨rfl, rfl, rfl⟩
  case round =>
    obtain ⟨rfl, rfl, rfl⟩ := hrel
    go_wp2
    go_ret
    exact ⟨rfl, rfl⟩

theorem nil_log : Calls Tryz.prog 32 #[.pointer none] w fun e w' => e = .returned (.pointer none) ∧ w' = w := by
  go_enter Tryz.func32, Tryz.ntmps32
  go_wp2
  go_ret
  exact ⟨rfl, rfl⟩

theorem nil_disk : Calls Tryz.prog 33 #[.pointer none] w fun e w' => e = .returned (.pointer none) ∧ w' = w := by
  go_enter Tryz.func33, Tryz.ntmps33
  go_wp2
  go_ret
  exact ⟨rfl, rfl⟩

end

end Go.Proofs.YtgmfgkdecpldeaaGreat

namespace Go.Proofs.YtgmfgkdecpldeaaGreat
open Go.RowKit Go.Sort Go.Shelf
set_option linter.unusedVariables false
set_option linter.unusedSimpArgs false

/-- What begun hands back. -/
structure BgOut (w : World) (room most : Nat) (e : Ending) (w' : World) : Prop where
  out : ∃ dp lp p A, e = .returned (.tuple #[.pointer (some ⟨dp, 0, none⟩), .pointer (some ⟨lp, 0, none⟩), .pointer (some ⟨p, 0, none⟩)]) ∧ Sys w' p A (pool0 dp lp most) (log0 dp) (newD room) ∧ (∀ k, A k → w.heap.size ≤ k) ∧ Below w.heap.size w w'

set_option maxHeartbeats 800000 in
theorem begun_any (w : World) (room most : Nat) (h1 : 8 ≤ room) (h2 : room ≤ 2048) (h3 : 4 ≤ most) (h4 : most ≤ 256) :
    Calls Tryz.prog 8 #[.int .i64 room, .int .i64 most] w (BgOut w room most) := by
  go_enter Tryz.func8, Tryz.ntmps8
  go_wp2_with fail
  refine (wnew_out w room h1 h2).mono ?_
  rintro e w1 ⟨dp, rfl, ⟨D, hD, hDn⟩, b1⟩
  go_wp2_with fail
  refine (open_out hD rfl (by show 0 ≤ _; omega) (by show (scan ⟨#[]⟩ (0 + 1) 0).2 = 0; rw [scan_none])).mono ?_
  rintro e w2 ⟨lp, rfl, ⟨L, hL, hLn⟩, b2⟩
  rw [openL_new] at hL
  go_wp2_with fail
  refine (pnew_ok w2 dp lp most h3 h4).mono ?_
  rintro e w3 ⟨p, S, rfl, hP, hSn, b3⟩
  go_wp2_with fail
  have z1 := b1.size
  have z2 := b2.size
  have hD3 := (hD.below b2).below b3
  have hL3 := hL.below b3
  refine bodyPost_ret (v := .tuple #[.pointer (some ⟨dp, 0, none⟩), .pointer (some ⟨lp, 0, none⟩), .pointer (some ⟨p, 0, none⟩)]) (by simp [results, Tryz.results8, go_sem]) rfl ?_
  refine ⟨⟨dp, lp, p, fun k => S k ∨ L k ∨ D k, rfl, ⟨⟨S, L, D, hP, hL3, hD3, ?_, ?_, ?_, fun _ x => x⟩, rfl, ?_⟩, ?_, below_chain (below_chain b1 b2) b3⟩⟩
  · intro k x y
    have := hSn k x
    have := hL.lt y
    omega
  · intro k x y
    have := hSn k x
    have := (hD.below b2).lt y
    omega
  · intro k x y
    have := hLn k x
    have := hD.lt y
    omega
  · rintro k (x | x | x)
    · exact hP.lt x
    · exact hL3.lt x
    · exact hD3.lt x
  · rintro k (x | x | x)
    · have := hSn k x; omega
    · have := hLn k x; omega
    · exact hDn k x

/-- A step of the log alone. -/
theorem Sys.log {w : World} {p : Nat} {A : Nat → Prop} {P : PG} {l : LG} {d : DG} (h : Sys w p A P l d) : ∃ L, IsLog w P.lp L l ∧ (∀ k, L k → A k) ∧ ∀ w' L' l', IsLog w' P.lp L' l' → l'.dp = l.dp → Moves L L' w w' → ∃ A', Sys w' p A' P l' d ∧ Moves A A' w w' := by
  obtain ⟨⟨S, L, D, hP, hL, hD, g4, g5, g6, g7⟩, g8, g9⟩ := h
  refine ⟨L, hL, fun k x => g7 k (.inr (.inl x)), fun w' L' l' hL' hdp hm => ?_⟩
  have kP := hP.beside hm g4
  have kD := hD.beside hm fun k x y => g6 k y x
  refine ⟨fun k => S k ∨ L' k ∨ D k, ⟨⟨S, L', D, kP.1, hL', kD.1, kP.2, g5, fun k x y => kD.2 k y x, fun _ x => x⟩, hdp.trans g8, ?_⟩, hm.1.mono fun k x => g7 k (.inr (.inl x)), ?_⟩
  · rintro k (x | x | x)
    · exact kP.1.lt x
    · exact hL'.lt x
    · exact kD.1.lt x
  · rintro k (x | x | x)
    · exact .inl (g7 k (.inl x))
    · rcases hm.2 k x with y | y
      · exact .inl (g7 k (.inr (.inl y)))
      · exact .inr y
    · exact .inl (g7 k (.inr (.inr x)))

/-- Append, the pool beside it. -/
theorem sys_append {w : World} {p : Nat} {A : Nat → Prop} {P : PG} {l : LG} {d : DG} (h : Sys w p A P l d) (hb : l.bytes.length ≤ 4194304) (hn : l.starts.length ≤ 10000000) (hk : l.kept ≤ 4194304) (s : ByteArray) (h1 : 1 ≤ s.size) (h2 : s.size ≤ 8192) (hm : s.size + 12 + l.kept + l.bytes.length ≤ 4194304) :
    Calls Tryz.prog 14 #[.pointer (some ⟨P.lp, 0, none⟩), .string s] w fun e w' => e = .returned (.tuple #[.int .u64 ((l.bytes.length + 1 : Nat) : Int), .int .i64 0]) ∧ ∃ A', Sys w' p A' P (putG l s) d ∧ Moves A A' w w' := by
  obtain ⟨L, hL, _, hstep⟩ := h.log
  refine (append_out hL hb hn hk s h1 h2 hm).mono ?_
  rintro e w' ⟨rfl, L', hL', hm'⟩
  exact ⟨rfl, hstep w' L' _ hL' rfl hm'⟩

theorem nums_one {P : PG} {NL : List Nat} (h : NumsOf P NL) {m : Nat} (hm : m < 4294967296) (hF : ∀ n, P.F n ≠ none ↔ n = m) : NL = [m] := by
  have h1 : m ∈ NL := (h.mem m hm).2 ((hF m).2 rfl)
  have h2 : ∀ n ∈ NL, n = m := fun n hn => (hF n).1 ((h.mem n (by have := h.rng n hn; omega)).1 hn)
  match NL, h.nd, h1, h2 with
  | [], _, h1, _ => simp at h1
  | [a], _, h1, _ => simp at h1; rw [h1]
  | a :: b :: L, hd, _, h2 =>
    have ha := h2 a (by simp)
    have hb := h2 b (by simp)
    rw [ha, hb] at hd
    simp at hd

end Go.Proofs.YtgmfgkdecpldeaaGreat

namespace Go.Proofs.YtgmfgkdecpldeaaGreat
open Go.RowKit Go.Sort Go.Shelf
set_option linter.unusedVariables false
set_option linter.unusedSimpArgs false

/-- The page that awake puts. -/
def aSheet : SheetV := ⟨3, 1, 2, ⟨#[]⟩, [⟨#[120]⟩]⟩
theorem aSheet_fits : aSheet.Fits := ⟨by decide, by decide, by decide, by decide, by decide, by decide, by decide⟩

theorem Sys.poolAt {W : World} {p : Nat} {A : Nat → Prop} {P : PG} {l : LG} {d : DG} (h : Sys W p A P l d) : ∃ fb pv M S, PoolAt W p fb pv M S P := by
  obtain ⟨⟨S, L, D, ⟨fb, pv, M, hP⟩, _⟩, _⟩ := h
  exact ⟨fb, pv, M, S, hP⟩

set_option maxHeartbeats 1600000 in
set_option maxRecDepth 8000 in
theorem pawake_any (w : World) : Calls Tryz.prog 9 #[] w fun e w' => e = .returned (.bool true) ∧ Below w.heap.size w w' := by
  have HB : Hid (Calls Tryz.prog 8 #[.int .i64 8, .int .i64 4] w (BgOut w 8 4)) := begun_any w 8 4 (by omega) (by omega) (by omega) (by omega)
  go_enter Tryz.func9, Tryz.ntmps9
  go_wp2_with fail
  refine HB.out.mono ?_
  rintro e w1 ⟨dp, lp, p, A, rfl, hS, hA, b1⟩
  have HAP := hid (sys_append hS (by show 0 ≤ _; omega) (by show 0 ≤ _; omega) (by show 0 ≤ _; omega) ⟨#[97]⟩ (by decide) (by decide) (by show 1 + 12 + 0 + 0 ≤ 4194304; omega))
  clear HB
  go_wp2_with fail
  refine HAP.out.mono ?_
  rintro e w2 ⟨rfl, A2, hS2, hm2⟩
  have hA2 : ∀ k, A2 k → w.heap.size ≤ k := fun k x => by
    rcases hm2.2 k x with y | y
    · exact hA k y
    · have := b1.size; omega
  have b2 : Below w.heap.size w w2 := below_kept b1 hm2.1 hA
  obtain ⟨W3, HW3⟩ : ∃ W3, Hid (W3 = w2.alloc (.cells #[.string ⟨#[120]⟩] 9)) := ⟨_, rfl⟩
  have b3 : Below w2.heap.size w2 W3 := by rw [HW3.out]; exact (Below.refl _ _).alloc (Nat.le_refl _) _
  have hS3 := hS2.below b3
  have k3 : Blk W3 w2.heap.size #[.string ⟨#[120]⟩] 9 := by rw [HW3.out]; exact Blk.made w2 _ _
  have hst : StrsAt W3 (some ⟨w2.heap.size, 0, none⟩) aSheet.slots := .inr ⟨w2.heap.size, 0, rfl, k3.lt, fun i hi => by
    have : i = 0 := by simp [aSheet] at hi; exact hi
    subst this
    exact k3.cell 0⟩
  have hX := aSheet_fits.ok hst
  have HPU := hid (poolPut_any (P1 := pool0 dp lp 4) (l1 := putG (log0 dp) ⟨#[97]⟩) (d1 := newD 8) hS3 aSheet (some ⟨w2.heap.size, 0, none⟩) 1 hX (fun b o e => by cases e; intro x; have := hS2.lt _ x; omega) (by decide) (by decide) ((encE_fits hX).2 aSheet_fits)
    (fun _ => ⟨room_roomy (by show 0 < 4; omega) (by show 4 ≤ _; omega), rfl⟩) (fun h => absurd rfl h) (by show 0 ≤ _; omega))
  have bel3 := below_chain b2 b3
  clear HAP hm2 hS hS2 hX hst k3 hS3
  go_wp2_with fail
  rw [← HW3.out]
  refine HPU.out.mono ?_
  rintro e w4 ⟨rfl, A4, hS4, hm4⟩
  have hA4 : ∀ k, A4 k → w.heap.size ≤ k := fun k x => by
    rcases hm4.2 k x with y | y
    · exact hA2 k y
    · have := bel3.size; omega
  have b4 : Below w.heap.size w w4 := below_kept bel3 hm4.1 hA2
  have hF : (putP (pool0 dp lp 4) aSheet).F 3 = some ⟨aSheet, 1⟩ := rfl
  have HGE := hid (get_here hS4 3 (by omega) (by omega) hF)
  have HF2 : Hid (∀ n, (putP (pool0 dp lp 4) aSheet).F n ≠ none ↔ n = 3) := fun n => by
    show (if n = 3 then some (FrV.mk aSheet 1) else none) ≠ none ↔ n = 3
    by_cases e : n = 3 <;> simp [e]
  clear HPU hm4 HW3 b3 bel3
  go_wp2_with fail
  refine HGE.out.mono ?_
  rintro e w5 ⟨a, c, rfl, hst5, b5⟩
  have HV : Hid (aSheet.val a c = .agg #[.int .u32 3, .int .u64 1, .int .i64 2, .string ⟨#[]⟩, .slice a 1 c]) := rfl
  rw [HV.out]
  obtain ⟨W6, HW6⟩ : ∃ W6, Hid (W6 = w5.alloc (.cells #[.int .u32 3, .int .u64 1, .int .i64 2, .string ⟨#[]⟩, .slice a 1 c] 56)) := ⟨_, rfl⟩
  have b6 : Below w5.heap.size w5 W6 := by rw [HW6.out]; exact (Below.refl _ _).alloc (Nat.le_refl _) _
  have hS6 := (hS4.below b5).below b6
  obtain ⟨fb, pv, M, S, hP6⟩ := hS6.poolAt
  have HDI := hid (dirty_any hP6 (by show 1 ≤ 12; omega))
  have bel6 := below_chain (below_chain b4 b5) b6
  clear HGE hst5 hS6 hP6 hS4
  go_wp2_with fail
  rw [← HW6.out]
  refine HDI.out.mono ?_
  rintro e w7 ⟨v, NL, rfl, hv, hn, b7⟩
  have hNL := nums_one hn (m := 3) (by omega) HF2.out
  subst hNL
  obtain ⟨va, vc, rfl⟩ := hv.val
  have hl1 : (dirtyL (putP (pool0 dp lp 4) aSheet) [3]).length = 1 := rfl
  rw [hl1]
  go_wp2
  go_ret
  exact ⟨rfl, below_chain bel6 b7⟩

end Go.Proofs.YtgmfgkdecpldeaaGreat

namespace Go.Proofs.YtgmfgkdecpldeaaGreat
open Go.RowKit Go.Sort Go.Shelf
set_option linter.unusedVariables false
set_option linter.unusedSimpArgs false

theorem zeros_zerosB : zerosB zerosS.data.toList = true := by
  rw [zerosB_iff]
  show dzerosL = List.replicate dzerosL.length 0
  unfold dzerosL
  rw [List.length_replicate]

theorem dec_zeros : decE zerosS = 0 ∧ decP zerosS = sheet0 := by
  have h := zerosS_size
  have hE : decE zerosS = 0 := by
    unfold decE
    rw [if_neg (by omega), if_neg (by omega), if_pos zeros_zerosB]
  refine ⟨hE, ?_⟩
  unfold decP
  rw [if_neg (by rw [zeros_zerosB]; simp)]

/-- The disk that PoolNil spoils. -/
def spoilt (s : ByteArray) : DG := wrD (wrD (newD 8) 5 s) 2053 s

theorem spoilt_read (s : ByteArray) (q : Nat) : readD (spoilt s) q = if q = 2053 then s else if q = 5 then s else zerosS := by
  show (setF (setF (fun _ => none) 5 s) 2053 s q).getD zerosS = _
  unfold setF
  by_cases h1 : q = 2053
  · simp [h1]
  · by_cases h2 : q = 5
    · simp [h2]
    · simp [h1, h2]

theorem spoilt_5 {s : ByteArray} (h : decE s ≠ 0) : feE (spoilt s) 5 = 60 := by
  have hr : rdB 5 s = false := by
    unfold rdB
    rw [decide_eq_false]
    rintro ⟨e, _⟩
    exact h e
  have hc : checkE (spoilt s).room 5 = 0 := by show checkE 8 5 = 0; decide
  unfold feE
  rw [if_pos hc, spoilt_read, spoilt_read, if_neg (by omega), if_pos rfl, if_pos rfl]
  unfold chE chP
  simp [hr]

theorem spoilt_big (s : ByteArray) {n : Nat} (h1 : 8 < n) (h2 : n ≤ 2048) : feE (spoilt s) n = 20 := by
  have hc : checkE (spoilt s).room n = 20 := by
    show checkE 8 n = 20
    unfold checkE
    rw [if_neg (by omega), if_pos (by omega)]
  unfold feE
  rw [if_neg (by rw [hc]; decide), hc]

theorem spoilt_small (s : ByteArray) {n : Nat} (h1 : 1 ≤ n) (h2 : n ≤ 8) (h5 : n ≠ 5) : feE (spoilt s) n = 0 ∧ feX (spoilt s) n = ⟨n, 0, 0, ⟨#[]⟩, []⟩ := by
  have hc : checkE (spoilt s).room n = 0 := by
    show checkE 8 n = 0
    unfold checkE
    rw [if_neg (by omega), if_neg (by omega)]
  have r1 : readD (spoilt s) n = zerosS := by rw [spoilt_read, if_neg (by omega), if_neg h5]
  have r2 : readD (spoilt s) (n + 2048) = zerosS := by rw [spoilt_read, if_neg (by omega), if_neg (by omega)]
  have hb : rdB n zerosS = true := by
    unfold rdB
    rw [dec_zeros.1, dec_zeros.2]
    simp [sheet0]
  have hp : rdP n zerosS = ⟨n, 0, 0, ⟨#[]⟩, []⟩ := by
    unfold rdP
    rw [if_pos hb, dec_zeros.2]
    rfl
  have hg : givesB (rdP n zerosS) (rdP n zerosS) = true := by
    rw [hp]
    unfold givesB blankB sameB
    simp
  have hP : chP n zerosS zerosS = true := by
    unfold chP
    rw [hb, hg]
    rfl
  unfold feE feX
  rw [if_pos hc, if_pos hc, r1, r2]
  unfold chE chX
  rw [if_pos hP, if_pos hP, hp]
  exact ⟨rfl, rfl⟩

theorem spoilt_size {s : ByteArray} (h : s.size = 512) (q : Nat) : (readD (spoilt s) q).size ≤ 1000000 := by
  have := zerosS_size
  rw [spoilt_read]
  split
  · omega
  · split <;> omega

/-- Another pool on the same disk and log. -/
theorem Sys.another {w w' : World} {p q : Nat} {A S : Nat → Prop} {P Q : PG} {l : LG} {d : DG} (h : Sys w p A P l d) (b : Below w.heap.size w w') (hQ : IsPool w' q S Q) (hS : ∀ k, S k → w.heap.size ≤ k) (e1 : Q.dp = P.dp) (e2 : Q.lp = P.lp) : ∃ A', Sys w' q A' Q l d ∧ ∀ k, A' k → A k ∨ w.heap.size ≤ k := by
  obtain ⟨⟨S0, L, D, hP, hL, hD, g4, g5, g6, g7⟩, g8, g9⟩ := h
  refine ⟨fun k => S k ∨ L k ∨ D k, ⟨⟨S, L, D, hQ, by rw [e2]; exact hL.below b, by rw [e1]; exact hD.below b, ?_, ?_, g6, fun _ x => x⟩, g8.trans e1.symm, ?_⟩, ?_⟩
  · intro k x y
    have := hS k x
    have := hL.lt y
    omega
  · intro k x y
    have := hS k x
    have := hD.lt y
    omega
  · rintro k (x | x | x)
    · exact hQ.lt x
    · exact (hL.below b).lt x
    · exact (hD.below b).lt x
  · rintro k (x | x | x)
    · exact .inr (hS k x)
    · exact .inl (g7 k (.inr (.inl x)))
    · exact .inl (g7 k (.inr (.inr x)))

end Go.Proofs.YtgmfgkdecpldeaaGreat

namespace Go.Proofs.YtgmfgkdecpldeaaGreat
open Go.RowKit Go.Sort Go.Shelf
set_option linter.unusedVariables false
set_option linter.unusedSimpArgs false

/-- A step of the disk alone. -/
theorem Sys.disk {w : World} {p : Nat} {A : Nat → Prop} {P : PG} {l : LG} {d : DG} (h : Sys w p A P l d) : ∃ D, IsDisk w P.dp D d ∧ (∀ k, D k → A k) ∧ ∀ w' D' d', IsDisk w' P.dp D' d' → Moves D D' w w' → ∃ A', Sys w' p A' P l d' ∧ Moves A A' w w' := by
  obtain ⟨⟨S, L, D, hP, hL, hD, g4, g5, g6, g7⟩, g8, g9⟩ := h
  refine ⟨D, hD, fun k x => g7 k (.inr (.inr x)), fun w' D' d' hD' hm => ?_⟩
  have kP := hP.beside hm g5
  have kL := hL.beside hm g6
  refine ⟨fun k => S k ∨ L k ∨ D' k, ⟨⟨S, L, D', kP.1, kL.1, hD', g4, kP.2, kL.2, fun _ x => x⟩, g8, ?_⟩, hm.1.mono fun k x => g7 k (.inr (.inr x)), ?_⟩
  · rintro k (x | x | x)
    · exact kP.1.lt x
    · exact kL.1.lt x
    · exact hD'.lt x
  · rintro k (x | x | x)
    · exact .inl (g7 k (.inl x))
    · exact .inl (g7 k (.inr (.inl x)))
    · rcases hm.2 k x with y | y
      · exact .inl (g7 k (.inr (.inr y)))
      · exact .inr y

set_option maxHeartbeats 800000 in
theorem pget_arg {w : World} {p : Nat} (n : Nat) (hn : n < 4294967296) (h : n < 1 ∨ 2048 < n) :
    Calls Tryz.prog 21 #[.pointer (some ⟨p, 0, none⟩), .int .u32 n] w fun e w' => e = .returned (.tuple #[.agg #[.int .u32 0, .int .u64 0, .int .i64 0, .string ⟨#[]⟩, .slice none 0 0], .int .i64 1]) ∧ Below w.heap.size w w' := by
  have HMB : Hid (∀ W, Calls Tryz.prog 46 #[.int .u32 n] W fun x w' => x = .returned (.bool false) ∧ W = w') := fun W => by
    have := mayBe_any n W hn
    rw [decide_eq_false (by omega)] at this
    exact this.mono fun x w' h => ⟨h.1, h.2.symm⟩
  go_enter Tryz.func21, Tryz.ntmps21
  go_wp2_with fail
  refine (HMB.out _).mono ?_
  rintro x w1 ⟨rfl, rfl⟩
  go_wp2
  refine bodyPost_ret (v := .tuple #[.agg #[.int .u32 0, .int .u64 0, .int .i64 0, .string ⟨#[]⟩, .slice none 0 0], .int .i64 1]) (by simp [results, Tryz.results21, go_sem]) rfl ?_
  exact ⟨rfl, (Below.refl _ _).alloc (Nat.le_refl _) _⟩

set_option maxHeartbeats 3200000 in
set_option maxRecDepth 20000 in
theorem nil_walk (w : World) (most : Int) (h0 : -9223372036854775808 ≤ most) (h00 : most ≤ 9223372036854775807) (n : Nat) (hn : n < 4294967296) (s : ByteArray) (hs : s.size ≤ maxLen) :
    Calls Tryz.prog 6 #[.int .i64 most, .int .u32 n, .string s] w fun e w' => e = .returned (.bool true) ∧ Below w.heap.size w w' := by
  have HB : Hid (Calls Tryz.prog 8 #[.int .i64 8, .int .i64 4] w (BgOut w 8 4)) := begun_any w 8 4 (by omega) (by omega) (by omega) (by omega)
  have HN1 : Hid (∀ W lp, Calls Tryz.prog 20 #[.pointer none, .pointer (some ⟨lp, 0, none⟩), .int .i64 4] W fun e w' => e = .returned (.tuple #[.pointer none, .int .i64 1]) ∧ W = w') := fun W lp => (pnew_arg W _ _ 4 (by omega) (by omega) (.inl rfl) (.inr ⟨lp, rfl⟩) (.inl rfl)).mono fun _ _ h => ⟨h.1, h.2.symm⟩
  have HN2 : Hid (∀ W dp, Calls Tryz.prog 20 #[.pointer (some ⟨dp, 0, none⟩), .pointer none, .int .i64 4] W fun e w' => e = .returned (.tuple #[.pointer none, .int .i64 1]) ∧ W = w') := fun W dp => (pnew_arg W _ _ 4 (by omega) (by omega) (.inr ⟨dp, rfl⟩) (.inl rfl) (.inr (.inl rfl))).mono fun _ _ h => ⟨h.1, h.2.symm⟩
  by_cases hv : 4 ≤ most ∧ most ≤ 256
  · obtain ⟨hv1, hv2⟩ := hv
    obtain ⟨m, rfl⟩ : ∃ m : Nat, most = m := ⟨most.toNat, by omega⟩
    have HN3 : Hid (∀ W dp lp, Calls Tryz.prog 20 #[.pointer (some ⟨dp, 0, none⟩), .pointer (some ⟨lp, 0, none⟩), .int .i64 m] W fun e w' => ∃ p S, e = .returned (.tuple #[.pointer (some ⟨p, 0, none⟩), .int .i64 0]) ∧ IsPool w' p S (pool0 dp lp m) ∧ (∀ k, S k → W.heap.size ≤ k) ∧ Below W.heap.size W w') := fun W dp lp => pnew_ok W dp lp m (by omega) (by omega)
    go_enter Tryz.func6, Tryz.ntmps6
    go_wp2_with fail
    refine HB.out.mono ?_
    rintro e w1 ⟨dp, lp, p0, A0, rfl, hS0, hA0, b1⟩
    go_wp2_with fail
    refine (HN3.out _ dp lp).mono ?_
    rintro e w2 ⟨p, S, rfl, hP, hSn, b2⟩
    have HSy : Hid (∃ A, Sys w2 p A (pool0 dp lp m) (log0 dp) (newD 8) ∧ ∀ k, A k → w.heap.size ≤ k) := by
      obtain ⟨A, h1, h2⟩ := hS0.another b2 hP hSn rfl rfl
      exact ⟨A, h1, fun k x => by rcases h2 k x with y | y; exact hA0 k y; have := b1.size; omega⟩
    have bel2 := below_chain b1 b2
    clear hS0 hA0 hP hSn b1 b2 HN3
    go_wp2_with fail
    refine (HN1.out _ lp).mono ?_
    rintro e w2' ⟨rfl, rfl⟩
    go_wp2_with fail
    refine (HN2.out _ dp).mono ?_
    rintro e w2' ⟨rfl, rfl⟩
    go_wp2_with fail
    refine (nil_picks _).mono ?_
    rintro e w2' ⟨rfl, rfl⟩
    go_wp2_with fail
    refine (nil_get _ 1).mono ?_
    rintro e w3 ⟨rfl, b3⟩
    go_wp2_with fail
    refine (nil_counts _).mono ?_
    rintro e w4 ⟨rfl, rfl⟩
    go_upto_region 12 with fail
    obtain ⟨W4, HW4⟩ : ∃ W4, Hid (W4 = w3.alloc (.cells #[.int .u32 0, .int .u64 0, .int .i64 0, .string ⟨#[]⟩, .slice none 0 0] 56)) := ⟨_, rfl⟩
    rw [← HW4.out]
    have b4 : Below w3.heap.size w3 W4 := by rw [HW4.out]; exact (Below.refl _ _).alloc (Nat.le_refl _) _
    have bel4 := below_chain b3 b4
    clear HW4 b4 b3
    simp only [List.append]
    go_wp2_with (first
      | (go_at_call 9; refine (pawake_any _).mono ?_; rintro e w5 ⟨rfl, b5⟩)
      | (go_at_call 15; refine (nil_put _ _ _ _ _ _).mono ?_; rintro e w6 ⟨rfl, b6⟩)
      | (go_at_call 16; refine (nil_write _ 1).mono ?_; rintro e w7 ⟨rfl, h7⟩; obtain rfl := h7.symm)
      | (go_at_call 27; refine (nil_writeAll _).mono ?_; rintro e w7 ⟨rfl, h7⟩; obtain rfl := h7.symm)
      | (go_at_call 28; refine (nil_drop _ 1).mono ?_; rintro e w7 ⟨rfl, h7⟩; obtain rfl := h7.symm)
      | (go_at_call 29; refine (nil_has _ 1).mono ?_; rintro e w7 ⟨rfl, h7⟩; obtain rfl := h7.symm)
      | (go_at_call 30; refine (nil_dirty _).mono ?_; rintro e w7 ⟨rfl, h7⟩; obtain rfl := h7.symm)
      | (go_at_call 31; refine (nil_numbers _).mono ?_; rintro e w7 ⟨rfl, h7⟩; obtain rfl := h7.symm)
      | (go_at_call 32; refine (nil_log _).mono ?_; rintro e w7 ⟨rfl, h7⟩; obtain rfl := h7.symm)
      | (go_at_call 33; refine (nil_disk _).mono ?_; rintro e w7 ⟨rfl, h7⟩; obtain rfl := h7.symm))

    have bel6 := below_chain (below_chain bel4 b5) b6
    have HSy6 : Hid (∃ A, Sys w6 p A (pool0 dp lp m) (log0 dp) (newD 8) ∧ ∀ k, A k → w.heap.size ≤ k) := by
      obtain ⟨A, h1, h2⟩ := HSy.out
      exact ⟨A, h1.below bel6, h2⟩
    have belw := below_chain bel2 bel6
    clear HSy b5 b6 bel4 bel6 bel2 HN1 HN2 HB
    unfold maxLen at hs
    go_loop [2] (fun v => ∃ t : ByteArray, v = .string t ∧ t.size ≤ 9223372036854775807) (fun v => match v with | .string t => 512 - t.size | _ => 0)
    case atStart => exact ⟨s, rfl, by omega⟩
    case round =>
      obtain ⟨t, rfl, ht⟩ := hrel
      by_cases hlt : t.size < 512
      · have hlt' : (t.size : Int) < 512 := by omega
        go_wp2_with fail
        go_round
        case rel => exact ⟨_, rfl, by rw [ByteArray.size_append]; have : (ByteArray.mk #[120]).size = 1 := rfl; omega⟩
        case measure => simp only [ByteArray.size_append]; have : (ByteArray.mk #[120]).size = 1 := rfl; omega
      · have hge : 512 ≤ t.size := by omega
        have h3 : (3 : Int) ≤ 512 := by omega
        obtain ⟨S2, HS2⟩ : ∃ S2, Hid (S2 = (⟨#[98, 97, 100]⟩ : ByteArray) ++ t.extract 3 512) := ⟨_, rfl⟩
        have h512 : S2.size = 512 := by
          rw [HS2.out, ByteArray.size_append, ByteArray.size_extract]
          have : (ByteArray.mk #[98, 97, 100]).size = 3 := rfl
          omega
        go_wp2_with fail
        rw [← HS2.out]
        refine (decode_any S2 _ (by unfold maxLen; omega)).mono ?_
        rintro x w7 ⟨a7, c7, rfl, hs7, b7⟩
        generalize decP S2 = X7
        have HV7 : Hid (X7.val a7 c7 = .agg #[.int .u32 X7.num, .int .u64 X7.lsn, .int .i64 X7.kind, .string X7.head, .slice a7 X7.slots.length c7]) := rfl
        rw [HV7.out]
        obtain ⟨W8, HW8⟩ : ∃ W8, Hid (W8 = w7.alloc (.cells #[.int .u32 X7.num, .int .u64 X7.lsn, .int .i64 X7.kind, .string X7.head, .slice a7 X7.slots.length c7] 56)) := ⟨_, rfl⟩
        have b8 : Below w7.heap.size w7 W8 := by rw [HW8.out]; exact (Below.refl _ _).alloc (Nat.le_refl _) _
        have bel8 := below_chain b7 b8
        have HE8 : Hid (decE S2 ≠ 0 → feE (spoilt S2) 5 = 60) := fun h => spoilt_5 h
        obtain ⟨A8, hS8, hA8⟩ : ∃ A, Sys W8 p A (pool0 dp lp m) (log0 dp) (newD 8) ∧ ∀ k, A k → w.heap.size ≤ k := by
          obtain ⟨A, h1, h2⟩ := HSy6.out
          exact ⟨A, h1.below bel8, h2⟩
        have belw8 := below_chain belw bel8
        clear HSy6 hs7 b7 b8 HV7 HS2
        generalize decE S2 = E at *
        by_cases hE : E = 0
        · subst hE
          go_wp2_with fail
          rw [← HW8.out]
          go_ret
          exact ⟨rfl, belw8⟩
        · have h60 := HE8.out hE
          go_upto_region 22 with fail
          rw [← HW8.out]
          clear HW8
          obtain ⟨D8, hD8, hDA8, hst8⟩ := hS8.disk
          have HW5 := hid (write_out hD8 rfl rfl ⟨by show 0 ≤ _; omega, by show 0 ≤ _; omega, by show 0 ≤ _; omega⟩ 5 (by omega) (by show checkE 8 5 = 0; decide) S2 h512)
          go_wp2_with fail
          refine HW5.out.mono ?_
          rintro e w9 ⟨rfl, D9, hD9, hm9⟩
          obtain ⟨A9, hS9, hmA9⟩ := hst8 w9 D9 _ hD9 hm9
          obtain ⟨D9', hD9', hDA9, hst9⟩ := hS9.disk
          have HW6 := hid (write_out hD9' rfl rfl ⟨by show 1 ≤ _; omega, by show 1 ≤ _; omega, by show 1 ≤ _; omega⟩ 2053 (by omega) (by show checkE 8 2053 = 0; decide) S2 h512)
          clear HW5 hD8 hD9 hm9 hst8
          go_wp2_with fail
          refine HW6.out.mono ?_
          rintro e w10 ⟨rfl, D10, hD10, hm10⟩
          obtain ⟨A10, hS10, hmA10⟩ := hst9 w10 D10 _ hD10 hm10
          have hmA : Moves A8 A10 W8 w10 := hmA9.trans hmA10
          have hS10' : Sys w10 p A10 (pool0 dp lp m) (log0 dp) (spoilt S2) := hS10
          have belw10 : Below w.heap.size w w10 := below_kept belw8 hmA.1 hA8
          have hA10 : ∀ k, A10 k → w.heap.size ≤ k := fun k x => by
            rcases hmA.2 k x with y | y
            · exact hA8 k y
            · have := belw8.size; omega
          have HG5 := hid (get_err hS10' 5 (by omega) (by omega) rfl rfl (spoilt_size h512) (by rw [h60]; decide))
          rw [h60] at HG5
          clear HW6 hD9' hD10 hm10 hst9 hmA9 hmA10 hmA hS9 hS8 hS10 hDA8 hDA9
          go_wp2_with fail
          refine HG5.out.mono ?_
          rintro e w11 ⟨rfl, b11⟩
          obtain ⟨W12, HW12⟩ : ∃ W12, Hid (W12 = w11.alloc (.cells #[.int .u32 0, .int .u64 0, .int .i64 0, .string ⟨#[]⟩, .slice none 0 0] 56)) := ⟨_, rfl⟩
          have b12 : Below w11.heap.size w11 W12 := by rw [HW12.out]; exact (Below.refl _ _).alloc (Nat.le_refl _) _
          have hS12 := (hS10'.below b11).below b12
          have belw12 := below_chain (below_chain belw10 b11) b12
          have hsz := spoilt_size h512
          clear HG5 b11 b12
          by_cases c1 : n < 1 ∨ 2048 < n
          · have HA := hid (pget_arg (w := W12) (p := p) n hn c1)
            have c0i : (n : Int) < 1 ∨ (¬ (n : Int) < 1 ∧ (2048 : Int) < n) := by omega
            clear c1
            rcases c0i with c0i | ⟨c0i, c0j⟩
            · obtain rfl : n = 0 := by omega
              clear c0i
              go_wp2_with fail
              rw [← HW12.out]
              refine HA.out.mono ?_
              rintro e w13 ⟨rfl, b13⟩
              go_wp2
              go_ret
              exact ⟨rfl, (below_chain belw12 b13).alloc (below_chain belw12 b13).size _⟩
            · skip
              go_wp2_with fail
              rw [← HW12.out]
              refine HA.out.mono ?_
              rintro e w13 ⟨rfl, b13⟩
              go_wp2
              go_ret
              exact ⟨rfl, (below_chain belw12 b13).alloc (below_chain belw12 b13).size _⟩
          · have c2a : ¬ (n : Int) < 1 := by omega
            have c2b : ¬ (2048 : Int) < n := by omega
            by_cases c3 : 8 < n
            · have c3i : (8 : Int) < n := by omega
              have h20 := spoilt_big S2 c3 (by omega)
              have HA := hid (get_err hS12 n (by omega) (by omega) rfl rfl hsz (by rw [h20]; decide))
              rw [h20] at HA
              go_wp2_with fail
              rw [← HW12.out]
              refine HA.out.mono ?_
              rintro e w13 ⟨rfl, b13⟩
              go_wp2
              go_ret
              exact ⟨rfl, (below_chain belw12 b13).alloc (below_chain belw12 b13).size _⟩
            · have c3i : ¬ (8 : Int) < n := by omega
              by_cases c5 : n = 5
              · subst c5
                have HA := hid (get_err hS12 5 (by omega) (by omega) rfl rfl hsz (by rw [h60]; decide))
                rw [h60] at HA
                go_wp2_with fail
                rw [← HW12.out]
                refine HA.out.mono ?_
                rintro e w13 ⟨rfl, b13⟩
                go_wp2
                go_ret
                exact ⟨rfl, (below_chain belw12 b13).alloc (below_chain belw12 b13).size _⟩
              · have c5i : ¬ (n : Int) = 5 := by omega
                obtain ⟨g1, g2⟩ := spoilt_small S2 (n := n) (by omega) (by omega) c5
                have HA := hid (get_new (P1 := pool0 dp lp m) hS12 n (by omega) (by omega) rfl rfl hsz g1 (room_roomy (by show 0 < m; omega) (by show m ≤ _; omega)) rfl (by show 0 ≤ _; omega) (by show 0 ≤ _; omega))
                rw [g2] at HA
                have hA12 : ∀ k, A10 k → w.heap.size ≤ k := hA10
                go_wp2_with fail
                rw [← HW12.out]
                refine HA.out.mono ?_
                rintro e w13 ⟨a13, c13, A13, rfl, hs13, hS13, hm13, _⟩
                have HV : Hid (SheetV.val ⟨n, 0, 0, ⟨#[]⟩, []⟩ a13 c13 = .agg #[.int .u32 n, .int .u64 0, .int .i64 0, .string ⟨#[]⟩, .slice a13 0 c13]) := rfl
                rw [HV.out]
                have b13 : Below w.heap.size w w13 := below_kept belw12 hm13.1 hA12
                go_wp2
                go_ret
                exact ⟨rfl, b13.alloc b13.size _⟩
  · have HN3 : Hid (∀ W dp lp, Calls Tryz.prog 20 #[.pointer (some ⟨dp, 0, none⟩), .pointer (some ⟨lp, 0, none⟩), .int .i64 most] W fun e w' => e = .returned (.tuple #[.pointer none, .int .i64 1]) ∧ W = w') := fun W dp lp => (pnew_arg W _ _ most h0 h00 (.inr ⟨dp, rfl⟩) (.inr ⟨lp, rfl⟩) (.inr (.inr (by omega)))).mono fun _ _ h => ⟨h.1, h.2.symm⟩
    have hv' : most < 4 ∨ 256 < most := by omega
    clear hv
    have h45 : ¬ most < 4 → 256 < most := by omega
    by_cases h4 : most < 4
    all_goals
      try have h5 := h45 h4
      clear h45 hv'
      go_enter Tryz.func6, Tryz.ntmps6
      go_wp2_with fail
      refine HB.out.mono ?_
      rintro e w1 ⟨dp, lp, p, A, rfl, hS, hA, b1⟩
      clear hS hA
      go_wp2_with fail
      refine (HN3.out _ dp lp).mono ?_
      rintro e w2 ⟨rfl, rfl⟩
      go_wp2_with fail
      refine (HN1.out _ lp).mono ?_
      rintro e w2 ⟨rfl, rfl⟩
      go_wp2_with fail
      refine (HN2.out _ dp).mono ?_
      rintro e w2 ⟨rfl, rfl⟩
      go_wp2_with fail
      refine (nil_picks _).mono ?_
      rintro e w2 ⟨rfl, rfl⟩
      go_wp2_with fail
      refine (nil_get _ 1).mono ?_
      rintro e w3 ⟨rfl, b3⟩
      go_wp2_with fail
      refine (nil_counts _).mono ?_
      rintro e w4 ⟨rfl, rfl⟩
      go_upto_region 12 with fail
      obtain ⟨W4, HW4⟩ : ∃ W4, Hid (W4 = w3.alloc (.cells #[.int .u32 0, .int .u64 0, .int .i64 0, .string ⟨#[]⟩, .slice none 0 0] 56)) := ⟨_, rfl⟩
      rw [← HW4.out]
      have b4 : Below w3.heap.size w3 W4 := by rw [HW4.out]; exact (Below.refl _ _).alloc (Nat.le_refl _) _
      have bel4 := below_chain (below_chain b1 b3) b4
      clear HW4 b4 b3 b1
      simp only [List.append]
      go_wp2_with (first
        | (go_at_call 9; refine (pawake_any _).mono ?_; rintro e w5 ⟨rfl, b5⟩)
        | (go_at_call 15; refine (nil_put _ _ _ _ _ _).mono ?_; rintro e w6 ⟨rfl, b6⟩)
        | (go_at_call 16; refine (nil_write _ 1).mono ?_; rintro e w7 ⟨rfl, rfl⟩)
        | (go_at_call 27; refine (nil_writeAll _).mono ?_; rintro e w7 ⟨rfl, rfl⟩)
        | (go_at_call 28; refine (nil_drop _ 1).mono ?_; rintro e w7 ⟨rfl, rfl⟩)
        | (go_at_call 29; refine (nil_has _ 1).mono ?_; rintro e w7 ⟨rfl, rfl⟩)
        | (go_at_call 30; refine (nil_dirty _).mono ?_; rintro e w7 ⟨rfl, rfl⟩)
        | (go_at_call 31; refine (nil_numbers _).mono ?_; rintro e w7 ⟨rfl, rfl⟩)
        | (go_at_call 32; refine (nil_log _).mono ?_; rintro e w7 ⟨rfl, rfl⟩)
        | (go_at_call 33; refine (nil_disk _).mono ?_; rintro e w7 ⟨rfl, rfl⟩))
      go_ret
      exact ⟨rfl, below_chain (below_chain bel4 b5) b6⟩

end Go.Proofs.YtgmfgkdecpldeaaGreat
