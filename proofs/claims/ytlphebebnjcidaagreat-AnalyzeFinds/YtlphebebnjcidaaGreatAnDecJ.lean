/-
  Which texts are read as records, and which as none; the records that laid lays.
-/
import Derived.Test.YtlphebebnjcidaaGreatAnLaidC
import Derived.Test.YtlphebebnjcidaaGreatRecReadC
import Derived.Test.YtlphebebnjcidaaGreatRecDecodeC
import Derived.Test.YtlphebebnjcidaaGreatRowOpsJ
import Derived.Laws.Tables
set_option linter.unusedVariables false
set_option linter.unusedSimpArgs false
namespace Go.Proofs.YtlphebebnjcidaaGreat
open Go.RowKit Go.Sort Go.Shelf Go.Lib

theorem no_lists {r : RecV} (h : sameR r (namedV r) = true) (hl : listsB r = false) : r.txs = [] ∧ r.dirty = [] := by
  have e := sameR_eq h
  have e1 : r.txs = (namedV r).txs := congrArg RecV.txs e
  have e2 : r.dirty = (namedV r).dirty := congrArg RecV.dirty e
  have f1 : (namedV r).txs = if listsB r then r.txs else [] := rfl
  have f2 : (namedV r).dirty = if listsB r then r.dirty else [] := rfl
  rw [hl] at f1 f2
  exact ⟨e1.trans f1, e2.trans f2⟩

theorem hr_of {r : RecV} (hm : mayR r = true) (hp : r.page < 4294967296) (hd : ∀ x ∈ r.dirty, x.1 < 4294967296) : HrOk r := by
  have h := may_parts hm
  cases hl : listsB r with
  | true =>
    obtain ⟨h1, h2, h3⟩ := h.lists hl
    exact ⟨h.tx, hp, h1, h2, fun x hx => (h3 x hx).1, hd⟩
  | false =>
    obtain ⟨h1, h2⟩ := no_lists h.same hl
    exact ⟨h.tx, hp, by rw [h1]; exact Nat.zero_le _, by rw [h2]; exact Nat.zero_le _, fun x hx => (by rw [h1] at hx; cases hx), hd⟩

theorem rcheck_may {r : RecV} (h : mayR r = true) : rcheckE r = 0 := by unfold rcheckE; rw [h]; rfl

theorem an_good {r : RecV} {w : World} {ta da : Option Addr} (hm : mayR r = true) (hw : r.Wide) (h : r.Ok w ta da) : DecGood (textR r) r ∧ HrOk r := by
  refine ⟨fun wx => ?_, hr_of hm h.page fun x hx => ?_⟩
  · have hr := (enc_reads (may_parts hm) hw h.prev h.next h.page h.rpage).2 ByteArray.empty
    rw [ByteArray.append_empty] at hr
    have hsz := textR_size r
    have h8 := encR_8192 (may_parts hm)
    have he : endE (textR r) (encR r).length 0 = 0 := by
      unfold endE
      rw [hsz, if_neg (by omega)]
    exact decode_good' (textR r) wx (by rw [hsz]; omega) hr he (rcheck_may hm) fun wx ta da a b => ⟨h.kind, h.tx, h.prev, h.next, h.page, h.op, h.undo, h.index, h.key, h.rpage, h.rslot, h.tlen, h.dlen, a, b⟩
  · obtain ⟨i, hi, rfl⟩ := List.getElem_of_mem hx
    exact (hw.dirty i hi).1

def goodL (RL : List RIn) (n : Nat) : List RIn := (RL.take n).filter fun x => mayR x.r

theorem goodL_succ {RL : List RIn} {n : Nat} (hn : n < RL.length) : goodL RL (n + 1) = if mayR RL[n].r then goodL RL n ++ [RL[n]] else goodL RL n := by
  unfold goodL
  rw [List.take_succ_eq_append_getElem hn, List.filter_append]
  cases h : mayR RL[n].r with
  | true => simp [h]
  | false => simp [h]

theorem laidTo_good (RL : List RIn) : ∀ n, n ≤ RL.length → (laidTo RL n).1 = (goodL RL n).map (fun x => textR x.r) ∧ ∀ k x, (laidTo RL n).2[k]? = some x → ∃ y, (goodL RL n)[k]? = some y ∧ x = refV (placeOf (laidTo RL n).1 k) y.r
  | 0, _ => ⟨rfl, fun k x h => by
      have e : (laidTo RL 0).2 = [] := rfl
      rw [e] at h
      simp at h⟩
  | n + 1, hn => by
    obtain ⟨h1, h2⟩ := laidTo_good RL n (by omega)
    have hl := (laidTo_at RL n (by omega)).1
    have hg : (goodL RL n).length = (laidTo RL n).1.length := by rw [h1, List.length_map]
    rw [laidTo_succ (by omega), goodL_succ (by omega)]
    unfold stepL
    split
    · refine ⟨by rw [List.map_append, h1]; rfl, fun k x h => ?_⟩
      dsimp only at h ⊢
      by_cases hk : k < (laidTo RL n).2.length
      · rw [List.getElem?_append_left hk] at h
        obtain ⟨y, hy, hx⟩ := h2 k x h
        exact ⟨y, by rw [List.getElem?_append_left (by omega)]; exact hy, by rw [placeOf_snoc _ _ _ (by omega)]; exact hx⟩
      · have hk2 : k = (laidTo RL n).2.length := by
          have := (List.getElem?_eq_some_iff.1 h).1
          rw [List.length_append, List.length_singleton] at this
          omega
        subst hk2
        rw [List.getElem?_append_right (Nat.le_refl _), Nat.sub_self] at h
        simp only [List.getElem?_cons_zero, Option.some.injEq] at h
        refine ⟨RL[n], ?_, ?_⟩
        · rw [hl, ← hg, List.getElem?_append_right (Nat.le_refl _), Nat.sub_self]
          rfl
        · rw [← h, hl, placeOf_snoc _ _ _ (Nat.le_refl _)]
    · exact ⟨h1, h2⟩

def recN (RL : List RIn) (n i : Nat) : RecV := match (goodL RL n)[i]? with
  | some x => x.r
  | none => plainV 0 0 0

theorem laid_dec {RL : List RIn} {n : Nat} (hn : n ≤ RL.length) {w : World} (hok : ∀ x ∈ RL, x.Ok w) (i : Nat) (hi : i < (laidTo RL n).1.length) : DecGood ((laidTo RL n).1.getD i ⟨#[]⟩) (recN RL n i) ∧ HrOk (recN RL n i) := by
  obtain ⟨h1, _⟩ := laidTo_good RL n hn
  rw [h1] at hi ⊢
  rw [List.length_map] at hi
  have hx : (goodL RL n)[i]? = some (goodL RL n)[i] := List.getElem?_eq_getElem hi
  have hm : mayR (goodL RL n)[i].r = true ∧ (goodL RL n)[i] ∈ RL := by
    have := List.getElem_mem hi
    unfold goodL at this
    obtain ⟨a, b⟩ := List.mem_filter.1 this
    exact ⟨b, List.mem_of_mem_take a⟩
  have e1 : ((goodL RL n).map fun x => textR x.r).getD i ⟨#[]⟩ = textR (goodL RL n)[i].r := by
    rw [List.getD_eq_getElem?_getD, List.getElem?_map, hx]
    rfl
  have e2 : recN RL n i = (goodL RL n)[i].r := by unfold recN; rw [hx]
  rw [e1, e2]
  exact an_good hm.1 (hok _ hm.2).wide (hok _ hm.2).ok

theorem InsAt.all {w : World} {a : Option Addr} {RL : List RIn} (h : InsAt w a RL) : ∀ x ∈ RL, x.Ok w := by
  rcases h with h | ⟨b, o, e, hb, h⟩
  · intro x hx; rw [h] at hx; cases hx
  · intro x hx
    obtain ⟨i, hi, rfl⟩ := List.getElem_of_mem hx
    exact (h i hi).2

end Go.Proofs.YtlphebebnjcidaaGreat

namespace Go.Proofs.YtlphebebnjcidaaGreat
open Go.RowKit Go.Sort Go.Shelf Go.Lib

def awR : RecV := ⟨1, 3, 0, 0, 5, ⟨2, 0, ⟨#[]⟩, ⟨#[]⟩⟩, 0, 0, ⟨#[]⟩, 0, 0, false, [], []⟩
def awI : RIn := ⟨awR, none, none, 0, 0⟩

theorem aw_may : mayR awR = true := by kernel_rfl
theorem aw_to : laidTo [awI] (min [awI].length 60) = ([textR awR], [refV 1 awR]) := by
  show stepL ([], []) awI = _
  unfold stepL
  rw [show mayR awI.r = true from aw_may]
  rfl
theorem aw_ok (w : World) : awI.Ok w :=
  ⟨⟨by decide, by decide, by decide, by decide, by decide, ⟨by decide, by decide, by decide, by decide⟩, by decide, by decide, by decide, by decide, by decide, by decide, by decide, .inl rfl, .inl rfl⟩, ⟨fun i hi => absurd hi (Nat.not_lt_zero _), fun i hi => absurd hi (Nat.not_lt_zero _)⟩⟩

theorem aw_T : Can keyT [(3, 1, 1, 1)] (heardTo [textR awR] (fun _ => awR) 0 1).T :=
  ((Can.nil (key := keyT)).ins (3, 1, 1, 1)).ext fun n => rfl
theorem aw_D : Can keyD [(5, 1)] (heardTo [textR awR] (fun _ => awR) 0 1).D :=
  ((Can.nil (key := keyD)).ins (5, 1)).ext fun n => rfl
theorem aw_most : (heardTo [textR awR] (fun _ => awR) 0 1).most = 3 := rfl

theorem aw_cells (w : World) (b : Nat) (t : TypeId) (h : BlkR w b awI.cells t) : InsAt w (some ⟨b, 0, none⟩) [awI] := by
  refine .inr ⟨b, 0, rfl, h.lt, fun i hi => ?_⟩
  have hi0 : i = 0 := by simp at hi; exact hi
  subst hi0
  refine ⟨fun j v hv => ?_, aw_ok w⟩
  rw [Nat.zero_mul, Nat.zero_add]
  rw [Array.getElem?_toList] at hv
  exact (h.cell j).trans hv

set_option maxHeartbeats 6400000 in
set_option maxRecDepth 20000 in
theorem awake19_any (w : World) : Calls Tryz.prog 6 #[] w fun e w' => e = .returned (.bool true) ∧ Below w.heap.size w w' := by
  obtain ⟨W, HW⟩ : ∃ W, Hid (W = w.alloc (.cells awI.cells 63)) := ⟨_, rfl⟩
  have bW : Below w.heap.size w W := by rw [HW.out]; exact (Below.refl _ _).alloc (Nat.le_refl _) _
  have hb : BlkR W w.heap.size awI.cells 63 := by rw [HW.out]; exact heap_alloc_new w _
  have HLD := hida (laid19_any [awI] (-1) (by omega) (some ⟨w.heap.size, 0, none⟩) 1 W (aw_cells W _ _ hb) (by simp))
  have HBW := hida bW
  have HC : Hid (awI.cells = #[.int .i64 1, .int .i64 3, .int .u64 0, .int .u64 0, .int .u32 5, .int .i64 2, .int .i64 0, .string ⟨#[]⟩, .string ⟨#[]⟩, .int .i64 0, .int .i64 0, .string ⟨#[]⟩, .int .u32 0, .int .i64 0, .bool false, .slice none 0 0, .slice none 0 0]) := rfl
  rw [HC.out] at HW
  clear bW hb HC
  go_enter Tryz.func6, Tryz.ntmps6
  go_wp2_with fail
  rw [← HW.out]
  refine HLD.out.mono ?_
  rintro e w1 ⟨q, A, mark, i0, j, v, v', X, rfl, hla, hj, hX, hXl, hX60, hpl, hmm⟩
  rw [aw_to] at hla
  have hnn : i0 = 0 ∧ mark = 0 ∧ v' = v := by
    rcases hmm with h | h
    · omega
    · exact h.2
  obtain ⟨rfl, rfl, rfl⟩ := hnn
  have HRN := hida (lg_run hla.lg (by omega) (fun _ => awR) (fun _ => true) 0 (Nat.zero_le _) (.inl ⟨rfl, rfl⟩) (fun i hi _ => by
    have hi0 : i = 0 := by simp at hi; exact hi
    subst hi0
    exact an_good aw_may (aw_ok w).wide (aw_ok w).ok) (fun i hi h => by cases h))
  have HB1 := hida (below_chain HBW.out hla.bel)
  clear HLD HW HBW hla hmm hX hXl hX60 hpl
  go_wp2_with fail
  refine HRN.out.mono ?_
  rintro e w2 hro
  obtain ⟨v1, v2, L1, L2, n, rfl, h1, h2, hn, o1, o2⟩ := hro.yes fun _ _ _ => rfl
  have e1 : L1 = [(3, 1, 1, 1)] := h1.same aw_T
  have e2 : L2 = [(5, 1)] := h2.same aw_D
  subst e1
  subst e2
  have HB2 := hida (below_chain HB1.out hro.bel)
  obtain ⟨g1, c1, cur1, rfl, _, hg1, _, _, hz1, ht1⟩ := o1.2.resolve_left (by intro h; have := h.2; simp at this)
  obtain ⟨a2, c2, hv2⟩ := owns_val7 o2
  subst hv2
  have k1 : w2.cell? ⟨g1, 0, none⟩ = some (.int .i64 3) := World.ownsRow.cellAt o1 0 (by simp)
  have hl1 : g1 < w2.heap.size := (World.ownsRow.lt o1 g1 rfl).2
  have hne : g1 ≠ w2.heap.size := by omega
  have hre : redoL (placeOf [textR awR] [textR awR].length) [(5, 1)] = 1 := rfl
  have hfd : fdCells (.slice (some ⟨g1, 0, none⟩) 1 c1) (.slice a2 1 c2) (redoL (placeOf [textR awR] [textR awR].length) [(5, 1)]) (heardTo [textR awR] (fun _ => awR) 0 ([textR awR].length - 0)) = #[.slice (some ⟨g1, 0, none⟩) 1 c1, .slice a2 1 c2, .int .u64 1, .int .i64 3, .int .i64 1] := rfl
  simp only [List.length_cons, List.length_nil, Nat.zero_add] at hfd ⊢
  rw [hfd]
  clear hro h1 h2 o1 o2 HRN HB1 hfd hre
  go_wp2_with fail
  go_ret
  exact ⟨rfl, HB2.out.alloc HB2.out.size _⟩

end Go.Proofs.YtlphebebnjcidaaGreat
