/-
  The walk of (*txn.Manager).Done, where somebody committed.
  TxnMany's managers: those that began, those that committed; plain data, and the calls.
  The walk of girderlaw09.TxnMany.
-/
import Derived.Test.YthobhmejlonncaaGreatTxSpendJ
import Derived.Deep.AppendLies
import Derived.Test.YthobhmejlonncaaGreatTxNewJ
import Derived.Test.YthobhmejlonncaaGreatWalP1J
import Derived.Test.YthobhmejlonncaaGreatShTSortJ
namespace Go.Proofs.YthobhmejlonncaaGreat
open Go.RowKit Go.Sort Go.Shelf Go.Lib
set_option linter.unusedVariables false
set_option linter.unusedSimpArgs false

/-- What Clone and Done hand back: the numbers L in new memory. -/
structure NumsNew (w : World) (L : List Nat) (e : Ending) (w' : World) : Prop where
  ex : ∃ g cap, e = .returned (.slice (some ⟨g, 0, none⟩) L.length cap) ∧ (∀ i (hi : i < L.length), w'.cell? ⟨g, i, none⟩ = some (.int .i64 L[i])) ∧ L.length ≤ cap ∧ w.heap.size ≤ g
  bl : Below w.heap.size w w'

set_option maxHeartbeats 1600000 in
set_option maxRecDepth 20000 in
theorem clone_nums {w : World} {dn : Value} {L : List Nat} (h : w.ownsRow 0 3 1 dn L.length (numsV L)) (h0 : 0 < L.length) (hl : L.length ≤ 1000000) :
    Calls Tryz.prog 64 #[dn] w (NumsNew w L) := by
  obtain ⟨g, cap, rfl, _, hg⟩ := h.form h0
  obtain ⟨i0, hi, hz0, hz1, hz2⟩ := info_parts infoInt
  have b1 : Below w.heap.size w (w.alloc (.cells #[] 3)) := (Below.refl _ _).alloc (Nat.le_refl _) _
  have hOW : Hid ((w.alloc (.cells #[] 3)).ownsRow w.heap.size 3 1 (.slice (some ⟨w.heap.size, 0, none⟩) 0 0) 0 []) := ⟨rfl, .inr ⟨w.heap.size, 0, _, rfl, Nat.le_refl _, heap_alloc_new w _, Nat.le_refl _, by unfold maxLen; omega, rfl, rfl⟩⟩
  have hnews : Hid (∀ j u, (numsV L)[j]? = some u → (w.alloc (.cells #[] 3)).cell? ((⟨g, 0, none⟩ : Addr).add j) = some u) := fun j u hj => (ownsRow_same h fun k hk => by simp only [Value.ownBlock, Option.some.injEq] at hk; subst hk; exact b1.block _ hg).cells rfl j u hj
  have hnl : (numsV L).length = L.length * 1 := by simp [numsV]
  have H1C : Hid (∀ u ∈ numsV L, u.oneCell' = true) := by
    intro u hu
    simp only [numsV, List.mem_map] at hu
    obtain ⟨k, _, rfl⟩ := hu
    rfl
  have HEND : Hid (∀ (g2 cap2 : Nat) w2, w2.ownsRow w.heap.size 3 1 (.slice (some ⟨g2, 0, none⟩) (0 + L.length) cap2) (0 + L.length) ([] ++ numsV L) → (w.alloc (.cells #[] 3)).grownBy w2 (some w.heap.size) → NumsNew w L (.returned (.slice (some ⟨g2, 0, none⟩) L.length cap2)) w2) := by
    intro g2 cap2 w2 own2 grow2
    rw [Nat.zero_add, List.nil_append] at own2
    refine ⟨⟨g2, cap2, rfl, fun i hi => ?_, ?_, (own2.lt g2 rfl).1⟩, ⟨grow2.os.trans b1.os, grow2.tape.trans b1.tape, grow2.output.trans b1.output, Nat.le_trans b1.size grow2.size, fun k hk => (grow2.block k (Nat.lt_of_lt_of_le hk b1.size) (fun q => by simp at q; omega)).trans (b1.block k hk)⟩⟩
    · rw [own2.cellAt i (by omega)]
      simp [numsV, hi]
    · rcases own2.2 with ⟨e, _⟩ | ⟨_, _, _, e, _, _, hn, _⟩
      · cases e
      · simp only [Value.slice.injEq] at e
        obtain ⟨_, _, rfl⟩ := e
        exact hn
  have hnil : ∀ wx : World, (binOp .eql 71 (.slice (some ⟨g, 0, none⟩) L.length cap) (.slice none 0 0)).run Tryz.prog wx = .ok (.bool false) wx := fun _ => rfl
  have hLi : (L.length : Int) ≤ 1000000 := by omega
  clear h
  go_enter Tryz.func64, Tryz.ntmps64
  go_wp2_with (at_builtin; refine wpList_append_lies _ rfl _ _ 71 rfl w.heap.size 3 i0 _ 1 8 Tryz.underlying71 hi hz0 hz1 hz2 rfl (by decide) (.slice (some ⟨w.heap.size, 0, none⟩) 0 0) 0 [] rfl hOW.out ⟨g, 0, none⟩ L.length cap (numsV L) rfl hnl hnews.out H1C.out h0 (by unfold maxLen; omega) (by omega) b1.size _ rfl ?_; intro g2 cap2 w2 own2 grow2 loc2 lt2; have HF := hidx (HEND.out g2 cap2 w2 own2 grow2); clear own2 grow2 loc2 lt2)
  go_ret
  exact HF.out

section
variable {w : World} {m p : Nat} {X : Int → Nat} {A : Nat → Prop} {P : PG} {l : LG} {d : DG} {M : MgG}

set_option maxHeartbeats 1600000 in
set_option maxRecDepth 60000 in
theorem done_any (h : MSys w m p X A P l d M) (h0 : 0 < M.done.length) (hl : M.done.length ≤ 1000000) :
    Calls Tryz.prog 28 #[.pointer (some ⟨m, 0, none⟩)] w (NumsNew w M.done) := by
  obtain ⟨B, ⟨tb, dn, D, S, hM⟩, _, _⟩ := h.mgr
  have c3 : w.cell? ⟨m, 3, none⟩ = some dn := hM.blk.cell 3
  have HC := hidx (clone_nums hM.done h0 hl)
  clear h hM
  go_enter Tryz.func28, Tryz.ntmps28
  go_wp2_with fail
  refine HC.out.mono ?_
  rintro e w1 ⟨⟨g, cap, rfl, h1, h2, h4⟩, h3⟩
  have HF : Hid (NumsNew w M.done (.returned (.slice (some ⟨g, 0, none⟩) M.done.length cap)) w1) := ⟨⟨g, cap, rfl, h1, h2, h4⟩, h3⟩
  clear h1 h2 h3 h4 HC
  go_wp2
  go_ret
  exact HF.out

end

end Go.Proofs.YthobhmejlonncaaGreat

namespace Go.Proofs.YthobhmejlonncaaGreat
open Go.RowKit Go.Sort
set_option linter.unusedVariables false
set_option linter.unusedSimpArgs false

theorem newD_dok (r : Nat) : DOk (newD r) 0 := ⟨rfl, rfl, ⟨(fun x hx => by cases hx), (fun q => zerosS_size), by show 0 + 0 ≤ _; omega, by show 0 ≤ _; omega, Nat.le_refl _⟩, rfl, (fun q => rfl), by show 0 ≤ 10; omega, Nat.le_refl _, Nat.le_refl _⟩

/-- i have begun. -/
def manM (i : Nat) : MgG := ⟨fun k => if 1 ≤ k ∧ k ≤ (i : Int) then some (fresh k.toNat) else none, i, i + 1, []⟩

theorem manM_zero : manM 0 = mg0 := by
  unfold manM mg0
  simp only [MgG.mk.injEq, and_true]
  funext k
  rw [if_neg (by omega)]

theorem manM_born (i : Nat) : (manM i).born = manM (i + 1) := by
  unfold MgG.born manM
  simp only [MgG.mk.injEq, and_true]
  funext k
  by_cases e : k = ((i + 1 : Nat) : Int)
  · rw [if_pos e, if_pos (by omega), e]
    simp
  · rw [if_neg e]
    by_cases q : 1 ≤ k ∧ k ≤ (i : Int)
    · rw [if_pos q, if_pos (by omega)]
    · rw [if_neg q, if_neg (by omega)]

/-- The first j of sixty-four have committed. -/
def comM (j : Nat) : MgG := ⟨fun k => if (j : Int) < k ∧ k ≤ 64 then some (fresh k.toNat) else none, 64 - j, 65, (List.range j).map (· + 1)⟩

theorem comM_zero : manM 64 = comM 0 := by
  have e : (fun k : Int => if 1 ≤ k ∧ k ≤ ((64 : Nat) : Int) then some (fresh k.toNat) else none) = fun k : Int => if ((0 : Nat) : Int) < k ∧ k ≤ 64 then some (fresh k.toNat) else none := by
    funext k
    by_cases q : 1 ≤ k ∧ k ≤ ((64 : Nat) : Int)
    · rw [if_pos q, if_pos (by omega)]
    · rw [if_neg q, if_neg (by omega)]
  unfold manM comM
  rw [e]
  rfl

theorem comM_next (j : Nat) (hj : j < 64) : ((comM j).pushed (j + 1)).gone ((j + 1 : Nat) : Int) = comM (j + 1) := by
  unfold MgG.pushed MgG.gone comM
  simp only [MgG.mk.injEq]
  refine ⟨?_, by omega, trivial, by rw [List.range_succ, List.map_append]; rfl⟩
  funext k
  by_cases e : k = ((j + 1 : Nat) : Int)
  · rw [if_pos e, if_neg (by omega)]
  · rw [if_neg e]
    by_cases q : (j : Int) < k ∧ k ≤ 64
    · rw [if_pos q, if_pos (by omega)]
    · rw [if_neg q, if_neg (by omega)]

theorem comM_len (j : Nat) : (comM j).done.length = j := by show ((List.range j).map (· + 1)).length = j; simp

theorem all_len {M : MgG} {NL : List Int} (h : AllOf M NL) (a : Int) (k : Nat) (hm : ∀ n, M.T n ≠ none ↔ a ≤ n ∧ n < a + k) : NL.length = k := by
  have hp : NL.Perm ((List.range k).map fun i : Nat => a + (i : Int)) := by
    rw [List.perm_ext_iff_of_nodup h.nd ?_]
    · intro n
      rw [h.mem n, hm n, List.mem_map]
      constructor
      · rintro ⟨h1, h2⟩
        exact ⟨(n - a).toNat, by rw [List.mem_range]; omega, by omega⟩
      · rintro ⟨i, h1, rfl⟩
        rw [List.mem_range] at h1
        omega
    · rw [List.nodup_iff_pairwise_ne, List.pairwise_map]
      exact (List.nodup_iff_pairwise_ne.1 List.nodup_range).imp fun h e => h (by omega)
  rw [hp.length_eq]
  simp

/-- Where TxnMany stands behind i Begins. -/
structure MnAt (w wr : World) (m p dp lp i : Nat) : Prop where
  ex : ∃ A X, MSys wr m p X A (begP dp lp 5) { log0 dp with kept := 128 * i } (newD 64) (manM i) ∧ Ours w wr A

theorem MnAt.begin {w wr : World} {m p dp lp i : Nat} (h : MnAt w wr m p dp lp i) (hi : i < 64) :
    Calls Tryz.prog 8 #[.pointer (some ⟨m, 0, none⟩)] wr fun e w' => e = .returned (.tuple #[.int .i64 ((i : Int) + 1), .int .i64 0]) ∧ MnAt w w' m p dp lp (i + 1) := by
  obtain ⟨A, X, h1, h2⟩ := h.ex
  have hn : (manM i).T ((manM i).next : Int) = none := by show (if _ then _ else _) = _; rw [if_neg]; show ¬ (1 ≤ (((i + 1 : Nat)) : Int) ∧ ((i + 1 : Nat) : Int) ≤ (i : Int)); omega
  refine (begin_ok h1 (by show i + 1 ≤ _; omega) hn (by show i < 64; exact hi) (by show 0 ≤ _; omega) (by show 128 * i + 128 + 0 ≤ _; omega)).mono ?_
  rintro e w' ⟨rfl, A', b, g, mv⟩
  refine ⟨rfl, ⟨A', bornX X ((manM i).next : Int) b, ?_, h2.step mv⟩⟩
  rw [manM_born] at g
  exact g

theorem MnAt.coming {w wr : World} {m p dp lp i : Nat} (h : MnAt w wr m p dp lp i) (hi : i ≤ 64) :
    Calls Tryz.prog 29 #[.pointer (some ⟨m, 0, none⟩)] wr fun e w' => e = .returned (.int .i64 ((i : Int) + 1)) ∧ wr = w' := by
  obtain ⟨A, X, h1, h2⟩ := h.ex
  have hn : (manM i).T ((manM i).next : Int) = none := by show (if _ then _ else _) = _; rw [if_neg]; show ¬ (1 ≤ (((i + 1 : Nat)) : Int) ∧ ((i + 1 : Nat) : Int) ≤ (i : Int)); omega
  exact coming_any h1 (by show i + 1 ≤ _; omega) hn

/-- .. behind j commits. -/
structure CmAt (w wr : World) (m p dp lp j : Nat) : Prop where
  ex : ∃ A X l d, MSys wr m p X A (begP dp lp 5) l d (comM j) ∧ Ours w wr A ∧ LOk l d ∧ DOk d (2 * j) ∧ l.bytes.length = 50 * j ∧ l.kept = 128 * (64 - j) ∧ l.starts.length = 2 * j

theorem MnAt.many {w wr : World} {m p dp lp : Nat} (h : MnAt w wr m p dp lp 64) : Calls Tryz.prog 8 #[.pointer (some ⟨m, 0, none⟩)] wr (fun e w' => e = .returned (.tuple #[.int .i64 0, .int .i64 3]) ∧ wr = w') ∧ CmAt w wr m p dp lp 0 := by
  obtain ⟨A, X, h1, h2⟩ := h.ex
  refine ⟨begin_many h1 (Nat.le_refl _), ⟨A, X, { log0 dp with kept := 128 * 64 }, newD 64, ?_, h2, ⟨rfl, Nat.le_refl _, Nat.zero_le _, rfl⟩, newD_dok 64, rfl, rfl, rfl⟩⟩
  rw [← comM_zero]
  exact h1

theorem CmAt.below {w wr wx : World} {m p dp lp j : Nat} (h : CmAt w wr m p dp lp j) (b : Below wr.heap.size wr wx) : CmAt w wx m p dp lp j := by
  obtain ⟨A, X, l, d, h1, h2, h3⟩ := h.ex
  exact ⟨A, X, l, d, h1.below b, h2.below b, h3⟩

/-- What All tells of n transactions. -/
structure AllN (w : World) (n : Nat) (e : Ending) (w' : World) : Prop where
  ex : ∃ a c, e = .returned (.slice a n c)
  bl : Below w.heap.size w w'

theorem CmAt.all {w wr : World} {m p dp lp j : Nat} (h : CmAt w wr m p dp lp j) (hj : j ≤ 64) : Calls Tryz.prog 27 #[.pointer (some ⟨m, 0, none⟩)] wr (AllN wr (64 - j)) := by
  obtain ⟨A, X, l, d, h1, h2, h3⟩ := h.ex
  have hmem : ∀ n, (comM j).T n ≠ none ↔ ((j : Int) + 1) ≤ n ∧ n < ((j : Int) + 1) + ((64 - j : Nat) : Int) := fun n => by
    show (if (j : Int) < n ∧ n ≤ 64 then some (fresh n.toNat) else none) ≠ none ↔ _
    by_cases q : (j : Int) < n ∧ n ≤ 64
    · rw [if_pos q]; simp; omega
    · rw [if_neg q]; simp; omega
  refine (all_any h1 (by show 64 - j ≤ _; omega) (fun n hn => by have := (hmem n).1 hn; omega)).mono ?_
  rintro e w' ⟨v, NL, L, rfl, hN, hp, hs, hb⟩
  obtain ⟨a, c, rfl⟩ := hs.val
  have := all_len hN _ _ hmem
  rw [hp.length_eq, List.length_map, this]
  exact ⟨⟨a, c, rfl⟩, hb⟩

theorem CmAt.commit {w wr : World} {m p dp lp j : Nat} (h : CmAt w wr m p dp lp j) (hj : j < 64) :
    Calls Tryz.prog 23 #[.pointer (some ⟨m, 0, none⟩), .int .i64 ((j : Int) + 1)] wr fun e w' => e = .returned (.int .i64 0) ∧ CmAt w w' m p dp lp (j + 1) := by
  obtain ⟨A, X, l, d, h1, h2, hlo, hdo, hby, hke, hst⟩ := h.ex
  have ht : (comM j).T ((j + 1 : Nat) : Int) = some (fresh (j + 1)) := by
    show (if _ then _ else _) = _
    rw [if_pos ⟨by omega, by omega⟩]
    simp
  have sz4 := markS_size 4 (fresh (j + 1)) (by omega)
  have e4 := spend_eqs l (fresh (j + 1)) (markS 4 (fresh (j + 1))) 25 (by rw [sz4]; show 13 + 12 + 25 ≤ 128; omega)
  have ecL : cmL l (fresh (j + 1)) = { putG l (markS 4 (fresh (j + 1))) with kept := l.kept - (13 + 12) } := by unfold cmL; rw [e4.1, sz4]
  have ecT : cmT l (fresh (j + 1)) = { fresh (j + 1) with kept := 103, last := l.bytes.length + 1, state := 2 } := by unfold cmT; rw [e4.2, sz4]; rfl
  have hlen : (cmL l (fresh (j + 1))).bytes.length = l.bytes.length + 25 := by
    rw [ecL]; show (putG l _).bytes.length = _; rw [putG_len, sz4]
  have hlo1 : LOk (cmL l (fresh (j + 1))) d := by
    refine ⟨?_, ?_, by rw [hlen]; omega, ?_⟩
    · rw [ecL]; exact hlo.half
    · rw [hlen]; have := hlo.fl; rw [ecL]; show l.flushed ≤ _; omega
    · rw [ecL]; exact hlo.at'
  have hlo2 := hlo1.fl' (l.bytes.length + 1)
  have hfb : flB (cmL l (fresh (j + 1))) (l.bytes.length + 1) = true := by
    unfold flB
    have := hlo.fl
    refine decide_eq_true ⟨?_, ?_⟩
    · rw [hlen]; rw [ecL]; show l.flushed < _; omega
    · rw [ecL]; show l.flushed + 1 ≤ _; omega
  have ecF : cmF l (fresh (j + 1)) = { cmL l (fresh (j + 1)) with flushed := (cmL l (fresh (j + 1))).bytes.length } := by unfold cmF flL; rw [if_pos hfb]
  have hFb : (cmF l (fresh (j + 1))).bytes.length = l.bytes.length + 25 := by rw [ecF]; exact hlen
  have hFk : (cmF l (fresh (j + 1))).kept = l.kept - 25 := by rw [ecF, ecL]
  have hFs : (cmF l (fresh (j + 1))).starts.length = l.starts.length + 1 := by rw [ecF, ecL]; show (l.starts ++ [_]).length = _; simp
  have hTk : (cmT l (fresh (j + 1))).kept = 103 := by rw [ecT]
  refine (commit_ok (n := j + 1) h1 (by omega) ht rfl rfl (by show 0 < _; omega) (by show 128 ≤ _; omega) (by show 50 ≤ 128; omega) (by omega) (by omega) (by omega) (by rw [comM_len]; omega) hdo (by omega) hlo1 ⟨by rw [hFb]; omega, by rw [hFs]; omega, by rw [hFk]; omega, by rw [hTk]; omega, by rw [hTk]; omega⟩).mono ?_
  rintro e w' ⟨rfl, A', g, mv⟩
  rw [comM_next j hj] at g
  have sz6 := markS_size 6 (cmT l (fresh (j + 1))) (by omega)
  have e6 := spend_eqs (cmF l (fresh (j + 1))) (cmT l (fresh (j + 1))) (markS 6 (cmT l (fresh (j + 1)))) 0 (by rw [sz6, hTk]; omega)
  have hend : endL (cmF l (fresh (j + 1))) (cmT l (fresh (j + 1))) = { putG (cmF l (fresh (j + 1))) (markS 6 (cmT l (fresh (j + 1)))) with kept := l.kept - 25 - 25 - (103 - 25) } := by
    unfold endL
    rw [e6.1, e6.2, sz6, hTk, hFk]
  have hEb : (endL (cmF l (fresh (j + 1))) (cmT l (fresh (j + 1)))).bytes.length = l.bytes.length + 50 := by
    rw [hend]; show (putG _ _).bytes.length = _; rw [putG_len, sz6, hFb]
  refine ⟨rfl, ⟨A', X, _, _, g, h2.step mv, ⟨?_, ?_, by rw [hEb]; omega, ?_⟩, ?_, by rw [hEb]; omega, ?_, ?_⟩⟩
  · rw [hend]; exact hlo2.half
  · rw [hEb]; have h5 := hlo2.fl; have h6 : (flL (cmL l (fresh (j + 1))) (l.bytes.length + 1)).bytes.length = l.bytes.length + 25 := hFb; rw [hend]; show (flL (cmL l (fresh (j + 1))) (l.bytes.length + 1)).flushed ≤ _; omega
  · rw [hend]; exact hlo2.at'
  · exact (hdo.fl hlo1 (l.bytes.length + 1)).1.mono (by omega)
  · rw [hend]; show l.kept - 25 - 25 - (103 - 25) = _; omega
  · rw [hend]; show ((cmF l (fresh (j + 1))).starts ++ [_]).length = _; rw [List.length_append, hFs]; simp; omega

/-- .. and one more began. -/
structure CbAt (w wr : World) (m p dp lp j : Nat) : Prop where
  all : Calls Tryz.prog 27 #[.pointer (some ⟨m, 0, none⟩)] wr (AllN wr (64 - j + 1))
  bl : Below w.heap.size w wr

theorem CmAt.done {w wr : World} {m p dp lp j : Nat} (h : CmAt w wr m p dp lp j) (hj : j ≤ 64) (h0 : 0 < j) : Calls Tryz.prog 28 #[.pointer (some ⟨m, 0, none⟩)] wr fun e w5 => ∃ g cap, e = .returned (.slice (some ⟨g, 0, none⟩) j cap) ∧ j ≤ cap ∧
    Hid (Calls Tryz.prog 8 #[.pointer (some ⟨m, 0, none⟩)] w5 fun e w' => e = .returned (.tuple #[.int .i64 65, .int .i64 0]) ∧ CbAt w w' m p dp lp j ∧ w'.cell? ⟨g, j - 1, none⟩ = some (.int .i64 j)) := by
  obtain ⟨A, X, l, d, h1, h2, hlo, hdo, hby, hke, hst⟩ := h.ex
  refine (done_any h1 (by rw [comM_len]; exact h0) (by rw [comM_len]; omega)).mono ?_
  rintro e w5 ⟨⟨g, cap, rfl, hc, hcap, hgn⟩, hb⟩
  rw [comM_len] at hcap
  have hcell := hc (j - 1) (by rw [comM_len]; omega)
  have e1 : (comM j).done[j - 1]'(by rw [comM_len]; omega) = j := by
    have : ((List.range j).map (· + 1))[j - 1]'(by simp; omega) = j - 1 + 1 := by rw [List.getElem_map, List.getElem_range]
    have e2 : j - 1 + 1 = j := by omega
    rw [e2] at this
    exact this
  rw [e1] at hcell
  have hg := World.block_lt_of_cell? _ _ hcell
  have hgA : ¬ A g := fun x => by have := h1.lt g x; omega
  rw [comM_len]
  refine ⟨g, cap, rfl, hcap, ?_⟩
  have hn : (comM j).T ((comM j).next : Int) = none := by show (if _ then _ else _) = _; rw [if_neg]; show ¬ ((j : Int) < ((65 : Nat) : Int) ∧ ((65 : Nat) : Int) ≤ 64); omega
  refine hidx ((begin_ok (h1.below hb) (by show 65 ≤ _; omega) hn (by show 64 - j < 64; omega) (by omega) (by omega)).mono ?_)
  rintro e w' ⟨rfl, A', b, g', mv⟩
  have hmem : ∀ n, (comM j).born.T n ≠ none ↔ ((j : Int) + 1) ≤ n ∧ n < ((j : Int) + 1) + ((64 - j + 1 : Nat) : Int) := fun n => by
    show (if n = ((65 : Nat) : Int) then some (fresh 65) else (if (j : Int) < n ∧ n ≤ 64 then some (fresh n.toNat) else none)) ≠ none ↔ _
    by_cases e : n = ((65 : Nat) : Int)
    · rw [if_pos e]; simp; omega
    · rw [if_neg e]
      by_cases q : (j : Int) < n ∧ n ≤ 64
      · rw [if_pos q]; simp; omega
      · rw [if_neg q]; simp; omega
  have hO := (h2.below hb).step mv
  refine ⟨rfl, ⟨?_, hO.bl⟩, (World.cell?_of_block (w := w5) (a := ⟨g, j - 1, none⟩) (mv.off hg hgA).1).trans hcell⟩
  refine (all_any g' (by show 64 - j + 1 ≤ _; omega) (fun n hn => by have := (hmem n).1 hn; omega)).mono ?_
  rintro e w2 ⟨v, NL, L, rfl, hN, hp, hs, hb2⟩
  obtain ⟨a, c, rfl⟩ := hs.val
  have := all_len hN _ _ hmem
  rw [hp.length_eq, List.length_map, this]
  exact ⟨⟨a, c, rfl⟩, hb2⟩

end Go.Proofs.YthobhmejlonncaaGreat

namespace Go.Proofs.YthobhmejlonncaaGreat
open Go.RowKit Go.Sort
set_option linter.unusedVariables false
set_option linter.unusedSimpArgs false

set_option maxHeartbeats 6400000 in
set_option maxRecDepth 20000 in
theorem tmany_walk (many : Int) (hc1 : -9223372036854775808 ≤ many) (hc2 : many ≤ 9223372036854775807) (w : World) :
    Calls Tryz.prog 5 #[.int .i64 many] w fun e w' => e = .returned (.bool true) ∧ Below w.heap.size w w' := by
  have HB := hidx (tbegun_any w)
  go_enter Tryz.func5, Tryz.ntmps5
  go_wp2_with fail
  refine HB.out.mono ?_
  rintro e w1 ⟨⟨m, p, dp, lp, A1, rfl, h1, hA1, b1⟩⟩
  have O1 : Hid (Ours w w1 A1) := hidx ⟨hA1, b1⟩
  have H1 := hidx h1
  have HAW := hidx (tawake_any w1)
  clear HB h1 hA1 b1
  go_wp2_with fail
  refine HAW.out.mono ?_
  rintro e w2 ⟨rfl, b2⟩
  have R2 : Hid (MnAt w w2 m p dp lp 0) := hidx ⟨A1, _, by rw [manM_zero]; exact H1.out.below b2, O1.out.below b2⟩
  clear HAW H1 O1 b2
  go_wp2_with fail
  go_loopw [5] (fun v5 wr => ∃ i : Nat, i ≤ 64 ∧ v5 = .int .i64 ((i : Int) + 1) ∧ Hid (MnAt w wr m p dp lp i)) (fun v _ => 65 - (intOf v).toNat)
  case atStart => exact ⟨0, by omega, rfl, R2⟩
  case round =>
    obtain ⟨i, hi, rfl, HR⟩ := hrel
    clear R2
    by_cases hlt : i < 64
    · have HBE := hidx (HR.out.begin hlt)
      clear HR
      go_wp2_with fail
      refine HBE.out.mono ?_
      rintro e w3 ⟨rfl, h3⟩
      have H3 := hidx h3
      have HCO : Hid (Calls Tryz.prog 29 #[.pointer (some ⟨m, 0, none⟩)] w3 fun e w' => e = .returned (.int .i64 ((i : Int) + 1 + 1)) ∧ w3 = w') := h3.coming (by omega)
      clear HBE h3
      go_wp2_with fail
      refine HCO.out.mono ?_
      rintro e w4 ⟨rfl, rfl⟩
      clear HCO
      go_wp2_with fail
      go_roundw
      case rel => exact ⟨i + 1, by omega, by go_num, H3⟩
      case measure => simp [intOf]; omega
    · obtain rfl : i = 64 := by omega
      obtain ⟨hbm, hcm⟩ := HR.out.many
      have HBM := hidx hbm
      have HAL := hidx (hcm.all (by omega))
      have HC0 := hidx hcm
      clear HR hbm hcm
      go_wp2_with fail
      refine HBM.out.mono ?_
      rintro e w3 ⟨rfl, rfl⟩
      clear HBM
      go_wp2_with fail
      refine HAL.out.mono ?_
      rintro e w4 ⟨⟨a, c, rfl⟩, b4⟩
      have HC4 := hidx (HC0.out.below b4)
      clear HAL HC0 b4
      go_upto_if 64 with fail
      go_cut [11] from 64 to 67 (fun v11 wx => ∃ k : Nat, v11 = .int .i64 ((k : Int) + 1) ∧ k ≤ 63 ∧ wx = w4)
      case first =>
        by_cases hpos : 0 < many
        · have s1 : decide (0 < many) = true := by simp; omega
          have hm1 : many.tmod 64 = many % 64 := Int.tmod_eq_emod_of_nonneg (by omega)
          go_wp2_with fail
          go_meet
          case rel => exact ⟨(many % 64).toNat, by rw [Int.toNat_of_nonneg (by omega)], by omega, rfl⟩
        · have s1 : decide (0 < many) = false := by simp; omega
          go_wp2_with fail
          go_meet
          case rel => exact ⟨0, rfl, by omega, rfl⟩
      obtain ⟨k, rfl, hk2, hw4⟩ := hcut
      obtain rfl := hw4.symm
      go_wp2_with fail
      go_loopw [12] (fun v12 wr => ∃ j : Nat, j ≤ k + 1 ∧ v12 = .int .i64 ((j : Int) + 1) ∧ Hid (CmAt w wr m p dp lp j)) (fun v _ => k + 2 - (intOf v).toNat)
      case atStart => exact ⟨0, by omega, rfl, HC4⟩
      case round =>
        obtain ⟨j, hj, rfl, HC⟩ := hrel
        clear HC4
        by_cases hjk : j < k + 1
        · have HCM := hidx (HC.out.commit (by omega))
          have hj1 : (j : Int) ≤ (k : Int) := by omega
          clear HC
          go_wp2_with fail
          refine HCM.out.mono ?_
          rintro e w5 ⟨rfl, h5⟩
          have H5 := hidx h5
          clear HCM h5
          go_wp2_with fail
          go_roundw
          case rel => exact ⟨j + 1, by omega, by go_num, H5⟩
          case measure => simp [intOf]; omega
        · obtain rfl : j = k + 1 := by omega
          have HDO : Hid (Calls Tryz.prog 28 #[.pointer (some ⟨m, 0, none⟩)] _ fun e w5 => ∃ g cap, e = .returned (.slice (some ⟨g, 0, none⟩) (k + 1) cap) ∧ k + 1 ≤ cap ∧ Hid (Calls Tryz.prog 8 #[.pointer (some ⟨m, 0, none⟩)] w5 fun e w' => e = .returned (.tuple #[.int .i64 65, .int .i64 0]) ∧ CbAt w w' m p dp lp (k + 1) ∧ w'.cell? ⟨g, k, none⟩ = some (.int .i64 ((k + 1 : Nat) : Int)))) := HC.out.done (by omega) (by omega)
          clear HC
          go_wp2_with fail
          refine HDO.out.mono ?_
          rintro e w5 ⟨g, cap, rfl, hcap, HBE⟩
          clear HDO
          go_wp2_with fail
          refine HBE.out.mono ?_
          rintro e w6 ⟨rfl, hcb, hcell⟩
          have HAL := hidx hcb.all
          have HBL := hidx hcb.bl
          have hcell' : w6.cell? ⟨g, k, none⟩ = some (.int .i64 ((k : Int) + 1)) := hcell
          clear HBE hcb hcell
          go_wp2_with fail
          refine HAL.out.mono ?_
          rintro e w7 ⟨⟨a7, c7, rfl⟩, b7⟩
          have HF := hidx (below_chain HBL.out b7)
          have hk7 : ((64 - (k + 1) + 1 : Nat) : Int) = 64 - ((k : Int) + 1) + 1 := by omega
          clear HAL HBL b7
          go_wp2
          go_ret
          exact ⟨xret_bool (by rw [beq_iff_eq]; omega), HF.out⟩

end Go.Proofs.YthobhmejlonncaaGreat
