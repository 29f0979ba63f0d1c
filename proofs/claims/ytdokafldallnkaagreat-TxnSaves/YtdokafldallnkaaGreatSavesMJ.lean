/-
  The mathematics of girderlaw09.TxnSaves: where each savepoint is, and what stood there.
  The two rows of girderlaw09.TxnSaves, beside the manager's blocks.
  Commit of a transaction with a chain.
  Rollback, slot and Commit where girderlaw09.TxnSaves stands.
-/
import Derived.Test.YtdokafldallnkaaGreatTxGJ
import Derived.Test.YtdokafldallnkaaGreatTxNewJ
namespace Go.Proofs.YtdokafldallnkaaGreat
open Go.RowKit Go.Sort
set_option linter.unusedVariables false
set_option linter.unusedSimpArgs false

/-- The places ps and states ss of the savepoints, each ahead of one of the changes L (the last of them first). -/
structure SvG (L : List UpG) (V : Nat → ByteArray) (ps : List Nat) (ss : List ByteArray) : Prop where
  lp : ps.length = L.length
  ls : ss.length = L.length
  low : ∀ k, k < L.length → plOf (ups (L.drop (L.length - k))) ≤ ps.getD k 0
  high : ∀ k, k < L.length → ∀ i (hi : i < L.length), i < L.length - k → ps.getD k 0 < L[i].u.pl
  was : ∀ k, k < L.length → undV V (L.take (L.length - k)) 1 = ss.getD k ⟨#[]⟩

theorem SvG.nil (V : Nat → ByteArray) : SvG [] V [] [] := ⟨rfl, rfl, fun k hk => absurd hk (Nat.not_lt_zero _), fun k hk => absurd hk (Nat.not_lt_zero _), fun k hk => absurd hk (Nat.not_lt_zero _)⟩

theorem getD_snoc_lt {α : Type} (l : List α) (x d : α) (k : Nat) (h : k < l.length) : (l ++ [x]).getD k d = l.getD k d := by
  simp [List.getD, List.getElem?_append_left h]

theorem getD_snoc_eq {α : Type} (l : List α) (x d : α) (k : Nat) (h : k = l.length) : (l ++ [x]).getD k d = x := by
  subst h
  simp [List.getD]

theorem SvG.put {L : List UpG} {V : Nat → ByteArray} {ps : List Nat} {ss : List ByteArray} (h : SvG L V ps ss) {a pl prev : Nat} {S : ByteArray} (ha : plOf (ups L) ≤ a) (hpl : a < pl) : SvG (⟨⟨pl, S, V 1⟩, 1, prev⟩ :: L) (updV V 1 S) (ps ++ [a]) (ss ++ [V 1]) := by
  have e1 : updV (updV V 1 S) 1 (V 1) = V := by rw [updV_upd, updV_self]
  have hps : ∀ k, k < L.length → ps.getD k 0 < pl := fun k hk => by
    have h0 : 0 < L.length := by omega
    have := h.high k hk 0 h0 (by omega)
    have h2 : L[0].u.pl = plOf (ups L) := by
      cases L with
      | nil => simp at h0
      | cons x xs => rfl
    omega
  refine ⟨by simp [h.lp], by simp [h.ls], fun k hk => ?_, fun k hk i hi hik => ?_, fun k hk => ?_⟩
  · simp only [List.length_cons] at hk ⊢
    by_cases e : k = L.length
    · rw [getD_snoc_eq _ _ _ _ (by rw [h.lp]; exact e), show L.length + 1 - k = 0 + 1 by omega, List.drop_succ_cons, List.drop_zero]
      exact ha
    · rw [getD_snoc_lt _ _ _ _ (by rw [h.lp]; omega), show L.length + 1 - k = (L.length - k) + 1 by omega, List.drop_succ_cons]
      exact h.low k (by omega)
  · simp only [List.length_cons] at hk hi hik
    by_cases e : k = L.length
    · rw [getD_snoc_eq _ _ _ _ (by rw [h.lp]; exact e)]
      have : i = 0 := by omega
      subst this
      exact hpl
    · rw [getD_snoc_lt _ _ _ _ (by rw [h.lp]; omega)]
      cases i with
      | zero => exact hps k (by omega)
      | succ i =>
        simp only [List.getElem_cons_succ]
        exact h.high k (by omega) i (by omega) (by omega)
  · simp only [List.length_cons] at hk ⊢
    by_cases e : k = L.length
    · rw [getD_snoc_eq _ _ _ _ (by rw [h.ls]; exact e), show L.length + 1 - k = 0 + 1 by omega, List.take_succ_cons, List.take_zero]
      show updV (updV V 1 S) 1 (V 1) 1 = _
      rw [e1]
    · rw [getD_snoc_lt _ _ _ _ (by rw [h.ls]; omega), show L.length + 1 - k = (L.length - k) + 1 by omega, List.take_succ_cons]
      show undV (updV (updV V 1 S) 1 (V 1)) _ 1 = _
      rw [e1]
      exact h.was k (by omega)

theorem gx_save2 {w : World} {m p : Nat} {X : Int → Nat} {d : DG} {n : Nat} {L Ls : List UpG} {K0 F C B a : Nat} {w0 : World} {A0 : Nat → Prop} {lp : Nat} {M0 : MgG} {V : Nat → ByteArray} (h : GX w0 w m p X A0 lp d M0 n K0 F C B a Ls V L) :
    Calls Tryz.prog 19 #[.pointer (some ⟨m, 0, none⟩), .int .i64 n] w fun e w' => ∃ a' B' : Nat, e = .returned (.tuple #[.int .u64 a', .int .i64 0]) ∧ a' ≤ B' ∧ plOf (ups L) ≤ a' ∧ GX w0 w' m p X A0 lp d M0 n K0 F C B' a' L V L ∧ w = w' := by
  refine (gx_save h).mono ?_
  rintro e w' ⟨a', B', rfl, h1, h2, rfl⟩
  have : plOf (ups L) ≤ a' := by
    obtain ⟨A, P, l, rs, t, hM, hR, hG, hst, hq, hbF, hP, mv, hC, hB, ha, hcL, hlo⟩ := h2.ex
    exact hcL.plOf
  exact ⟨a', B', rfl, h1, this, h2, rfl⟩

end Go.Proofs.YtdokafldallnkaaGreat

namespace Go.Proofs.YtdokafldallnkaaGreat
open Go.RowKit Go.Sort
set_option linter.unusedVariables false
set_option linter.unusedSimpArgs false

section
variable {m p : Nat} {X : Int → Nat} {A A0 A2 : Nat → Prop} {lp : Nat} {d : DG} {M0 : MgG} {n K0 F C B a : Nat} {Ls L : List UpG} {V : Nat → ByteArray} {w w0 wx wy wa w7 : World}

theorem GX.re (h : GX w0 wx m p X A0 lp d M0 n K0 F C B a Ls V L) : ∃ A, GX wx wx m p X A lp d M0 n K0 F C B a Ls V L ∧ Moves A0 A w0 wx ∧ ∀ k, A k → k < wx.heap.size := by
  obtain ⟨A, P, l, rs, t, hM, hR, hG, hst, hq, hbF, hP, mv, hC, hB, ha, hcL, hlo⟩ := h.ex
  exact ⟨A, ⟨A, P, l, rs, t, hM, hR, hG, hst, hq, hbF, hP, Moves.refl _ _, hC, hB, ha, hcL, hlo⟩, mv, hM.lt⟩

theorem GX.grown (h : GX wx wx m p X A lp d M0 n K0 F C B a Ls V L) (hs : ∀ k, A k → wy.heap[k]? = wx.heap[k]?) (hz : wx.heap.size ≤ wy.heap.size) : GX wy wy m p X A lp d M0 n K0 F C B a Ls V L := by
  obtain ⟨A', P, l, rs, t, hM, hR, hG, hst, hq, hbF, hP, mv, hC, hB, ha, hcL, hlo⟩ := h.ex
  have hA : ∀ k, A' k → A k := fun k x => by
    rcases mv.2 k x with y | y
    · exact y
    · have := hM.lt k x; omega
  exact ⟨A', P, l, rs, t, hM.same (fun k x => hs k (hA k x)) hz, hR, hG, hst, hq, hbF, hP, ⟨(Moves.refl A wy).1, fun k x => .inl (hA k x)⟩, hC, hB, ha, hcL, hlo⟩

theorem sv_apart {w : World} {e e' : TypeId} {z z' n n' : Nat} {v v' : Value} {xs xs' : List Value} (h : w.ownsRow 0 e z v n xs) (h' : w.ownsRow 0 e' z' v' n' xs') (hne : e ≠ e') : ∀ g, v.ownBlock = some g → v'.ownBlock ≠ some g := by
  intro g h1 h2
  obtain ⟨c1, e1⟩ := owns_block h h1
  obtain ⟨c2, e2⟩ := owns_block h' h2
  unfold Blk at e1 e2
  rw [e1] at e2
  simp only [Option.some.injEq, Obj.cells.injEq] at e2
  exact hne e2.2.1

theorem sv_form {w : World} {e : TypeId} {z n : Nat} {v : Value} {xs : List Value} (h : w.ownsRow 0 e z v n xs) : ∃ a c, v = .slice a n c ∧ (n = 0 ∨ ∃ g, a = some ⟨g, 0, none⟩ ∧ g < w.heap.size ∧ ∀ k u, xs[k]? = some u → w.cell? ⟨g, k, none⟩ = some u) := by
  rcases h.2 with ⟨rfl, h1⟩ | ⟨g, cap, cur, rfl, h0, hb, hr⟩
  · exact ⟨none, 0, by rw [h1], .inl h1⟩
  · exact ⟨some ⟨g, 0, none⟩, cap, rfl, .inr ⟨g, rfl, owns_lt h rfl, owns_cells h⟩⟩

structure SvR (w wx : World) (A : Nat → Prop) (pv tv : Value) (ps : List Nat) (ss : List ByteArray) : Prop where
  our : Ours w wx A
  lt : ∀ k, A k → k < wx.heap.size
  pl : wx.ownsRow 0 28 1 pv ps.length (ps.map fun k => Value.int .u64 ((k : Nat) : Int))
  tx : wx.ownsRow 0 9 1 tv ss.length (ss.map Value.string)
  offp : ∀ g, pv.ownBlock = some g → ¬ A g ∧ w.heap.size ≤ g
  offt : ∀ g, tv.ownBlock = some g → ¬ A g ∧ w.heap.size ≤ g

variable {pv tv pv' tv' : Value} {ps : List Nat} {ss : List ByteArray}

theorem SvR.moves (h : SvR w wx A pv tv ps ss) (mv : Moves A A2 wx wy) (hl : ∀ k, A2 k → k < wy.heap.size) : SvR w wy A2 pv tv ps ss :=
  ⟨h.our.step mv, hl, owns_same h.pl fun g k => (mv.off (owns_lt h.pl k) (h.offp g k).1).1, owns_same h.tx fun g k => (mv.off (owns_lt h.tx k) (h.offt g k).1).1, fun g k => ⟨(mv.off (owns_lt h.pl k) (h.offp g k).1).2, (h.offp g k).2⟩, fun g k => ⟨(mv.off (owns_lt h.tx k) (h.offt g k).1).2, (h.offt g k).2⟩⟩

theorem SvR.below (h : SvR w wx A pv tv ps ss) (b : Below wx.heap.size wx wy) : SvR w wy A pv tv ps ss :=
  h.moves (Moves.of_kept (Kept.of_below b)) fun k x => Nat.lt_of_lt_of_le (h.lt k x) b.size

theorem SvR.apart (h : SvR w wx A pv tv ps ss) : ∀ g, pv.ownBlock = some g → tv.ownBlock ≠ some g := sv_apart h.pl h.tx (by decide)

theorem SvR.push1 {x : Nat} (h : SvR w wx A pv tv ps ss) (k1 : Below wx.heap.size wx wa) (o1 : w7.ownsRow 0 28 1 pv' (ps.length + 1) ((ps.map fun k => Value.int .u64 ((k : Nat) : Int)) ++ [.int .u64 ((x : Nat) : Int)])) (g1 : wa.grownBy w7 pv.ownBlock) (l1 : ∀ k, pv'.ownBlock = some k → pv.ownBlock = some k ∨ wa.heap.size ≤ k) :
    SvR w w7 A pv' tv (ps ++ [x]) ss ∧ (∀ k, A k → w7.heap[k]? = wx.heap[k]?) ∧ wx.heap.size ≤ w7.heap.size := by
  have hz := h.our.bl.size
  have hz1 := k1.size
  have hz2 := g1.size
  have hold : ∀ k, k < wx.heap.size → pv.ownBlock ≠ some k → w7.heap[k]? = wx.heap[k]? := fun k hk hn => (g1.block k (by omega) (fun e => hn e.symm)).trans (k1.block k hk)
  have hA : ∀ k, A k → w7.heap[k]? = wx.heap[k]? := fun k x => hold k (h.lt k x) fun e => (h.offp k e).1 x
  refine ⟨⟨⟨h.our.ge, ?_⟩, fun k x => by have := h.lt k x; omega, by simpa using o1, owns_same h.tx fun g k => hold g (owns_lt h.tx k) fun e => h.apart g e k, fun g k => ?_, h.offt⟩, hA, by omega⟩
  · exact Below.grown (below_chain h.our.bl k1) g1 (by omega) fun k e => (h.offp k e).2
  · rcases l1 g k with y | y
    · exact h.offp g y
    · exact ⟨fun x => by have := h.lt g x; omega, by omega⟩

theorem SvR.push2 {s : ByteArray} (h : SvR w wx A pv tv ps ss) (k1 : Below wx.heap.size wx wa) (o1 : w7.ownsRow 0 9 1 tv' (ss.length + 1) (ss.map Value.string ++ [.string s])) (g1 : wa.grownBy w7 tv.ownBlock) (l1 : ∀ k, tv'.ownBlock = some k → tv.ownBlock = some k ∨ wa.heap.size ≤ k) :
    SvR w w7 A pv tv' ps (ss ++ [s]) ∧ (∀ k, A k → w7.heap[k]? = wx.heap[k]?) ∧ wx.heap.size ≤ w7.heap.size := by
  have hz := h.our.bl.size
  have hz1 := k1.size
  have hz2 := g1.size
  have hold : ∀ k, k < wx.heap.size → tv.ownBlock ≠ some k → w7.heap[k]? = wx.heap[k]? := fun k hk hn => (g1.block k (by omega) (fun e => hn e.symm)).trans (k1.block k hk)
  have hA : ∀ k, A k → w7.heap[k]? = wx.heap[k]? := fun k x => hold k (h.lt k x) fun e => (h.offt k e).1 x
  refine ⟨⟨⟨h.our.ge, ?_⟩, fun k x => by have := h.lt k x; omega, owns_same h.pl fun g k => hold g (owns_lt h.pl k) fun e => h.apart g k e, by simpa using o1, h.offp, fun g k => ?_⟩, hA, by omega⟩
  · exact Below.grown (below_chain h.our.bl k1) g1 (by omega) fun k e => (h.offt k e).2
  · rcases l1 g k with y | y
    · exact h.offt g y
    · exact ⟨fun x => by have := h.lt g x; omega, by omega⟩

/-- Where the law stands: its rows, and the transaction. -/
structure SvI (w wx : World) (m p : Nat) (X : Int → Nat) (lp : Nat) (d : DG) (M0 : MgG) (n K0 F : Nat) (V : Nat → ByteArray) (L : List UpG) (pv tv : Value) (ps : List Nat) (ss : List ByteArray) : Prop where
  ex : ∃ A B a Ls, GX wx wx m p X A lp d M0 n K0 F 0 B a Ls V L ∧ SvR w wx A pv tv ps ss
  sv : SvG L V ps ss
  undo : UndOk V L
  long : (V 1).size = 1 + L.length
  pls : ∀ y ∈ L, 0 < y.u.pl

end

end Go.Proofs.YtdokafldallnkaaGreat

namespace Go.Proofs.YtdokafldallnkaaGreat
open Go.RowKit Go.Sort
set_option linter.unusedVariables false
set_option linter.unusedSimpArgs false

/-- What Commit leaves. -/
structure GCm (w0 w' : World) (m p : Nat) (X : Int → Nat) (A0 : Nat → Prop) (lp : Nat) (M0 : MgG) (rs0 : List ByteArray) (n : Nat) (K0 F N : Nat) (V : Nat → ByteArray) : Prop where
  ex : ∃ A P l rs ext d, MSys w' m p X A P l d ((M0.pushed n).gone n) ∧ RecsAt l rs ∧ l.kept = K0 ∧ l.bytes.length + l.kept ≤ F ∧ PgV lp P V ∧ Moves A0 A w0 w' ∧ rs = rs0 ++ ext ∧ LOk l d ∧ DOk d (N + 2)

section
variable {w : World} {m p : Nat} {X : Int → Nat} {A : Nat → Prop} {P : PG} {l : LG} {d : DG} {M : MgG} {rs : List ByteArray} {t : MtV} {n : Nat} {L xs : List UpG} {x : UpG} {K0 F N : Nat}

theorem g_commit {w0 : World} {A0 : Nat → Prop} {lp : Nat} {M0 : MgG} {rs0 : List ByteArray} {V : Nat → ByteArray} (h : GS w0 w m p X A0 lp d M0 rs0 n K0 F 1 V L) (hF : F ≤ 4194304) (hd : DOk d N) (hN : N ≤ 90000) (hdn : M0.done.length ≤ 1000000) :
    Calls Tryz.prog 24 #[.pointer (some ⟨m, 0, none⟩), .int .i64 n] w fun e w' => e = .returned (.int .i64 0) ∧ GCm w0 w' m p X A0 lp M0 rs0 n K0 F N V := by
  obtain ⟨A, P, l, rs, t, ext, hM, hR, hG, hst, hq, hbF, hP, mv, hext, hlo⟩ := h.ex
  have hnn := hG.nn
  have hla := hG.last
  have hk := hG.kept
  have ec : cOf t.state = 50 := by rw [hst]; rfl
  have hcnt := hR.count
  have hst' := hR.len
  have sz4 := markS_size 4 t (by omega)
  have e4 := spend_eqs l t (markS 4 t) 25 (by rw [sz4]; omega)
  have ecL : cmL l t = { putG l (markS 4 t) with kept := l.kept - (13 + 12) } := by unfold cmL; rw [e4.1, sz4]
  have ecT : cmT l t = { t with kept := t.kept - 25, last := l.bytes.length + 1, state := 2 } := by unfold cmT; rw [e4.2, sz4]
  have hlen : (cmL l t).bytes.length = l.bytes.length + 25 := by rw [ecL]; show (putG l _).bytes.length = _; rw [putG_len, sz4]
  have hlo1 : LOk (cmL l t) d := by
    refine ⟨?_, ?_, by rw [hlen]; omega, ?_⟩
    · rw [ecL]; exact hlo.half
    · rw [hlen]; have := hlo.fl; rw [ecL]; show l.flushed ≤ _; omega
    · rw [ecL]; exact hlo.at'
  have hlo2 := hlo1.fl' (l.bytes.length + 1)
  have hfb : flB (cmL l t) (l.bytes.length + 1) = true := by
    unfold flB
    have := hlo.fl
    refine decide_eq_true ⟨?_, ?_⟩
    · rw [hlen]; rw [ecL]; show l.flushed < _; omega
    · rw [ecL]; show l.flushed + 1 ≤ _; omega
  have ecF : cmF l t = { cmL l t with flushed := (cmL l t).bytes.length } := by unfold cmF flL; rw [if_pos hfb]
  have hFb : (cmF l t).bytes.length = l.bytes.length + 25 := by rw [ecF]; exact hlen
  have hFk : (cmF l t).kept = l.kept - 25 := by rw [ecF, ecL]
  have hFs : (cmF l t).starts.length = l.starts.length + 1 := by rw [ecF, ecL]; show (l.starts ++ [_]).length = _; simp
  have hTk : (cmT l t).kept = t.kept - 25 := by rw [ecT]
  have hRF : RecsAt (cmF l t) (rs ++ [markS 4 t]) := by
    have := hR.snoc (markS 4 t)
    rw [ecF, ecL]
    exact ⟨this.starts, this.long, this.text⟩
  refine (commit_ok (n := n) hM (by omega) (MgG.set_get M0 n t) hst hG.tx (by omega) (by omega) (by omega) (by omega) (by omega) (by omega) hdn hd hN hlo1 ⟨by rw [hFb]; omega, by rw [hFs]; omega, by rw [hFk]; omega, by rw [hTk]; omega, by rw [hTk]; omega⟩).mono ?_
  rintro e w' ⟨rfl, A', g, mv'⟩
  rw [MgG.set_pushed, MgG.set_gone] at g
  obtain ⟨a1, a2, a3, a4⟩ := TxG.ended (K0 := K0) (F := F) (l := cmF l t) (t := cmT l t) (by rw [hTk]; omega) hRF (by rw [hFk, hTk]; omega) (by rw [hFb, hFk]; omega)
  exact ⟨rfl, ⟨A', P, _, _, ext ++ [markS 4 t] ++ [markS 6 (cmT l t)], _, g, a1, a2, a4, hP, mv.trans mv', by rw [hext]; simp, ended_lok (by rw [hTk]; omega) hlo2 a3 (by rw [hFb]; omega), (hd.fl hlo1 (l.bytes.length + 1)).1⟩⟩

end

end Go.Proofs.YtdokafldallnkaaGreat

namespace Go.Proofs.YtdokafldallnkaaGreat
open Go.RowKit Go.Sort
set_option linter.unusedVariables false
set_option linter.unusedSimpArgs false

section
variable {m p : Nat} {X : Int → Nat} {A A0 A2 : Nat → Prop} {lp : Nat} {d : DG} {M0 : MgG} {n K0 F C B a : Nat} {Ls L : List UpG} {V : Nat → ByteArray} {w w0 wx wy wa w7 : World} {pv tv pv' tv' : Value} {ps : List Nat} {ss : List ByteArray}

/-- j changes are to be taken back to come to the place pk, where sk stood. -/
structure SvB (w wx : World) (m p : Nat) (X : Int → Nat) (lp : Nat) (d : DG) (M0 : MgG) (n K0 F : Nat) (pv tv : Value) (ps : List Nat) (ss : List ByteArray) (pk : Nat) (sk : ByteArray) (j : Nat) : Prop where
  ex : ∃ A rs V L, GS wx wx m p X A lp d M0 rs n K0 F 1 V L ∧ SvR w wx A pv tv ps ss ∧ UndOk V L ∧ j ≤ L.length ∧ (∀ i (hi : i < L.length), i < j → pk < L[i].u.pl) ∧ plOf (ups (L.drop j)) ≤ pk ∧ undV V (L.take j) 1 = sk

theorem GS.re {rs0 : List ByteArray} {st : Int} (h : GS w0 wx m p X A0 lp d M0 rs0 n K0 F st V L) : ∃ A rs, GS wx wx m p X A lp d M0 rs n K0 F st V L ∧ Moves A0 A w0 wx ∧ ∀ k, A k → k < wx.heap.size := by
  obtain ⟨A, P, l, rs, t, ext, hM, hR, hG, hst, hq, hbF, hP, mv, hext, hlo⟩ := h.ex
  exact ⟨A, rs, ⟨A, P, l, rs, t, [], hM, hR, hG, hst, hq, hbF, hP, Moves.refl _ _, by rw [List.append_nil], hlo⟩, mv, hM.lt⟩

theorem GS.belowW {rs0 : List ByteArray} {st : Int} (h : GS wx wx m p X A lp d M0 rs0 n K0 F st V L) (b : Below wx.heap.size wx wy) : GS wy wy m p X A lp d M0 rs0 n K0 F st V L := by
  obtain ⟨A', P, l, rs, t, ext, hM, hR, hG, hst, hq, hbF, hP, mv, hext, hlo⟩ := h.ex
  have hA : ∀ k, A' k → A k := fun k x => by
    rcases mv.2 k x with y | y
    · exact y
    · have := hM.lt k x; omega
  exact ⟨A', P, l, rs, t, ext, hM.below b, hR, hG, hst, hq, hbF, hP, ⟨(Moves.refl A wy).1, fun k x => .inl (hA k x)⟩, hext, hlo⟩

theorem SvI.back (h : SvI w wx m p X lp d M0 n K0 F V L pv tv ps ss) (k : Nat) (hk : k < L.length) : SvB w wx m p X lp d M0 n K0 F pv tv ps ss (ps.getD k 0) (ss.getD k ⟨#[]⟩) (L.length - k) := by
  obtain ⟨A, B, a, Ls, g, r⟩ := h.ex
  obtain ⟨rs, gs⟩ := g.gs
  exact ⟨A, rs, V, L, gs, r, h.undo, by omega, fun i hi hik => h.sv.high k hk i hi hik, h.sv.low k hk, h.sv.was k hk⟩

theorem SvB.below {pk : Nat} {sk : ByteArray} {j : Nat} (h : SvB w wx m p X lp d M0 n K0 F pv tv ps ss pk sk j) (b : Below wx.heap.size wx wy) : SvB w wy m p X lp d M0 n K0 F pv tv ps ss pk sk j := by
  obtain ⟨A, rs, V, L, gs, r, h1, h2, h3, h4, h5⟩ := h.ex
  exact ⟨A, rs, V, L, gs.belowW b, r.below b, h1, h2, h3, h4, h5⟩

theorem SvB.cells {pk : Nat} {sk : ByteArray} {j : Nat} (h : SvB w wx m p X lp d M0 n K0 F pv tv ps ss pk sk j) : wx.ownsRow 0 28 1 pv ps.length (ps.map fun k => Value.int .u64 ((k : Nat) : Int)) ∧ wx.ownsRow 0 9 1 tv ss.length (ss.map Value.string) ∧ Below w.heap.size w wx := by
  obtain ⟨A, rs, V, L, gs, r, _⟩ := h.ex
  exact ⟨r.pl, r.tx, r.our.bl⟩

/-- Back to the place. -/
theorem sv_roll {pk : Nat} {sk : ByteArray} {j : Nat} (h : SvB w wx m p X lp d M0 n K0 F pv tv ps ss pk sk j) (hF : F ≤ 4194304) (mb : Nat) (hmb : wx.heap.size ≤ mb) (hw : Below wx.heap.size wx wy) (hc : wy.cell? ⟨mb, 0, none⟩ = some (.pointer (some ⟨m, 0, none⟩))) :
    Calls Tryz.prog 26 #[.pointer (some ⟨m, 0, none⟩), .int .i64 n, .int .u64 pk, .func (.func 80) #[] #[.pointer (some ⟨mb, 0, none⟩)]] wy fun e w' => e = .returned (.int .i64 0) ∧ SvB w w' m p X lp d M0 n K0 F pv tv ps ss pk sk 0 := by
  obtain ⟨A, rs, V, L, gs, r, h1, h2, h3, h4, h5⟩ := h.ex
  have hnA : ¬ A mb := fun y => by have := r.lt mb y; omega
  refine (g_roll (w0 := wy) (A0 := A) pk mb hc hnA (gs.belowW hw) hF h1 j h2 h3 h4).mono ?_
  rintro e w' ⟨rfl, g⟩
  obtain ⟨A2, rs2, g2, mv2, hl2⟩ := g.re
  refine ⟨rfl, ⟨A2, rs2, _, _, g2, (r.below hw).moves mv2 hl2, UndOk.drop (L.take j) (by rw [List.take_append_drop]; exact h1), Nat.zero_le _, fun i _ hi => absurd hi (Nat.not_lt_zero _), h4, h5⟩⟩

theorem sv_slot {pk : Nat} {sk : ByteArray} (h : SvB w wx m p X lp d M0 n K0 F pv tv ps ss pk sk 0) :
    Calls Tryz.prog 35 #[.pointer (some ⟨m, 0, none⟩), .int .i64 1] wx fun e w' => e = .returned (.string sk) ∧ Below wx.heap.size wx w' := by
  obtain ⟨A, rs, V, L, gs, r, h1, h2, h3, h4, h5⟩ := h.ex
  obtain ⟨A, P, l, rs, t, ext, hM, hR, hG, hst, hq, hbF, hP, mv, hext, hlo⟩ := gs.ex
  obtain ⟨f, hf, hfit, hnum, hsl, hh⟩ := hP.slot 1 (by omega) (by omega)
  have e : V 1 = sk := h5
  rw [e] at hsl
  exact slot_any hM 1 (by omega) (by omega) hf _ hsl

/-- Behind the commit. -/
structure SvC (w wx : World) (m p : Nat) (X : Int → Nat) (pv tv : Value) (ps : List Nat) (ss : List ByteArray) (sk : ByteArray) : Prop where
  ex : ∃ A P l d M V, MSys wx m p X A P l d M ∧ PgV P.lp P V ∧ V 1 = sk ∧ SvR w wx A pv tv ps ss

theorem sv_commit {pk : Nat} {sk : ByteArray} (h : SvB w wx m p X lp d M0 n K0 F pv tv ps ss pk sk 0) (hF : F ≤ 4194304) (hd : DOk d 0) (hdn : M0.done.length ≤ 1000000) :
    Calls Tryz.prog 24 #[.pointer (some ⟨m, 0, none⟩), .int .i64 n] wx fun e w' => e = .returned (.int .i64 0) ∧ SvC w w' m p X pv tv ps ss sk := by
  obtain ⟨A, rs, V, L, gs, r, h1, h2, h3, h4, h5⟩ := h.ex
  refine (g_commit gs hF hd (by omega) hdn).mono ?_
  rintro e w' ⟨rfl, g⟩
  obtain ⟨A2, P, l, rs2, ext, d2, hM, hR, hk, hbF, hP, mv, hext, hlo, hdo⟩ := g.ex
  exact ⟨rfl, ⟨A2, P, l, d2, _, V, hM, by rw [hP.lp']; exact hP, h5, r.moves mv hM.lt⟩⟩

theorem sv_slotC {sk : ByteArray} (h : SvC w wx m p X pv tv ps ss sk) :
    Calls Tryz.prog 35 #[.pointer (some ⟨m, 0, none⟩), .int .i64 1] wx fun e w' => e = .returned (.string sk) ∧ Below wx.heap.size wx w' := by
  obtain ⟨A, P, l, d, M, V, hM, hP, hv, r⟩ := h.ex
  obtain ⟨f, hf, hfit, hnum, hsl, hh⟩ := hP.slot 1 (by omega) (by omega)
  rw [hv] at hsl
  exact slot_any hM 1 (by omega) (by omega) hf _ hsl

theorem SvC.row {sk : ByteArray} (h : SvC w wx m p X pv tv ps ss sk) (b : Below wx.heap.size wx wy) : wy.ownsRow 0 28 1 pv ps.length (ps.map fun k => Value.int .u64 ((k : Nat) : Int)) ∧ wy.ownsRow 0 9 1 tv ss.length (ss.map Value.string) ∧ Below w.heap.size w wy := by
  obtain ⟨A, P, l, d, M, V, hM, hP, hv, r⟩ := h.ex
  have r' := r.below b
  exact ⟨r'.pl, r'.tx, r'.our.bl⟩

end

end Go.Proofs.YtdokafldallnkaaGreat
