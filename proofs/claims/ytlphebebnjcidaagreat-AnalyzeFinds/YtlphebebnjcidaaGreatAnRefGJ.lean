/-
  What record, put, dirty and fresh make of a list in order is what was heard.
-/
import Derived.Test.YtlphebebnjcidaaGreatAnRefEJ
import Derived.Test.YtlphebebnjcidaaGreatAnRefCJ
set_option linter.unusedVariables false
set_option linter.unusedSimpArgs false
namespace Go.Proofs.YtlphebebnjcidaaGreat
open Go.RowKit Go.Sort Go.Shelf Go.Lib

theorem idxL_can {α : Type} {key : α → Int} {n : Int} : ∀ (l : List α), (match idxL key n l with
    | some i => ∃ x, l[i]? = some x ∧ key x = n
    | none => ∀ x ∈ l, key x ≠ n)
  | [] => fun x hx => by cases hx
  | x :: l => by
    have ih := idxL_can (key := key) (n := n) l
    unfold idxL
    by_cases h : key x = n
    · rw [if_pos h]
      exact ⟨x, rfl, h⟩
    · rw [if_neg h]
      cases e : idxL key n l with
      | none =>
        rw [e] at ih
        show ∀ y ∈ x :: l, key y ≠ n
        intro y hy
        rcases List.mem_cons.1 hy with q | q
        · rw [q]; exact h
        · exact ih y q
      | some i =>
        rw [e] at ih
        obtain ⟨y, h1, h2⟩ := ih
        exact ⟨y, by simpa using h1, h2⟩

theorem known_can {L : List TxV} {h : HearG} (hc : Can keyT L h.T) (n : Int) : knownL L n = knownF h n := by
  have hi := idxL_can (key := keyT) (n := n) L
  unfold knownL knownF
  cases e : idxL keyT n L with
  | none =>
    rw [e] at hi
    have hn : h.T n = none := by
      cases q : h.T n with
      | none => rfl
      | some x => exact absurd ((hc.mem n x).2 q).2 (hi x ((hc.mem n x).2 q).1)
    rw [hn]
    rfl
  | some i =>
    rw [e] at hi
    obtain ⟨x, h1, h2⟩ := hi
    have hx : h.T n = some x := (hc.mem n x).1 ⟨List.mem_of_getElem? h1, h2⟩
    rw [hx]
    dsimp only
    rw [List.getD_eq_getElem?_getD, h1]

theorem record_can {L : List TxV} {h : HearG} (hc : Can keyT L h.T) (r : RefV) : Can keyT (recordL L r) (if r.kind = 6 then h.delT r.tx else h.setT (behindF (knownF h r.tx) r.at' r.kind r.next)).T := by
  unfold recordL
  by_cases h6 : r.kind = 6
  · rw [if_pos h6, if_pos h6]
    exact hc.del r.tx
  · rw [if_neg h6, if_neg h6, put_all _ hc.srt, known_can hc]
    exact hc.ins (behindF (knownF h r.tx) r.at' r.kind r.next)

theorem tx_can {L : List TxV} {h : HearG} (hc : Can keyT L h.T) (x : TxV) : Can keyT (if idxI (idxL keyT x.1 L) < 0 then putEnd x (putTo keyT x L L.length) else L) (hearTx h x).T := by
  have hi := idxL_can (key := keyT) (n := x.1) L
  unfold hearTx
  cases e : idxL keyT x.1 L with
  | none =>
    rw [e] at hi
    have hn : h.T x.1 = none := by
      cases q : h.T x.1 with
      | none => rfl
      | some y => exact absurd ((hc.mem _ y).2 q).2 (hi y ((hc.mem _ y).2 q).1)
    rw [if_pos (by decide), hn, put_all _ hc.srt]
    exact hc.ins x
  | some i =>
    rw [e] at hi
    obtain ⟨y, h1, h2⟩ := hi
    have hx : h.T x.1 = some y := (hc.mem _ y).1 ⟨List.mem_of_getElem? h1, h2⟩
    rw [if_neg (by show ¬ (i : Int) < 0; omega), hx]
    exact hc

theorem srtD {L : List DiV} {F : Int → Option DiV} (hc : Can keyD L F) : L.Pairwise fun a b => a.1 < b.1 := hc.srt.imp fun {a b} h => by have : (a.1 : Int) < b.1 := h; omega

theorem find_can {L : List DiV} {F : Int → Option DiV} (hc : Can keyD L F) (n : Nat) : L.find? (fun x => x.1 == n) = F n := by
  cases e : L.find? (fun x => x.1 == n) with
  | none =>
    have hn := List.find?_eq_none.1 e
    cases q : F n with
    | none => rfl
    | some y =>
      obtain ⟨h1, h2⟩ := (hc.mem _ y).2 q
      have h3 : (y.1 : Int) = n := h2
      exact absurd (show (y.1 == n) = true by simp; omega) (hn y h1)
  | some x =>
    have h1 := List.mem_of_find?_eq_some e
    have h2 := List.find?_some e
    exact ((hc.mem _ x).1 ⟨h1, by show (x.1 : Int) = n; simp at h2; omega⟩).symm

theorem dirty_can {L : List DiV} {h : HearG} (hc : Can keyD L h.D) (d : DiV) : Can keyD (putEnd d (dirTo d L L.length)) (hearDi h d).D := by
  rw [dir_all _ (srtD hc), dirL_mem _ _ (srtD hc), find_can hc]
  unfold hearDi
  cases e : h.D d.1 with
  | none => exact hc.ins d
  | some x =>
    dsimp only
    split
    · exact hc.ins d
    · exact hc

theorem fresh_can {L : List DiV} {h : HearG} (hc : Can keyD L h.D) (p at' : Nat) {M : List DiV} (hM : ((∃ x ∈ L, x.1 = p) ∧ M = L) ∨ ((∀ x ∈ L, x.1 ≠ p) ∧ M = putEnd (p, at') (dirTo (p, at') L L.length))) : Can keyD M (hearChg h p at').D := by
  unfold hearChg
  rcases hM with ⟨⟨x, h1, h2⟩, rfl⟩ | ⟨h1, rfl⟩
  · have hx : h.D p = some x := (hc.mem _ x).1 ⟨h1, by show (x.1 : Int) = p; omega⟩
    rw [hx]
    exact hc
  · have hn : h.D p = none := by
      cases q : h.D p with
      | none => rfl
      | some y =>
        obtain ⟨h3, h4⟩ := (hc.mem _ y).2 q
        have h5 : (y.1 : Int) = p := h4
        exact absurd (by omega) (h1 y h3)
    have := dirty_can hc (p, at')
    unfold hearDi at this
    rw [show h.D ((p, at') : DiV).1 = none from hn] at this
    rw [hn]
    exact this

end Go.Proofs.YtlphebebnjcidaaGreat

namespace Go.Proofs.YtlphebebnjcidaaGreat
open Go.RowKit Go.Sort Go.Shelf Go.Lib

structure FoV where
  txs : List TxV
  dis : List DiV
  most : Int
  recs : Nat

def fo0 : FoV := ⟨[], [], 0, 0⟩

structure FoV.Is (g : FoV) (h : HearG) : Prop where
  t : Can keyT g.txs h.T
  d : Can keyD g.dis h.D
  most : g.most = h.most
  recs : g.recs = h.recs

def stL (L : List TxV) (x : TxV) : List TxV := if idxI (idxL keyT x.1 L) < 0 then putEnd x (putTo keyT x L L.length) else L
def dpL (L : List DiV) (d : DiV) : List DiV := putEnd d (dirTo d L L.length)
def frL (L : List DiV) (d : DiV) : List DiV := if L.any (fun x => x.1 == d.1) then L else dpL L d

def FoV.tx (g : FoV) (x : TxV) : FoV := ⟨stL g.txs x, g.dis, max g.most x.1, g.recs⟩
def FoV.di (g : FoV) (x : DiV) : FoV := ⟨g.txs, dpL g.dis x, g.most, g.recs⟩
def FoV.own (g : FoV) (r : RefV) : FoV := ⟨if r.kind < 7 then recordL g.txs r else g.txs, if r.kind = 1 ∨ r.kind = 2 then frL g.dis (r.page, r.at') else g.dis, max g.most r.tx, g.recs + 1⟩
def FoV.one (g : FoV) (r : RefV) : FoV := r.dirty.foldl FoV.di (r.txs.foldl FoV.tx (g.own r))

theorem fo0_is : fo0.Is hear0 := ⟨Can.nil, Can.nil, rfl, rfl⟩

theorem FoV.Is.tx {g : FoV} {h : HearG} (k : g.Is h) (x : TxV) : (g.tx x).Is (hearTx h x) := by
  have h1 := tx_can k.t x
  have h2 : (hearTx h x).D = h.D ∧ (hearTx h x).most = max h.most x.1 ∧ (hearTx h x).recs = h.recs := by
    unfold hearTx
    split <;> exact ⟨rfl, rfl, rfl⟩
  exact ⟨h1, by rw [h2.1]; exact k.d, by rw [h2.2.1, ← k.most]; rfl, by rw [h2.2.2]; exact k.recs⟩

theorem FoV.Is.di {g : FoV} {h : HearG} (k : g.Is h) (x : DiV) : (g.di x).Is (hearDi h x) := by
  have h1 := dirty_can k.d x
  have h2 : (hearDi h x).T = h.T ∧ (hearDi h x).most = h.most ∧ (hearDi h x).recs = h.recs := by
    unfold hearDi
    split
    · split <;> exact ⟨rfl, rfl, rfl⟩
    · exact ⟨rfl, rfl, rfl⟩
  exact ⟨by rw [h2.1]; exact k.t, h1, by rw [h2.2.1]; exact k.most, by rw [h2.2.2]; exact k.recs⟩

theorem FoV.Is.txs {g : FoV} {h : HearG} (k : g.Is h) (L : List TxV) : (L.foldl FoV.tx g).Is (L.foldl hearTx h) := by
  induction L generalizing g h with
  | nil => exact k
  | cons x L ih => exact ih (k.tx x)
theorem FoV.Is.dis {g : FoV} {h : HearG} (k : g.Is h) (L : List DiV) : (L.foldl FoV.di g).Is (L.foldl hearDi h) := by
  induction L generalizing g h with
  | nil => exact k
  | cons x L ih => exact ih (k.di x)

theorem fr_can {L : List DiV} {h : HearG} (hc : Can keyD L h.D) (p at' : Nat) : Can keyD (frL L (p, at')) (hearChg h p at').D := by
  refine fresh_can hc p at' ?_
  unfold frL
  cases e : L.any (fun x => x.1 == p) with
  | true =>
    obtain ⟨x, hx, hp⟩ := List.any_eq_true.1 e
    exact .inl ⟨⟨x, hx, by simpa using hp⟩, rfl⟩
  | false =>
    refine .inr ⟨fun x hx hp => ?_, rfl⟩
    have := List.any_eq_false.1 e x hx
    simp [hp] at this

theorem frL_of {L : List DiV} {d : DiV} {M : List DiV} (h : ((∃ x ∈ L, x.1 = d.1) ∧ M = L) ∨ ((∀ x ∈ L, x.1 ≠ d.1) ∧ M = dpL L d)) : M = frL L d := by
  unfold frL
  rcases h with ⟨⟨x, h1, h2⟩, rfl⟩ | ⟨h1, rfl⟩
  · rw [if_pos (List.any_eq_true.2 ⟨x, h1, by simp [h2]⟩)]
  · rw [if_neg]
    intro e
    obtain ⟨x, h2, h3⟩ := List.any_eq_true.1 e
    exact h1 x h2 (by simpa using h3)

theorem FoV.Is.one {g : FoV} {h : HearG} (k : g.Is h) (a : Nat) {r : RecV} (hm : MayR r) : (g.one (refV a r)).Is (hearRec h a r) := by
  obtain ⟨k1, k8⟩ := hm.kind
  by_cases h8 : r.kind = 8
  · have e1 : hearRec h a r = r.dirty.foldl hearDi (r.txs.foldl hearTx { h with recs := h.recs + 1, most := max h.most r.tx }) := by
      unfold hearRec hearOwn
      rw [if_neg (show ¬ (r.kind = 1 ∨ r.kind = 2) by omega), if_neg (show ¬ r.kind = 7 by omega), if_pos h8]
    rw [e1]
    have e2 : (g.own (refV a r)) = ⟨g.txs, g.dis, max g.most r.tx, g.recs + 1⟩ := by
      unfold FoV.own
      rw [if_neg (show ¬ (refV a r).kind < 7 by show ¬ r.kind < 7; omega), if_neg (show ¬ ((refV a r).kind = 1 ∨ (refV a r).kind = 2) by show ¬ (r.kind = 1 ∨ r.kind = 2); omega)]
      rfl
    unfold FoV.one
    rw [e2]
    refine FoV.Is.dis (FoV.Is.txs ?_ _) _
    exact ⟨k.t, k.d, by rw [← k.most], by rw [← k.recs]⟩
  · have hl : listsB r = false := by unfold listsB; simp [h8]
    obtain ⟨n1, n2⟩ := no_lists hm.same hl
    have e3 : g.one (refV a r) = g.own (refV a r) := by
      unfold FoV.one
      rw [show (refV a r).dirty = [] from n2, show (refV a r).txs = [] from n1]
      rfl
    rw [e3]
    obtain ⟨h1, hh1⟩ : ∃ h1 : HearG, h1 = { h with recs := h.recs + 1, most := max h.most r.tx } := ⟨_, rfl⟩
    have j1 : h1.T = h.T ∧ h1.D = h.D ∧ h1.most = max h.most r.tx ∧ h1.recs = h.recs + 1 := by rw [hh1]; exact ⟨rfl, rfl, rfl, rfl⟩
    have kt : Can keyT g.txs h1.T := by rw [j1.1]; exact k.t
    obtain ⟨h2, hh2⟩ : ∃ h2, h2 = hearOwn h1 a r := ⟨_, rfl⟩
    have j2 : h2.D = h1.D ∧ h2.most = h1.most ∧ h2.recs = h1.recs ∧ Can keyT (g.own (refV a r)).txs h2.T := by
      rw [hh2]
      unfold hearOwn FoV.own
      by_cases h7 : r.kind = 7
      · rw [if_pos h7, if_neg (show ¬ (refV a r).kind < 7 by show ¬ r.kind < 7; omega)]
        exact ⟨rfl, rfl, rfl, kt⟩
      · rw [if_neg h7, if_neg h8, if_pos (show (refV a r).kind < 7 by show r.kind < 7; omega)]
        have := record_can kt (refV a r)
        by_cases h6 : r.kind = 6
        · rw [if_pos (show (refV a r).kind = 6 from h6)] at this
          rw [if_pos h6]
          exact ⟨rfl, rfl, rfl, this⟩
        · rw [if_neg (show ¬ (refV a r).kind = 6 from h6)] at this
          rw [if_neg h6]
          exact ⟨rfl, rfl, rfl, this⟩
    have e4 : hearRec h a r = if r.kind = 1 ∨ r.kind = 2 then hearChg h2 r.page a else h2 := by rw [hh2, hh1]; rfl
    rw [e4]
    have e5 : (g.own (refV a r)).dis = if r.kind = 1 ∨ r.kind = 2 then frL g.dis (r.page, a) else g.dis := rfl
    have e6 : (g.own (refV a r)).most = h2.most := by rw [j2.2.1, j1.2.2.1, ← k.most]; rfl
    have e7 : (g.own (refV a r)).recs = h2.recs := by rw [j2.2.2.1, j1.2.2.2, ← k.recs]; rfl
    have kd : Can keyD g.dis h2.D := by rw [j2.1, j1.2.1]; exact k.d
    by_cases hc : r.kind = 1 ∨ r.kind = 2
    · rw [if_pos hc]
      rw [if_pos hc] at e5
      have hq : (hearChg h2 r.page a).T = h2.T ∧ (hearChg h2 r.page a).most = h2.most ∧ (hearChg h2 r.page a).recs = h2.recs := by
        unfold hearChg
        split <;> exact ⟨rfl, rfl, rfl⟩
      exact ⟨by rw [hq.1]; exact j2.2.2.2, by rw [e5]; exact fr_can kd r.page a, by rw [hq.2.1]; exact e6, by rw [hq.2.2]; exact e7⟩
    · rw [if_neg hc]
      rw [if_neg hc] at e5
      exact ⟨j2.2.2.2, by rw [e5]; exact kd, e6, e7⟩

theorem stL_len (L : List TxV) (x : TxV) : (stL L x).length ≤ L.length + 1 := by
  unfold stL
  split
  · have := putTo_len (key := keyT) x L L.length (Nat.le_refl _)
    unfold putEnd
    split
    · exact this.1
    · rename_i h
      have := this.2 (by cases hb : (putTo keyT x L L.length).2 <;> simp_all)
      rw [List.length_append, List.length_singleton]
      omega
  · omega
theorem dpL_len (L : List DiV) (x : DiV) : (dpL L x).length ≤ L.length + 1 := by
  unfold dpL
  have := dirTo_len x L L.length (Nat.le_refl _)
  unfold putEnd
  split
  · exact this.1
  · rename_i h
    have := this.2 (by cases hb : (dirTo x L L.length).2 <;> simp_all)
    rw [List.length_append, List.length_singleton]
    omega
theorem frL_len (L : List DiV) (x : DiV) : (frL L x).length ≤ L.length + 1 := by
  unfold frL
  split
  · omega
  · exact dpL_len L x
theorem recordL_len (L : List TxV) (r : RefV) : (recordL L r).length ≤ L.length + 1 := by
  unfold recordL
  split
  · have := List.length_filter_le (fun x => decide (keyT x ≠ r.tx)) L
    omega
  · have := putTo_len (key := keyT) (behindF (knownL L r.tx) r.at' r.kind r.next) L L.length (Nat.le_refl _)
    unfold putEnd
    split
    · exact this.1
    · rename_i h
      have := this.2 (by cases hb : (putTo keyT (behindF (knownL L r.tx) r.at' r.kind r.next) L L.length).2 <;> simp_all)
      rw [List.length_append, List.length_singleton]
      omega
theorem own_len (g : FoV) (r : RefV) : (g.own r).txs.length ≤ g.txs.length + 1 ∧ (g.own r).dis.length ≤ g.dis.length + 1 := by
  unfold FoV.own
  dsimp only
  constructor
  · split
    · exact recordL_len _ _
    · omega
  · split
    · exact frL_len _ _
    · omega

def foAll (g : FoV) (X : List RefV) : FoV := X.foldl FoV.one g

end Go.Proofs.YtlphebebnjcidaaGreat

namespace Go.Proofs.YtlphebebnjcidaaGreat
open Go.RowKit Go.Sort Go.Shelf Go.Lib

def SlT (w : World) (v : Value) (L : List TxV) : Prop := ∃ a c, v = .slice a L.length c ∧ TxsAt w a L
def SlD (w : World) (v : Value) (L : List DiV) : Prop := ∃ a c, v = .slice a L.length c ∧ DisAt w a L

theorem rsAt.sl {B : Nat} {w : World} {v : Value} {L : List TxV} (h : rsAt B w v L) : SlT w v L := by
  have h' := h
  rcases h.2 with ⟨rfl, hn⟩ | ⟨g, cap, cur, rfl, hb, hg, h1, h2, h3, h4⟩
  · have : L = [] := List.length_eq_zero_iff.1 hn
    subst this
    exact ⟨none, 0, rfl, .inl rfl⟩
  · refine ⟨some ⟨g, 0, none⟩, cap, rfl, .inr ⟨g, 0, rfl, ((rsAt.lt h') g rfl).2, fun i hi => ?_⟩⟩
    have c : ∀ j, j < 4 → w.cell? ⟨g, 0 + i * 4 + j, none⟩ = (atcells L[i])[j]? := fun j hj => by
      rw [Nat.zero_add, ← atflat_get L i j hi hj]
      exact World.ownsRow.cellAt h' (i * 4 + j) (by omega)
    exact ⟨(c 0 (by omega)).trans rfl, (c 1 (by omega)).trans rfl, (c 2 (by omega)).trans rfl, (c 3 (by omega)).trans rfl⟩

theorem rdAt.sl {B : Nat} {w : World} {v : Value} {L : List DiV} (h : rdAt B w v L) : SlD w v L := by
  have h' := h
  rcases h.2 with ⟨rfl, hn⟩ | ⟨g, cap, cur, rfl, hb, hg, h1, h2, h3, h4⟩
  · have : L = [] := List.length_eq_zero_iff.1 hn
    subst this
    exact ⟨none, 0, rfl, .inl rfl⟩
  · refine ⟨some ⟨g, 0, none⟩, cap, rfl, .inr ⟨g, 0, rfl, ((rdAt.lt h') g rfl).2, fun i hi => ?_⟩⟩
    have c : ∀ j, j < 2 → w.cell? ⟨g, 0 + i * 2 + j, none⟩ = (adcells L[i])[j]? := fun j hj => by
      rw [Nat.zero_add, ← adflat_get L i j hi hj]
      exact World.ownsRow.cellAt h' (i * 2 + j) (by omega)
    exact ⟨(c 0 (by omega)).trans rfl, (c 1 (by omega)).trans rfl⟩

theorem SlT.below {w w' : World} {v : Value} {L : List TxV} (h : SlT w v L) (k : Below w.heap.size w w') : SlT w' v L := by
  obtain ⟨a, c, e, h⟩ := h
  exact ⟨a, c, e, h.below k⟩
theorem SlD.below {w w' : World} {v : Value} {L : List DiV} (h : SlD w v L) (k : Below w.heap.size w w') : SlD w' v L := by
  obtain ⟨a, c, e, h⟩ := h
  exact ⟨a, c, e, h.below k⟩

structure C7At (w : World) (b o : Nat) (x : RefV × Value × Value) : Prop where
  c0 : w.cell? ⟨b, o, none⟩ = some (.int .u64 (x.1.at' : Nat))
  c1 : w.cell? ⟨b, o + 1, none⟩ = some (.int .i64 x.1.kind)
  c2 : w.cell? ⟨b, o + 2, none⟩ = some (.int .i64 x.1.tx)
  c3 : w.cell? ⟨b, o + 3, none⟩ = some (.int .u64 (x.1.next : Nat))
  c4 : w.cell? ⟨b, o + 4, none⟩ = some (.int .u32 (x.1.page : Nat))
  c5 : w.cell? ⟨b, o + 5, none⟩ = some x.2.1
  c6 : w.cell? ⟨b, o + 6, none⟩ = some x.2.2

theorem C7At.same {w w' : World} {b o : Nat} {x : RefV × Value × Value} (h : C7At w b o x) (e : w'.heap[b]? = w.heap[b]?) : C7At w' b o x :=
  ⟨(World.cell?_of_block (w := w) (a := ⟨b, o, none⟩) e).trans h.c0, (World.cell?_of_block (w := w) (a := ⟨b, o + 1, none⟩) e).trans h.c1, (World.cell?_of_block (w := w) (a := ⟨b, o + 2, none⟩) e).trans h.c2, (World.cell?_of_block (w := w) (a := ⟨b, o + 3, none⟩) e).trans h.c3, (World.cell?_of_block (w := w) (a := ⟨b, o + 4, none⟩) e).trans h.c4, (World.cell?_of_block (w := w) (a := ⟨b, o + 5, none⟩) e).trans h.c5, (World.cell?_of_block (w := w) (a := ⟨b, o + 6, none⟩) e).trans h.c6⟩

def RxAt (w : World) (a : Option Addr) (X : List (RefV × Value × Value)) : Prop :=
  X = [] ∨ ∃ b o, a = some ⟨b, o, none⟩ ∧ b < w.heap.size ∧ ∀ i (hi : i < X.length), C7At w b (o + i * 7) X[i] ∧ SlT w X[i].2.1 X[i].1.txs ∧ SlD w X[i].2.2 X[i].1.dirty

theorem RxAt.below {w w' : World} {a : Option Addr} {X : List (RefV × Value × Value)} (h : RxAt w a X) (k : Below w.heap.size w w') : RxAt w' a X := by
  rcases h with h | ⟨b, o, e, hb, h⟩
  · exact .inl h
  · exact .inr ⟨b, o, e, Nat.lt_of_lt_of_le hb k.size, fun i hi => ⟨(h i hi).1.same (k.block b hb), (h i hi).2.1.below k, (h i hi).2.2.below k⟩⟩

theorem LaAt.rx {w wr : World} {q : Nat} {A : Nat → Prop} {rs : List ByteArray} {sure mark j : Nat} {X : List (RefV × Value × Value)} {g cap i0 : Nat} (h : LaAt w wr q A rs sure mark j (.slice (some ⟨g, 0, none⟩) X.length cap) X) : RxAt wr (some ⟨g, i0 * 7, none⟩) (X.drop i0) := by
  have hg := (roAt.lt h.own g rfl).2
  refine .inr ⟨g, i0 * 7, rfl, hg, fun i hi => ?_⟩
  rw [List.length_drop] at hi
  have hi2 : i0 + i < X.length := by omega
  have e : (X.drop i0)[i]'(by rw [List.length_drop]; exact hi) = X[i0 + i] := List.getElem_drop ..
  rw [e]
  have c : ∀ j, j < 7 → wr.cell? ⟨g, i0 * 7 + i * 7 + j, none⟩ = (c7 X[i0 + i])[j]? := fun j hj => by
    rw [← flat7 X (i0 + i) j hi2 hj, ← Nat.add_mul]
    exact World.ownsRow.cellAt h.own ((i0 + i) * 7 + j) (by omega)
  have hn := h.nest X[i0 + i] (List.getElem_mem hi2)
  exact ⟨⟨(c 0 (by omega)).trans rfl, (c 1 (by omega)).trans rfl, (c 2 (by omega)).trans rfl, (c 3 (by omega)).trans rfl, (c 4 (by omega)).trans rfl, (c 5 (by omega)).trans rfl, (c 6 (by omega)).trans rfl⟩, hn.1.sl, hn.2.sl⟩

def fo5 (tv dv : Value) (g : FoV) (re : Nat) : Array Value := #[tv, dv, .int .u64 (re : Nat), .int .i64 g.most, .int .i64 ((g.recs : Nat) : Int)]
def foZ : Array Value := #[.slice none 0 0, .slice none 0 0, .int .u64 0, .int .i64 0, .int .i64 0]

structure RuAt (w wr : World) (tv dv : Value) (g : FoV) (re : Nat) : Prop where
  bel : Below w.heap.size w wr
  res : Blk wr w.heap.size foZ 40
  box : Blk wr (w.heap.size + 1) (fo5 tv dv g re) 40
  own1 : rsAt (w.heap.size + 2) wr tv g.txs
  own2 : rdAt (w.heap.size + 2) wr dv g.dis

section
variable {w wr wx : World} {tv dv : Value} {g : FoV} {re : Nat}

theorem RuAt.below (h : RuAt w wr tv dv g re) (k : Below wr.heap.size wr wx) : RuAt w wx tv dv g re :=
  ⟨below_chain h.bel k, h.res.same (k.block _ h.res.lt), h.box.same (k.block _ h.box.lt), owns_same7 h.own1 fun q hq => k.block q (h.own1.lt q hq).2, owns_same7 h.own2 fun q hq => k.block q (h.own2.lt q hq).2⟩

theorem RuAt.set (h : RuAt w wr tv dv g re) (i : Nat) (v : Value) {tv' dv' : Value} {g' : FoV} {re' : Nat} (hc : fo5 tv' dv' g' re' = (fo5 tv dv g re).setIfInBounds i v) (h1 : rsAt (w.heap.size + 2) wr tv' g'.txs) (h2 : rdAt (w.heap.size + 2) wr dv' g'.dis) : RuAt w (wr.setCell ⟨w.heap.size + 1, i, none⟩ v) tv' dv' g' re' := by
  have hb : ∀ k, k ≠ w.heap.size + 1 → (wr.setCell ⟨w.heap.size + 1, i, none⟩ v).heap[k]? = wr.heap[k]? := fun k hk => Below.heap_setCell _ _ _ _ fun e => hk e
  exact ⟨h.bel.setCell (p := ⟨w.heap.size + 1, i, none⟩) (by show w.heap.size ≤ w.heap.size + 1; omega) v, h.res.same (hb _ (by omega)), by rw [hc]; exact h.box.set i v, owns_same7 h1 fun q hq => hb q (by have := (h1.lt q hq).1; omega), owns_same7 h2 fun q hq => hb q (by have := (h2.lt q hq).1; omega)⟩

theorem RuAt.setRecs (h : RuAt w wr tv dv g re) : RuAt w (wr.setCell ⟨w.heap.size + 1, 4, none⟩ (.int .i64 ((g.recs + 1 : Nat) : Int))) tv dv ⟨g.txs, g.dis, g.most, g.recs + 1⟩ re := h.set 4 _ rfl h.own1 h.own2
theorem RuAt.setMost (h : RuAt w wr tv dv g re) (n : Int) : RuAt w (wr.setCell ⟨w.heap.size + 1, 3, none⟩ (.int .i64 n)) tv dv ⟨g.txs, g.dis, n, g.recs⟩ re := h.set 3 _ rfl h.own1 h.own2
theorem RuAt.setRe (h : RuAt w wr tv dv g re) (n : Nat) : RuAt w (wr.setCell ⟨w.heap.size + 1, 2, none⟩ (.int .u64 (n : Nat))) tv dv g n := h.set 2 _ rfl h.own1 h.own2

theorem RuAt.setT (h : RuAt w wr tv dv g re) {v : Value} {L : List TxV} (k : Below wr.heap.size wr wx) (ho : rsAt wr.heap.size wx v L) : RuAt w (wx.setCell ⟨w.heap.size + 1, 0, none⟩ v) v dv ⟨L, g.dis, g.most, g.recs⟩ re := by
  have h' := h.below k
  have hs : w.heap.size + 2 ≤ wr.heap.size := by have := h.box.lt; omega
  exact h'.set 0 v rfl (owns_base7 ho hs) h'.own2
theorem RuAt.setD (h : RuAt w wr tv dv g re) {v : Value} {L : List DiV} (k : Below wr.heap.size wr wx) (ho : rdAt wr.heap.size wx v L) : RuAt w (wx.setCell ⟨w.heap.size + 1, 1, none⟩ v) tv v ⟨g.txs, L, g.most, g.recs⟩ re := by
  have h' := h.below k
  have hs : w.heap.size + 2 ≤ wr.heap.size := by have := h.box.lt; omega
  exact h'.set 1 v rfl h'.own1 (owns_base7 ho hs)

theorem RuAt.drew (h : RuAt w wr tv dv g re) : RuAt w wr.drew tv dv g re := h.below ((Below.refl _ _).drew)

theorem RuAt.setD0 (h : RuAt w wr tv dv g re) (k : Below wr.heap.size wr wx) : RuAt w (wx.setCell ⟨w.heap.size + 1, 1, none⟩ dv) tv dv g re := by
  have h' := h.below k
  exact h'.set 1 dv rfl h'.own1 h'.own2

end

structure RcAt (w wr : World) (rb : Nat) (x : RefV × Value × Value) : Prop where
  lo : w.heap.size + 2 ≤ rb
  box : Blk wr rb (c7 x).toArray 74
  st : SlT w x.2.1 x.1.txs
  sd : SlD w x.2.2 x.1.dirty

theorem RcAt.below {w wr wx : World} {rb : Nat} {x : RefV × Value × Value} (h : RcAt w wr rb x) (k : Below wr.heap.size wr wx) : RcAt w wx rb x := ⟨h.lo, h.box.same (k.block _ h.box.lt), h.st, h.sd⟩
theorem RcAt.set {w wr : World} {rb : Nat} {x : RefV × Value × Value} (h : RcAt w wr rb x) (i : Nat) (v : Value) : RcAt w (wr.setCell ⟨w.heap.size + 1, i, none⟩ v) rb x := ⟨h.lo, h.box.same (Below.heap_setCell _ _ _ _ (by have := h.lo; show rb ≠ w.heap.size + 1; omega)), h.st, h.sd⟩

theorem fold_take {α β : Type} (f : β → α → β) (L : List α) (b : β) {j : Nat} (hj : j < L.length) : (L.take (j + 1)).foldl f b = f ((L.take j).foldl f b) L[j] := by
  rw [List.take_succ_eq_append_getElem hj, List.foldl_append]
  rfl

theorem txs_len (L : List TxV) (g : FoV) : (L.foldl FoV.tx g).txs.length ≤ g.txs.length + L.length ∧ (L.foldl FoV.tx g).dis = g.dis := by
  induction L generalizing g with
  | nil => exact ⟨Nat.le_refl _, rfl⟩
  | cons x L ih =>
    obtain ⟨h1, h2⟩ := ih (g.tx x)
    have := stL_len g.txs x
    have e : (g.tx x).txs = stL g.txs x := rfl
    rw [e] at h1
    rw [List.foldl_cons, List.length_cons]
    exact ⟨by omega, h2⟩
theorem dis_len (L : List DiV) (g : FoV) : (L.foldl FoV.di g).dis.length ≤ g.dis.length + L.length ∧ (L.foldl FoV.di g).txs = g.txs := by
  induction L generalizing g with
  | nil => exact ⟨Nat.le_refl _, rfl⟩
  | cons x L ih =>
    obtain ⟨h1, h2⟩ := ih (g.di x)
    have := dpL_len g.dis x
    have e : (g.di x).dis = dpL g.dis x := rfl
    rw [e] at h1
    rw [List.foldl_cons, List.length_cons]
    exact ⟨by omega, h2⟩

theorem txs_recs (L : List TxV) (g : FoV) : (L.foldl FoV.tx g).recs = g.recs := by
  induction L generalizing g with
  | nil => rfl
  | cons x L ih => rw [List.foldl_cons, ih]; rfl
theorem dis_recs (L : List DiV) (g : FoV) : (L.foldl FoV.di g).recs = g.recs := by
  induction L generalizing g with
  | nil => rfl
  | cons x L ih => rw [List.foldl_cons, ih]; rfl

end Go.Proofs.YtlphebebnjcidaaGreat
