/-
  The walk of NodeInner.
-/
import Derived.Test.YtplcojfogfikfaaBase8C
import Derived.Test.YtplcojfogfikfaaNodeAwakeC
import Derived.Maps.AppendAt
import Derived.Deep.AppendLies
import Derived.BigRegion
import Derived.Deep.RegionLaw
import Derived.Deep.QuietTactic
import Derived.BigQuiet
namespace Go.Proofs.Ytplcojfogfikfaa
open Go.RowKit Go.Sort
set_option linter.unusedVariables false
set_option linter.unusedSimpArgs false

/-- Where NodeInner stands: the entry's box and the page's. -/
structure InAt (w wx : World) (Pb lsn level : Nat) (M : List ChildV) (a : Option Addr) (c : Nat) (e : EntV) : Prop where
  ent : EBox wx w.heap.size e
  page : RowV wx Pb 5 (five (.int .u32 3) (.int .u64 lsn) (.int .i64 4) (.string (num1 level)) (.slice a M.length c))
  slots : StrsAt wx a (M.map ChildV.bs)
  bel : Below w.heap.size w wx
  lo : w.heap.size < Pb
  lt : Pb < wx.heap.size
  inv : CInv M
  lsn : lsn < 18446744073709551616

theorem InAt.below {w wx wy : World} {Pb lsn level : Nat} {M : List ChildV} {a : Option Addr} {c : Nat} {e : EntV} (h : InAt w wx Pb lsn level M a c e) (k : Below wx.heap.size wx wy) : InAt w wy Pb lsn level M a c e :=
  ⟨h.ent.below k h.ent.lt, h.page.below k h.lt, h.slots.below k, below_chain h.bel k, h.lo, Nat.lt_of_lt_of_le h.lt k.size, h.inv, h.lsn⟩

theorem InAt.alloc {w wx : World} {Pb lsn level : Nat} {M : List ChildV} {a : Option Addr} {c : Nat} {e : EntV} (h : InAt w wx Pb lsn level M a c e) (o : Obj) : InAt w (wx.alloc o) Pb lsn level M a c e := h.below ((Below.refl _ _).alloc (Nat.le_refl _) _)

theorem InAt.ok {w wx : World} {Pb lsn level : Nat} {M : List ChildV} {a : Option Addr} {c : Nat} {e : EntV} (h : InAt w wx Pb lsn level M a c e) : (innerV lsn level M).Ok wx a := SheetV.Fits.ok (h.inv.fits h.lsn) h.slots

theorem below_of {B : Nat} {w w' v : World} (h : Below B w w') (h1 : v.os = w.os) (h2 : v.tape = w.tape) (h3 : v.output = w.output) (h4 : v.heap = w.heap) : Below B v w' :=
  ⟨h.os.trans h1.symm, h.tape.trans h2.symm, h.output.trans h3.symm, by rw [h4]; exact h.size, fun k hk => by rw [h4]; exact h.block k hk⟩

theorem own_below {w w' : World} {base : Nat} {e : TypeId} {size n : Nat} {v : Value} {xs : List Value} (h : w.ownsRow base e size v n xs) (k : Below w.heap.size w w') : w'.ownsRow base e size v n xs :=
  h.kept (row := none) ⟨k.os, k.tape, k.output, k.size, fun i hi _ => k.block i hi⟩ (by cases h2 : v.ownBlock <;> simp)

/-- A child's box. -/
def four' (v0 v1 v2 v3 : Value) : Nat → Value
  | 0 => v0
  | 1 => v1
  | 2 => v2
  | _ => v3

structure CBox (w : World) (b : Nat) (x : ChildV) : Prop where
  c0 : w.cell? ⟨b, 0, none⟩ = some (.int .u32 x.page)
  c1 : w.cell? ⟨b, 1, none⟩ = some (.string x.e.key)
  c2 : w.cell? ⟨b, 2, none⟩ = some (.int .u32 x.e.page)
  c3 : w.cell? ⟨b, 3, none⟩ = some (.int .i64 x.e.slot)
  lt : b < w.heap.size

theorem CBox.below {w w' : World} {b C : Nat} {x : ChildV} (h : CBox w b x) (k : Below C w w') (hB : b < C) : CBox w' b x :=
  ⟨(k.cell (p := ⟨b, 0, none⟩) hB).trans h.c0, (k.cell (p := ⟨b, 1, none⟩) hB).trans h.c1, (k.cell (p := ⟨b, 2, none⟩) hB).trans h.c2, (k.cell (p := ⟨b, 3, none⟩) hB).trans h.c3, Nat.lt_of_lt_of_le h.lt k.size⟩

theorem CBox.new (w : World) (x : ChildV) : CBox (w.alloc (.cells #[.int .u32 x.page, .string x.e.key, .int .u32 x.e.page, .int .i64 x.e.slot] 63)) w.heap.size x := ⟨by simp, by simp, by simp, by simp, by simp⟩

theorem CBox.put {w : World} {C : Nat} (x : ChildV) {u0 u1 u2 u3 : Value} (z0 : w.cell? ⟨C, 0, none⟩ = some u0) (z1 : w.cell? ⟨C, 1, none⟩ = some u1) (z2 : w.cell? ⟨C, 2, none⟩ = some u2) (z3 : w.cell? ⟨C, 3, none⟩ = some u3) (hlt : C < w.heap.size) :
    CBox ((((w.setCell ⟨C, 0, none⟩ (.int .u32 x.page)).setCell ⟨C, 1, none⟩ (.string x.e.key)).setCell ⟨C, 2, none⟩ (.int .u32 x.e.page)).setCell ⟨C, 3, none⟩ (.int .i64 x.e.slot)) C x := by
  refine ⟨?_, ?_, ?_, ?_, by simpa using hlt⟩
  · rw [World.cell?_setCell_other _ _ _ _ (by simp), World.cell?_setCell_other _ _ _ _ (by simp), World.cell?_setCell_other _ _ _ _ (by simp)]; exact World.cell?_setCell_same _ _ _ z0
  · rw [World.cell?_setCell_other _ _ _ _ (by simp), World.cell?_setCell_other _ _ _ _ (by simp)]; exact World.cell?_setCell_same _ _ _ (by rw [World.cell?_setCell_other _ _ _ _ (by simp)]; exact z1)
  · rw [World.cell?_setCell_other _ _ _ _ (by simp)]; exact World.cell?_setCell_same _ _ _ (by rw [World.cell?_setCell_other _ _ _ _ (by simp), World.cell?_setCell_other _ _ _ _ (by simp)]; exact z2)
  · exact World.cell?_setCell_same _ _ _ (by rw [World.cell?_setCell_other _ _ _ _ (by simp), World.cell?_setCell_other _ _ _ _ (by simp), World.cell?_setCell_other _ _ _ _ (by simp)]; exact z3)

/-- The page that an Apply left, in a box of its own. -/
structure QAt (w0 wx : World) (Qb level : Nat) (M : List ChildV) (a : Option Addr) (c : Nat) : Prop where
  page : RowV wx Qb 5 (five (.int .u32 3) (.int .u64 2) (.int .i64 4) (.string (num1 level)) (.slice a M.length c))
  slots : StrsFrom w0.heap.size wx a (M.map ChildV.bs)
  bel : Below w0.heap.size w0 wx
  lo : w0.heap.size ≤ Qb
  lt : Qb < wx.heap.size

theorem QAt.new {w0 w : World} {level n : Nat} {M : List ChildV} {a : Option Addr} {c : Nat} (hl : M.length = n) (q : Below w0.heap.size w0 w) (s : StrsFrom w0.heap.size w a (M.map ChildV.bs)) :
    QAt w0 (w.alloc (.cells #[.int .u32 3, .int .u64 2, .int .i64 4, .string (num1 level), .slice a n c] 29)) w.heap.size level M a c := by
  subst hl
  exact ⟨RowV.five_new _ _ _ _ _ _ _, s.below ((Below.refl _ _).alloc (Nat.le_refl _) _), q.alloc q.size _, q.size, by simp⟩

theorem QAt.put {w0 w : World} {level n Qb : Nat} {M : List ChildV} {a : Option Addr} {c : Nat} {u0 u1 u2 u3 u4 : Value} (hl : M.length = n) (q : Below w0.heap.size w0 w) (hQ : w0.heap.size ≤ Qb) (z : RowV w Qb 5 (five u0 u1 u2 u3 u4)) (s : StrsFrom (Qb + 1) w a (M.map ChildV.bs)) :
    QAt w0 (((((w.setCell ⟨Qb, 0, none⟩ (.int .u32 3)).setCell ⟨Qb, 1, none⟩ (.int .u64 2)).setCell ⟨Qb, 2, none⟩ (.int .i64 4)).setCell ⟨Qb, 3, none⟩ (.string (num1 level))).setCell ⟨Qb, 4, none⟩ (.slice a n c)) Qb level M a c := by
  subst hl
  have hz := World.block_lt_of_cell? _ _ (z 0 (by omega)).1
  exact ⟨z.set5 _ _ _ _ _, (s.store5 (b := Qb) (by omega) _ _ _ _ _).mono (by omega), below_set5 q hQ _ _ _ _ _, hQ, by simpa using hz⟩

theorem boxes_ofQ {w wx : World} {Pb lsn level : Nat} {M : List ChildV} {a : Option Addr} {c : Nat} {e : EntV} {C : Nat} {y : ChildV} (h : InAt w wx Pb lsn level M a c e) (k : CBox wx C y) :
    (wx.cell? ⟨Pb, 0, none⟩ = some (.int .u32 3) ∧ wx.cell? ⟨Pb, 1, none⟩ = some (.int .u64 lsn) ∧ wx.cell? ⟨Pb, 2, none⟩ = some (.int .i64 4) ∧ wx.cell? ⟨Pb, 3, none⟩ = some (.string (num1 level)) ∧ wx.cell? ⟨Pb, 4, none⟩ = some (.slice a M.length c)) ∧ (wx.cell? ⟨C, 0, none⟩ = some (.int .u32 y.page) ∧ wx.cell? ⟨C, 1, none⟩ = some (.string y.e.key) ∧ wx.cell? ⟨C, 2, none⟩ = some (.int .u32 y.e.page) ∧ wx.cell? ⟨C, 3, none⟩ = some (.int .i64 y.e.slot)) :=
  ⟨h.page.cells5, k.c0, k.c1, k.c2, k.c3⟩

theorem store5_cell {w : World} {b k i : Nat} (h : k ≠ b) (v0 v1 v2 v3 v4 : Value) : (store5 w b v0 v1 v2 v3 v4).cell? ⟨k, i, none⟩ = w.cell? ⟨k, i, none⟩ := by
  unfold store5
  have ne : ∀ j, (⟨b, j, none⟩ : Addr) ≠ ⟨k, i, none⟩ := fun j q => h (congrArg Addr.block q).symm
  rw [World.cell?_setCell_other _ _ _ _ (ne 4), World.cell?_setCell_other _ _ _ _ (ne 3), World.cell?_setCell_other _ _ _ _ (ne 2), World.cell?_setCell_other _ _ _ _ (ne 1), World.cell?_setCell_other _ _ _ _ (ne 0)]

theorem boxes_keepQ {wx : World} {Pb lsn level Q C : Nat} {a : Option Addr} {n c : Nat} {y : ChildV} (h1 : Pb ≠ Q) (h2 : C ≠ Q) (v0 v1 v2 v3 v4 : Value)
    (s : (wx.cell? ⟨Pb, 0, none⟩ = some (.int .u32 3) ∧ wx.cell? ⟨Pb, 1, none⟩ = some (.int .u64 lsn) ∧ wx.cell? ⟨Pb, 2, none⟩ = some (.int .i64 4) ∧ wx.cell? ⟨Pb, 3, none⟩ = some (.string (num1 level)) ∧ wx.cell? ⟨Pb, 4, none⟩ = some (.slice a n c)) ∧ (wx.cell? ⟨C, 0, none⟩ = some (.int .u32 y.page) ∧ wx.cell? ⟨C, 1, none⟩ = some (.string y.e.key) ∧ wx.cell? ⟨C, 2, none⟩ = some (.int .u32 y.e.page) ∧ wx.cell? ⟨C, 3, none⟩ = some (.int .i64 y.e.slot))) :
    ((store5 wx Q v0 v1 v2 v3 v4).cell? ⟨Pb, 0, none⟩ = some (.int .u32 3) ∧ (store5 wx Q v0 v1 v2 v3 v4).cell? ⟨Pb, 1, none⟩ = some (.int .u64 lsn) ∧ (store5 wx Q v0 v1 v2 v3 v4).cell? ⟨Pb, 2, none⟩ = some (.int .i64 4) ∧ (store5 wx Q v0 v1 v2 v3 v4).cell? ⟨Pb, 3, none⟩ = some (.string (num1 level)) ∧ (store5 wx Q v0 v1 v2 v3 v4).cell? ⟨Pb, 4, none⟩ = some (.slice a n c)) ∧ ((store5 wx Q v0 v1 v2 v3 v4).cell? ⟨C, 0, none⟩ = some (.int .u32 y.page) ∧ (store5 wx Q v0 v1 v2 v3 v4).cell? ⟨C, 1, none⟩ = some (.string y.e.key) ∧ (store5 wx Q v0 v1 v2 v3 v4).cell? ⟨C, 2, none⟩ = some (.int .u32 y.e.page) ∧ (store5 wx Q v0 v1 v2 v3 v4).cell? ⟨C, 3, none⟩ = some (.int .i64 y.e.slot)) := by
  obtain ⟨⟨y0, y1, y2, y3, y4⟩, y5, y6, y7, y8⟩ := s
  refine ⟨⟨?_, ?_, ?_, ?_, ?_⟩, ?_, ?_, ?_, ?_⟩
  all_goals (first | (rw [store5_cell h1]; assumption) | (rw [store5_cell h2]; assumption))

theorem RowV.block {w w' : World} {b N : Nat} {f : Nat → Value} (h : RowV w b N f) (e : w'.heap[b]? = w.heap[b]?) : RowV w' b N f :=
  fun j hj => ⟨(World.cell?_of_block (w := w) (a := ⟨b, j, none⟩) e).trans (h j hj).1, (World.frozen?_of_block (w := w) (a := ⟨b, j, none⟩) e).trans (h j hj).2⟩

theorem StrsFrom.blocks {B : Nat} {w w' : World} {a : Option Addr} {L : List ByteArray} (h : StrsFrom B w a L) (e : ∀ k, B ≤ k → k < w.heap.size → w'.heap[k]? = w.heap[k]?) (hz : w.heap.size ≤ w'.heap.size) : StrsFrom B w' a L := by
  rcases h with h | ⟨b, o, ea, h1, hb, hc⟩
  · exact .inl h
  · exact .inr ⟨b, o, ea, h1, Nat.lt_of_lt_of_le hb hz, fun i hi => (World.cell?_of_block (w := w) (a := ⟨b, o + i, none⟩) (e b h1 hb)).trans (hc i hi)⟩

theorem InAt.next {w wx wy : World} {Pb lsn lsn' level B : Nat} {M M' : List ChildV} {a a' : Option Addr} {c c' : Nat} {e : EntV} (h : InAt w wx Pb lsn level M a c e) (k : Below (Pb + 1) wx wy) (hs : StrsFrom B wy a' (M'.map ChildV.bs)) (hB : Pb < B) (hi : CInv M') (hl : lsn' < 18446744073709551616) :
    InAt w (store5 wy Pb (.int .u32 3) (.int .u64 lsn') (.int .i64 4) (.string (num1 level)) (.slice a' M'.length c')) Pb lsn' level M' a' c' e := by
  have hlo := h.lo
  have he := h.ent.below k (by omega)
  have hsz := k.size
  have hlt := h.lt
  refine ⟨⟨?_, ?_, ?_, ?_⟩, (h.page.below k (by omega)).set5 _ _ _ _ _, (hs.store5 hB _ _ _ _ _).at, below_set5 (h.bel.trans (k.mono (by omega))) (by omega) _ _ _ _ _, hlo, by unfold store5; simp; omega, hi, hl⟩
  · rw [store5_cell (by omega)]; exact he.c0
  · rw [store5_cell (by omega)]; exact he.c1
  · rw [store5_cell (by omega)]; exact he.c2
  · unfold store5; simpa using he.lt

theorem own_store5 {w : World} {base b : Nat} {t : TypeId} {size n : Nat} {v : Value} {xs : List Value} (h : w.ownsRow base t size v n xs) (hb : b < base) (v0 v1 v2 v3 v4 : Value) : (store5 w b v0 v1 v2 v3 v4).ownsRow base t size v n xs := by
  unfold store5
  exact ownsRow_setCell_below (ownsRow_setCell_below (ownsRow_setCell_below (ownsRow_setCell_below (ownsRow_setCell_below h (a := ⟨b, 0, none⟩) hb _) (a := ⟨b, 1, none⟩) hb _) (a := ⟨b, 2, none⟩) hb _) (a := ⟨b, 3, none⟩) hb _) (a := ⟨b, 4, none⟩) hb _

theorem childs_length (M : List ChildV) : (M.flatMap ChildV.enc).length = M.length * 4 := by
  induction M with
  | nil => rfl
  | cons x M ih => rw [List.flatMap_cons, List.length_append, ih, List.length_cons]; show 4 + M.length * 4 = _; omega

theorem childs_at : ∀ (M : List ChildV) (i : Nat) (hi : i < M.length) (j : Nat) (v : Value), (ChildV.enc M[i])[j]? = some v → (M.flatMap ChildV.enc)[i * 4 + j]? = some v
  | [], i, hi, _, _, _ => by simp at hi
  | x :: M, 0, _, j, v, h => by
    rw [List.flatMap_cons, Nat.zero_mul, Nat.zero_add]
    have hj : j < x.enc.length := (List.getElem?_eq_some_iff.1 h).1
    rw [List.getElem?_append_left hj]; exact h
  | x :: M, i + 1, hi, j, v, h => by
    rw [List.flatMap_cons, List.getElem?_append_right (by show 4 ≤ _; omega)]
    have := childs_at M i (by simpa using hi) j v (by simpa using h)
    rw [← this]
    congr 1
    show (i + 1) * 4 + j - 4 = _
    omega

theorem own_childs {B : Nat} {w : World} {e : TypeId} {v : Value} {M : List ChildV} (h : w.ownsRow B e 4 v M.length (M.flatMap ChildV.enc)) : ∃ a c, v = .slice a M.length c ∧ ChildsAt w a M := by
  rcases h.2 with ⟨e1, e2⟩ | ⟨g, cap, cur, e1, _⟩
  · exact ⟨none, 0, by rw [e1, e2], .inl (List.eq_nil_of_length_eq_zero e2)⟩
  · subst e1
    refine ⟨_, _, rfl, ?_⟩
    by_cases h0 : M = []
    · exact .inl h0
    · have hlt := (h.lt g rfl).2
      refine .inr ⟨g, 0, rfl, hlt, fun i hi j v hv => ?_⟩
      have hj : j < 4 := (List.getElem?_eq_some_iff.1 hv).1
      have q := h.cellAt (i * 4 + j) (by omega)
      rw [Nat.zero_add]
      exact q.trans (childs_at M i hi j v hv)

/-- The last of the first k children that does not begin behind the entry. -/
def WantIs (M : List ChildV) (e : EntV) (k W : Nat) : Prop := (W = 0 ∨ ∃ h : W < M.length, W < k ∧ gtE M[W].e e = false) ∧ ∀ j (h : j < M.length), W < j → j < k → gtE M[j].e e = true

theorem WantIs.next {M : List ChildV} {e : EntV} {k W : Nat} (h : WantIs M e k W) (hk : k < M.length) :
    (k = 0 → WantIs M e 1 W) ∧ (gtE M[k].e e = true → WantIs M e (k + 1) W) ∧ (gtE M[k].e e = false → WantIs M e (k + 1) k) := by
  refine ⟨fun hk0 => ?_, fun hg => ⟨?_, fun j hj q1 q2 => ?_⟩, fun hg => ⟨.inr ⟨hk, by omega, hg⟩, fun j hj q1 q2 => by omega⟩⟩
  · subst hk0
    rcases h.1 with rfl | ⟨_, q, _⟩
    · exact ⟨.inl rfl, fun j hj q1 q2 => by omega⟩
    · omega
  · rcases h.1 with q | ⟨q1, q2, q3⟩
    · exact .inl q
    · exact .inr ⟨q1, by omega, q3⟩
  · by_cases e1 : j = k
    · subst e1; exact hg
    · exact h.2 j hj q1 (by omega)

theorem WantIs.down {M : List ChildV} {e : EntV} {W : Nat} (h : WantIs M e M.length W) : DownIs M e W := by
  refine ⟨?_, fun j hj q => h.2 j hj q hj⟩
  rcases h.1 with q | ⟨q1, _, q3⟩
  · exact .inl q
  · exact .inr ⟨q1, q3⟩

/-- A change in a box, behind K1. -/
structure OAt (w0 wx : World) (b : Nat) (O : OpV) : Prop where
  c0 : wx.cell? ⟨b, 0, none⟩ = some (.int .i64 O.kind)
  c1 : wx.cell? ⟨b, 1, none⟩ = some (.int .i64 O.at')
  c2 : wx.cell? ⟨b, 2, none⟩ = some (.string O.S)
  c3 : wx.cell? ⟨b, 3, none⟩ = some (.string O.old)
  bel : Below w0.heap.size w0 wx
  lt : b < wx.heap.size

theorem OAt.new {w0 w : World} {O : OpV} (q : Below w0.heap.size w0 w) : OAt w0 (w.alloc (.cells #[.int .i64 O.kind, .int .i64 O.at', .string O.S, .string O.old] 35)) w.heap.size O :=
  ⟨by simp, by simp, by simp, by simp, q.alloc q.size _, by simp⟩

theorem OAt.put {w0 w : World} {C : Nat} {O : OpV} {u0 u1 u2 u3 : Value} (q : Below w0.heap.size w0 w) (hC : w0.heap.size ≤ C) (z0 : w.cell? ⟨C, 0, none⟩ = some u0) (z1 : w.cell? ⟨C, 1, none⟩ = some u1) (z2 : w.cell? ⟨C, 2, none⟩ = some u2) (z3 : w.cell? ⟨C, 3, none⟩ = some u3) :
    OAt w0 ((((w.setCell ⟨C, 0, none⟩ (.int .i64 O.kind)).setCell ⟨C, 1, none⟩ (.int .i64 O.at')).setCell ⟨C, 2, none⟩ (.string O.S)).setCell ⟨C, 3, none⟩ (.string O.old)) C O := by
  have hlt := World.block_lt_of_cell? _ _ z0
  refine ⟨?_, ?_, ?_, ?_, below_put4 q hC _ _ _ _, by simpa using hlt⟩
  · rw [World.cell?_setCell_other _ _ _ _ (by simp), World.cell?_setCell_other _ _ _ _ (by simp), World.cell?_setCell_other _ _ _ _ (by simp)]; exact World.cell?_setCell_same _ _ _ z0
  · rw [World.cell?_setCell_other _ _ _ _ (by simp), World.cell?_setCell_other _ _ _ _ (by simp)]; exact World.cell?_setCell_same _ _ _ (by rw [World.cell?_setCell_other _ _ _ _ (by simp)]; exact z1)
  · rw [World.cell?_setCell_other _ _ _ _ (by simp)]; exact World.cell?_setCell_same _ _ _ (by rw [World.cell?_setCell_other _ _ _ _ (by simp), World.cell?_setCell_other _ _ _ _ (by simp)]; exact z2)
  · exact World.cell?_setCell_same _ _ _ (by rw [World.cell?_setCell_other _ _ _ _ (by simp), World.cell?_setCell_other _ _ _ _ (by simp), World.cell?_setCell_other _ _ _ _ (by simp)]; exact z3)

theorem boxes_ofE {w wx : World} {Pb lsn level : Nat} {M : List ChildV} {a : Option Addr} {c : Nat} {e : EntV} (h : InAt w wx Pb lsn level M a c e) :
    (wx.cell? ⟨Pb, 0, none⟩ = some (.int .u32 3) ∧ wx.cell? ⟨Pb, 1, none⟩ = some (.int .u64 lsn) ∧ wx.cell? ⟨Pb, 2, none⟩ = some (.int .i64 4) ∧ wx.cell? ⟨Pb, 3, none⟩ = some (.string (num1 level)) ∧ wx.cell? ⟨Pb, 4, none⟩ = some (.slice a M.length c)) ∧ (wx.cell? ⟨w.heap.size, 0, none⟩ = some (.string e.key) ∧ wx.cell? ⟨w.heap.size, 1, none⟩ = some (.int .u32 e.page) ∧ wx.cell? ⟨w.heap.size, 2, none⟩ = some (.int .i64 e.slot)) := ⟨h.page.cells5, h.ent.c0, h.ent.c1, h.ent.c2⟩

theorem boxes_keepE {w wx : World} {Pb lsn level Q : Nat} {a : Option Addr} {M : List ChildV} {c : Nat} {e : EntV} (h1 : Pb ≠ Q) (h2 : w.heap.size ≠ Q) (v0 v1 v2 v3 : Value)
    (s : (wx.cell? ⟨Pb, 0, none⟩ = some (.int .u32 3) ∧ wx.cell? ⟨Pb, 1, none⟩ = some (.int .u64 lsn) ∧ wx.cell? ⟨Pb, 2, none⟩ = some (.int .i64 4) ∧ wx.cell? ⟨Pb, 3, none⟩ = some (.string (num1 level)) ∧ wx.cell? ⟨Pb, 4, none⟩ = some (.slice a M.length c)) ∧ (wx.cell? ⟨w.heap.size, 0, none⟩ = some (.string e.key) ∧ wx.cell? ⟨w.heap.size, 1, none⟩ = some (.int .u32 e.page) ∧ wx.cell? ⟨w.heap.size, 2, none⟩ = some (.int .i64 e.slot))) : (((((wx.setCell ⟨Q, 0, none⟩ v0).setCell ⟨Q, 1, none⟩ v1).setCell ⟨Q, 2, none⟩ v2).setCell ⟨Q, 3, none⟩ v3).cell? ⟨Pb, 0, none⟩ = some (.int .u32 3) ∧ ((((wx.setCell ⟨Q, 0, none⟩ v0).setCell ⟨Q, 1, none⟩ v1).setCell ⟨Q, 2, none⟩ v2).setCell ⟨Q, 3, none⟩ v3).cell? ⟨Pb, 1, none⟩ = some (.int .u64 lsn) ∧ ((((wx.setCell ⟨Q, 0, none⟩ v0).setCell ⟨Q, 1, none⟩ v1).setCell ⟨Q, 2, none⟩ v2).setCell ⟨Q, 3, none⟩ v3).cell? ⟨Pb, 2, none⟩ = some (.int .i64 4) ∧ ((((wx.setCell ⟨Q, 0, none⟩ v0).setCell ⟨Q, 1, none⟩ v1).setCell ⟨Q, 2, none⟩ v2).setCell ⟨Q, 3, none⟩ v3).cell? ⟨Pb, 3, none⟩ = some (.string (num1 level)) ∧ ((((wx.setCell ⟨Q, 0, none⟩ v0).setCell ⟨Q, 1, none⟩ v1).setCell ⟨Q, 2, none⟩ v2).setCell ⟨Q, 3, none⟩ v3).cell? ⟨Pb, 4, none⟩ = some (.slice a M.length c)) ∧ (((((wx.setCell ⟨Q, 0, none⟩ v0).setCell ⟨Q, 1, none⟩ v1).setCell ⟨Q, 2, none⟩ v2).setCell ⟨Q, 3, none⟩ v3).cell? ⟨w.heap.size, 0, none⟩ = some (.string e.key) ∧ ((((wx.setCell ⟨Q, 0, none⟩ v0).setCell ⟨Q, 1, none⟩ v1).setCell ⟨Q, 2, none⟩ v2).setCell ⟨Q, 3, none⟩ v3).cell? ⟨w.heap.size, 1, none⟩ = some (.int .u32 e.page) ∧ ((((wx.setCell ⟨Q, 0, none⟩ v0).setCell ⟨Q, 1, none⟩ v1).setCell ⟨Q, 2, none⟩ v2).setCell ⟨Q, 3, none⟩ v3).cell? ⟨w.heap.size, 2, none⟩ = some (.int .i64 e.slot)) := by
  obtain ⟨⟨y0, y1, y2, y3, y4⟩, y5, y6, y7⟩ := s
  refine ⟨⟨?_, ?_, ?_, ?_, ?_⟩, ?_, ?_, ?_⟩
  all_goals (first | (rw [put4_cell h1.symm]; assumption) | (rw [put4_cell h2.symm]; assumption))

theorem grown_facts {C2 X XC w8 : World} {row : Option Nat} {lo hi' : Nat} (hx : XC = X) (bX : Below C2.heap.size C2 XC) (hg : X.grownBy w8 row) (hr : ∀ k, row = some k → lo ≤ k ∧ k < hi') :
    (∀ k, k < C2.heap.size → k < lo ∨ hi' ≤ k → w8.heap[k]? = C2.heap[k]?) ∧ Below (min lo C2.heap.size) C2 w8 := by
  subst hx
  have hb : ∀ k, k < C2.heap.size → k < lo ∨ hi' ≤ k → w8.heap[k]? = C2.heap[k]? := fun k hk hkk => by
    rw [hg.block k (Nat.lt_of_lt_of_le hk bX.size) (fun e => by have := hr k e.symm; omega)]
    exact bX.block k hk
  exact ⟨hb, hg.os.trans bX.os, hg.tape.trans bX.tape, hg.output.trans bX.output, Nat.le_trans bX.size hg.size, fun k hk => hb k (by omega) (.inl (by omega))⟩

set_option maxHeartbeats 40000000 in
set_option maxRecDepth 20000 in
theorem inner_walk (lv : Nat) (hlv : lv < 256) (ae : Option Addr) (ce : Nat) (L : List ChildV) (e : EntV) (w : World) (hm : ChildsAt w ae L) (hin : ∀ x ∈ L, (x.page < 4294967296 ∧ x.e.In) ∧ x.e.key.size ≤ 140737488351232) (hlen : L.length * 40 ≤ 140737488351232) (hein : e.In) (hek : e.key.size ≤ 140737488351232) :
    Calls Try.prog 4 #[.int .u8 lv, .slice ae L.length ce, e.val] w fun r w' => r = .returned (.bool true) ∧ Below w.heap.size w w' := by
  have HAW : Hid (∀ wx, Calls Try.prog 11 #[] wx fun e w' => e = .returned (.bool true) ∧ Below wx.heap.size wx w') := fun wx => nawake_any wx
  have HBL : Hid (∀ wx, Calls Try.prog 9 #[.int .u32 3] wx fun x w' => x = .returned (blankV.val none 0) ∧ Below wx.heap.size wx w') := fun wx => blank_any 3 wx
  have HFM : Hid (∀ wx, Calls Try.prog 21 #[.int .i64 lv] wx fun e w' => e = .returned (opFmtN 4 (num1 lv)).val ∧ Below wx.heap.size wx w') := fun wx => formatInner_any lv wx (by omega)
  have HAP : Hid (∀ wx, Calls Try.prog 8 #[blankV.val none 0, (opFmtN 4 (num1 lv)).val, .int .u64 1] wx fun e w' => ∃ a' c', e = .returned (.tuple #[(innerV 1 lv []).val a' c', .int .i64 0]) ∧ Below wx.heap.size wx w' ∧ StrsAt w' a' []) := fun wx => apply_inner lv
  have HLV : Hid (∀ (a : Option Addr) (c : Nat) wx, Calls Try.prog 22 #[(innerV 1 lv []).val a c] wx fun e w' => e = .returned (.int .i64 lv) ∧ Below wx.heap.size wx w') := fun a c wx => by
    have := level_any (innerV 1 lv []) a c wx
    rw [innerV_level hlv] at this
    exact this
  have HEN : Hid (∀ (x : EntV) wx, x.key.size ≤ 140737488351232 → Calls Try.prog 13 #[x.val] wx fun r w' => r = .returned (x.cut 12).val ∧ Below wx.heap.size wx w') := fun x wx hk => entry_any x wx hk
  have HPC : Hid (∀ (i : Nat) (x : ChildV) wx, x.page < 4294967296 → x.e.page < 4294967296 → x.e.key.size ≤ 12 → Calls Try.prog 23 #[.int .i64 i, x.val] wx fun r w' => r = .returned (opChild i x).val ∧ Below wx.heap.size wx w') := fun i x wx h1 h2 h3 => putChild_any i x wx h1 h2 (by omega)
  have HAC : Hid (∀ (wx : World) (Pb lsn : Nat) (M : List ChildV) (a : Option Addr) (c : Nat) (x : ChildV), InAt w wx Pb lsn lv M a c e → M.length < 12 → x.e.key.size ≤ 12 → Calls Try.prog 8 #[(innerV lsn lv M).val a c, (opChild M.length x).val, .int .u64 2] wx fun e w' => ∃ a' c', e = .returned (.tuple #[(innerV 2 lv (M ++ [x])).val a' c', .int .i64 0]) ∧ Below wx.heap.size wx w' ∧ StrsFrom wx.heap.size w' a' ((M ++ [x]).map ChildV.bs)) := fun wx Pb lsn M a c x h h1 h2 => apply_child x h.inv h.lsn h1 h2 h.slots
  have HIN : Hid (∀ (wx : World) (Pb lsn : Nat) (M : List ChildV) (a : Option Addr) (c : Nat), InAt w wx Pb lsn lv M a c e → Calls Try.prog 26 #[(innerV lsn lv M).val a c] wx fun r w' => ∃ a' c', r = .returned (.tuple #[.slice a' M.length c', .int .i64 0]) ∧ ChildsAt w' a' M ∧ Below wx.heap.size wx w') := fun wx Pb lsn M a c h => by
    have hl := h.inv.len
    refine (inner_yes (c := c) h.ok (by show (M.map ChildV.bs).length ≤ _; rw [List.length_map]; omega) (innerV_B h.inv.both lsn lv)).mono ?_
    rintro r w' ⟨a', c', rfl, hr, b⟩
    rw [innerV_L h.inv.both] at hr
    refine ⟨a', c', ?_, hr, b⟩
    show _ = Ending.returned (.tuple #[.slice a' M.length c', .int .i64 0])
    rw [show (innerV lsn lv M).slots.length = M.length from by show (M.map ChildV.bs).length = _; rw [List.length_map]]
  simp only [SheetV.val, OpV.val, ChildV.val, blankV, innerV, opFmtN, opChild, EntV.val, List.map_nil, List.length_nil, List.length_map] at HBL HFM HAP HLV HEN HPC HAC HIN ⊢
  have hmask := and4 e.slot
  have hw8 : IntKind.i64.wrap (lv : Int) = (lv : Int) := by rw [IntKind.wrap_i64]; omega
  go_enter Try.func4, Try.ntmps4
  go_wp2_with fail
  obtain ⟨W0, HW0⟩ : ∃ W, Hid (W = w.alloc (.cells #[.string e.key, .int .u32 e.page, .int .i64 e.slot] 43)) := ⟨_, rfl⟩
  have e0 : EBox W0 w.heap.size e := by rw [HW0.out]; exact EBox.new _ _
  have b0 : Below w.heap.size w W0 := by rw [HW0.out]; exact (Below.refl _ _).alloc (Nat.le_refl _) _
  rw [← HW0.out]
  clear HW0
  refine (HBL.out _).mono ?_
  rintro r w1 ⟨rfl, b1⟩
  go_wp2_with fail
  refine (HFM.out _).mono ?_
  rintro r w2 ⟨rfl, b2⟩
  go_wp2_with fail
  refine (HAP.out _).mono ?_
  rintro r w3 ⟨a3, c3, rfl, b3, s3⟩
  have k3 := below_chain (below_chain b1 b2) b3
  have B3 := below_chain b0 k3
  obtain ⟨W3, HW3⟩ : ∃ W, Hid (W = w3.alloc (.cells #[.int .u32 3, .int .u64 1, .int .i64 4, .string (num1 lv), .slice a3 0 c3] 29)) := ⟨_, rfl⟩
  have h3 : InAt w W3 w3.heap.size 1 lv [] a3 c3 e := by
    rw [HW3.out]
    have e3 := e0.below k3 e0.lt
    exact ⟨e3.below ((Below.refl _ _).alloc (Nat.le_refl _) _) e3.lt, RowV.five_new _ _ _ _ _ _ _, .inl rfl, B3.alloc B3.size _, e3.lt, by simp, CInv.nil, by omega⟩
  clear b0 b1 b2 b3 B3 s3 k3 e0 HBL HFM HAP
  go_wp2_with fail
  rw [← HW3.out]
  clear HW3
  refine (HAW.out _).mono ?_
  rintro r w4 ⟨rfl, b4⟩
  have h4 := h3.below b4
  clear h3 b4 HAW
  obtain ⟨x0, x1, x2, x3, x4⟩ := h4.page.cells5
  go_wp2_with fail
  refine (HLV.out _ _ _).mono ?_
  rintro r w5 ⟨rfl, b5⟩
  have h5 := h4.below b5
  clear h4 b5 HLV x0 x1 x2 x3 x4
  generalize w3.heap.size = Pb at *
  have hrow : (w5.alloc (.cells #[] 63)).ownsRow (Pb + 1) 63 4 (.slice (some ⟨w5.heap.size, 0, none⟩) 0 0) 0 [] := World.ownsRow_lit w5 #[] 0 (by have := h5.lt; omega) (by unfold maxLen; omega) rfl
  have h6 := h5.alloc (.cells #[] 63)
  obtain ⟨atI, Hat⟩ : ∃ atI : Int, Hid (e.slot % 16 - 1 = atI) := ⟨_, rfl⟩
  go_upto_block 0 with fail
  go_cut [10] from 52 to 104 (fun v10 wx => ∃ (lsn : Nat) (M : List ChildV) (a : Option Addr) (c : Nat), Hid (InAt w wx Pb lsn lv M a c e) ∧ Hid (wx.ownsRow (Pb + 1) 63 4 v10 M.length (M.flatMap ChildV.enc)))
  case first =>
    go_wp2_with fail
    go_loopw [10, 11] (fun v10 i wr => ∃ (lsn : Nat) (M : List ChildV) (a : Option Addr) (c : Nat), M.length ≤ L.length ∧ i = .int .i64 M.length ∧ Hid (InAt w wr Pb lsn lv M a c e) ∧ Hid (wr.ownsRow (Pb + 1) 63 4 v10 M.length (M.flatMap ChildV.enc))) (fun _ i _ => 12 - (intOf i).toNat)
    case atStart => exact ⟨1, [], a3, c3, by simp, rfl, h6, hrow⟩
    case round =>
      obtain ⟨lsn, M, a, c, hk, rfl, HH, HR⟩ := hrel
      have HHlt := HH.out.lt
      have hownlt := HR.out.lt
      by_cases hlt : M.length < L.length
      · by_cases hlt12 : M.length < 12
        · have hi0 : (0 : Int) ≤ (M.length : Int) := by omega
          have hi1 : (M.length : Int) < (L.length : Int) := by omega
          have hi8 : (M.length : Int) < 12 := by omega
          obtain ⟨bb, o, rfl, hb, c0, c1, c2, c3'⟩ := (hm.below HH.out.bel).child hlt
          have hink := hin L[M.length] (List.getElem_mem hlt)
          generalize L[M.length] = x at *
          have HE1 := hidn (fun wx => HEN.out x.e wx hink.2)
          go_upto_region 9 with fail
          go_cut [12] from 62 to 73 (fun v12 wx => ∃ C : Nat, v12 = .pointer (some ⟨C, 0, none⟩) ∧ Hid (CBox wx C ⟨x.page, x.e.cut 12⟩) ∧ Hid (Below wr.heap.size wr wx) ∧ wr.heap.size ≤ C)
          case first =>
            go_region_held3 (fun wy => wy.cell? ⟨bb, o + M.length * 4, none⟩ = some (.int .u32 x.page) ∧ (wy.cell? ⟨bb, o + M.length * 4 + 1, none⟩ = some (.string x.e.key) ∧ wy.cell? ⟨bb, o + M.length * 4 + 2, none⟩ = some (.int .u32 x.e.page) ∧ wy.cell? ⟨bb, o + M.length * 4 + 3, none⟩ = some (.int .i64 x.e.slot)))
              (first | (go_keep; done) | exact s8 | exact ⟨by rw [put4_cell hbw.symm]; exact s8.1, by rw [put4_cell hbw.symm]; exact s8.2.1, by rw [put4_cell hbw.symm]; exact s8.2.2.1, by rw [put4_cell hbw.symm]; exact s8.2.2.2⟩ | (trace_state; sorry))
              (first
                | (go_at_call 13; refine (HE1.out _).mono ?_; rintro r1 w8 ⟨rfl, b8⟩
                   have q8 : Below wr.heap.size wr w8 := by
                     first
                       | exact ⟨b8.os, b8.tape, b8.output, b8.size, b8.block⟩
                       | exact ((Below.refl wr.heap.size wr).alloc (Nat.le_refl _) _).trans (Below.mono ⟨b8.os, b8.tape, b8.output, b8.size, b8.block⟩ (by simp))
                   have s8 := And.intro ((q8.cell (p := ⟨bb, o + M.length * 4, none⟩) hb).trans c0) (And.intro ((q8.cell (p := ⟨bb, o + M.length * 4 + 1, none⟩) hb).trans c1) (And.intro ((q8.cell (p := ⟨bb, o + M.length * 4 + 2, none⟩) hb).trans c2) ((q8.cell (p := ⟨bb, o + M.length * 4 + 3, none⟩) hb).trans c3')))
                   first
                     | (have zc : w8.heap[wr.heap.size]? = some (.cells #[.int .u32 0, .string ⟨#[]⟩, .int .u32 0, .int .i64 0] 63 (0, 0)) := (b8.block wr.heap.size (by simp)).trans (heap_alloc_new wr (.cells #[.int .u32 0, .string ⟨#[]⟩, .int .u32 0, .int .i64 0] 63))
                        have z0 : w8.cell? ⟨wr.heap.size, 0, none⟩ = some (.int .u32 0) := by unfold World.cell?; simp [zc]
                        have z1 : w8.cell? ⟨wr.heap.size, 1, none⟩ = some (.string ⟨#[]⟩) := by unfold World.cell?; simp [zc]
                        have z2 : w8.cell? ⟨wr.heap.size, 2, none⟩ = some (.int .u32 0) := by unfold World.cell?; simp [zc]
                        have z3 : w8.cell? ⟨wr.heap.size, 3, none⟩ = some (.int .i64 0) := by unfold World.cell?; simp [zc]
                        have f0 : w8.frozen? ⟨wr.heap.size, 0, none⟩ = false := by unfold World.frozen?; simp [zc]
                        have f1 : w8.frozen? ⟨wr.heap.size, 1, none⟩ = false := by unfold World.frozen?; simp [zc]
                        have f2 : w8.frozen? ⟨wr.heap.size, 2, none⟩ = false := by unfold World.frozen?; simp [zc]
                        have f3 : w8.frozen? ⟨wr.heap.size, 3, none⟩ = false := by unfold World.frozen?; simp [zc]
                        have hz8 : wr.heap.size < w8.heap.size := (Array.getElem?_eq_some_iff.1 zc).1
                        have hbw : bb ≠ wr.heap.size := by omega
                        have sZ := s8)
                     | skip))
            · go_wp2
              go_meet
              case rel => exact ⟨w8.heap.size, rfl, CBox.new w8 ⟨x.page, x.e.cut 12⟩, q8.alloc q8.size _, q8.size⟩
            · go_wp2
              go_meet
              case rel => exact ⟨wr.heap.size, rfl, CBox.put ⟨x.page, x.e.cut 12⟩ z0 z1 z2 z3 hz8, below_put4 q8 (Nat.le_refl _) _ _ _ _, Nat.le_refl _⟩
          obtain ⟨C, rfl, HC, HBw, hCl⟩ := hcut
          have hI7 := HH.out.below HBw.out
          have HR7 := hidn (own_below HR.out HBw.out)
          have hmay := hidn (EntV.cut_may 12 hink.1.2.page)
          have hck := hidn (cutKey_size 12 x.e.key)
          have hxp := hink.1.1
          obtain ⟨y, Hy⟩ : ∃ y, Hid (ChildV.mk x.page (x.e.cut 12) = y) := ⟨_, rfl⟩
          have hy1 : y.page < 4294967296 := by rw [← Hy.out]; exact hxp
          have hy2 : y.e.May := by rw [← Hy.out]; exact hmay.out
          have hy3 : y.e.key.size ≤ 12 := by rw [← Hy.out]; exact hck.out
          rw [Hy.out] at HC
          clear c0 c1 c2 c3' HE1 HH HR HBw Hy hmay hck
          obtain ⟨C0, HCC⟩ : ∃ W, W = wc := ⟨_, rfl⟩
          rw [← HCC] at hI7 HR7 HC ⊢
          clear HCC
          have hCp : Pb < C := Nat.lt_of_lt_of_le HHlt hCl
          have HP1 := hidn (fun wx => HPC.out M.length y wx hy1 hy2.page hy3)
          have HA1 := hidn (fun wx (h : InAt w wx Pb lsn lv M a c e) => HAC.out wx Pb lsn M a c y h hlt12 hy3)
          have hl1 : (M ++ [y]).length = M.length + 1 := by simp
          obtain ⟨x0, x1, x2, x3, x4⟩ := hI7.page.cells5
          obtain ⟨y0, y1, y2, y3, yl⟩ := HC.out
          go_upto_region 10 with fail
          go_cut [13, 14] from 74 to 81 (fun v13 v14 wx => ∃ (Qb : Nat) (a2 : Option Addr) (c2 : Nat), v13 = .pointer (some ⟨Qb, 0, none⟩) ∧ v14 = .int .i64 0 ∧ Hid (QAt C0 wx Qb lv (M ++ [y]) a2 c2))
          case first =>
            go_region_held3 (fun wy => (wy.cell? ⟨Pb, 0, none⟩ = some (.int .u32 3) ∧ wy.cell? ⟨Pb, 1, none⟩ = some (.int .u64 lsn) ∧ wy.cell? ⟨Pb, 2, none⟩ = some (.int .i64 4) ∧ wy.cell? ⟨Pb, 3, none⟩ = some (.string (num1 lv)) ∧ wy.cell? ⟨Pb, 4, none⟩ = some (.slice a M.length c)) ∧ (wy.cell? ⟨C, 0, none⟩ = some (.int .u32 y.page) ∧ wy.cell? ⟨C, 1, none⟩ = some (.string y.e.key) ∧ wy.cell? ⟨C, 2, none⟩ = some (.int .u32 y.e.page) ∧ wy.cell? ⟨C, 3, none⟩ = some (.int .i64 y.e.slot)))
              (first | (go_keep; done) | exact boxes_keepQ hQ1 hQ2 _ _ _ _ _ s10 | exact s10 | exact s9)
              (first
                | (go_at_call 23; refine (HP1.out _).mono ?_; rintro r9 w9 ⟨rfl, b9⟩
                   first
                     | (have q9 : Below C0.heap.size C0 w9 := by exact ⟨b9.os, b9.tape, b9.output, b9.size, b9.block⟩)
                     | (have q9 : Below C0.heap.size C0 w9 := by exact ((Below.refl C0.heap.size C0).alloc (Nat.le_refl _) (.cells #[.int .u32 0, .int .u64 0, .int .i64 0, .string ⟨#[]⟩, .slice none 0 0] 29)).trans (Below.mono (B := (C0.alloc (.cells #[.int .u32 0, .int .u64 0, .int .i64 0, .string ⟨#[]⟩, .slice none 0 0] 29)).heap.size) ⟨b9.os, b9.tape, b9.output, b9.size, b9.block⟩ (by simp))
                        have zr : RowV w9 C0.heap.size 5 (five (.int .u32 0) (.int .u64 0) (.int .i64 0) (.string ⟨#[]⟩) (.slice none 0 0)) := (RowV.five_new C0 (.int .u32 0) (.int .u64 0) (.int .i64 0) (.string ⟨#[]⟩) (.slice none 0 0) 29).below (B := (C0.alloc (.cells #[.int .u32 0, .int .u64 0, .int .i64 0, .string ⟨#[]⟩, .slice none 0 0] 29)).heap.size) ⟨b9.os, b9.tape, b9.output, b9.size, b9.block⟩ (by simp))
                   have h9 := hI7.below q9
                   have s9 := boxes_ofQ h9 (HC.out.below q9 yl))
                | (go_at_call 8; refine (HA1.out _ (by first | exact h9 | exact h9.alloc _)).mono ?_; rintro r10 w10 ⟨a2, c2', rfl, b10, s2⟩
                   first
                     | (have q10 : Below C0.heap.size C0 w10 := by exact below_chain q9 b10
                        first
                          | (have zr10 := zr.below b10 (by have := (zr 0 (by omega)).1; exact World.block_lt_of_cell? _ _ this)
                             have sq : StrsFrom (C0.heap.size + 1) w10 a2 ((M ++ [y]).map ChildV.bs) := s2.mono (World.block_lt_of_cell? _ _ (zr 0 (by omega)).1)
                             have hQ1 : Pb ≠ C0.heap.size := by omega
                             have hQ2 : C ≠ C0.heap.size := by omega)
                          | (have sq := s2.mono q9.size))
                     | (have q10 : Below C0.heap.size C0 w10 := by exact below_chain (q9.alloc q9.size _) b10
                        have zr10 := (RowV.five_new w9 (.int .u32 0) (.int .u64 0) (.int .i64 0) (.string ⟨#[]⟩) (.slice none 0 0) 29).below b10 (by simp)
                        have sq : StrsFrom (w9.heap.size + 1) w10 a2 ((M ++ [y]).map ChildV.bs) := s2.mono (by simp)
                        have hz9 := q9.size
                        have hQ1 : Pb ≠ w9.heap.size := by omega
                        have hQ2 : C ≠ w9.heap.size := by omega)
                   have h10 := hI7.below q10
                   have s10 := boxes_ofQ h10 (HC.out.below q10 yl)
                   first
                     | (obtain ⟨z0, z1, z2, z3, z4⟩ := zr10.cells5
                        obtain ⟨f0, f1, f2, f3, f4⟩ := zr10.open5)
                     | skip))
            · go_wp2
              go_meet
              case rel => exact ⟨w10.heap.size, a2, c2', rfl, rfl, QAt.new hl1 q10 sq⟩
            · go_wp2
              go_meet
              case rel => exact ⟨w9.heap.size, a2, c2', rfl, rfl, QAt.put hl1 q10 hz9 zr10 sq⟩
            · go_wp2
              go_meet
              case rel => exact ⟨C0.heap.size, a2, c2', rfl, rfl, QAt.put hl1 q10 (Nat.le_refl _) zr10 sq⟩
          obtain ⟨Qb, a2, c2', rfl, rfl, HQ⟩ := hcut
          obtain ⟨C1, HCC⟩ : ∃ W, W = wc := ⟨_, rfl⟩
          rw [← HCC] at HQ ⊢
          clear HCC
          have hI8 := hI7.below HQ.out.bel
          have HR8 := hidn (own_below HR7.out HQ.out.bel)
          have HC8 := hidn (HC.out.below HQ.out.bel yl)
          clear x0 x1 x2 x3 x4 y0 y1 y2 y3 HP1 HA1 hI7 HR7
          go_upto_region 11 with fail
          have hQ4 := HQ.out.page.cells5.2.2.2.2
          rw [hl1] at hQ4
          obtain ⟨b2, o2, rfl, hb2, hcell⟩ : ∃ b o, a2 = some ⟨b, o, none⟩ ∧ b < C1.heap.size ∧ C1.cell? ⟨b, o + M.length, none⟩ = some (.string y.bs) := by
            rcases HQ.out.slots with hs | ⟨b, o, e1, _, hb, hc⟩
            · simp at hs
            · refine ⟨b, o, e1, hb, ?_⟩
              have := hc M.length (by simp)
              simpa using this
          obtain ⟨y0, y1, y2, y3, _⟩ := HC8.out
          have gx0 := cell_regrown hQ4
          have gx1 := cell_regrown hcell
          have gy0 := cell_regrown y0
          have gy1 := cell_regrown y1
          have gy2 := cell_regrown y2
          have gy3 := cell_regrown y3
          have q1 : IntKind.u64.wrap (y.page : Int) = (y.page : Int) := by rw [IntKind.wrap_u64]; omega
          obtain ⟨B1, HB1⟩ : ∃ B, Hid ((⟨(putL y.page (longOf 4)).toArray⟩ : ByteArray) = B) := ⟨_, rfl⟩
          obtain ⟨B2, HB2⟩ : ∃ B, Hid ((⟨y.e.bytes.toArray⟩ : ByteArray) = B) := ⟨_, rfl⟩
          have hbs : y.bs = B1 ++ B2 := by rw [← HB1.out, ← HB2.out, bytes_add, show longOf 4 = 4 from by decide]; rfl
          have zB1 : B1.size = 4 := by rw [← HB1.out, bytes_size, putL_length]; decide
          have zB2 : B2.size ≤ 18 := by rw [← HB2.out, bytes_size, EntV.bytes_length]; omega
          have n1 : ¬ (9223372036854775807 < B1.size + B2.size) := by omega
          have n2 : ¬ (9223372036854775807 < 4 + B2.size) := by omega
          have hTT := str_eq (rfl : B1 ++ B2 = B1 ++ B2)
          rw [hbs] at gx1
          have HPR : Hid (∀ wx, Calls Try.prog 24 #[.int .u64 y.page, .int .i64 4] wx fun r w' => r = .returned (.string B1) ∧ Below wx.heap.size wx w') := fun wx => by have := rput_any y.page 4 wx (by omega); rw [HB1.out] at this; exact this
          have HSL : Hid (∀ wx, Calls Try.prog 25 #[.agg #[.string y.e.key, .int .u32 y.e.page, .int .i64 y.e.slot]] wx fun r w' => r = .returned (.string B2) ∧ Below wx.heap.size wx w') := fun wx => by have := slot_any y.e wx hy2.page (by omega); rw [HB2.out] at this; exact this
          have cP : ∀ dd os, Calls Try.prog 24 #[.int .u64 y.page, .int .i64 4] (grow (redrawn C1 dd) os) fun r w'' => r = .returned (.string B1) ∧ ∃ p : Regrown, w'' = grow (redrawn C1 p.d) p.os := fun dd os => Calls.regrown_of (HPR.out _)
          have cS : ∀ dd os, Calls Try.prog 25 #[.agg #[.string y.e.key, .int .u32 y.e.page, .int .i64 y.e.slot]] (grow (redrawn C1 dd) os) fun r w'' => r = .returned (.string B2) ∧ ∃ p : Regrown, w'' = grow (redrawn C1 p.d) p.os := fun dd os => Calls.regrown_of (HSL.out _)
          have hj1 : (M.length : Int) < (M.length : Int) + 1 := by omega
          have hj2 : (M.length : Int) < ((M.length + 1 : Nat) : Int) := by omega
          refine wp_region_quiet_below nmixed (by kernel_rfl) ?_
          iterate 18 (quiet_step (first | (go_at_call 24; exact cP _ _) | (go_at_call 25; exact cS _ _)))
          refine wpQuiet_nil ?_
          intro _ hw'
          obtain ⟨⟨dq, osq⟩, hw''⟩ := hw'
          obtain ⟨C2, HC2⟩ : ∃ W, Hid (W = grow (redrawn C1 dq) osq) := ⟨_, rfl⟩
          have b12 : Below C1.heap.size C1 C2 := by rw [HC2.out]; exact below_regrown C1 dq osq
          rw [hw'']
          rw [← HC2.out]
          have hI9 := hI8.below b12
          have HR9 := hidn (own_below HR8.out b12)
          have HC9 := hidn (HC8.out.below b12 HC8.out.lt)
          have hQlt := HQ.out.lt
          have hQlo := HQ.out.lo
          have HQp := hidn (HQ.out.page.below b12 hQlt)
          have HQs := hidn (HQ.out.slots.below b12)
          have hCs := HQ.out.bel.size
          have hC0 := yl
          clear cP cS HPR HSL gx0 gx1 gy0 gy1 gy2 gy3 y0 y1 y2 y3 hQ4 hcell hTT HC2 hw'' HQ hI8 HR8 HC8
          have hinv2 := hidn (hI9.inv.snoc hlt12 hy1 hy2 hy3)
          obtain ⟨i0, hi, hz0, hz1, hz2⟩ := info_parts infoChild
          obtain ⟨XC, HXC⟩ : ∃ W, Hid (W = (C2.alloc (.cells #[.int .u32 y.page, .string y.e.key, .int .u32 y.e.page, .int .i64 y.e.slot] 63)).drew) := ⟨_, rfl⟩
          have hXheap : XC.heap = (C2.alloc (.cells #[.int .u32 y.page, .string y.e.key, .int .u32 y.e.page, .int .i64 y.e.slot] 63)).heap := by rw [HXC.out]; rfl
          have bX : Below C2.heap.size C2 XC := by rw [HXC.out]; exact ((Below.refl _ _).alloc (Nat.le_refl _) _).drew
          have HO1 := hidn (own_below HR9.out bX)
          have HN1 : Hid (∀ j u, ([.int .u32 y.page, .string y.e.key, .int .u32 y.e.page, .int .i64 y.e.slot] : List Value)[j]? = some u → XC.cell? ((⟨C2.heap.size, 0, none⟩ : Addr).add j) = some u) := World.news_of_block (by rw [hXheap]; exact heap_alloc_new C2 _)
          have H1C : Hid (∀ u ∈ ([.int .u32 y.page, .string y.e.key, .int .u32 y.e.page, .int .i64 y.e.slot] : List Value), u.oneCell' = true) := by
            intro u hu
            simp at hu
            rcases hu with rfl | rfl | rfl | rfl <;> rfl
          have hbz := b12.size
          have hPl := hI9.lt
          have hXs : Pb + 1 ≤ XC.heap.size := by rw [hXheap]; simp; omega
          have hXs2 : XC.heap.size = C2.heap.size + 1 := by rw [hXheap]; simp
          rw [HXC.out] at HO1 HN1 hXs
          obtain ⟨p0, p1, p2, p3, p4⟩ := HQp.out.cells5
          rw [hl1] at p4
          obtain ⟨r0, r1, r2, r3, r4⟩ := hI9.page.cells5
          obtain ⟨g0, g1, g2, g3, g4⟩ := hI9.page.open5
          obtain ⟨y0, y1, y2, y3, _⟩ := HC9.out
          have e1 : Qb ≠ C2.heap.size := by omega
          have e2 : C ≠ C2.heap.size := by omega
          have e3 : Pb ≠ C2.heap.size := by omega
          have e4 : Pb ≠ Qb := by omega
          have e5 : Qb ≠ Pb := by omega
          have e6 : C2.heap.size ≠ Qb := by omega
          have e7 : C2.heap.size ≠ C := by omega
          have e8 : Qb < C2.heap.size := by omega
          have e9 : C < C2.heap.size := by omega
          go_upto_region 13 with fail
          go_region_law (refine step_append_lies _ (by rfl) _ _ 59 (by rfl) (Pb + 1) 63 i0 _ 4 40 Try.underlying59 hi hz0 hz1 hz2 (by rfl) (by decide) _ M.length (M.flatMap ChildV.enc) (by rfl) HO1.out ⟨C2.heap.size, 0, none⟩ 1 1 [.int .u32 y.page, .string y.e.key, .int .u32 y.e.page, .int .i64 y.e.slot] (by rfl) (by rfl) HN1.out H1C.out (by decide) (by unfold maxLen; omega) (by omega) hXs _ (by rfl) ?_; intro g8 cap8 w8 hown8 hgrow8 hloc8 hlt8; have F8 := grown_facts HXC.out bX hgrow8 hownlt; have PR := hI9.page.block (F8.1 Pb hPl (.inl (by omega))); have QR := HQp.out.block (F8.1 Qb (by omega) (.inr (by omega))); rw [hl1] at QR; obtain ⟨a0, a1, a2', a3', a4'⟩ := PR.cells5; obtain ⟨f0, f1, f2, f3, f4⟩ := PR.open5; obtain ⟨d0, d1, d2, d3, d4⟩ := QR.cells5)
          all_goals
            have hs8 := hidn (HQs.out.blocks (fun k hk1 hk2 => F8.1 k hk2 (.inr (by omega))) (Nat.le_trans (Nat.le_of_lt (Nat.lt_of_lt_of_le (Nat.lt_succ_self _) (Nat.le_of_eq hXs2.symm))) (by rw [HXC.out]; exact hgrow8.size)))
            have hnext := hidn (hI9.next (lsn' := 2) (c' := c2') (F8.2.mono (show Pb + 1 ≤ min (Pb + 1) C2.heap.size by omega)) hs8.out (show Pb < C0.heap.size by omega) hinv2.out (by omega))
            have hown9 := hidn (own_store5 (b := Pb) hown8 (by omega) (.int .u32 3) (.int .u64 2) (.int .i64 4) (.string (num1 lv)) (.slice (some ⟨b2, o2, none⟩) (M ++ [y]).length c2'))
            rw [hl1] at hnext hown9
            unfold store5 at hnext hown9
            clear hown8 hgrow8 hloc8 HO1 HN1 H1C F8 PR QR
            go_wp2_with fail
            go_roundw
            case rel => exact ⟨2, M ++ [y], some ⟨b2, o2, none⟩, c2', by rw [hl1]; omega, by rw [hl1]; go_num, hnext, by show World.ownsRow _ _ _ _ _ _ _; rw [hl1, List.flatMap_append]; simpa [ChildV.enc] using hown9.out⟩
            case measure => simp [intOf]; omega
        · obtain h12 : M.length = 12 := by have := HH.out.inv.len; omega
          have hi8 : ¬ (M.length : Int) < 12 := by omega
          have hi1 : (M.length : Int) < (L.length : Int) := by omega
          clear h12
          go_wp2
          go_meet
          case rel => exact ⟨lsn, M, a, c, HH, HR⟩
      · have hi1 : ¬ (M.length : Int) < (L.length : Int) := by omega
        go_wp2
        go_meet
        case rel => exact ⟨lsn, M, a, c, HH, HR⟩
  obtain ⟨lsn, M, a, c, HH, HR⟩ := hcut
  obtain ⟨am, cm, hv10, hmA⟩ := own_childs HR.out
  subst hv10
  clear HR hrow h6 h5 HPC HAC hm hin
  have hMl := HH.out.inv.len
  obtain ⟨x0, x1, x2, x3, x4⟩ := HH.out.page.cells5
  have HI1 := hidn (HIN.out _ _ _ _ _ _ HH.out)
  go_wp2_with fail
  refine HI1.out.mono ?_
  rintro r w6 ⟨ak, ck, rfl, hkA, b6⟩
  have h6 := HH.out.below b6
  have hmA6 := hmA.below b6
  clear HI1 x0 x1 x2 x3 x4 HH hmA b6
  obtain ⟨K0, HK0⟩ : ∃ W, W = w6 := ⟨_, rfl⟩
  rw [← HK0] at h6 hkA hmA6 ⊢
  clear HK0
  go_upto_block 2 with fail
  go_cut [17] from 119 to 146 (fun v17 wx => ∃ Wn : Nat, v17 = .int .i64 Wn ∧ Hid (DownIs M e Wn) ∧ Hid (Below K0.heap.size K0 wx))
  case first =>
    go_wp2_with fail
    go_loopw [17, 18] (fun v17 i wr => ∃ k Wn : Nat, k ≤ M.length ∧ i = .int .i64 k ∧ v17 = .int .i64 Wn ∧ Hid (WantIs M e k Wn) ∧ Hid (Below K0.heap.size K0 wr)) (fun _ i _ => M.length - (intOf i).toNat)
    case atStart => exact ⟨0, 0, by omega, rfl, rfl, ⟨.inl rfl, fun j h q1 q2 => by omega⟩, Below.refl _ _⟩
    case round =>
      obtain ⟨k, Wn, hk, rfl, rfl, HWn, HB⟩ := hrel
      by_cases hlt : k < M.length
      · have hi0 : (0 : Int) ≤ (k : Int) := by omega
        have hi1 : (k : Int) < (M.length : Int) := by omega
        obtain ⟨bk, ok, rfl, hbk, c0, c1, c2, c3⟩ := (hkA.below HB.out).child hlt
        obtain ⟨bm, om, rfl, hbm, d0, d1, d2, d3⟩ := (hmA6.below HB.out).child hlt
        have HW1 := hidn (WantIs.next (e := e) HWn.out hlt)
        have hG := gtE_iff M[k].e e
        have eb := (h6.below HB.out).ent
        obtain ⟨u0, u1, u2, ul⟩ := eb
        have HBE := hidn (fun wx => before_any e M[k].e wx)
        rw [hG] at HW1
        generalize M[k] = x at *
        simp only [EntV.val] at HBE
        go_upto_region 21 with fail
        go_quiet (fail)
        by_cases hk0 : k = 0
        · subst hk0
          have hW1 := hidn (HW1.out.1 rfl)
          go_upto_region 23 with fail
          go_quiet (fail)
          go_wp2
          go_roundw
          case rel => exact ⟨1, Wn, by omega, by go_num, rfl, hW1, by show RowKit.Below _ _ _; exact below_drewN HB.out _⟩
          case measure => simp [intOf]; omega
        · have hkp : decide (0 < k) = true := by rw [decide_eq_true_eq]; omega
          have hkpI : decide ((0 : Int) < (k : Int)) = true := by rw [decide_eq_true_eq]; omega
          have hkN : 0 < k := by omega
          go_upto_region 23 with fail
          obtain ⟨V, HV⟩ : ∃ V, Hid (V = wr.drewN nq) := ⟨_, rfl⟩
          have bV : Below wr.heap.size wr V := by rw [HV.out]; exact below_drewN (Below.refl _ _) _
          have gu0 := cell_regrown ((bV.cell (p := ⟨w.heap.size, 0, none⟩) ul).trans u0)
          have gu1 := cell_regrown ((bV.cell (p := ⟨w.heap.size, 1, none⟩) ul).trans u1)
          have gu2 := cell_regrown ((bV.cell (p := ⟨w.heap.size, 2, none⟩) ul).trans u2)
          have gd1 := cell_regrown ((bV.cell (p := ⟨bm, om + k * 4 + 1, none⟩) hbm).trans d1)
          have gd2 := cell_regrown ((bV.cell (p := ⟨bm, om + k * 4 + 2, none⟩) hbm).trans d2)
          have gd3 := cell_regrown ((bV.cell (p := ⟨bm, om + k * 4 + 3, none⟩) hbm).trans d3)
          rw [← HV.out]
          clear HV c0 c1 c2 c3 d0 d1 d2 d3 u0 u1 u2
          cases hL : ltE e x.e with
          | true =>
            have hW1 := hidn (HW1.out.2.1 hL)
            rw [hL] at HBE
            have cB : ∀ dd os, Calls Try.prog 14 #[.agg #[.string e.key, .int .u32 e.page, .int .i64 e.slot], .agg #[.string x.e.key, .int .u32 x.e.page, .int .i64 x.e.slot]] (grow (redrawn V dd) os) fun r w'' => r = .returned (.bool true) ∧ ∃ p : Regrown, w'' = grow (redrawn V p.d) p.os := fun dd os => Calls.regrown_of (HBE.out _)
            refine wp_region_quiet_below nmixed (by kernel_rfl) ?_
            iterate 12 (quiet_step (first | (go_at_call 14; exact cB _ _)))
            refine wpQuiet_nil ?_
            intro _ hw'
            obtain ⟨⟨dq, osq⟩, hw''⟩ := hw'
            have b9 : Below V.heap.size V (grow (redrawn V dq) osq) := below_regrown V dq osq
            rw [hw'']
            have bb := hidn (below_chain (below_chain HB.out bV) b9)
            generalize grow (redrawn V dq) osq = V9 at *
            go_wp2
            go_roundw
            case rel => exact ⟨k + 1, Wn, by omega, by go_num, rfl, hW1, bb⟩
            case measure => simp [intOf]; omega
          | false =>
            have hW1 := hidn (HW1.out.2.2 hL)
            rw [hL] at HBE
            have cB : ∀ dd os, Calls Try.prog 14 #[.agg #[.string e.key, .int .u32 e.page, .int .i64 e.slot], .agg #[.string x.e.key, .int .u32 x.e.page, .int .i64 x.e.slot]] (grow (redrawn V dd) os) fun r w'' => r = .returned (.bool false) ∧ ∃ p : Regrown, w'' = grow (redrawn V p.d) p.os := fun dd os => Calls.regrown_of (HBE.out _)
            refine wp_region_quiet_below nmixed (by kernel_rfl) ?_
            iterate 12 (quiet_step (first | (go_at_call 14; exact cB _ _)))
            refine wpQuiet_nil ?_
            intro _ hw'
            obtain ⟨⟨dq, osq⟩, hw''⟩ := hw'
            have b9 : Below V.heap.size V (grow (redrawn V dq) osq) := below_regrown V dq osq
            rw [hw'']
            have bb := hidn (below_chain (below_chain HB.out bV) b9)
            generalize grow (redrawn V dq) osq = V9 at *
            go_wp2
            go_roundw
            case rel => exact ⟨k + 1, k, by omega, by go_num, rfl, hW1, bb⟩
            case measure => simp [intOf]; omega
      · obtain rfl : k = M.length := by omega
        have hD := hidn (HWn.out.down)
        go_wp2
        go_meet
        case rel => exact ⟨Wn, rfl, hD, HB⟩
  obtain ⟨Wn, rfl, HD, HB7⟩ := hcut
  have h7 := h6.below HB7.out
  have hkA7 := hkA.below HB7.out
  have hmA7 := hmA6.below HB7.out
  obtain ⟨K1, HK1⟩ : ∃ W, W = wc := ⟨_, rfl⟩
  rw [← HK1] at h7 hkA7 hmA7 ⊢
  clear HK1 HB7 h6 hkA hmA6
  have HDN : Hid (∀ wx, Below K1.heap.size K1 wx → Calls Try.prog 28 #[.slice ak M.length ck, .agg #[.string e.key, .int .u32 e.page, .int .i64 e.slot]] wx fun r w' => r = .returned (.int .i64 Wn) ∧ Below wx.heap.size wx w') := fun wx hb => by
    refine (down_any ak ck M e wx (hkA7.below hb) (by omega)).mono ?_
    rintro r w' ⟨⟨D, rfl, hDD⟩, b⟩
    rw [hDD.unique HD.out]
    exact ⟨rfl, b⟩
  have HEE := hidn (fun wx => HEN.out e wx hek)
  obtain ⟨x0, x1, x2, x3, x4⟩ := h7.page.cells5
  obtain ⟨u0, u1, u2, ul⟩ := h7.ent
  have hPl := h7.lt
  have hPlo := h7.lo
  have hcl := hidn (cutKey_size 12 e.key)
  have hcm := hidn (EntV.cut_may 12 hein.page)
  by_cases hout : e.slot % 16 - 1 < 0 ∨ (M.length : Int) ≤ e.slot % 16 - 1
  · have HS1 : Hid (∀ wx, InAt w wx Pb lsn lv M a c e → Calls Try.prog 27 #[(innerV lsn lv M).val a c, .int .i64 (e.slot % 16 - 1), (e.cut 12).val] wx fun r w' => r = .returned (.tuple #[op0.val, .int .i64 2]) ∧ Below wx.heap.size wx w') := fun wx h =>
      setFrom_none (innerV lsn lv M) a c (e.slot % 16 - 1) (e.cut 12) wx h.ok (by show (M.map ChildV.bs).length ≤ _; rw [List.length_map]; omega) (innerV_B h.inv.both lsn lv) (by show _ ∨ ((M.map ChildV.bs).length : Int) ≤ _; rw [List.length_map]; exact hout)
    simp only [SheetV.val, innerV, op0, OpV.val, EntV.val, List.length_map] at HS1
    go_upto_region 25 with fail
    go_cut [19, 20] from 147 to 154 (fun v19 v20 wx => ∃ Ob : Nat, v19 = .pointer (some ⟨Ob, 0, none⟩) ∧ v20 = .int .i64 2 ∧ Hid (OAt K1 wx Ob op0))
    case first =>
      go_region_held3 (fun wy => (wy.cell? ⟨Pb, 0, none⟩ = some (.int .u32 3) ∧ wy.cell? ⟨Pb, 1, none⟩ = some (.int .u64 lsn) ∧ wy.cell? ⟨Pb, 2, none⟩ = some (.int .i64 4) ∧ wy.cell? ⟨Pb, 3, none⟩ = some (.string (num1 lv)) ∧ wy.cell? ⟨Pb, 4, none⟩ = some (.slice a M.length c)) ∧ (wy.cell? ⟨w.heap.size, 0, none⟩ = some (.string e.key) ∧ wy.cell? ⟨w.heap.size, 1, none⟩ = some (.int .u32 e.page) ∧ wy.cell? ⟨w.heap.size, 2, none⟩ = some (.int .i64 e.slot)))
        (first | (go_keep; done) | exact boxes_keepE hQ1 hQ2 _ _ _ _ s10 | exact s10 | exact s9)
        (first
          | (go_at_call 13; refine (HEE.out _).mono ?_; rintro r9 w9 ⟨rfl, b9⟩
             first
               | (have q9 : Below K1.heap.size K1 w9 := by exact ⟨b9.os, b9.tape, b9.output, b9.size, b9.block⟩)
               | (have q9 : Below K1.heap.size K1 w9 := by exact ((Below.refl K1.heap.size K1).alloc (Nat.le_refl _) opCells).trans (Below.mono (B := (K1.alloc opCells).heap.size) ⟨b9.os, b9.tape, b9.output, b9.size, b9.block⟩ (by simp))
                  have zb : OpBox w9 K1.heap.size := (OpBox.new K1).below (B := (K1.alloc opCells).heap.size) ⟨b9.os, b9.tape, b9.output, b9.size, b9.block⟩ (by simp))
             have h9 := h7.below q9
             have s9 := boxes_ofE h9)
          | (go_at_call 27; refine (HS1.out _ (by first | exact h9 | exact h9.alloc _)).mono ?_; rintro r10 w10 ⟨rfl, b10⟩
             first
               | (have q10 : Below K1.heap.size K1 w10 := by exact below_chain q9 b10
                  first
                    | (have zb10 := zb.below b10 (World.block_lt_of_cell? _ _ zb.z0)
                       have hQ1 : Pb ≠ K1.heap.size := by omega
                       have hQ2 : w.heap.size ≠ K1.heap.size := by omega)
                    | skip)
               | (have q10 : Below K1.heap.size K1 w10 := by exact below_chain (q9.alloc q9.size _) b10
                  have zb10 := (OpBox.new w9).below b10 (by simp)
                  have hz9 := q9.size
                  have hQ1 : Pb ≠ w9.heap.size := by omega
                  have hQ2 : w.heap.size ≠ w9.heap.size := by omega)
             have h10 := h7.below q10
             have s10 := boxes_ofE h10
             first
               | (obtain ⟨z0, z1, z2, z3, f0, f1, f2, f3⟩ := zb10)
               | skip))
      · go_wp2
        go_meet
        case rel => exact ⟨w10.heap.size, rfl, rfl, OAt.new (O := op0) q10⟩
      · go_wp2
        go_meet
        case rel => exact ⟨w9.heap.size, rfl, rfl, OAt.put (O := op0) q10 hz9 z0 z1 z2 z3⟩
      · go_wp2
        go_meet
        case rel => exact ⟨K1.heap.size, rfl, rfl, OAt.put (O := op0) q10 (Nat.le_refl _) z0 z1 z2 z3⟩
    obtain ⟨Ob, rfl, rfl, HO8⟩ := hcut
    obtain ⟨K2, HK2⟩ : ∃ W, W = wc := ⟨_, rfl⟩
    rw [← HK2] at HO8 ⊢
    clear HK2
    have h8 := h7.below HO8.out.bel
    clear x0 x1 x2 x3 x4 u0 u1 u2
    obtain ⟨u0, u1, u2, ul2⟩ := h8.ent
    have bK := hidn HO8.out.bel
    by_cases h0 : e.slot % 16 - 1 < 0
    · go_wp2_with fail
      refine (HDN.out _ bK.out).mono ?_
      rintro r w11 ⟨rfl, b11⟩
      have bb := hidn (below_chain h8.bel b11)
      go_wp2
      go_ret
      exact ⟨rfl, bb.out⟩
    · have h1 : (M.length : Int) ≤ e.slot % 16 - 1 := by omega
      go_wp2_with fail
      refine (HDN.out _ bK.out).mono ?_
      rintro r w11 ⟨rfl, b11⟩
      have bb := hidn (below_chain h8.bel b11)
      go_wp2
      go_ret
      exact ⟨rfl, bb.out⟩
  · obtain ⟨n, hn⟩ : ∃ n : Nat, e.slot % 16 - 1 = (n : Int) := ⟨(e.slot % 16 - 1).toNat, by omega⟩
    rw [hn] at hout
    have hnM : n < M.length := by omega
    obtain ⟨y, Hy⟩ : ∃ y, Hid (ChildV.mk M[n].page (e.cut 12) = y) := ⟨ChildV.mk M[n].page (e.cut 12), rfl⟩
    have hpg := h7.inv.page M[n] (List.getElem_mem hnM)
    have hyp : y.page = M[n].page := by rw [← Hy.out]
    have hye : y.e = e.cut 12 := by rw [← Hy.out]
    have hyk : y.e.key.size ≤ 12 := by rw [hye]; exact hcl.out
    have hinv2 := h7.inv.set n (y := y) (by rw [hyp]; exact hpg) (by rw [hye]; exact hcm.out) hyk
    have HS1 : Hid (∀ wx, InAt w wx Pb lsn lv M a c e → Calls Try.prog 27 #[(innerV lsn lv M).val a c, .int .i64 n, (e.cut 12).val] wx fun r w' => r = .returned (.tuple #[(opSetN (innerV lsn lv M) n y.bs).val, .int .i64 0]) ∧ Below wx.heap.size wx w') := fun wx h => by
      have hL := innerV_L h.inv.both lsn lv
      have hi : n < (innerL (innerV lsn lv M)).length := by rw [hL]; exact hnM
      have e1 : (innerL (innerV lsn lv M))[n].page = M[n].page := congrArg ChildV.page (List.getElem_of_eq hL hi)
      have := setFrom_ok (innerV lsn lv M) a c n (e.cut 12) wx h.ok (by show (M.map ChildV.bs).length ≤ _; rw [List.length_map]; omega) hein.page (Nat.le_trans hcl.out (by omega)) (innerV_B h.inv.both lsn lv) hi (by rw [e1]; exact hpg)
      rw [e1, Hy.out] at this
      exact this
    have HAF : Hid (∀ wx, InAt w wx Pb lsn lv M a c e → Calls Try.prog 8 #[(innerV lsn lv M).val a c, (opSetN (innerV lsn lv M) n y.bs).val, .int .u64 3] wx fun r w' => ∃ a' c', r = .returned (.tuple #[(innerV 3 lv (M.set n y)).val a' c', .int .i64 0]) ∧ Below wx.heap.size wx w' ∧ StrsAt w' a' ((M.set n y).map ChildV.bs)) := fun wx h => apply_from n y h.inv h.lsn hnM hyk h.slots
    have HI3 : Hid (∀ (a' : Option Addr) (c' : Nat) wx, StrsAt wx a' ((M.set n y).map ChildV.bs) → Calls Try.prog 26 #[(innerV 3 lv (M.set n y)).val a' c'] wx fun r w' => ∃ a'' c'', r = .returned (.tuple #[.slice a'' M.length c'', .int .i64 0]) ∧ ChildsAt w' a'' (M.set n y) ∧ Below wx.heap.size wx w') := fun a' c' wx hs => by
      refine (inner_yes (c := c') (SheetV.Fits.ok (hinv2.fits (by omega)) hs) (by show ((M.set n y).map ChildV.bs).length ≤ _; rw [List.length_map, List.length_set]; omega) (innerV_B hinv2.both 3 lv)).mono ?_
      rintro r w' ⟨a'', c'', rfl, hr, b⟩
      rw [innerV_L hinv2.both] at hr
      refine ⟨a'', c'', ?_, hr, b⟩
      rw [show (innerV 3 lv (M.set n y)).slots.length = M.length from by show ((M.set n y).map ChildV.bs).length = _; rw [List.length_map, List.length_set]]
    obtain ⟨O, HO⟩ : ∃ O, Hid (opSetN (innerV lsn lv M) n y.bs = O) := ⟨_, rfl⟩
    rw [HO.out] at HS1 HAF
    simp only [SheetV.val, innerV, OpV.val, EntV.val, List.length_map, List.length_set] at HS1 HAF HI3
    rw [hn]
    go_upto_region 25 with fail
    go_cut [19, 20] from 147 to 154 (fun v19 v20 wx => ∃ Ob : Nat, v19 = .pointer (some ⟨Ob, 0, none⟩) ∧ v20 = .int .i64 0 ∧ Hid (OAt K1 wx Ob O))
    case first =>
      go_region_held3 (fun wy => (wy.cell? ⟨Pb, 0, none⟩ = some (.int .u32 3) ∧ wy.cell? ⟨Pb, 1, none⟩ = some (.int .u64 lsn) ∧ wy.cell? ⟨Pb, 2, none⟩ = some (.int .i64 4) ∧ wy.cell? ⟨Pb, 3, none⟩ = some (.string (num1 lv)) ∧ wy.cell? ⟨Pb, 4, none⟩ = some (.slice a M.length c)) ∧ (wy.cell? ⟨w.heap.size, 0, none⟩ = some (.string e.key) ∧ wy.cell? ⟨w.heap.size, 1, none⟩ = some (.int .u32 e.page) ∧ wy.cell? ⟨w.heap.size, 2, none⟩ = some (.int .i64 e.slot)))
        (first | (go_keep; done) | exact boxes_keepE hQ1 hQ2 _ _ _ _ s10 | exact s10 | exact s9)
        (first
          | (go_at_call 13; refine (HEE.out _).mono ?_; rintro r9 w9 ⟨rfl, b9⟩
             first
               | (have q9 : Below K1.heap.size K1 w9 := by exact ⟨b9.os, b9.tape, b9.output, b9.size, b9.block⟩)
               | (have q9 : Below K1.heap.size K1 w9 := by exact ((Below.refl K1.heap.size K1).alloc (Nat.le_refl _) opCells).trans (Below.mono (B := (K1.alloc opCells).heap.size) ⟨b9.os, b9.tape, b9.output, b9.size, b9.block⟩ (by simp))
                  have zb : OpBox w9 K1.heap.size := (OpBox.new K1).below (B := (K1.alloc opCells).heap.size) ⟨b9.os, b9.tape, b9.output, b9.size, b9.block⟩ (by simp))
             have h9 := h7.below q9
             have s9 := boxes_ofE h9)
          | (go_at_call 27; refine (HS1.out _ (by first | exact h9 | exact h9.alloc _)).mono ?_; rintro r10 w10 ⟨rfl, b10⟩
             first
               | (have q10 : Below K1.heap.size K1 w10 := by exact below_chain q9 b10
                  first
                    | (have zb10 := zb.below b10 (World.block_lt_of_cell? _ _ zb.z0)
                       have hQ1 : Pb ≠ K1.heap.size := by omega
                       have hQ2 : w.heap.size ≠ K1.heap.size := by omega)
                    | skip)
               | (have q10 : Below K1.heap.size K1 w10 := by exact below_chain (q9.alloc q9.size _) b10
                  have zb10 := (OpBox.new w9).below b10 (by simp)
                  have hz9 := q9.size
                  have hQ1 : Pb ≠ w9.heap.size := by omega
                  have hQ2 : w.heap.size ≠ w9.heap.size := by omega)
             have h10 := h7.below q10
             have s10 := boxes_ofE h10
             first
               | (obtain ⟨z0, z1, z2, z3, f0, f1, f2, f3⟩ := zb10)
               | skip))
      · go_wp2
        go_meet
        case rel => exact ⟨w10.heap.size, rfl, rfl, OAt.new (O := O) q10⟩
      · go_wp2
        go_meet
        case rel => exact ⟨w9.heap.size, rfl, rfl, OAt.put (O := O) q10 hz9 z0 z1 z2 z3⟩
      · go_wp2
        go_meet
        case rel => exact ⟨K1.heap.size, rfl, rfl, OAt.put (O := O) q10 (Nat.le_refl _) z0 z1 z2 z3⟩
    obtain ⟨Ob, rfl, rfl, HO8⟩ := hcut
    obtain ⟨K2, HK2⟩ : ∃ W, W = wc := ⟨_, rfl⟩
    rw [← HK2] at HO8 ⊢
    clear HK2
    have h8 := h7.below HO8.out.bel
    clear x0 x1 x2 x3 x4 u0 u1 u2
    obtain ⟨u0, u1, u2, ul2⟩ := h8.ent
    have hi0 : (0 : Int) ≤ (n : Int) := by omega
    have hi1 : (n : Int) < (M.length : Int) := by omega
    obtain ⟨x0, x1, x2, x3, x4⟩ := h8.page.cells5
    obtain ⟨z0, z1, z2, z3, _, _⟩ := HO8.out
    go_wp2_with fail
    refine (HAF.out _ h8).mono ?_
    rintro r w11 ⟨a11, c11, rfl, b11, s11⟩
    obtain ⟨W11, HW11⟩ : ∃ W, Hid (W = w11.alloc (.cells #[.int .u32 3, .int .u64 3, .int .i64 4, .string (num1 lv), .slice a11 M.length c11] 29)) := ⟨_, rfl⟩
    have k11 : Below w11.heap.size w11 W11 := by rw [HW11.out]; exact (Below.refl _ _).alloc (Nat.le_refl _) _
    have s12 := s11.below k11
    have B12 := hidn (below_chain (below_chain HO8.out.bel b11) k11)
    clear x0 x1 x2 x3 x4 z0 z1 z2 z3
    go_wp2_with fail
    rw [← HW11.out]
    refine (HI3.out _ _ _ s12).mono ?_
    rintro r w13 ⟨a13, c13, rfl, hA13, b13⟩
    have B13 := hidn (below_chain B12.out b13)
    clear HW11
    have h13 := h7.below B13.out
    have hm13 := hmA7.below B13.out
    obtain ⟨b14, o14, rfl, hb14, c0, c1, c2, c3⟩ := hA13.child (i := n) (by rw [List.length_set]; exact hnM)
    simp only [List.getElem_set_self] at c0 c1 c2 c3
    obtain ⟨b15, o15, rfl, hb15, d0, _, _, _⟩ := hm13.child hnM
    rw [hye] at c1 c2 c3
    rw [hyp] at c0
    clear u0 u1 u2
    obtain ⟨u0, u1, u2, _⟩ := h13.ent
    have gc0 := cell_regrown c0
    have gc1 := cell_regrown c1
    have gc2 := cell_regrown c2
    have gc3 := cell_regrown c3
    have gd0 := cell_regrown d0
    have gu0 := cell_regrown u0
    have gu1 := cell_regrown u1
    have gu2 := cell_regrown u2
    clear c0 c1 c2 c3 d0 u0 u1 u2
    have cD : ∀ dd os, Calls Try.prog 28 #[.slice ak M.length ck, .agg #[.string e.key, .int .u32 e.page, .int .i64 e.slot]] (grow (redrawn w13 dd) os) fun r w'' => r = .returned (.int .i64 Wn) ∧ ∃ p : Regrown, w'' = grow (redrawn w13 p.d) p.os := fun dd os => Calls.regrown_of (HDN.out _ (below_chain B13.out (below_regrown w13 dd os)))
    have cE : ∀ dd os, Calls Try.prog 13 #[.agg #[.string e.key, .int .u32 e.page, .int .i64 e.slot]] (grow (redrawn w13 dd) os) fun r w'' => r = .returned (.agg #[.string (e.cut 12).key, .int .u32 (e.cut 12).page, .int .i64 (e.cut 12).slot]) ∧ ∃ p : Regrown, w'' = grow (redrawn w13 p.d) p.os := fun dd os => Calls.regrown_of (HEE.out _)
    have bz := hidn h13.bel
    generalize e.cut 12 = ec at *
    generalize M[n].page = mp at *
    go_upto_region 30 with fail
    refine wp_region_quiet_below nmixed (by kernel_rfl) ?_
    iterate 41 (quiet_step (first | (go_at_call 28; exact cD _ _) | (go_at_call 13; exact cE _ _)))
    refine wpQuiet_nil ?_
    intro _ hw'
    obtain ⟨⟨dq, osq⟩, hw''⟩ := hw'
    have b20 := hidn (below_chain bz.out (below_regrown w13 dq osq))
    rw [hw'']
    generalize grow (redrawn w13 dq) osq = V20 at *
    go_wp2
    go_ret
    exact ⟨rfl, b20.out⟩

end Go.Proofs.Ytplcojfogfikfaa
