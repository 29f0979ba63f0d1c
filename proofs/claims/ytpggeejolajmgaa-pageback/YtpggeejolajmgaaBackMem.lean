/-
  Where PageBack stands: the page, the one under way, what was done, as plain data and in memory.
-/
import Derived.Test.YtpggeejolajmgaaBackOps
import Derived.Test.YtpggeejolajmgaaRefRoom
import Derived.Maps.AppendAt
namespace Go.Proofs.Ytpggeejolajmgaa
open Go.RowKit Go.Sort
set_option linter.unusedVariables false

/-- A step that was done: the page ahead of it, where its slots lie, and the change. -/
structure StepV where
  s : SheetV
  a : Option Addr
  c : Nat
  o : OpV

def scells (h : StepV) : List Value := [.int .u32 h.s.num, .int .u64 h.s.lsn, .int .i64 h.s.kind, .string h.s.head, .slice h.a h.s.slots.length h.c]
def ocells (h : StepV) : List Value := [.int .i64 (invO h.o).kind, .int .i64 (invO h.o).at', .string (invO h.o).S, .string (invO h.o).old]

def StepV.Good (h : StepV) : Prop := h.s.Fits ∧ h.o.Ok ∧ chkB h.o = true ∧ h.o.kind ≠ 1 ∧ doE h.s h.o = 0

/-- The steps H lead from p to q. -/
def Chain : List StepV → SheetV → SheetV → Prop
  | [], p, q => SameS q p
  | h :: H, p, q => SameS h.s p ∧ h.Good ∧ Chain H (doQ h.s h.o) q

theorem Chain.snoc {p q : SheetV} {H : List StepV} {h : StepV} : Chain (H ++ [h]) p q ↔ Chain H p h.s ∧ h.Good ∧ SameS q (doQ h.s h.o) := by
  induction H generalizing p with
  | nil => exact Iff.rfl
  | cons x H ih =>
    show (_ ∧ _ ∧ Chain (H ++ [h]) _ q) ↔ (_ ∧ _ ∧ Chain H _ _) ∧ _
    rw [ih]
    constructor
    · rintro ⟨a, b, c, d⟩; exact ⟨⟨a, b, c⟩, d⟩
    · rintro ⟨⟨a, b, c⟩, d⟩; exact ⟨a, b, c, d⟩

/-- Texts that lie outside of three blocks. -/
def StrsX (w : World) (v1 v2 : Value) (Q : Nat) (a : Option Addr) (L : List ByteArray) : Prop :=
  L = [] ∨ ∃ b o, a = some ⟨b, o, none⟩ ∧ b < w.heap.size ∧ v1.ownBlock ≠ some b ∧ v2.ownBlock ≠ some b ∧ b ≠ Q ∧ ∀ i (hi : i < L.length), w.cell? ⟨b, o + i, none⟩ = some (.string L[i])

theorem StrsX.at {w : World} {v1 v2 : Value} {Q : Nat} {a : Option Addr} {L : List ByteArray} (h : StrsX w v1 v2 Q a L) : StrsAt w a L := by
  rcases h with h | ⟨b, o, e, h1, _, _, _, h2⟩
  · exact .inl h
  · exact .inr ⟨b, o, e, h1, h2⟩

/-- A world that left all blocks but three as they were. -/
structure KeptX (w w' : World) (v1 v2 : Value) (Q : Nat) : Prop where
  size : w.heap.size ≤ w'.heap.size
  block : ∀ k, k < w.heap.size → v1.ownBlock ≠ some k → v2.ownBlock ≠ some k → k ≠ Q → w'.heap[k]? = w.heap[k]?

theorem StrsX.kept {w w' : World} {v1 v2 u1 u2 : Value} {Q : Nat} {a : Option Addr} {L : List ByteArray} (h : StrsX w v1 v2 Q a L) (k : KeptX w w' v1 v2 Q)
    (e1 : ∀ b, b < w.heap.size → v1.ownBlock ≠ some b → u1.ownBlock ≠ some b) (e2 : ∀ b, b < w.heap.size → v2.ownBlock ≠ some b → u2.ownBlock ≠ some b) : StrsX w' u1 u2 Q a L := by
  rcases h with h | ⟨b, o, e, h1, h2, h3, h4, hc⟩
  · exact .inl h
  · exact .inr ⟨b, o, e, Nat.lt_of_lt_of_le h1 k.size, e1 b h1 h2, e2 b h1 h3, h4, fun i hi => (World.cell?_of_block (w := w) (a := ⟨b, o + i, none⟩) (k.block b h1 h2 h3 h4)).trans (hc i hi)⟩

theorem owns_same {w w' : World} {e : TypeId} {z n : Nat} {v : Value} {xs : List Value} (h : w.ownsRow 0 e z v n xs) (k : ∀ g, v.ownBlock = some g → w'.heap[g]? = w.heap[g]?) : w'.ownsRow 0 e z v n xs := by
  refine ⟨h.1, ?_⟩
  rcases h.2 with ⟨rfl, h1⟩ | ⟨g', cap, cur, rfl, h0, hb, hr⟩
  · exact .inl ⟨rfl, h1⟩
  · exact .inr ⟨g', cap, cur, rfl, h0, (k g' rfl).trans hb, hr⟩

theorem owns_cells {w : World} {e : TypeId} {z n : Nat} {g cap : Nat} {xs : List Value} (h : w.ownsRow 0 e z (.slice (some ⟨g, 0, none⟩) n cap) n xs) (k : Nat) (u : Value) (hk : xs[k]? = some u) : w.cell? ⟨g, k, none⟩ = some u := by
  rcases h.2 with ⟨e1, _⟩ | ⟨g', cap', cur, e1, _, hb, hn, hm, hs, ht⟩
  · cases e1
  · cases e1
    have hl : k < xs.length := (List.getElem?_eq_some_iff.1 hk).1
    rw [h.1] at hl
    have : cur.toList[k]? = some u := by
      rw [← ht, List.getElem?_take] at hk
      rw [if_pos hl] at hk
      exact hk
    simp only [World.cell?, hb]
    simpa using this

/-- Two rows of unlike types lie in two blocks. -/
theorem owns_apart {w : World} {e e' : TypeId} {z z' n n' : Nat} {v v' : Value} {xs xs' : List Value} (h : w.ownsRow 0 e z v n xs) (h' : w.ownsRow 0 e' z' v' n' xs') (hne : e ≠ e') : ∀ g, v.ownBlock = some g → v'.ownBlock ≠ some g := by
  intro g h1 h2
  rcases h.2 with ⟨rfl, _⟩ | ⟨g1, cap, cur, rfl, _, hb, _⟩
  · cases h1
  rcases h'.2 with ⟨rfl, _⟩ | ⟨g2, cap', cur', rfl, _, hb', _⟩
  · cases h2
  obtain rfl : g1 = g := Option.some.inj h1
  obtain rfl : g2 = g1 := Option.some.inj h2
  rw [hb] at hb'
  cases hb'
  exact hne rfl

/-- Where PageBack stands. -/
structure BackAt (w wr : World) (Q : Nat) (p q : SheetV) (a aq : Option Addr) (c cq : Nat) (H : List StepV) (vw vd : Value) : Prop where
  bel : Below w.heap.size w wr
  page : RowV wr w.heap.size 5 (five (.int .u32 p.num) (.int .u64 p.lsn) (.int .i64 p.kind) (.string p.head) (.slice a p.slots.length c))
  cur : RowV wr Q 5 (five (.int .u32 q.num) (.int .u64 q.lsn) (.int .i64 q.kind) (.string q.head) (.slice aq q.slots.length cq))
  Q1 : w.heap.size < Q
  Q2 : Q < wr.heap.size
  was : wr.ownsRow 0 28 5 vw H.length (H.flatMap scells)
  done : wr.ownsRow 0 37 4 vd H.length (H.flatMap ocells)
  wOff : ∀ k, vw.ownBlock = some k → w.heap.size < k ∧ k ≠ Q
  dOff : ∀ k, vd.ownBlock = some k → w.heap.size < k ∧ k ≠ Q
  strs : StrsX wr vw vd Q aq q.slots
  olds : ∀ h ∈ H, StrsX wr vw vd Q h.a h.s.slots

theorem KeptX.of_below {w w' : World} {v1 v2 : Value} {Q : Nat} (k : Below w.heap.size w w') : KeptX w w' v1 v2 Q := ⟨k.size, fun b hb _ _ _ => k.block b hb⟩

section
variable {w wr wx : World} {Q : Nat} {p q : SheetV} {a aq : Option Addr} {c cq : Nat} {H : List StepV} {vw vd : Value}

theorem BackAt.below (h : BackAt w wr Q p q a aq c cq H vw vd) (k : Below wr.heap.size wr wx) : BackAt w wx Q p q a aq c cq H vw vd := by
  have hz := Nat.lt_trans h.Q1 h.Q2
  refine ⟨h.bel.trans (k.mono (by omega)), h.page.below k hz, h.cur.below k h.Q2, h.Q1, Nat.lt_of_lt_of_le h.Q2 k.size, owns_same h.was fun g hg => k.block g (h.was.lt g hg).2, owns_same h.done fun g hg => k.block g (h.done.lt g hg).2, h.wOff, h.dOff, h.strs.kept (.of_below k) (fun _ _ x => x) (fun _ _ x => x), fun x hx => (h.olds x hx).kept (.of_below k) (fun _ _ x => x) (fun _ _ x => x)⟩

theorem BackAt.start (hm : StrsAt w a p.slots) (hb : Below w.heap.size w wr) (hz : w.heap.size < wr.heap.size) (hp : RowV wr w.heap.size 5 (five (.int .u32 p.num) (.int .u64 p.lsn) (.int .i64 p.kind) (.string p.head) (.slice a p.slots.length c))) :
    BackAt w (((wr.alloc (.cells #[.int .u32 p.num, .int .u64 p.lsn, .int .i64 p.kind, .string p.head, .slice a p.slots.length c] 28)).alloc (.cells #[] 37)).alloc (.cells #[] 28)) wr.heap.size p p a a c c [] (.slice (some ⟨wr.heap.size + 1 + 1, 0, none⟩) 0 0) (.slice (some ⟨wr.heap.size + 1, 0, none⟩) 0 0) := by
  have b1 : Below wr.heap.size wr (wr.alloc (.cells #[.int .u32 p.num, .int .u64 p.lsn, .int .i64 p.kind, .string p.head, .slice a p.slots.length c] 28)) := (Below.refl _ _).alloc (Nat.le_refl _) _
  have b2 := b1.alloc (by simp) (.cells #[] 37)
  have b3 := b2.alloc (by simp; omega) (.cells #[] 28)
  have r1 := RowV.five_new wr (.int .u32 p.num) (.int .u64 p.lsn) (.int .i64 p.kind) (.string p.head) (.slice a p.slots.length c) 28
  have b12 : Below (wr.alloc (.cells #[.int .u32 p.num, .int .u64 p.lsn, .int .i64 p.kind, .string p.head, .slice a p.slots.length c] 28)).heap.size (wr.alloc (.cells #[.int .u32 p.num, .int .u64 p.lsn, .int .i64 p.kind, .string p.head, .slice a p.slots.length c] 28)) (((wr.alloc (.cells #[.int .u32 p.num, .int .u64 p.lsn, .int .i64 p.kind, .string p.head, .slice a p.slots.length c] 28)).alloc (.cells #[] 37)).alloc (.cells #[] 28)) := ((Below.refl _ _).alloc (Nat.le_refl _) _).alloc (by simp) _
  have hw := World.ownsRow_made (base := 0) (e := 28) (size := 5) ((wr.alloc (.cells #[.int .u32 p.num, .int .u64 p.lsn, .int .i64 p.kind, .string p.head, .slice a p.slots.length c] 28)).alloc (.cells #[] 37)) #[] 0 (Nat.zero_le _) (Nat.zero_le _) rfl
  have hd := World.ownsRow_made (base := 0) (e := 37) (size := 4) (wr.alloc (.cells #[.int .u32 p.num, .int .u64 p.lsn, .int .i64 p.kind, .string p.head, .slice a p.slots.length c] 28)) #[] 0 (Nat.zero_le _) (Nat.zero_le _) rfl
  have hd2 := owns_same hd (w' := ((wr.alloc (.cells #[.int .u32 p.num, .int .u64 p.lsn, .int .i64 p.kind, .string p.head, .slice a p.slots.length c] 28)).alloc (.cells #[] 37)).alloc (.cells #[] 28)) (fun g hg => ((Below.refl _ _).alloc (Nat.le_refl _) _).block g (hd.lt g hg).2)
  have bw := hb.trans (b3.mono (by omega))
  refine ⟨bw, hp.below b3 hz, r1.below b12 (by simp), hz, by simp; omega, by simpa using hw, by simpa using hd2, ?_, ?_, ?_, by simp⟩
  · intro k hk
    have := Option.some.inj hk
    simp only at this
    omega
  · intro k hk
    have := Option.some.inj hk
    simp only at this
    omega
  · rcases hm with hm | ⟨b, o, e, h1, hc⟩
    · exact .inl hm
    · refine .inr ⟨b, o, e, Nat.lt_of_lt_of_le h1 bw.size, ?_, ?_, by omega, fun i hi => (bw.cell (p := ⟨b, o + i, none⟩) h1).trans (hc i hi)⟩
      · intro q
        have := Option.some.inj q
        simp only at this
        omega
      · intro q
        have := Option.some.inj q
        simp only at this
        omega

/-- A step is put behind the others. -/
theorem BackAt.push (h : BackAt w wr Q p q a aq c cq H vw vd) (o : OpV) {q' : SheetV} {aq' : Option Addr} {cq' : Nat} {wa w1 wb w2 : World} {v1 v2 : Value}
    (k1 : Below wr.heap.size wr wa) (o1 : w1.ownsRow 0 28 5 v1 (H.length + 1) (H.flatMap scells ++ scells ⟨q, aq, cq, o⟩)) (g1 : wa.grownBy w1 vw.ownBlock) (l1 : v1.ownBlock = vw.ownBlock ∨ ∃ z, v1.ownBlock = some z ∧ wr.heap.size ≤ z)
    (k2 : Below w1.heap.size w1 wb) (o2 : w2.ownsRow 0 37 4 v2 (H.length + 1) (H.flatMap ocells ++ ocells ⟨q, aq, cq, o⟩)) (g2 : wb.grownBy w2 vd.ownBlock) (l2 : v2.ownBlock = vd.ownBlock ∨ ∃ z, v2.ownBlock = some z ∧ wr.heap.size ≤ z)
    (hs : StrsX wr vw vd Q aq' q'.slots) :
    BackAt w (store5 w2 Q (.int .u32 q'.num) (.int .u64 q'.lsn) (.int .i64 q'.kind) (.string q'.head) (.slice aq' q'.slots.length cq')) Q p q' a aq' c cq' (H ++ [⟨q, aq, cq, o⟩]) v1 v2 := by
  have hz := Nat.lt_trans h.Q1 h.Q2
  have s1 := k1.size
  have s2 := g1.size
  have s3 := k2.size
  have s4 := g2.size
  have kb : ∀ k, k < wr.heap.size → vw.ownBlock ≠ some k → vd.ownBlock ≠ some k → w2.heap[k]? = wr.heap[k]? := fun k hk n1 n2 =>
    (g2.block k (by omega) (fun e => n2 e.symm)).trans ((k2.block k (by omega)).trans ((g1.block k (by omega) (fun e => n1 e.symm)).trans (k1.block k hk)))
  have kx : KeptX wr (store5 w2 Q (.int .u32 q'.num) (.int .u64 q'.lsn) (.int .i64 q'.kind) (.string q'.head) (.slice aq' q'.slots.length cq')) vw vd Q := by
    refine ⟨by unfold store5; simp; omega, fun k hk n1 n2 n3 => ?_⟩
    rw [show (store5 w2 Q (.int .u32 q'.num) (.int .u64 q'.lsn) (.int .i64 q'.kind) (.string q'.head) (.slice aq' q'.slots.length cq')).heap[k]? = w2.heap[k]? from by
      unfold store5
      have hk : ∀ (u : World) (i : Nat) (v : Value), (u.setCell ⟨Q, i, none⟩ v).heap[k]? = u.heap[k]? := fun u i v => Below.heap_setCell _ _ _ _ n3
      rw [hk, hk, hk, hk, hk]]
    exact kb k hk n1 n2
  have hvw1 : vw.ownBlock ≠ some w.heap.size := fun e => by have := (h.wOff _ e).1; omega
  have hvd1 : vd.ownBlock ≠ some w.heap.size := fun e => by have := (h.dOff _ e).1; omega
  have hvwQ : vw.ownBlock ≠ some Q := fun e => (h.wOff _ e).2 rfl
  have hvdQ : vd.ownBlock ≠ some Q := fun e => (h.dOff _ e).2 rfl
  have v1off : ∀ k, v1.ownBlock = some k → w.heap.size < k ∧ k ≠ Q := fun k hk => by
    rcases l1 with e | ⟨z, e, hz'⟩
    · exact h.wOff k (e ▸ hk)
    · rw [e] at hk
      have := Option.some.inj hk
      have := h.Q2
      omega
  have v2off : ∀ k, v2.ownBlock = some k → w.heap.size < k ∧ k ≠ Q := fun k hk => by
    rcases l2 with e | ⟨z, e, hz'⟩
    · exact h.dOff k (e ▸ hk)
    · rw [e] at hk
      have := Option.some.inj hk
      have := h.Q2
      omega
  have e1 : ∀ b, b < wr.heap.size → vw.ownBlock ≠ some b → v1.ownBlock ≠ some b := fun b hb n e => by
    rcases l1 with e' | ⟨z, e', hz'⟩
    · exact n (e' ▸ e)
    · rw [e'] at e
      have := Option.some.inj e
      omega
  have e2 : ∀ b, b < wr.heap.size → vd.ownBlock ≠ some b → v2.ownBlock ≠ some b := fun b hb n e => by
    rcases l2 with e' | ⟨z, e', hz'⟩
    · exact n (e' ▸ e)
    · rw [e'] at e
      have := Option.some.inj e
      omega
  have row : ∀ b (f : Nat → Value), b < wr.heap.size → vw.ownBlock ≠ some b → vd.ownBlock ≠ some b → RowV wr b 5 f → RowV w2 b 5 f := fun b f hb n1 n2 hr j hj =>
    ⟨(World.cell?_of_block (w := wr) (a := ⟨b, j, none⟩) (kb b hb n1 n2)).trans (hr j hj).1, (World.frozen?_of_block (w := wr) (a := ⟨b, j, none⟩) (kb b hb n1 n2)).trans (hr j hj).2⟩
  have off : ∀ (v : Value) (g : Nat), v.ownBlock = some g → g ≠ Q → (store5 w2 Q (.int .u32 q'.num) (.int .u64 q'.lsn) (.int .i64 q'.kind) (.string q'.head) (.slice aq' q'.slots.length cq')).heap[g]? = w2.heap[g]? := fun v g _ n3 => by
    unfold store5
    have hk : ∀ (u : World) (i : Nat) (v : Value), (u.setCell ⟨Q, i, none⟩ v).heap[g]? = u.heap[g]? := fun u i v => Below.heap_setCell _ _ _ _ n3
    rw [hk, hk, hk, hk, hk]
  have ap : ∀ g, v1.ownBlock = some g → vd.ownBlock ≠ some g := by
    intro g hg
    have h2 : wb.ownsRow 0 28 5 v1 (H.length + 1) (H.flatMap scells ++ scells ⟨q, aq, cq, o⟩) := owns_same o1 fun g hg => k2.block g (o1.lt g hg).2
    have h3 : wb.ownsRow 0 37 4 vd H.length (H.flatMap ocells) := by
      refine owns_same h.done fun g' hg' => ?_
      have hl := (h.done.lt g' hg').2
      exact (k2.block g' (by omega)).trans ((g1.block g' (by omega) (fun e => (owns_apart h.was h.done (by decide) g' e.symm) hg')).trans (k1.block g' hl))
    exact owns_apart h2 h3 (by decide) g hg
  refine ⟨below_set5 (((((h.bel.trans (k1.mono (by omega))).grown g1 (by omega) fun k e => by have := (h.wOff k e).1; omega).trans (k2.mono (by omega)))).grown g2 (by omega) fun k e => by have := (h.dOff k e).1; omega) (by have := h.Q1; omega) _ _ _ _ _,
    (row _ _ hz hvw1 hvd1 h.page).set5_other (by have := h.Q1; omega) _ _ _ _ _, (row _ _ h.Q2 hvwQ hvdQ h.cur).set5 _ _ _ _ _, h.Q1, by unfold store5; simp; have := h.Q2; omega, ?_, ?_, v1off, v2off, hs.kept kx e1 e2, ?_⟩
  · rw [List.length_append, List.flatMap_append]
    simp only [List.length_cons, List.length_nil, List.flatMap_cons, List.flatMap_nil, List.append_nil]
    exact owns_same o1 fun g hg => (off v1 g hg (v1off g hg).2).trans ((g2.block g (by have := (o1.lt g hg).2; omega) (fun e => ap g hg e.symm)).trans (k2.block g (o1.lt g hg).2))
  · rw [List.length_append, List.flatMap_append]
    simp only [List.length_cons, List.length_nil, List.flatMap_cons, List.flatMap_nil, List.append_nil]
    exact owns_same o2 fun g hg => off v2 g hg (v2off g hg).2
  · intro x hx
    rcases List.mem_append.1 hx with hx | hx
    · exact (h.olds x hx).kept kx e1 e2
    · obtain rfl := List.mem_singleton.1 hx
      exact h.strs.kept kx e1 e2

end

end Go.Proofs.Ytpggeejolajmgaa
