/-
  An argument's acts, for WalFalls (as WalP4 and WalPV have them: no text imports both).
  WalFalls' memory: the log and its disk, the texts put so far, the fall's own variable.
  WalFalls' start.
-/
import Derived.Test.YthmhigjdjclckaaBase8C
import Derived.Test.YthmhigjdjclckaaWalF8C
namespace Go.Proofs.Ythmhigjdjclckaa
open Go.RowKit
set_option linter.unusedVariables false

/-- An act. -/
structure AcV where
  kind : Int
  n : Int
  s : ByteArray
  x : Nat
  f1 : Int
  f2 : Nat
  f3 : Int
  f4 : Int
  f5 : Int

/-- An act that came in. -/
structure AcAt (w : World) (b o : Nat) (A : AcV) : Prop where
  c0 : w.cell? ⟨b, o, none⟩ = some (.int .i64 A.kind)
  c1 : w.cell? ⟨b, o + 1, none⟩ = some (.int .i64 A.n)
  c2 : w.cell? ⟨b, o + 2, none⟩ = some (.string A.s)
  c3 : w.cell? ⟨b, o + 3, none⟩ = some (.int .u64 A.x)
  c4 : w.cell? ⟨b, o + 4, none⟩ = some (.int .i64 A.f1)
  c5 : w.cell? ⟨b, o + 5, none⟩ = some (.int .u64 A.f2)
  c6 : w.cell? ⟨b, o + 6, none⟩ = some (.int .i64 A.f3)
  c7 : w.cell? ⟨b, o + 7, none⟩ = some (.int .i64 A.f4)
  c8 : w.cell? ⟨b, o + 8, none⟩ = some (.int .i64 A.f5)

/-- Within its bounds. -/
structure AcOk (A : AcV) : Prop where
  s : A.s.size ≤ maxLen
  x : A.x < 18446744073709551616
  f2 : A.f2 < 18446744073709551616

def ArgAcs (w : World) (a : Option Addr) (n : Nat) (A : Nat → AcV) : Prop :=
  n = 0 ∨ ∃ b o, a = some ⟨b, o, none⟩ ∧ b < w.heap.size ∧ ∀ i, i < n → AcAt w b (o + i * 9) (A i) ∧ AcOk (A i)

theorem AcAt.same {w w' : World} {b o : Nat} {A : AcV} (h : AcAt w b o A) (e : w'.heap[b]? = w.heap[b]?) : AcAt w' b o A :=
  ⟨(World.cell?_of_block (w := w) (a := ⟨b, o, none⟩) e).trans h.c0, (World.cell?_of_block (w := w) (a := ⟨b, o + 1, none⟩) e).trans h.c1, (World.cell?_of_block (w := w) (a := ⟨b, o + 2, none⟩) e).trans h.c2, (World.cell?_of_block (w := w) (a := ⟨b, o + 3, none⟩) e).trans h.c3, (World.cell?_of_block (w := w) (a := ⟨b, o + 4, none⟩) e).trans h.c4, (World.cell?_of_block (w := w) (a := ⟨b, o + 5, none⟩) e).trans h.c5, (World.cell?_of_block (w := w) (a := ⟨b, o + 6, none⟩) e).trans h.c6, (World.cell?_of_block (w := w) (a := ⟨b, o + 7, none⟩) e).trans h.c7, (World.cell?_of_block (w := w) (a := ⟨b, o + 8, none⟩) e).trans h.c8⟩

end Go.Proofs.Ythmhigjdjclckaa

namespace Go.Proofs.Ythmhigjdjclckaa
open Go.RowKit
set_option linter.unusedVariables false

/-- The power on. ts: the texts in the row. -/
structure FaAt (w W : World) (p q : Nat) (S D : Nat → Prop) (l : LG) (d : DG) (rs ts : List ByteArray) (sure : Nat) (f : FG) (j : Nat) (tv : Value) : Prop where
  L : WfL W p q S D l d rs sure f j
  bel : Below w.heap.size w W
  new : ∀ k, S k ∨ D k → w.heap.size < k
  tx : W.ownsRow 0 9 1 tv ts.length (ts.map Value.string)
  offt : ∀ g, tv.ownBlock = some g → ¬ S g ∧ ¬ D g ∧ w.heap.size < g
  box : Blk W w.heap.size (fcells f).toArray 38

/-- The power has failed. -/
structure FaE (w W : World) (p : Nat) (D : Nat → Prop) (d : DG) (rs : List ByteArray) (sure : Nat) (f : FG) (tv : Value) : Prop where
  E : WfE W p D d rs sure
  bel : Below w.heap.size w W
  new : ∀ k, D k → w.heap.size < k
  tx : W.ownsRow 0 9 1 tv rs.length (rs.map Value.string)
  offt : ∀ g, tv.ownBlock = some g → ¬ D g ∧ w.heap.size < g
  box : Blk W w.heap.size (fcells f).toArray 38

section
variable {w W W' : World} {p q : Nat} {S D : Nat → Prop} {l : LG} {d : DG} {rs ts : List ByteArray} {sure j : Nat} {f : FG} {tv : Value}

theorem FaAt.below (h : FaAt w W p q S D l d rs ts sure f j tv) (b : Below W.heap.size W W') : FaAt w W' p q S D l d rs ts sure f j tv :=
  ⟨h.L.below b, below_chain h.bel b, h.new, owns_same h.tx fun g k => b.block g (owns_lt h.tx k), h.offt, h.box.same (b.block _ h.box.lt)⟩

theorem FaE.below (h : FaE w W p D d rs sure f tv) (b : Below W.heap.size W W') : FaE w W' p D d rs sure f tv :=
  ⟨h.E.below b, below_chain h.bel b, h.new, owns_same h.tx fun g k => b.block g (owns_lt h.tx k), h.offt, h.box.same (b.block _ h.box.lt)⟩

theorem FaAt.later (h : FaAt w W p q S D l d rs ts sure f j tv) {i : Nat} (k : j ≤ i) : FaAt w W p q S D l d rs ts sure f i tv := ⟨h.L.later k, h.bel, h.new, h.tx, h.offt, h.box⟩

theorem kept_bel {n : Nat} {w W W' : World} {S : Nat → Prop} (h : Below n w W) (hn : n ≤ w.heap.size) (k : Kept S W W') (hs : ∀ i, S i → n ≤ i) : Below n w W' :=
  ⟨k.os.trans h.os, k.tape.trans h.tape, k.output.trans h.output, Nat.le_trans h.size k.size, fun i hi => (k.block i (by have := h.size; omega) fun x => by have := hs i x; omega).trans (h.block i hi)⟩

/-- Behind Flush. -/
theorem FaAt.fl (h : FaAt w W p q S D l d rs rs sure f j tv) (e : Ending) (o : FlOut W p q S D rs sure f j e W') :
    (e = .returned (.int .i64 0) ∧ ∃ D' l' d', FaAt w W' p q S D' l' d' rs rs rs.length f (j + 1) tv) ∨ (e = .returned (.int .i64 7) ∧ ∃ D' d', FaE w W' p D' d' rs sure f tv ∧ d'.dead = true) := by
  obtain ⟨hk, o⟩ := o
  have hz := h.bel.size
  have hbz := h.box.lt
  have hbel : Below w.heap.size w W' := kept_bel h.bel (Nat.le_refl _) hk (fun i x => Nat.le_of_lt (h.new i x))
  have hbox : Blk W' w.heap.size (fcells f).toArray 38 := h.box.same (hk.block _ h.box.lt fun x => by have := h.new _ x; omega)
  have htx : W'.ownsRow 0 9 1 tv rs.length (rs.map Value.string) := owns_same h.tx fun g k => hk.block g (owns_lt h.tx k) fun x => by
    have := h.offt g k
    rcases x with x | x
    · exact this.1 x
    · exact this.2.1 x
  rcases o with ⟨rfl, D', l', d', hw, hn⟩ | ⟨rfl, D', d', hw, hd, hn⟩
  · refine .inl ⟨rfl, D', l', d', hw, hbel, fun k x => ?_, htx, fun g k => ⟨(h.offt g k).1, fun x => ?_, (h.offt g k).2.2⟩, hbox⟩
    · rcases x with x | x
      · exact h.new k (.inl x)
      · rcases hn k x with y | y
        · exact h.new k (.inr y)
        · omega
    · rcases hn g x with y | y
      · exact (h.offt g k).2.1 y
      · have := owns_lt h.tx k; omega
  · refine .inr ⟨rfl, D', d', ⟨hw, hbel, fun k x => ?_, htx, fun g k => ⟨fun x => ?_, (h.offt g k).2.2⟩, hbox⟩, hd⟩
    · rcases hn k x with y | y
      · exact h.new k (.inr y)
      · omega
    · rcases hn g x with y | y
      · exact (h.offt g k).2.1 y
      · have := owns_lt h.tx k; omega

/-- Behind Append. -/
theorem FaAt.push (h : FaAt w W p q S D l d rs ts sure f j tv) {S' : Nat → Prop} {s : ByteArray} (hl : IsLog W' q S' (putG l s)) (hm : Moves S S' W W') (h1 : 1 ≤ s.size) (h2 : s.size ≤ 500) :
    FaAt w W' p q S' D (putG l s) d (rs ++ [s]) ts sure f (j + 1) tv := by
  have hbz := h.box.lt
  refine ⟨h.L.push hl hm h1 h2, kept_bel h.bel (Nat.le_refl _) hm.1 (fun i x => Nat.le_of_lt (h.new i (.inl x))), fun k x => ?_, owns_same h.tx fun g k => hm.1.block g (owns_lt h.tx k) (h.offt g k).1, fun g k => ⟨(hm.off (owns_lt h.tx k) (h.offt g k).1).2, (h.offt g k).2⟩, h.box.same (hm.1.block _ h.box.lt fun x => by have := h.new _ (.inl x); omega)⟩
  rcases x with x | x
  · rcases hm.2 k x with y | y
    · exact h.new k (.inl y)
    · omega
  · exact h.new k (.inr x)

/-- Behind the append to the row. -/
theorem FaAt.row (h : FaAt w W p q S D l d rs ts sure f j tv) {V : World} {tv' : Value} {r : ByteArray} (b : Below W.heap.size W V) (g : V.grownBy W' tv.ownBlock) (o : W'.ownsRow 0 9 1 tv' (ts.length + 1) (ts.map Value.string ++ [.string r])) (hl : ∀ k, tv'.ownBlock = some k → tv.ownBlock = some k ∨ V.heap.size ≤ k) :
    FaAt w W' p q S D l d rs (ts ++ [r]) sure f j tv' := by
  have h' := h.below b
  have hz := h'.bel.size
  have hbz := h'.box.lt
  have key : ∀ k, k < V.heap.size → tv.ownBlock ≠ some k → W'.heap[k]? = V.heap[k]? := fun k hk n => g.block k hk fun e => n e.symm
  have hS : ∀ k, S k → W'.heap[k]? = V.heap[k]? := fun k x => key k (h'.L.log.lt x) fun e => (h.offt k e).1 x
  have hD : ∀ k, D k → W'.heap[k]? = V.heap[k]? := fun k x => key k (h'.L.disk.lt x) fun e => (h.offt k e).2.1 x
  have hL := h'.L
  refine ⟨⟨hL.log.same hS g.size, hL.disk.same hD g.size, hL.dp, hL.off, hL.bytes, hL.recs, hL.half, hL.keeps, hL.few, hL.sz, hL.cnt, hL.su, hL.fl, hL.dlog, hL.dead, hL.plan, hL.calls, hL.ok, hL.loose, hL.sl, hL.keep⟩, ⟨g.os.trans h'.bel.os, g.tape.trans h'.bel.tape, g.output.trans h'.bel.output, Nat.le_trans hz g.size, fun k hk => (key k (by omega) fun e => by have := (h.offt k e).2.2; omega).trans (h'.bel.block k hk)⟩, h.new, ?_, fun k hk => ?_, h'.box.same (key _ hbz fun e => by have := (h.offt _ e).2.2; omega)⟩
  · rw [List.length_append, List.length_singleton, List.map_append]
    exact o
  · rcases hl k hk with e | e
    · exact h.offt k e
    · exact ⟨fun x => by have := h'.L.log.lt x; omega, fun x => by have := h'.L.disk.lt x; omega, by omega⟩

/-- Behind a step of the disk, the power having failed or failing now. -/
theorem FaE.moves {d' : DG} {D' : Nat → Prop} (hn : ∀ k, D k → w.heap.size < k) (hb : Below w.heap.size w W) (htx : W.ownsRow 0 9 1 tv rs.length (rs.map Value.string)) (ho : ∀ g, tv.ownBlock = some g → ¬ D g ∧ w.heap.size < g)
    (hbox : Blk W w.heap.size (fcells f).toArray 38) (hE : WfE W' p D' d' rs sure) (hm : Moves D D' W W') : FaE w W' p D' d' rs sure f tv := by
  have hbz := hbox.lt
  refine ⟨hE, kept_bel hb (Nat.le_refl _) hm.1 (fun i x => Nat.le_of_lt (hn i x)), fun k x => ?_, owns_same htx fun g k => hm.1.block g (owns_lt htx k) (ho g k).1, fun g k => ⟨(hm.off (owns_lt htx k) (ho g k).1).2, (ho g k).2⟩, hbox.same (hm.1.block _ hbox.lt fun x => by have := hn _ x; omega)⟩
  rcases hm.2 k x with y | y
  · exact hn k y
  · omega

/-- Crash, in either state. -/
theorem fa_crash (h : (∃ q S l j, j ≤ 40 ∧ FaAt w W p q S D l d rs rs sure f j tv) ∨ (FaE w W p D d rs sure f tv ∧ d.dead = true)) (x : Int) :
    Calls Try.prog 15 #[.pointer (some ⟨p, 0, none⟩), .agg #[.int .i64 0, .int .u64 0, .int .i64 0, .int .i64 0, .int .i64 x]] W fun e w' => e = .returned (.tuple #[]) ∧ ∃ D' d', FaE w w' p D' d' rs sure f tv := by
  rcases h with ⟨q, S, l, j, hj, h⟩ | ⟨h, hd⟩
  · refine (wf_crash (.inl ⟨q, S, l, f, j, hj, h.L⟩) x).mono ?_
    rintro e w' ⟨rfl, D', d', hE, hm⟩
    exact ⟨rfl, D', d', FaE.moves (fun k y => h.new k (.inr y)) h.bel h.tx (fun g k => (h.offt g k).2) h.box hE hm⟩
  · refine (wf_crash (.inr ⟨h.E, hd⟩) x).mono ?_
    rintro e w' ⟨rfl, D', d', hE, hm⟩
    exact ⟨rfl, D', d', FaE.moves h.new h.bel h.tx h.offt h.box hE hm⟩

theorem fa_up (h : FaE w W p D d rs sure f tv) : Calls Try.prog 16 #[.pointer (some ⟨p, 0, none⟩)] W fun e w' => (∃ b, e = .returned (.bool b)) ∧ ∃ D', FaE w w' p D' { d with dead := false } rs sure f tv := by
  refine (wf_up h.E).mono ?_
  rintro e w' ⟨hb, D', hE, hm⟩
  exact ⟨hb, D', FaE.moves h.new h.bel h.tx h.offt h.box hE hm⟩

theorem fa_plan (h : FaE w W p D d rs sure f tv) : Calls Try.prog 10 #[.pointer (some ⟨p, 0, none⟩), .slice none 0 0] W fun e w' => e = .returned (.tuple #[]) ∧ ∃ D', FaE w w' p D' { d with plan := [] } rs sure f tv := by
  refine (wf_plan h.E).mono ?_
  rintro e w' ⟨rfl, D', hE, hm⟩
  exact ⟨rfl, D', FaE.moves h.new h.bel h.tx h.offt h.box hE hm⟩

/-- The log opened anew. -/
structure FaO (w W : World) (q k : Nat) (S : Nat → Prop) (l : LG) (rs : List ByteArray) (tv : Value) : Prop where
  log : IsLog W q S l
  recs : RecsAt l (rs.take k)
  fl : l.flushed = l.bytes.length
  few : l.bytes.length ≤ 4194304
  le : k ≤ rs.length
  bel : Below w.heap.size w W
  tx : W.ownsRow 0 9 1 tv rs.length (rs.map Value.string)

theorem FaO.below {k : Nat} (h : FaO w W q k S l rs tv) (b : Below W.heap.size W W') : FaO w W' q k S l rs tv :=
  ⟨h.log.below b, h.recs, h.fl, h.few, h.le, below_chain h.bel b, owns_same h.tx fun g k => b.block g (owns_lt h.tx k)⟩

theorem fa_open (h : FaE w W p D d rs sure f tv) (h1 : d.dead = false) (h2 : d.plan = []) : Calls Try.prog 6 #[.pointer (some ⟨p, 0, none⟩)] W fun e w' => ∃ q k t, e = .returned (.tuple #[.pointer (some ⟨q, 0, none⟩), .int .i64 t, .int .i64 0]) ∧
    sure ≤ k ∧ ∃ S l, FaO w w' q k S l rs tv := by
  refine (wf_open h.E h1 h2).mono ?_
  rintro e w' ⟨q, k, t, rfl, hs, hk, D', S', d', l, ho⟩
  have hb : (allL (rs.take k)).length ≤ 4194304 := by have := allL_mono rs k; have := h.E.few; omega
  refine ⟨q, k, t, rfl, hs, S', l, ho.log, ho.recs, by rw [ho.fl, ho.bytes], by rw [ho.bytes]; exact hb, hk, kept_bel h.bel (Nat.le_refl _) ho.mv.1 (fun i x => Nat.le_of_lt (h.new i x)), owns_same h.tx fun g k => ho.mv.1.block g (owns_lt h.tx k) (h.offt g k).1⟩

end

end Go.Proofs.Ythmhigjdjclckaa

namespace Go.Proofs.Ythmhigjdjclckaa
open Go.RowKit
set_option linter.unusedVariables false

/-- Ahead of Plan. -/
structure FaS (w W : World) (p q : Nat) (S D : Nat → Prop) (f : FG) : Prop where
  log : IsLog W q S (openL p (newD 8))
  disk : IsDisk W p D (newD 8)
  off : ∀ k, S k → ¬ D k
  new : ∀ k, S k ∨ D k → w.heap.size < k
  bel : Below w.heap.size w W
  box : Blk W w.heap.size (fcells f).toArray 38

section
variable {w W W' : World} {p q : Nat} {S D : Nat → Prop} {f : FG}

theorem FaS.below (h : FaS w W p q S D f) (b : Below W.heap.size W W') : FaS w W' p q S D f :=
  ⟨h.log.below b, h.disk.below b, h.off, h.new, below_chain h.bel b, h.box.same (b.block _ h.box.lt)⟩

theorem FaS.set (h : FaS w W p q S D f) (v : Int) : FaS w (W.setCell ⟨w.heap.size, 0, none⟩ (.int .i64 v)) p q S D { f with call := v } := by
  have hk : ∀ k, w.heap.size < k → (W.setCell ⟨w.heap.size, 0, none⟩ (.int .i64 v)).heap[k]? = W.heap[k]? := fun k x => heap_set _ _ _ _ (by omega)
  refine ⟨h.log.same (fun k x => hk k (h.new k (.inl x))) (by simp), h.disk.same (fun k x => hk k (h.new k (.inr x))) (by simp), h.off, h.new, ?_, ?_⟩
  · exact kept_bel h.bel (Nat.le_refl _) (Kept.setCell (fun k => k = w.heap.size) _ _ _ _ rfl) (fun i x => by omega)
  · have := h.box.set 0 (.int .i64 v)
    exact this

theorem fa_plan1 (h : FaS w W p q S D f) (h0 : 0 ≤ f.call) (hf : f.keep < 18446744073709551616) {V : World} (hV : V = W.alloc (.cells (fcells f).toArray 38)) :
    Calls Try.prog 10 #[.pointer (some ⟨p, 0, none⟩), .slice (some ⟨W.heap.size, 0, none⟩) 1 1] V fun e w' => e = .returned (.tuple #[]) ∧
      ∃ D', FaAt w (w'.alloc (.cells #[] 9)) p q S D' (openL p (newD 8)) { newD 8 with plan := [f] } [] [] 0 f 0 (.slice (some ⟨w'.heap.size, 0, none⟩) 0 0) := by
  subst hV
  have b : Below W.heap.size W (W.alloc (.cells (fcells f).toArray 38)) := (Below.refl _ _).alloc (Nat.le_refl _) _
  have h' := h.below b
  refine (plan_one h'.disk f (by show (0 : Int) ≤ f.call; exact h0) (g := W.heap.size) (o := 0) (c := 1) (fun j u hj => ?_) (by simp) (fun x => by have := h.disk.lt x; omega)).mono ?_
  · have := (Blk.made W (fcells f).toArray 38).cell j
    rw [Nat.zero_add, this]
    simpa using hj
  · rintro e w' ⟨rfl, D', hd', hm⟩
    have hz := h'.bel.size
    have hbz := h'.box.lt
    have hl' := h'.log.beside hm h.off
    have b2 : Below w'.heap.size w' (w'.alloc (.cells #[] 9)) := (Below.refl _ _).alloc (Nat.le_refl _) _
    have hnew : ∀ k, S k ∨ D' k → w.heap.size < k := fun k x => by
      rcases x with x | x
      · exact h.new k (.inl x)
      · rcases hm.2 k x with y | y
        · exact h.new k (.inr y)
        · omega
    have hsz := hm.1.size
    refine ⟨rfl, D', ?_, ?_, hnew, ?_, ?_, ?_⟩
    · have h0' : frameN ⟨(newD 8).log.toArray⟩ (allL ([] : List ByteArray)).length = 0 := frameN_end (by rw [bytes_size]; show (0 : Nat) < 0 + 4; omega)
      obtain ⟨o1, o2, o3, o4⟩ := open_recs p (newD 8) [] [] rfl (fun r hr => by cases hr) h0'
      refine ⟨hl'.1.below b2, hd'.below b2, rfl, hl'.2, o2, o1, rfl, rfl, by rw [o2]; exact Nat.le_refl _, (fun r hr => by cases hr), Nat.le_refl _, Nat.le_refl _, o3, rfl, rfl, rfl, Nat.le_refl _, ⟨fun y hy => (by cases hy), fun q => zerosS_size, by show (0 : Nat) + 0 ≤ _; omega, by show (0 : Nat) ≤ _; omega, Nat.le_refl _⟩, rfl, rfl, hf⟩
    · exact below_chain (kept_bel h'.bel (Nat.le_refl _) hm.1 (fun i x => Nat.le_of_lt (h.new i (.inr x)))) b2
    · exact ⟨rfl, .inr ⟨w'.heap.size, 0, #[], rfl, Nat.zero_le _, heap_alloc_new w' _, Nat.le_refl _, Nat.zero_le _, rfl, rfl⟩⟩
    · intro g k
      have k' : w'.heap.size = g := Option.some.inj k
      exact ⟨fun x => by have := hl'.1.lt x; omega, fun x => by have := hd'.lt x; omega, by omega⟩
    · exact (h'.box.same (hm.1.block _ hbz fun x => by have := h.new _ (.inr x); omega)).same (b2.block _ (by omega))

end

end Go.Proofs.Ythmhigjdjclckaa
