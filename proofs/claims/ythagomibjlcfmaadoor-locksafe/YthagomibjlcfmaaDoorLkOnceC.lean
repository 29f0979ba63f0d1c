/-
  The walk of LockOnce.
-/
import Derived.Test.YthagomibjlcfmaaDoorLkOnceAC
import Derived.Test.YthagomibjlcfmaaDoorLkHeldC
import Derived.Test.YthagomibjlcfmaaDoorLkNmC
import Derived.Lib.QuietBelow
import Derived.BigQuiet
namespace Go.Proofs.YthagomibjlcfmaaDoor
open Go.RowKit Go.Sort
set_option linter.unusedVariables false
set_option linter.unusedSimpArgs false

theorem lkMixedO : Tryd.prog.follows .mixedOrders = true := by kernel_rfl

/-- An act that came in. -/
structure ActIn (w : World) (b o : Nat) (v : Int × Int × Int × Int) : Prop where
  c0 : w.cell? ⟨b, o, none⟩ = some (.int .i64 v.1)
  c1 : w.cell? ⟨b, o + 1, none⟩ = some (.int .i64 v.2.1)
  c2 : w.cell? ⟨b, o + 2, none⟩ = some (.int .i64 v.2.2.1)
  c3 : w.cell? ⟨b, o + 3, none⟩ = some (.int .i64 v.2.2.2)

def ArgActs (w : World) (a : Option Addr) (n : Nat) (A : Nat → Int × Int × Int × Int) : Prop :=
  n = 0 ∨ ∃ b o, a = some ⟨b, o, none⟩ ∧ b < w.heap.size ∧ ∀ i, i < n → ActIn w b (o + i * 4) (A i)

/-- Where LockOnce stands. -/
structure OnAt (w wr : World) (b : Nat) (S : Nat → Prop) (T : Tab) (i : Nat) : Prop where
  bel : Below w.heap.size w wr
  tab : IsTab S wr b T
  inv : TInv T i
  soff : ∀ k, S k → w.heap.size ≤ k

theorem OnAt.below {w wr wx : World} {b : Nat} {S : Nat → Prop} {T : Tab} {i : Nat} (h : OnAt w wr b S T i) (k : Below wr.heap.size wr wx) : OnAt w wx b S T i :=
  ⟨h.bel.trans (k.mono h.bel.size), h.tab.below k, h.inv, h.soff⟩
theorem OnAt.moves {w wr wx : World} {b : Nat} {S S' : Nat → Prop} {T T' : Tab} {i j : Nat} (h : OnAt w wr b S T i) (m : MovesL S S' wr wx) (t : IsTab S' wx b T') (k : TInv T' j) : OnAt w wx b S' T' j :=
  have q := m.below h.soff h.bel h.bel.size
  ⟨q.1, t, k, q.2⟩

/-- Where the loops over what is held stand. -/
structure OnH (w wr : World) (b : Nat) (S : Nat → Prop) (T : Tab) (t : Int) (v : Value) (HL : List (NameV × Int)) : Prop where
  on : OnAt w wr b S T 30
  held : HeldAt w.heap.size wr v HL

theorem OnH.below {w wr wx : World} {b : Nat} {S : Nat → Prop} {T : Tab} {t : Int} {v : Value} {HL : List (NameV × Int)} (h : OnH w wr b S T t v HL) (k : Below wr.heap.size wr wx) : OnH w wx b S T t v HL :=
  ⟨h.on.below k, h.held.below k⟩

theorem HeldAt.from {B B' : Nat} {w : World} {v : Value} {L : List (NameV × Int)} (h : HeldAt B w v L) (k : B' ≤ B) : HeldAt B' w v L := by
  refine ⟨h.1, ?_⟩
  rcases h.2 with ⟨rfl, h1⟩ | ⟨g', cap, cur, rfl, h0, hb, hr⟩
  · exact .inl ⟨rfl, h1⟩
  · exact .inr ⟨g', cap, cur, rfl, Nat.le_trans k h0, hb, hr⟩



end Go.Proofs.YthagomibjlcfmaaDoor
