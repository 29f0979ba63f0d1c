/-
  Maps whose elements are any values: look-ups, stores, what is taken out.
-/
import Derived.Test.YtchjboijoebifaaGreatProg
import Derived.WalkKit
import Derived.WalkSpells
import Derived.WalkLawsBesides
import Derived.Maps.OwnSet
set_option linter.unusedVariables false
set_option linter.unusedSimpArgs false
namespace Go.Proofs.YtchjboijoebifaaGreat
open Go.RowKit

def rawElem (v : Value) : Option (DataW Value × List MemPlace) := some (.held v, [])

def getV (D : DataW Value) (l : Lit) (z : Value) : Value := match D.atKey l (.held z) with | .held v => v | _ => z

def MapV (k : TypeId) (w : World) (b sz : Nat) (D : DataW Value) : Prop := w.ownsMap Tryz.prog k rawElem b sz D ∧ Maps.size D = sz

section
variable {k t e : TypeId} {w : World} {b sz : Nat} {D : DataW Value}

theorem MapV.lt (h : MapV k w b sz D) : b < w.heap.size := World.ownsMap.lt h.1

theorem MapV.isMap (h : MapV k w b sz D) : ∃ es c, w.heap[b]? = some (.map es c) := by
  obtain ⟨es, c, hb, _⟩ := h.1
  exact ⟨es, c, hb⟩

theorem MapV.same {w' : World} (h : MapV k w b sz D) (e : w'.heap[b]? = w.heap[b]?) : MapV k w' b sz D := by
  obtain ⟨es, c, hb, r⟩ := h.1
  exact ⟨⟨es, c, e.trans hb, r⟩, h.2⟩

theorem MapV.made (k : TypeId) (w : World) : MapV k (w.alloc (.map #[] 0)) w.heap.size 0 (.map []) := ⟨World.ownsMap_made _ _ _ _, rfl⟩

theorem MapV.of_le {n : Nat} (h : w.ownsMap Tryz.prog k rawElem b n D) : MapV k w b (Maps.size D) D := by
  refine ⟨?_, rfl⟩
  obtain ⟨es, c, hb, F, hs, hD⟩ := h
  refine ⟨es, c, hb, F, ?_, hD⟩
  rw [hD]
  simp [Maps.size, length_sorted]

theorem MapV.lookOk (h : MapV k w b sz D) (K : Maps.Keyed Tryz.prog k) (ht : Tryz.prog.underlying t = some (.map k e)) {z : Value} (hz : (zeroValue e).run Tryz.prog w = .ok z w) {key : Value} {l : Lit} (hk : keyOf Tryz.prog k key = some l) :
    (Instr.lookup t (.map (some b)) key true).run Tryz.prog w = .ok (.tuple #[getV D l z, .bool (Maps.has D l)]) w := by
  obtain ⟨v, ps, hr, hv⟩ := h.1.look_ok K ht hz (zd := .held z) (zp := []) rfl hk
  have hv' : DataW.held v = D.atKey l (.held z) := by
    unfold rawElem at hv
    simp only [Option.some.injEq, Prod.mk.injEq] at hv
    exact hv.1
  rw [hr]
  unfold getV
  rw [← hv']

theorem put_ex (k t e : TypeId) (b : Nat) (key val : Value) : ∃ u : World → World, ∀ (w : World) (sz : Nat) (D : DataW Value) (l : Lit), MapV k w b sz D → Maps.Keyed Tryz.prog k → Tryz.prog.underlying t = some (.map k e) → sz ≤ 1000000 → keyOf Tryz.prog k key = some l →
    (Instr.mapUpdate t (.map (some b)) key val).run Tryz.prog w = .ok () (u w) ∧ MapV k (u w) b (Maps.size (D.put l (.held val))) (D.put l (.held val)) ∧ w.mapTurned (u w) b := by
  refine ⟨fun w => match (Instr.mapUpdate t (.map (some b)) key val).run Tryz.prog w with
    | .ok _ w' => w'
    | _ => w, fun w sz D l h K ht hn hk => ?_⟩
  obtain ⟨w', hr, h1, h2⟩ := h.1.store K ht (by unfold maxLen; omega) hk (show rawElem val = some (.held val, []) from rfl)
  simp only [hr]
  exact ⟨trivial, MapV.of_le h1, h2⟩

theorem del_ex (k t e : TypeId) (b : Nat) (key : Value) (ty : TypeId) : ∃ u : World → World, ∀ (w : World) (sz : Nat) (D : DataW Value) (l : Lit), MapV k w b sz D → Maps.Keyed Tryz.prog k → Tryz.prog.underlying t = some (.map k e) → keyOf Tryz.prog k key = some l →
    (Builtin.delete_ #[t, k] ty #[.map (some b), key]).run Tryz.prog w = .ok (.tuple #[]) (u w) ∧ MapV k (u w) b (Maps.size (D.del l)) (D.del l) ∧ w.mapTurned (u w) b := by
  refine ⟨fun w => match (Builtin.delete_ #[t, k] ty #[.map (some b), key]).run Tryz.prog w with
    | .ok _ w' => w'
    | _ => w, fun w sz D l h K ht hk => ?_⟩
  obtain ⟨w', hr, h1, h2⟩ := h.1.drop K ht hk ty
  simp only [hr]
  exact ⟨trivial, MapV.of_le h1, h2⟩

theorem MapV.tidy (h : MapV k w b sz D) (K : Maps.Keyed Tryz.prog k) : Maps.Tidy D := h.1.tidy K

theorem getV_put_same (hD : Maps.IsMap D) {l : Lit} (hl : WideAt.IsKeyLit l) (v z : Value) : getV (D.put l (.held v)) l z = v := by
  unfold getV; rw [Maps.atKey_put_same hD hl]

theorem getV_put_other {l l' : Lit} (hne : l' ≠ l) (v z : Value) : getV (D.put l (.held v)) l' z = getV D l' z := by
  unfold getV; rw [Maps.atKey_put_other hne]

theorem getV_del_other {l l' : Lit} (hne : l' ≠ l) (z : Value) : getV (D.del l) l' z = getV D l' z := by
  unfold getV; rw [Maps.atKey_del_other hne]

theorem getV_none {l : Lit} (h : Maps.has D l = false) (z : Value) : getV D l z = z := by
  unfold getV; rw [Maps.atKey_of_not_has h]
end

end Go.Proofs.YtchjboijoebifaaGreat
