/-
  Maps whose elements are any values: look-ups, stores, what is taken out; the names of locks as keys.
-/
import Derived.Test.YthagomibjlcfmaaDoorLkBlockC
import Derived.Maps.OwnSet
import Derived.DeepKeys4
namespace Go.Proofs.YthagomibjlcfmaaDoor
open Go.RowKit
set_option linter.unusedVariables false

/-- An element, whatever it is. -/
def rawElem (v : Value) : Option (DataW Value × List MemPlace) := some (.held v, [])

/-- What a map has at a key; z, if it has nothing there. -/
def getV (D : DataW Value) (l : Lit) (z : Value) : Value := match D.atKey l (.held z) with | .held v => v | _ => z

/-- Block b is a map of sz entries that reads as D. -/
def MapV (k : TypeId) (w : World) (b sz : Nat) (D : DataW Value) : Prop := w.ownsMap Tryd.prog k rawElem b sz D ∧ Maps.size D = sz

section
variable {k t e : TypeId} {w : World} {b sz : Nat} {D : DataW Value}

theorem MapV.lt (h : MapV k w b sz D) : b < w.heap.size := World.ownsMap.lt h.1

theorem MapV.isMap (h : MapV k w b sz D) : ∃ es c, w.heap[b]? = some (.map es c) := by
  obtain ⟨es, c, hb, _⟩ := h.1
  exact ⟨es, c, hb⟩

theorem MapV.same {w' : World} (h : MapV k w b sz D) (e : w'.heap[b]? = w.heap[b]?) : MapV k w' b sz D := by
  obtain ⟨es, c, hb, r⟩ := h.1
  exact ⟨⟨es, c, e.trans hb, r⟩, h.2⟩

theorem MapV.made (k : TypeId) (w : World) : MapV k (w.alloc (.map #[] 0)) w.heap.size 0 (.map []) := ⟨World.ownsMap_made _ _ _ _, rfl⟩

theorem MapV.of_le {n : Nat} (h : w.ownsMap Tryd.prog k rawElem b n D) : MapV k w b (Maps.size D) D := by
  refine ⟨?_, rfl⟩
  obtain ⟨es, c, hb, F, hs, hD⟩ := h
  refine ⟨es, c, hb, F, ?_, hD⟩
  rw [hD]
  simp [Maps.size, length_sorted]

theorem MapV.look (h : MapV k w b sz D) (K : Maps.Keyed Tryd.prog k) (ht : Tryd.prog.underlying t = some (.map k e)) {z : Value} (hz : (zeroValue e).run Tryd.prog w = .ok z w) {key : Value} {l : Lit} (hk : keyOf Tryd.prog k key = some l) :
    (Instr.lookup t (.map (some b)) key false).run Tryd.prog w = .ok (getV D l z) w := by
  obtain ⟨v, ps, hr, hv⟩ := h.1.lookup K ht hz (zd := .held z) (zp := []) rfl hk
  have hv' : DataW.held v = D.atKey l (.held z) := by
    unfold rawElem at hv
    simp only [Option.some.injEq, Prod.mk.injEq] at hv
    exact hv.1
  rw [hr]
  unfold getV
  rw [← hv']

theorem MapV.lookOk (h : MapV k w b sz D) (K : Maps.Keyed Tryd.prog k) (ht : Tryd.prog.underlying t = some (.map k e)) {z : Value} (hz : (zeroValue e).run Tryd.prog w = .ok z w) {key : Value} {l : Lit} (hk : keyOf Tryd.prog k key = some l) :
    (Instr.lookup t (.map (some b)) key true).run Tryd.prog w = .ok (.tuple #[getV D l z, .bool (Maps.has D l)]) w := by
  obtain ⟨v, ps, hr, hv⟩ := h.1.look_ok K ht hz (zd := .held z) (zp := []) rfl hk
  have hv' : DataW.held v = D.atKey l (.held z) := by
    unfold rawElem at hv
    simp only [Option.some.injEq, Prod.mk.injEq] at hv
    exact hv.1
  rw [hr]
  unfold getV
  rw [← hv']

/-- A store as a function of the world. -/
theorem put_ex (k t e : TypeId) (b : Nat) (key val : Value) : ∃ u : World → World, ∀ (w : World) (sz : Nat) (D : DataW Value) (l : Lit), MapV k w b sz D → Maps.Keyed Tryd.prog k → Tryd.prog.underlying t = some (.map k e) → sz ≤ 1000000 → keyOf Tryd.prog k key = some l →
    (Instr.mapUpdate t (.map (some b)) key val).run Tryd.prog w = .ok () (u w) ∧ MapV k (u w) b (Maps.size (D.put l (.held val))) (D.put l (.held val)) ∧ w.mapTurned (u w) b := by
  refine ⟨fun w => match (Instr.mapUpdate t (.map (some b)) key val).run Tryd.prog w with
    | .ok _ w' => w'
    | _ => w, fun w sz D l h K ht hn hk => ?_⟩
  obtain ⟨w', hr, h1, h2⟩ := h.1.store K ht (by unfold maxLen; omega) hk (show rawElem val = some (.held val, []) from rfl)
  simp only [hr]
  exact ⟨trivial, MapV.of_le h1, h2⟩

/-- Taking out, as a function of the world. -/
theorem del_ex (k t e : TypeId) (b : Nat) (key : Value) (ty : TypeId) : ∃ u : World → World, ∀ (w : World) (sz : Nat) (D : DataW Value) (l : Lit), MapV k w b sz D → Maps.Keyed Tryd.prog k → Tryd.prog.underlying t = some (.map k e) → keyOf Tryd.prog k key = some l →
    (Builtin.delete_ #[t, k] ty #[.map (some b), key]).run Tryd.prog w = .ok (.tuple #[]) (u w) ∧ MapV k (u w) b (Maps.size (D.del l)) (D.del l) ∧ w.mapTurned (u w) b := by
  refine ⟨fun w => match (Builtin.delete_ #[t, k] ty #[.map (some b), key]).run Tryd.prog w with
    | .ok _ w' => w'
    | _ => w, fun w sz D l h K ht hk => ?_⟩
  obtain ⟨w', hr, h1, h2⟩ := h.1.drop K ht hk ty
  simp only [hr]
  exact ⟨trivial, MapV.of_le h1, h2⟩

theorem MapV.tidy (h : MapV k w b sz D) (K : Maps.Keyed Tryd.prog k) : Maps.Tidy D := h.1.tidy K

theorem getV_put_same (hD : Maps.IsMap D) {l : Lit} (hl : WideAt.IsKeyLit l) (v z : Value) : getV (D.put l (.held v)) l z = v := by
  unfold getV; rw [Maps.atKey_put_same hD hl]

theorem getV_put_other {l l' : Lit} (hne : l' ≠ l) (v z : Value) : getV (D.put l (.held v)) l' z = getV D l' z := by
  unfold getV; rw [Maps.atKey_put_other hne]

theorem getV_del_same {l : Lit} (z : Value) : getV (D.del l) l z = z := by
  unfold getV; rw [Maps.atKey_del_same]

theorem getV_del_other {l l' : Lit} (hne : l' ≠ l) (z : Value) : getV (D.del l) l' z = getV D l' z := by
  unfold getV; rw [Maps.atKey_del_other hne]

theorem getV_none {l : Lit} (h : Maps.has D l = false) (z : Value) : getV D l z = z := by
  unfold getV; rw [Maps.atKey_of_not_has h]
end

/-! Names. -/

/-- The name of a lock: Kind, Of, the page and the slot of its RID. -/
abbrev NameV := Int × Int × Nat × Int

def nval (n : NameV) : Value := .agg #[.int .i64 n.1, .int .i64 n.2.1, .int .u32 n.2.2.1, .int .i64 n.2.2.2]

theorem lkLaidOut : laidOutB Tryd.prog = true := by kernel_rfl
theorem nameRow : (33 : TypeId) < Tryd.prog.types.size := of_decide_eq_true (by kernel_rfl)
theorem nameWide : (match Tryd.prog.underlying 33 with | some (.array _ _) | some (.struct _) => true | _ => false) = true := by rw [Tryd.underlying33]
set_option maxRecDepth 100000 in
theorem nameKeyed : Maps.Keyed Tryd.prog 33 := Maps.Keyed.of_law (deep_law_laid lkLaidOut (m := 4) (by omega) nameRow (by kernel_rfl) nameWide)
theorem txKeyed : Maps.Keyed Tryd.prog 3 := Maps.int_keyed (q := .i64) Tryd.underlying3

/-- The name n as a key. -/
def NKey (n : NameV) (l : Lit) : Prop := keyOf Tryd.prog 33 (nval n) = some l

theorem nval_inj {a b : NameV} (h : nval a = nval b) : a = b := by
  obtain ⟨a1, a2, a3, a4⟩ := a
  obtain ⟨b1, b2, b3, b4⟩ := b
  unfold nval at h
  simp only [Value.agg.injEq, Array.mk.injEq, List.cons.injEq, Value.int.injEq, true_and, and_true] at h
  obtain ⟨rfl, rfl, h3, rfl⟩ := h
  have : a3 = b3 := by omega
  rw [this]

theorem nkey_ne {a b : NameV} {la lb : Lit} (ha : NKey a la) (hb : NKey b lb) (h : a ≠ b) : la ≠ lb := fun e => h (nval_inj (nameKeyed.inj ha (e ▸ hb)))
theorem nkey_eq {a : NameV} {la lb : Lit} (ha : NKey a la) (hb : NKey a lb) : la = lb := Option.some.inj (ha.symm.trans hb)
theorem nkey_lit {a : NameV} {l : Lit} (ha : NKey a l) : WideAt.IsKeyLit l := nameKeyed.key ha
theorem nkey_of {a : NameV} (h : (keyOf Tryd.prog 33 (nval a)).isSome = true) : ∃ l, NKey a l := Option.isSome_iff_exists.1 h

/-- A transaction's number as a key. -/
def tkey (n : Int) : Lit := .int .i64 n
theorem tkey_key {n : Int} (h1 : -9223372036854775808 ≤ n) (h2 : n ≤ 9223372036854775807) : keyOf Tryd.prog 3 (.int .i64 n) = some (tkey n) := Maps.keyOf_int_mk Tryd.underlying3 (WalkArith.wf_i64 (by omega))
theorem tkey_ne {a b : Int} (h : a ≠ b) : tkey a ≠ tkey b := fun e => h (by simpa [tkey] using e)
theorem tkey_lit (n : Int) : WideAt.IsKeyLit (tkey n) := by simp [tkey, WideAt.IsKeyLit]

theorem nok1 : ∃ l, NKey (1, 0, 0, 0) l := nkey_of (by kernel_rfl)

end Go.Proofs.YthagomibjlcfmaaDoor
