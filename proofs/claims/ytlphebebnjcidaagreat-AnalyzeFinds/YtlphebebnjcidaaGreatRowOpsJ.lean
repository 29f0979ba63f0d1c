/-
  A struct that is loaded or stored whole: one step, whatever its cells.
-/
import Derived.Test.YtlphebebnjcidaaGreatProg
import Derived.WalkKit
import Derived.WalkSpells
import Derived.Deep.WholeRow
import Derived.Laws.CopyOwn
import Derived.Lib.QuietBelow
import Derived.BigQuiet
import Derived.WalkLawsBesides
import Derived.Maps.OwnSet
import Derived.Shelf.SlSortCmp.WholeK
import Derived.Shelf.Small.Bits
set_option linter.unusedVariables false
set_option linter.unusedSimpArgs false
namespace Go.Proofs.YtlphebebnjcidaaGreat
open Go.RowKit

section
variable {P : Program} {ops : Array Oper} {rest : List Oper} {o : Oper} {a : Act} {Q : Exit → Act → World → Prop} {W : World}

theorem wpList_loadRow (hgd : o.guard = none) (x : Operand) (t : TypeId) (ho : o.op = .load t x) (b : Nat) (hx : a.eval x = .pointer (some ⟨b, 0, none⟩)) (c : Array Value) (t' : TypeId) (fr : Nat × Nat) (hb : W.heap[b]? = some (.cells c t' fr))
    (d : TypeDesc) (hu : P.underlying t = some d) (hd : (match d with | .struct _ | .array _ _ => true | _ => false) = true) (hi : (P.info? t).map (·.size) = some c.size) (h : wpList P ops Q rest (a.put o.dst (.agg c)) W) : wpList P ops Q (o :: rest) a W := by
  refine wpList_plain hgd fun K hK => ?_
  have hr := run_loadVar_row (P := P) W b t' t c fr d hb hu hd hi
  unfold Oper.wp execOp
  simp only [ho, hx, Instr.loadAt, Instr.sureAddr, Sem.run_bind, Sem.run_pure, Result.andThen_ok, hr]
  exact hK _ _ h

theorem wpList_storeRow (hgd : o.guard = none) (x y : Operand) (t : TypeId) (ho : o.op = .store t x y) (hdst : o.dst = none) (b : Nat) (hx : a.eval x = .pointer (some ⟨b, 0, none⟩)) (c old : Array Value) (hy : a.eval y = .agg c) (t' : TypeId) (hb : W.heap[b]? = some (.cells old t' (0, 0)))
    (hi : (P.info? t).map (·.size) = some c.size) (ho' : old.size = c.size) (h1 : c.all (·.oneCell') = true) (h : wpList P ops Q rest a (W.setRow b c)) : wpList P ops Q (o :: rest) a W := by
  refine wpList_plain hgd fun K hK => ?_
  have hr := run_storeVar_row (P := P) W b t' t old c hb hi ho' h1
  unfold Oper.wp execOp
  simp only [ho, hx, hy, Instr.storeAt, Instr.sureAddr, Sem.run_bind, Sem.run_pure, Result.andThen_ok, hr]
  refine hK _ _ ?_
  rw [hdst]
  exact h

end

end Go.Proofs.YtlphebebnjcidaaGreat

namespace Go.Proofs.YtlphebebnjcidaaGreat
open Go.RowKit Go.Sort

section
variable {P : Program} {ops : Array Oper} {rest : List Oper} {o : Oper} {a : Act}

theorem wpQuiet_loadRow {V : World} {Q' : Act → Prop} (hgd : o.guard = none) (x : Operand) (t : TypeId) (ho : o.op = .load t x) (b : Nat) (hx : a.eval x = .pointer (some ⟨b, 0, none⟩)) (c : Array Value) (t' : TypeId) (fr : Nat × Nat) (hb : V.heap[b]? = some (.cells c t' fr))
    (d : TypeDesc) (hu : P.underlying t = some d) (hd : (match d with | .struct _ | .array _ _ => true | _ => false) = true) (hi : (P.info? t).map (·.size) = some c.size)
    (h : wpQuiet P ops (fun w' => ∃ p : Regrown, w' = grow (redrawn V p.d) p.os) Q' rest (a.put o.dst (.agg c))) : wpQuiet P ops (fun w' => ∃ p : Regrown, w' = grow (redrawn V p.d) p.os) Q' (o :: rest) a := by
  refine BigFrame.wpQuiet_want (by simp [Region.wanted, hgd]) (fun K hK => ?_)
  refine ⟨.agg c, fun w hw => ?_, hK _ h⟩
  obtain ⟨p, rfl⟩ := hw
  have hlt : b < V.heap.size := (Array.getElem?_eq_some_iff.1 hb).1
  have hb' : (grow (redrawn V p.d) p.os).heap[b]? = some (.cells c t' fr) := ((below_regrown V p.d p.os).block b hlt).trans hb
  have hr := run_loadVar_row (P := P) (grow (redrawn V p.d) p.os) b t' t c fr d hb' hu hd hi
  unfold Oper.quietAt execOp
  simp only [ho, hx, Instr.loadAt, Instr.sureAddr, Sem.run_bind, Sem.run_pure, Result.andThen_ok, hr]
  exact ⟨rfl, rfl⟩

end

end Go.Proofs.YtlphebebnjcidaaGreat

namespace Go.Proofs.YtlphebebnjcidaaGreat
open Go.RowKit

def rawElem (v : Value) : Option (DataW Value × List MemPlace) := some (.held v, [])

def getV (D : DataW Value) (l : Lit) (z : Value) : Value := match D.atKey l (.held z) with | .held v => v | _ => z

def MapV (k : TypeId) (w : World) (b sz : Nat) (D : DataW Value) : Prop := w.ownsMap Tryz.prog k rawElem b sz D ∧ Maps.size D = sz

section
variable {k t e : TypeId} {w : World} {b sz : Nat} {D : DataW Value}

theorem MapV.lt (h : MapV k w b sz D) : b < w.heap.size := World.ownsMap.lt h.1

theorem MapV.isMap (h : MapV k w b sz D) : ∃ es c, w.heap[b]? = some (.map es c) := by
  obtain ⟨es, c, hb, _⟩ := h.1
  exact ⟨es, c, hb⟩

theorem MapV.same {w' : World} (h : MapV k w b sz D) (e : w'.heap[b]? = w.heap[b]?) : MapV k w' b sz D := by
  obtain ⟨es, c, hb, r⟩ := h.1
  exact ⟨⟨es, c, e.trans hb, r⟩, h.2⟩

theorem MapV.made (k : TypeId) (w : World) : MapV k (w.alloc (.map #[] 0)) w.heap.size 0 (.map []) := ⟨World.ownsMap_made _ _ _ _, rfl⟩

theorem MapV.of_le {n : Nat} (h : w.ownsMap Tryz.prog k rawElem b n D) : MapV k w b (Maps.size D) D := by
  refine ⟨?_, rfl⟩
  obtain ⟨es, c, hb, F, hs, hD⟩ := h
  refine ⟨es, c, hb, F, ?_, hD⟩
  rw [hD]
  simp [Maps.size, length_sorted]

theorem MapV.lookOk (h : MapV k w b sz D) (K : Maps.Keyed Tryz.prog k) (ht : Tryz.prog.underlying t = some (.map k e)) {z : Value} (hz : (zeroValue e).run Tryz.prog w = .ok z w) {key : Value} {l : Lit} (hk : keyOf Tryz.prog k key = some l) :
    (Instr.lookup t (.map (some b)) key true).run Tryz.prog w = .ok (.tuple #[getV D l z, .bool (Maps.has D l)]) w := by
  obtain ⟨v, ps, hr, hv⟩ := h.1.look_ok K ht hz (zd := .held z) (zp := []) rfl hk
  have hv' : DataW.held v = D.atKey l (.held z) := by
    unfold rawElem at hv
    simp only [Option.some.injEq, Prod.mk.injEq] at hv
    exact hv.1
  rw [hr]
  unfold getV
  rw [← hv']

theorem put_ex (k t e : TypeId) (b : Nat) (key val : Value) : ∃ u : World → World, ∀ (w : World) (sz : Nat) (D : DataW Value) (l : Lit), MapV k w b sz D → Maps.Keyed Tryz.prog k → Tryz.prog.underlying t = some (.map k e) → sz ≤ 1000000 → keyOf Tryz.prog k key = some l →
    (Instr.mapUpdate t (.map (some b)) key val).run Tryz.prog w = .ok () (u w) ∧ MapV k (u w) b (Maps.size (D.put l (.held val))) (D.put l (.held val)) ∧ w.mapTurned (u w) b := by
  refine ⟨fun w => match (Instr.mapUpdate t (.map (some b)) key val).run Tryz.prog w with
    | .ok _ w' => w'
    | _ => w, fun w sz D l h K ht hn hk => ?_⟩
  obtain ⟨w', hr, h1, h2⟩ := h.1.store K ht (by unfold maxLen; omega) hk (show rawElem val = some (.held val, []) from rfl)
  simp only [hr]
  exact ⟨trivial, MapV.of_le h1, h2⟩

theorem del_ex (k t e : TypeId) (b : Nat) (key : Value) (ty : TypeId) : ∃ u : World → World, ∀ (w : World) (sz : Nat) (D : DataW Value) (l : Lit), MapV k w b sz D → Maps.Keyed Tryz.prog k → Tryz.prog.underlying t = some (.map k e) → keyOf Tryz.prog k key = some l →
    (Builtin.delete_ #[t, k] ty #[.map (some b), key]).run Tryz.prog w = .ok (.tuple #[]) (u w) ∧ MapV k (u w) b (Maps.size (D.del l)) (D.del l) ∧ w.mapTurned (u w) b := by
  refine ⟨fun w => match (Builtin.delete_ #[t, k] ty #[.map (some b), key]).run Tryz.prog w with
    | .ok _ w' => w'
    | _ => w, fun w sz D l h K ht hk => ?_⟩
  obtain ⟨w', hr, h1, h2⟩ := h.1.drop K ht hk ty
  simp only [hr]
  exact ⟨trivial, MapV.of_le h1, h2⟩

theorem MapV.tidy (h : MapV k w b sz D) (K : Maps.Keyed Tryz.prog k) : Maps.Tidy D := h.1.tidy K

theorem getV_put_same (hD : Maps.IsMap D) {l : Lit} (hl : WideAt.IsKeyLit l) (v z : Value) : getV (D.put l (.held v)) l z = v := by
  unfold getV; rw [Maps.atKey_put_same hD hl]

theorem getV_put_other {l l' : Lit} (hne : l' ≠ l) (v z : Value) : getV (D.put l (.held v)) l' z = getV D l' z := by
  unfold getV; rw [Maps.atKey_put_other hne]

theorem getV_del_other {l l' : Lit} (hne : l' ≠ l) (z : Value) : getV (D.del l) l' z = getV D l' z := by
  unfold getV; rw [Maps.atKey_del_other hne]

theorem getV_none {l : Lit} (h : Maps.has D l = false) (z : Value) : getV D l z = z := by
  unfold getV; rw [Maps.atKey_of_not_has h]
end

end Go.Proofs.YtlphebebnjcidaaGreat

namespace Go.Proofs.YtlphebebnjcidaaGreat
open Go.Shelf

def tsortLays_ren : Go.Shelf.Ren := ⟨fun | 6 => 63 | 15 => 102 | 14 => 101 | 28 => 126 | 29 => 127 | 20 => 118 | 21 => 119 | 22 => 120 | 23 => 121 | 24 => 122 | 25 => 123 | 26 => 124 | 27 => 125 | 46 => 140 | 47 => 141 | 48 => 142 | 49 => 143 | 50 => 144 | 57 => 151 | n => n, fun | 22 => 28 | 24 => 44 | 25 => 133 | 3 => 3 | 39 => 167 | 0 => 0 | 53 => 47 | 55 => 30 | 4 => 4 | 46 => 185 | 45 => 184 | 50 => 108 | 5 => 5 | 9 => 9 | 66 => 201 | 70 => 205 | 76 => 210 | 77 => 211 | n => n, fun | n => n⟩
theorem tsortLays : Go.Proofs.SlLaysF0.n6 Tryz.prog tsortLays_ren := {
  mixed := by kernel_rfl
  f6 := ⟨Tryz.f63.name, by decide, Tryz.func63.trans (congrArg some (by kernel_rfl))⟩
  f14 := ⟨Tryz.f101.name, by decide, Tryz.func101.trans (congrArg some (by kernel_rfl))⟩
  f15 := Tryz.func102.trans (congrArg some (by kernel_rfl))
  f20 := ⟨Tryz.f118.name, by decide, Tryz.func118.trans (congrArg some (by kernel_rfl))⟩
  f21 := ⟨Tryz.f119.name, by decide, Tryz.func119.trans (congrArg some (by kernel_rfl))⟩
  f22 := ⟨Tryz.f120.name, by decide, Tryz.func120.trans (congrArg some (by kernel_rfl))⟩
  f23 := ⟨Tryz.f121.name, by decide, Tryz.func121.trans (congrArg some (by kernel_rfl))⟩
  f24 := ⟨Tryz.f122.name, by decide, Tryz.func122.trans (congrArg some (by kernel_rfl))⟩
  f25 := ⟨Tryz.f123.name, by decide, Tryz.func123.trans (congrArg some (by kernel_rfl))⟩
  f26 := ⟨Tryz.f124.name, by decide, Tryz.func124.trans (congrArg some (by kernel_rfl))⟩
  f27 := ⟨Tryz.f125.name, by decide, Tryz.func125.trans (congrArg some (by kernel_rfl))⟩
  f28 := Tryz.func126.trans (congrArg some (by kernel_rfl))
  f29 := Tryz.func127.trans (congrArg some (by kernel_rfl))
  f46 := ⟨Tryz.f140.name, by decide, Tryz.func140.trans (congrArg some (by kernel_rfl))⟩
  f47 := Tryz.func141.trans (congrArg some (by kernel_rfl))
  f48 := Tryz.func142.trans (congrArg some (by kernel_rfl))
  f49 := ⟨Tryz.f143.name, by decide, Tryz.func143.trans (congrArg some (by kernel_rfl))⟩
  f50 := ⟨Tryz.f144.name, by decide, Tryz.func144.trans (congrArg some (by kernel_rfl))⟩
  f57 := ⟨Tryz.f151.name, by decide, Tryz.func151.trans (congrArg some (by kernel_rfl))⟩
  t0 := Tryz.underlying0
  a0 := Tryz.isAgg0
  z0 := Tryz.sizeOf0
  v0 := Tryz.zeroValue0
  t3 := Tryz.underlying3
  a3 := Tryz.isAgg3
  z3 := Tryz.sizeOf3
  v3 := Tryz.zeroValue3
  t4 := Tryz.underlying4
  a4 := Tryz.isAgg4
  z4 := Tryz.sizeOf4
  v4 := Tryz.zeroValue4
  t5 := Tryz.underlying5
  a5 := Tryz.isAgg5
  z5 := Tryz.sizeOf5
  v5 := Tryz.zeroValue5
  t9 := Tryz.underlying9
  a9 := Tryz.isAgg9
  z9 := Tryz.sizeOf9
  v9 := Tryz.zeroValue9
  t22 := Tryz.underlying28
  a22 := Tryz.isAgg28
  z22 := Tryz.sizeOf28
  v22 := Tryz.zeroValue28
  t25 := Tryz.underlying133
  a25 := Tryz.isAgg133
  z25 := Tryz.sizeOf133
  v25 := Tryz.zeroValue133
  t39 := Tryz.underlying167
  a39 := Tryz.isAgg167
  z39 := Tryz.sizeOf167
  v39 := Tryz.zeroValue167
  t45 := Tryz.underlying184
  a45 := Tryz.isAgg184
  z45 := Tryz.sizeOf184
  v45 := Tryz.zeroValue184
  t46 := Tryz.underlying185
  a46 := Tryz.isAgg185
  z46 := Tryz.sizeOf185
  v46 := Tryz.zeroValue185
  t50 := Tryz.underlying108
  a50 := Tryz.isAgg108
  z50 := Tryz.sizeOf108
  v50 := Tryz.zeroValue108
  t53 := Tryz.underlying47
  a53 := Tryz.isAgg47
  z53 := Tryz.sizeOf47
  v53 := Tryz.zeroValue47
  t55 := Tryz.underlying30
  a55 := Tryz.isAgg30
  z55 := Tryz.sizeOf30
  v55 := Tryz.zeroValue30
  t66 := Tryz.underlying201
  a66 := Tryz.isAgg201
  z66 := Tryz.sizeOf201
  v66 := Tryz.zeroValue201
  t70 := Tryz.underlying205
  a70 := Tryz.isAgg205
  z70 := Tryz.sizeOf205
  v70 := Tryz.zeroValue205
  t76 := Tryz.underlying210
  a76 := Tryz.isAgg210
  z76 := Tryz.sizeOf210
  v76 := Tryz.zeroValue210
  t77 := Tryz.underlying211
  a77 := Tryz.isAgg211
  z77 := Tryz.sizeOf211
  v77 := Tryz.zeroValue211 }

end Go.Proofs.YtlphebebnjcidaaGreat

namespace Go.Proofs.YtlphebebnjcidaaGreat
open Go.Shelf

def dsortLays_ren : Go.Shelf.Ren := ⟨fun | 6 => 66 | 15 => 102 | 14 => 104 | 28 => 126 | 29 => 127 | 20 => 128 | 21 => 129 | 22 => 130 | 23 => 131 | 24 => 132 | 25 => 133 | 26 => 134 | 27 => 135 | 46 => 145 | 47 => 141 | 48 => 142 | 49 => 146 | 50 => 147 | 57 => 152 | n => n, fun | 22 => 29 | 24 => 50 | 25 => 136 | 3 => 3 | 39 => 167 | 0 => 0 | 53 => 47 | 55 => 30 | 4 => 4 | 46 => 185 | 45 => 184 | 50 => 108 | 5 => 5 | 9 => 9 | 66 => 201 | 70 => 205 | 76 => 210 | 77 => 211 | n => n, fun | n => n⟩
theorem dsortLays : Go.Proofs.SlLaysF0.n6 Tryz.prog dsortLays_ren := {
  mixed := by kernel_rfl
  f6 := ⟨Tryz.f66.name, by decide, Tryz.func66.trans (congrArg some (by kernel_rfl))⟩
  f14 := ⟨Tryz.f104.name, by decide, Tryz.func104.trans (congrArg some (by kernel_rfl))⟩
  f15 := Tryz.func102.trans (congrArg some (by kernel_rfl))
  f20 := ⟨Tryz.f128.name, by decide, Tryz.func128.trans (congrArg some (by kernel_rfl))⟩
  f21 := ⟨Tryz.f129.name, by decide, Tryz.func129.trans (congrArg some (by kernel_rfl))⟩
  f22 := ⟨Tryz.f130.name, by decide, Tryz.func130.trans (congrArg some (by kernel_rfl))⟩
  f23 := ⟨Tryz.f131.name, by decide, Tryz.func131.trans (congrArg some (by kernel_rfl))⟩
  f24 := ⟨Tryz.f132.name, by decide, Tryz.func132.trans (congrArg some (by kernel_rfl))⟩
  f25 := ⟨Tryz.f133.name, by decide, Tryz.func133.trans (congrArg some (by kernel_rfl))⟩
  f26 := ⟨Tryz.f134.name, by decide, Tryz.func134.trans (congrArg some (by kernel_rfl))⟩
  f27 := ⟨Tryz.f135.name, by decide, Tryz.func135.trans (congrArg some (by kernel_rfl))⟩
  f28 := Tryz.func126.trans (congrArg some (by kernel_rfl))
  f29 := Tryz.func127.trans (congrArg some (by kernel_rfl))
  f46 := ⟨Tryz.f145.name, by decide, Tryz.func145.trans (congrArg some (by kernel_rfl))⟩
  f47 := Tryz.func141.trans (congrArg some (by kernel_rfl))
  f48 := Tryz.func142.trans (congrArg some (by kernel_rfl))
  f49 := ⟨Tryz.f146.name, by decide, Tryz.func146.trans (congrArg some (by kernel_rfl))⟩
  f50 := ⟨Tryz.f147.name, by decide, Tryz.func147.trans (congrArg some (by kernel_rfl))⟩
  f57 := ⟨Tryz.f152.name, by decide, Tryz.func152.trans (congrArg some (by kernel_rfl))⟩
  t0 := Tryz.underlying0
  a0 := Tryz.isAgg0
  z0 := Tryz.sizeOf0
  v0 := Tryz.zeroValue0
  t3 := Tryz.underlying3
  a3 := Tryz.isAgg3
  z3 := Tryz.sizeOf3
  v3 := Tryz.zeroValue3
  t4 := Tryz.underlying4
  a4 := Tryz.isAgg4
  z4 := Tryz.sizeOf4
  v4 := Tryz.zeroValue4
  t5 := Tryz.underlying5
  a5 := Tryz.isAgg5
  z5 := Tryz.sizeOf5
  v5 := Tryz.zeroValue5
  t9 := Tryz.underlying9
  a9 := Tryz.isAgg9
  z9 := Tryz.sizeOf9
  v9 := Tryz.zeroValue9
  t22 := Tryz.underlying29
  a22 := Tryz.isAgg29
  z22 := Tryz.sizeOf29
  v22 := Tryz.zeroValue29
  t25 := Tryz.underlying136
  a25 := Tryz.isAgg136
  z25 := Tryz.sizeOf136
  v25 := Tryz.zeroValue136
  t39 := Tryz.underlying167
  a39 := Tryz.isAgg167
  z39 := Tryz.sizeOf167
  v39 := Tryz.zeroValue167
  t45 := Tryz.underlying184
  a45 := Tryz.isAgg184
  z45 := Tryz.sizeOf184
  v45 := Tryz.zeroValue184
  t46 := Tryz.underlying185
  a46 := Tryz.isAgg185
  z46 := Tryz.sizeOf185
  v46 := Tryz.zeroValue185
  t50 := Tryz.underlying108
  a50 := Tryz.isAgg108
  z50 := Tryz.sizeOf108
  v50 := Tryz.zeroValue108
  t53 := Tryz.underlying47
  a53 := Tryz.isAgg47
  z53 := Tryz.sizeOf47
  v53 := Tryz.zeroValue47
  t55 := Tryz.underlying30
  a55 := Tryz.isAgg30
  z55 := Tryz.sizeOf30
  v55 := Tryz.zeroValue30
  t66 := Tryz.underlying201
  a66 := Tryz.isAgg201
  z66 := Tryz.sizeOf201
  v66 := Tryz.zeroValue201
  t70 := Tryz.underlying205
  a70 := Tryz.isAgg205
  z70 := Tryz.sizeOf205
  v70 := Tryz.zeroValue205
  t76 := Tryz.underlying210
  a76 := Tryz.isAgg210
  z76 := Tryz.sizeOf210
  v76 := Tryz.zeroValue210
  t77 := Tryz.underlying211
  a77 := Tryz.isAgg211
  z77 := Tryz.sizeOf211
  v77 := Tryz.zeroValue211 }

end Go.Proofs.YtlphebebnjcidaaGreat

namespace Go.Proofs.YtlphebebnjcidaaGreat
open Go.Shelf

def lenLays_ren : Go.Shelf.Ren := ⟨fun | 125 => 102 | 128 => 126 | 129 => 127 | n => n, fun | 46 => 167 | 3 => 3 | 51 => 47 | 53 => 30 | 4 => 4 | 5 => 5 | 9 => 9 | n => n, fun | n => n⟩
theorem lenLays : Go.Proofs.Lays.n125 Tryz.prog lenLays_ren := {
  mixed := by kernel_rfl
  f125 := Tryz.func102.trans (congrArg some (by kernel_rfl))
  f128 := Tryz.func126.trans (congrArg some (by kernel_rfl))
  f129 := Tryz.func127.trans (congrArg some (by kernel_rfl))
  t3 := Tryz.underlying3
  a3 := Tryz.isAgg3
  z3 := Tryz.sizeOf3
  v3 := Tryz.zeroValue3
  t4 := Tryz.underlying4
  a4 := Tryz.isAgg4
  z4 := Tryz.sizeOf4
  v4 := Tryz.zeroValue4
  t5 := Tryz.underlying5
  a5 := Tryz.isAgg5
  z5 := Tryz.sizeOf5
  v5 := Tryz.zeroValue5
  t9 := Tryz.underlying9
  a9 := Tryz.isAgg9
  z9 := Tryz.sizeOf9
  v9 := Tryz.zeroValue9
  t46 := Tryz.underlying167
  a46 := Tryz.isAgg167
  z46 := Tryz.sizeOf167
  v46 := Tryz.zeroValue167
  t51 := Tryz.underlying47
  a51 := Tryz.isAgg47
  z51 := Tryz.sizeOf47
  v51 := Tryz.zeroValue47
  t53 := Tryz.underlying30
  a53 := Tryz.isAgg30
  z53 := Tryz.sizeOf30
  v53 := Tryz.zeroValue30 }

end Go.Proofs.YtlphebebnjcidaaGreat
