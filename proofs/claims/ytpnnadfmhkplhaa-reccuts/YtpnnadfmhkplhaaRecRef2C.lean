/-
  The walk of girderlaw04.ref.
-/
import Derived.Test.YtpnnadfmhkplhaaRecRefC
import Derived.Test.YtpnnadfmhkplhaaRowOpsC
import Derived.Deep.Cut
import Derived.Test.YtpnnadfmhkplhaaBase1C
namespace Go.Proofs.Ytpnnadfmhkplhaa
open Go.RowKit Go.Sort
set_option linter.unusedVariables false



theorem rinfo_split {t : TypeId} {z : Value} {s b : Nat} (h : (Try.prog.info? t).map (fun i => (i.zero, i.size, i.bytes)) = some (some z, s, b)) : ∃ i, Try.prog.info? t = some i ∧ i.zero = some z ∧ i.size = s ∧ i.bytes = b := by
  cases e : Try.prog.info? t with
  | none => rw [e] at h; cases h
  | some i =>
    rw [e] at h
    simp only [Option.map_some, Option.some.injEq, Prod.mk.injEq] at h
    exact ⟨i, rfl, h.1, h.2.1, h.2.2⟩

theorem out_cells {w : World} {p : Nat} {t : TypeId} {r : RecV} {v u : Value} (h : BlkR w p (refCells r v u) t) : w.cell? ⟨p, 0, none⟩ = some (.int .i64 r.kind) ∧ w.cell? ⟨p, 1, none⟩ = some (.int .i64 r.tx) ∧ w.cell? ⟨p, 2, none⟩ = some (.int .u64 r.prev) ∧ w.cell? ⟨p, 3, none⟩ = some (.int .u64 r.next) ∧ w.cell? ⟨p, 4, none⟩ = some (.int .u32 r.page) ∧ w.cell? ⟨p, 5, none⟩ = some (.int .i64 r.op.kind) ∧ w.cell? ⟨p, 6, none⟩ = some (.int .i64 r.op.at') ∧ w.cell? ⟨p, 7, none⟩ = some (.string r.op.S) ∧ w.cell? ⟨p, 8, none⟩ = some (.string r.op.old) ∧ w.cell? ⟨p, 9, none⟩ = some (.int .i64 r.undo) ∧ w.cell? ⟨p, 10, none⟩ = some (.int .i64 r.index) ∧ w.cell? ⟨p, 11, none⟩ = some (.string r.key) ∧ w.cell? ⟨p, 12, none⟩ = some (.int .u32 r.rpage) ∧ w.cell? ⟨p, 13, none⟩ = some (.int .i64 r.rslot) ∧ w.cell? ⟨p, 14, none⟩ = some (.bool r.live) ∧ w.cell? ⟨p, 15, none⟩ = some (v) ∧ w.cell? ⟨p, 16, none⟩ = some (u) := ⟨(h.cell 0).trans rfl, (h.cell 1).trans rfl, (h.cell 2).trans rfl, (h.cell 3).trans rfl, (h.cell 4).trans rfl, (h.cell 5).trans rfl, (h.cell 6).trans rfl, (h.cell 7).trans rfl, (h.cell 8).trans rfl, (h.cell 9).trans rfl, (h.cell 10).trans rfl, (h.cell 11).trans rfl, (h.cell 12).trans rfl, (h.cell 13).trans rfl, (h.cell 14).trans rfl, (h.cell 15).trans rfl, (h.cell 16).trans rfl⟩

/-- A list of a block that is new. -/
def NewR (n : Nat) (a : Option Addr) : Prop := ∀ x, a = some x → n ≤ x.block

theorem ref_one (r : RecV) (x y : Option Addr) (a b c d : Nat) : (refCells r (.slice x a b) (.slice y c d)).all (·.oneCell') = true := by simp [refCells, Value.oneCell']



end Go.Proofs.Ytpnnadfmhkplhaa
