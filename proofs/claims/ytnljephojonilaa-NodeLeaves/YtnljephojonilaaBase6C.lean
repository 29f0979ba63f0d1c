/-
  The laying of a contract of the library's shelf at this program's numbers (plain text by the library's own command).
  slices.Delete of one slot, in place (for PageBack).
-/
import Derived.Test.YtnljephojonilaaProg
import Derived.Shelf.Slices.Delete
import Derived.Shelf.Slices.Cells
import Derived.Test.YtnljephojonilaaPageChange2C
namespace Go.Proofs.Ytnljephojonilaa
open Go.Shelf

def deleteLays_ren : Go.Shelf.Ren := ⟨fun | 24 => 83 | n => n, fun | 24 => 27 | 9 => 9 | 3 => 3 | 4 => 4 | 0 => 0 | n => n, fun | n => n⟩
theorem deleteLays : Go.Proofs.Lays2.n24 Try.prog deleteLays_ren := {
  mixed := by kernel_rfl
  f24 := Try.func83.trans (congrArg some (by kernel_rfl))
  t0 := Try.underlying0
  a0 := Try.isAgg0
  z0 := Try.sizeOf0
  v0 := Try.zeroValue0
  t3 := Try.underlying3
  a3 := Try.isAgg3
  z3 := Try.sizeOf3
  v3 := Try.zeroValue3
  t4 := Try.underlying4
  a4 := Try.isAgg4
  z4 := Try.sizeOf4
  v4 := Try.zeroValue4
  t9 := Try.underlying9
  a9 := Try.isAgg9
  z9 := Try.sizeOf9
  v9 := Try.zeroValue9
  t24 := Try.underlying27
  a24 := Try.isAgg27
  z24 := Try.sizeOf27
  v24 := Try.zeroValue27
  i9 := by kernel_rfl }

end Go.Proofs.Ytnljephojonilaa

namespace Go.Proofs.Ytnljephojonilaa
open Go.RowKit Go.Sort
set_option linter.unusedVariables false

theorem delete_call (L : List ByteArray) (bs i : Nat) (w : World) (h : StrRow w bs L) (hi : i < L.length) (hn : L.length ≤ 64) :
    Calls Try.prog 83 #[.slice (some ⟨bs, 0, none⟩) L.length L.length, .int .i64 i, .int .i64 ((i : Int) + 1)] w fun e w' =>
      e = .returned (.slice (some ⟨bs, 0, none⟩) (L.length - 1) L.length) ∧ StrRow w' bs (L.eraseIdx i) ∧ ∃ q vs, w' = (w.drewN q).setCells bs 0 vs := by
  have hc := Any.slices_Delete_string_cells deleteLays bs 0 L.length L.length i (i + 1) (fun j => L.getD j ByteArray.empty) w (Nat.le_refl _) (by omega) (by omega) (by omega)
    (fun j hj => by rw [Nat.zero_add]; exact (h j hj).1) (fun j hj => by rw [Nat.zero_add]; exact (h j hj).2)
  rw [Int.natCast_add] at hc
  refine Calls.mono hc ?_
  rintro e w' ⟨rfl, q, rfl⟩
  refine ⟨by rw [Nat.add_sub_cancel_left], ?_, q, _, rfl⟩
  intro j hj
  have hj' : j < L.length - 1 := by rw [List.length_eraseIdx_of_lt hi] at hj; exact hj
  refine ⟨?_, by rw [World.frozen?_setCells]; exact (h j (by omega)).2⟩
  have hin := World.cell?_setCells_in bs (((Lib.strsOf (fun j => L.getD j ByteArray.empty) L.length).take i ++ (Lib.strsOf (fun j => L.getD j ByteArray.empty) L.length).drop (i + 1) ++ List.replicate (i + 1 - i) []).map encStr) 0 (w.drewN q)
    (fun k hk => by
      rw [Nat.zero_add]
      have : k < L.length := by simp [Lib.strsOf_length] at hk; omega
      show (w.cell? _).isSome = true
      rw [(h k this).1]; rfl) j (by simp [Lib.strsOf_length]; omega)
  rw [Nat.zero_add] at hin
  rw [hin]
  congr 1
  rw [List.getElem_map, List.getElem_append_left (by simp [Lib.strsOf_length]; omega)]
  have e0 : (L.eraseIdx i).getD j ByteArray.empty = (L.eraseIdx i)[j] := by rw [List.getD_eq_getElem?_getD, List.getElem?_eq_getElem hj, Option.getD_some]
  show _ = Value.string ((L.eraseIdx i).getD j ByteArray.empty)
  rw [e0, List.getElem_eraseIdx]
  by_cases c : j < i
  · rw [List.getElem_append_left (by simp [Lib.strsOf_length]; omega), dif_pos c, List.getElem_take]
    simp only [Lib.strsOf, List.getElem_map, List.getElem_range]
    rw [List.getD_eq_getElem?_getD, List.getElem?_eq_getElem (by omega), Option.getD_some]
  · rw [List.getElem_append_right (by simp [Lib.strsOf_length]; omega), dif_neg c, List.getElem_drop]
    simp only [Lib.strsOf, List.getElem_map, List.getElem_range]
    have e1 : i + 1 + (j - (List.take i (Lib.strsOf (fun j => L.getD j ByteArray.empty) L.length)).length) = j + 1 := by simp [Lib.strsOf_length]; omega
    simp only [Lib.strsOf] at e1
    rw [e1, List.getD_eq_getElem?_getD, List.getElem?_eq_getElem (by omega), Option.getD_some]

theorem RowV.setCells_other {w : World} {b N : Nat} {f : Nat → Value} (h : RowV w b N f) {b' : Nat} (hk : b' ≠ b) (vs : List Value) (o : Nat) : RowV (w.setCells b' o vs) b N f := fun j hj =>
  ⟨by rw [World.cell?_setCells_out b' vs o w _ (fun e _ => absurd e.symm hk)]; exact (h j hj).1, by rw [World.frozen?_setCells]; exact (h j hj).2⟩

end Go.Proofs.Ytnljephojonilaa
