/-
  The laying of a contract of the library's shelf at this program's numbers (plain text by the library's own command).
  slices.Insert of one text into a full row of texts: the row that comes back.
-/
import Derived.Test.YtnljephojonilaaProg
import Derived.Shelf.Spec.SlicesInsert
import Derived.Test.YtnljephojonilaaPageCopy2C
import Derived.Shelf.Spec.SlicesInsertGrow
namespace Go.Proofs.Ytnljephojonilaa
open Go.Shelf

def insertLays_ren : Go.Shelf.Ren := ⟨fun | 22 => 81 | 29 => 92 | 30 => 93 | 36 => 95 | 17 => 96 | n => n, fun | 24 => 27 | 9 => 9 | 3 => 3 | 4 => 4 | 0 => 0 | n => n, fun | n => n⟩
theorem insertLays : Go.Proofs.Lays2.n22 Try.prog insertLays_ren := {
  mixed := by kernel_rfl
  f17 := Try.func96.trans (congrArg some (by kernel_rfl))
  f22 := Try.func81.trans (congrArg some (by kernel_rfl))
  f29 := Try.func92.trans (congrArg some (by kernel_rfl))
  f30 := Try.func93.trans (congrArg some (by kernel_rfl))
  f36 := Try.func95.trans (congrArg some (by kernel_rfl))
  t0 := Try.underlying0
  a0 := Try.isAgg0
  z0 := Try.sizeOf0
  v0 := Try.zeroValue0
  t3 := Try.underlying3
  a3 := Try.isAgg3
  z3 := Try.sizeOf3
  v3 := Try.zeroValue3
  t4 := Try.underlying4
  a4 := Try.isAgg4
  z4 := Try.sizeOf4
  v4 := Try.zeroValue4
  t9 := Try.underlying9
  a9 := Try.isAgg9
  z9 := Try.sizeOf9
  v9 := Try.zeroValue9
  t24 := Try.underlying27
  a24 := Try.isAgg27
  z24 := Try.sizeOf27
  v24 := Try.zeroValue27
  i9 := by kernel_rfl }

end Go.Proofs.Ytnljephojonilaa

namespace Go.Proofs.Ytnljephojonilaa
open Go.RowKit Go.Sort Go.Shelf
set_option linter.unusedVariables false

theorem below_setCells {B : Nat} {w : World} (b : Nat) (hb : B ≤ b) : ∀ (vs : List Value) (o : Nat) (w' : World), Below B w w' → Below B w (w'.setCells b o vs)
  | [], _, _, h => h
  | v :: vs, o, w', h => below_setCells b hb vs (o + 1) _ (h.setCell (p := ⟨b, o, none⟩) hb v)

theorem setCells_heap (b : Nat) : ∀ (vs : List Value) (o : Nat) (w : World), (w.setCells b o vs).heap.size = w.heap.size
  | [], _, _ => rfl
  | v :: vs, o, w => by show ((w.setCell ⟨b, o, none⟩ v).setCells b (o + 1) vs).heap.size = _; rw [setCells_heap b vs]; simp

/-- The texts as values. -/
def strV (L : List ByteArray) : List Value := L.map Value.string

theorem strV_get {L : List ByteArray} {j : Nat} {v : Value} (h : (strV L)[j]? = some v) : ∃ (hj : j < L.length), v = .string L[j] := by
  unfold strV at h
  rw [List.getElem?_map] at h
  rcases Option.map_eq_some_iff.1 h with ⟨s, hs, rfl⟩
  obtain ⟨hj, e⟩ := List.getElem?_eq_some_iff.1 hs
  exact ⟨hj, by rw [e]⟩

/-- A row of texts. -/
abbrev StrRow (w : World) (b : Nat) (L : List ByteArray) : Prop := RowV w b L.length (fun j => .string (L.getD j ByteArray.empty))

theorem StrRow.cell {w : World} {b : Nat} {L : List ByteArray} (h : StrRow w b L) {j : Nat} (hj : j < L.length) : w.cell? ⟨b, j, none⟩ = some (.string L[j]) := by
  have := (h j hj).1
  rw [this]
  show some (Value.string (L.getD j ByteArray.empty)) = _
  rw [List.getD_eq_getElem?_getD, List.getElem?_eq_getElem hj]; rfl

theorem StrRow.of {w : World} {b : Nat} {L : List ByteArray} (h : ∀ j (hj : j < L.length), w.cell? ⟨b, j, none⟩ = some (.string L[j]) ∧ w.frozen? ⟨b, j, none⟩ = false) : StrRow w b L := fun j hj => by
  refine ⟨?_, (h j hj).2⟩
  rw [(h j hj).1]
  show _ = some (Value.string (L.getD j ByteArray.empty))
  rw [List.getD_eq_getElem?_getD, List.getElem?_eq_getElem hj]; rfl

/-- L with s at place i. -/
def insL (L : List ByteArray) (i : Nat) (s : ByteArray) : List ByteArray := L.take i ++ s :: L.drop i

theorem insL_length (L : List ByteArray) (i : Nat) (s : ByteArray) (hi : i ≤ L.length) : (insL L i s).length = L.length + 1 := by
  simp [insL]; omega

theorem insL_sum (L : List ByteArray) (i : Nat) (s : ByteArray) : slotSum (insL L i s) = slotSum L + (2 + s.size) := by
  unfold insL
  rw [slotSum_append]
  conv => rhs; rw [← List.take_append_drop i L, slotSum_append]
  simp only [slotSum]; omega

theorem insL_get (L : List ByteArray) (i : Nat) (s : ByteArray) (hi : i ≤ L.length) (j : Nat) (hj : j < (insL L i s).length) :
    (insL L i s)[j]? = if j < i then L[j]? else if j = i then some s else L[j - 1]? := by
  unfold insL
  rw [List.getElem?_append]
  have hl : (L.take i).length = i := by simp; omega
  rw [hl]
  by_cases h : j < i
  · rw [if_pos h, if_pos h, List.getElem?_take, if_pos h]
  · rw [if_neg h, if_neg h]
    by_cases e : j = i
    · subst e; rw [if_pos rfl, Nat.sub_self]; rfl
    · rw [if_neg e, show j - i = (j - 1 - i) + 1 from by omega, List.getElem?_cons_succ, List.getElem?_drop]
      congr 1; omega

theorem zeroCells_size (n : Nat) : (Builtin.zeroCells (Value.string ⟨#[]⟩).cells n).size = n := by rw [size_zeroCells]; simp [Value.cells]

set_option maxHeartbeats 800000 in
theorem insert_call (L : List ByteArray) (bs vb : Nat) (s : ByteArray) (i : Nat) (w : World) (hr : StrRow w bs L) (hi : i ≤ L.length) (hv : w.cell? ⟨vb, 0, none⟩ = some (.string s)) (hL : L.length ≤ 64) (hbs : bs < w.heap.size) :
    Calls Try.prog 81 #[.slice (some ⟨bs, 0, none⟩) L.length L.length, .int .i64 i, .slice (some ⟨vb, 0, none⟩) 1 1] w fun e w' =>
      ∃ c, e = .returned (.slice (some ⟨w.heap.size, 0, none⟩) (L.length + 1) c) ∧ StrRow w' w.heap.size (insL L i s) ∧ Below w.heap.size w w' ∧ w.heap.size < w'.heap.size := by
  have hcl : (strV L).length = L.length := by simp [strV]
  have h1c : ∀ v ∈ strV L, v.oneCell' = true := fun v hv => by
    unfold strV at hv
    obtain ⟨x, _, rfl⟩ := List.mem_map.1 hv
    rfl
  have h1v : ∀ v ∈ ([.string s] : List Value), v.oneCell' = true := fun v hv => by
    rw [List.mem_singleton.1 hv]; rfl
  have hvs : ∀ j v, ([.string s] : List Value)[j]? = some v → w.cell? ⟨vb, 0 + j, none⟩ = some v := fun j v h => by
    match j, h with
    | 0, h => simp at h; subst h; exact hv
  have hcs : ∀ j v, (strV L)[j]? = some v → w.cell? ⟨bs, 0 + j, none⟩ = some v := fun j v h => by
    obtain ⟨hj, rfl⟩ := strV_get h
    rw [Nat.zero_add]; exact hr.cell hj
  have hil := insL_length L i s hi
  by_cases hlt : i < L.length
  · refine (Any2.slices_Insert_string_grow insertLays bs 0 L.length L.length i vb 0 1 1 (strV L) [.string s] w hlt (by omega) (by omega) (by omega) (by omega) hcl rfl hcs hvs h1c h1v).mono ?_
    rintro e w' ⟨rfl, rfl⟩
    refine ⟨_, rfl, StrRow.of fun j hj => ?_, ?_, ?_⟩
    · refine ⟨?_, ?_⟩
      · have hg := insL_get L i s hi j hj
        rw [List.getElem?_eq_getElem hj] at hg
        have hlt' : (strV (L.drop i)).length = L.length - i := by simp [strV]
        have hdr : (strV L).drop i = strV (L.drop i) := by simp [strV]
        rw [hdr]
        by_cases h1 : j < i
        · rw [if_pos h1] at hg
          rw [World.cell?_setCells_out w.heap.size _ _ _ _ (fun _ _ => .inl (by show j < i + 1; omega))]
          show (World.setCells _ _ _ _).cell? _ = _
          rw [World.cell?_setCells_out w.heap.size _ _ _ _ (fun _ _ => .inl (by show j < i; omega))]
          show (w.alloc _).cell? _ = _
          rw [World.cell?_alloc_new, Array.append_assoc, Array.getElem?_append_left (by simp [strV]; omega)]
          simp only [List.getElem?_toArray, List.getElem?_take, if_pos h1, strV, List.getElem?_map, ← hg, Option.map_some]
        · rw [if_neg h1] at hg
          by_cases h2 : j = i
          · subst h2
            rw [if_pos rfl] at hg
            rw [World.cell?_setCells_out w.heap.size _ _ _ _ (fun _ _ => .inl (by show j < j + 1; omega))]
            show (World.setCells _ _ _ _).cell? _ = _
            have := World.cell?_setCells_in w.heap.size [.string s] j (w.alloc (.cells (((strV L).take j).toArray ++ Builtin.zeroCells (Value.string ⟨#[]⟩).cells (L.length + 1 - j) ++ Builtin.zeroCells (Value.string ⟨#[]⟩).cells (grownCap w (L.length + 1) L.length (insertLays_ren.t 9) - (L.length + 1))) (insertLays_ren.t 9))).drew (fun k hk => by
              obtain rfl : k = 0 := by simpa using hk
              show ((w.alloc _).cell? _).isSome = true
              rw [World.cell?_alloc_new]
              simp [zeroCells_size, strV]; omega) 0 (by simp)
            rw [Nat.add_zero] at this
            refine this.trans ?_
            rw [Option.some.inj hg]; rfl
          · rw [if_neg h2] at hg
            have hj' : j < L.length + 1 := by omega
            have := World.cell?_setCells_in w.heap.size (strV (L.drop i)) (i + 1) (((w.alloc (.cells (((strV L).take i).toArray ++ Builtin.zeroCells (Value.string ⟨#[]⟩).cells (L.length + 1 - i) ++ Builtin.zeroCells (Value.string ⟨#[]⟩).cells (grownCap w (L.length + 1) L.length (insertLays_ren.t 9) - (L.length + 1))) (insertLays_ren.t 9))).drew.setCells w.heap.size i [.string s]).drew) (fun k hk => by
              show ((World.setCells _ _ _ _).cell? _).isSome = true
              rw [World.cell?_setCells_out w.heap.size _ _ _ _ (fun _ _ => .inr (by show i + 1 ≤ i + 1 + k; omega))]
              show ((w.alloc _).cell? _).isSome = true
              rw [World.cell?_alloc_new]
              simp [zeroCells_size, strV]; omega) (j - (i + 1)) (by omega)
            rw [show i + 1 + (j - (i + 1)) = j from by omega] at this
            rw [this]
            rw [List.getElem?_eq_getElem (by omega)] at hg
            rw [← Option.some.inj hg.symm]
            simp only [strV, List.getElem_map, List.getElem_drop]
            congr 3; omega
      · rw [World.frozen?_setCells]
        show (World.setCells _ _ _ _).frozen? _ = _
        rw [World.frozen?_setCells]
        show (w.alloc _).frozen? _ = _
        simp
    · refine below_setCells _ (Nat.le_refl _) _ _ _ ?_
      exact Below.drew (below_setCells _ (Nat.le_refl _) _ _ _ (((Below.refl _ _).alloc (Nat.le_refl _) _).drew))
    · rw [setCells_heap]
      show w.heap.size < (World.setCells _ _ _ _).heap.size
      rw [setCells_heap]
      show w.heap.size < (w.alloc _).heap.size
      simp
  · obtain rfl : i = L.length := by omega
    refine (Any2.slices_Insert_string_end_grow insertLays (some ⟨bs, 0, none⟩) L.length L.length vb 0 1 1 (strV L) [.string s] w (by omega) (by omega) (by omega) (by omega) hcl rfl (fun h => by cases h) (fun a ha j v h => by
      cases ha
      have := hcs j v h
      rw [Addr.add_lit]; exact this) hvs h1v).mono ?_
    rintro e w' ⟨rfl, rfl⟩
    refine ⟨_, rfl, StrRow.of fun j hj => ?_, ((Below.refl _ _).drew).alloc (Nat.le_refl _) _, ?_⟩
    · refine ⟨?_, ?_⟩
      · show (w.drew.alloc _).cell? ⟨w.drew.heap.size, j, none⟩ = _
        have hg := insL_get L L.length s hi j hj
        rw [List.getElem?_eq_getElem hj] at hg
        rw [World.cell?_alloc_new, Array.getElem?_append_left (by simp [strV]; omega)]
        simp only [List.getElem?_toArray, strV]
        rw [List.getElem?_append, List.length_map]
        by_cases h1 : j < L.length
        · rw [if_pos h1] at hg
          rw [if_pos h1, List.getElem?_map, ← hg]; rfl
        · obtain rfl : j = L.length := by omega
          rw [if_neg h1, if_pos rfl] at hg
          rw [if_neg h1, Nat.sub_self]
          rw [← Option.some.inj hg.symm]; rfl
      · exact World.frozen?_alloc_new w.drew _ _ _
    · show w.heap.size < (w.drew.alloc _).heap.size
      simp

end Go.Proofs.Ytnljephojonilaa
