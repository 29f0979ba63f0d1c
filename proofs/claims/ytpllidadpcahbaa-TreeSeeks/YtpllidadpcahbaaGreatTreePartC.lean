/-
  span.part, sheet.isLeaf.
-/
import Derived.Test.YtpllidadpcahbaaGreatBase9C
import Derived.Test.YtpllidadpcahbaaGreatTreeFetchC
namespace Go.Proofs.YtpllidadpcahbaaGreat
open Go.RowKit Go.Sort
set_option linter.unusedVariables false
set_option linter.unusedSimpArgs false

/-- The bounds of a child. -/
def partS (s : SpanV) (F : List EntV) (i : Nat) : SpanV :=
  ⟨if 0 < i then F.getD i s.fr else s.fr, if i + 1 < F.length then F.getD (i + 1) s.tt else s.tt, if i + 1 < F.length then false else s.op⟩

set_option maxHeartbeats 1600000 in
set_option maxRecDepth 60000 in
theorem isLeaf_leaf (n next : Nat) (a : Option Addr) (m c : Nat) (w : World) :
    Calls Tryz.prog 55 #[leafS n next a m c] w fun r w' => r = .returned (.bool true) ∧ Below w.heap.size w w' := by
  unfold leafS
  go_enter Tryz.func55, Tryz.ntmps55
  go_wp2
  go_ret
  exact ⟨by first | rfl | simp, (Below.refl _ _).alloc (Nat.le_refl _) _⟩

set_option maxHeartbeats 1600000 in
set_option maxRecDepth 60000 in
theorem isLeaf_inner (n level : Nat) (a : Option Addr) (m c : Nat) (w : World) (hm : m ≠ 0) :
    Calls Tryz.prog 55 #[innerS n level a m c] w fun r w' => r = .returned (.bool false) ∧ Below w.heap.size w w' := by
  have hm' : ¬ ((m : Int) = 0) := by omega
  unfold innerS
  go_enter Tryz.func55, Tryz.ntmps55
  go_wp2
  go_ret
  exact ⟨by first | rfl | (simp; done) | (simp [hm]; done), (Below.refl _ _).alloc (Nat.le_refl _) _⟩

set_option maxHeartbeats 6400000 in
set_option maxRecDepth 20000 in
theorem part_any (a : Option Addr) (c : Nat) (F : List EntV) (s : SpanV) (i : Nat) (w : World) (hm : EntsAt w a F) (hi : i < F.length) (hl : F.length ≤ 1000000) :
    Calls Tryz.prog 100 #[s.val, .slice a F.length c, .int .i64 i] w fun r w' => r = .returned (partS s F i).val ∧ Below w.heap.size w w' := by
  obtain ⟨b, o, rfl, hb, c0, c1, c2⟩ := hm.ent hi
  have hb1 : b ≠ w.heap.size := by omega
  have hb2 : b ≠ w.heap.size + 1 := by omega
  have hi0 : (0 : Int) ≤ (i : Int) := by omega
  have hi1 : (i : Int) < (F.length : Int) := by omega
  have hw1 : IntKind.i64.wrap ((i : Int) + 1) = (i : Int) + 1 := by rw [IntKind.wrap_i64]; omega
  have hw2 : ((i : Int) + 1).toNat = i + 1 := by omega
  have hi2 : (0 : Int) ≤ (i : Int) + 1 := by omega
  have g1 : F.getD i s.fr = F[i] := by rw [List.getD_eq_getElem?_getD, List.getElem?_eq_getElem hi]; rfl
  unfold partS SpanV.val
  rw [g1]
  obtain ⟨fr, tt, op⟩ := s
  simp only
  by_cases h1 : 0 < i
  · have h1' : (0 : Int) < (i : Int) := by omega
    rw [if_pos h1]
    by_cases h2 : i + 1 < F.length
    · have h2' : (i : Int) + 1 < (F.length : Int) := by omega
      have h2'' : ((i + 1 : Nat) : Int) < (F.length : Int) := by omega
      have g2 : F.getD (i + 1) tt = F[i + 1] := by rw [List.getD_eq_getElem?_getD, List.getElem?_eq_getElem h2]; rfl
      rw [if_pos h2, if_pos h2, g2]
      obtain ⟨b', o', e', _, d0, d1, d2⟩ := hm.ent h2
      simp only [Option.some.injEq, Addr.mk.injEq, and_true] at e'
      obtain ⟨rfl, rfl⟩ := e'
      generalize F[i] = x at *
      generalize F[i + 1] = y at *
      clear hm
      go_enter Tryz.func100, Tryz.ntmps100
      go_wp2
      refine bodyPost_ret (v := .agg #[.string x.key, .int .u32 x.page, .int .i64 x.slot, .string y.key, .int .u32 y.page, .int .i64 y.slot, .bool false]) (by simp [results, Tryz.results100, go_sem]) rfl ⟨rfl, ((Below.refl _ _).alloc (Nat.le_refl _) _).alloc (by simp) _⟩
    · have h2' : ¬ ((i : Int) + 1 < (F.length : Int)) := by omega
      rw [if_neg h2, if_neg h2]
      generalize F[i] = x at *
      clear hm
      go_enter Tryz.func100, Tryz.ntmps100
      go_wp2
      refine bodyPost_ret (v := .agg #[.string x.key, .int .u32 x.page, .int .i64 x.slot, .string tt.key, .int .u32 tt.page, .int .i64 tt.slot, .bool op]) (by simp [results, Tryz.results100, go_sem]) rfl ⟨rfl, ((Below.refl _ _).alloc (Nat.le_refl _) _).alloc (by simp) _⟩
  · have h1' : ¬ ((0 : Int) < (i : Int)) := by omega
    rw [if_neg h1]
    by_cases h2 : i + 1 < F.length
    · have h2' : (i : Int) + 1 < (F.length : Int) := by omega
      have g2 : F.getD (i + 1) tt = F[i + 1] := by rw [List.getD_eq_getElem?_getD, List.getElem?_eq_getElem h2]; rfl
      rw [if_pos h2, if_pos h2, g2]
      obtain ⟨b', o', e', _, d0, d1, d2⟩ := hm.ent h2
      simp only [Option.some.injEq, Addr.mk.injEq, and_true] at e'
      obtain ⟨rfl, rfl⟩ := e'
      generalize F[i + 1] = y at *
      clear hm c0 c1 c2
      go_enter Tryz.func100, Tryz.ntmps100
      go_wp2
      refine bodyPost_ret (v := .agg #[.string fr.key, .int .u32 fr.page, .int .i64 fr.slot, .string y.key, .int .u32 y.page, .int .i64 y.slot, .bool false]) (by simp [results, Tryz.results100, go_sem]) rfl ⟨rfl, ((Below.refl _ _).alloc (Nat.le_refl _) _).alloc (by simp) _⟩
    · have h2' : ¬ ((i : Int) + 1 < (F.length : Int)) := by omega
      rw [if_neg h2, if_neg h2]
      clear hm c0 c1 c2
      go_enter Tryz.func100, Tryz.ntmps100
      go_wp2
      refine bodyPost_ret (v := .agg #[.string fr.key, .int .u32 fr.page, .int .i64 fr.slot, .string tt.key, .int .u32 tt.page, .int .i64 tt.slot, .bool op]) (by simp [results, Tryz.results100, go_sem]) rfl ⟨rfl, ((Below.refl _ _).alloc (Nat.le_refl _) _).alloc (by simp) _⟩

end Go.Proofs.YtpllidadpcahbaaGreat
