/-
  The walks of girderref01.Reader's Text and Bool.
-/
import Derived.Test.YtndfjjcflbpdnaaRefReaderC
namespace Go.Proofs.Ytndfjjcflbpdnaa
open Go.RowKit
set_option linter.unusedVariables false
set_option linter.unusedSimpArgs false

theorem rows_set {w w1 w2 : World} {v0 v1 v2 u0 u1 u2 a0 a1 a2 : Value} (r0 : Row3 w1 w.heap.size v0 v1 v2) (r1 : Row3 w1 (w.heap.size + 1) u0 u1 u2) (bw : Below w.heap.size w w1) (hz : w.heap.size + 1 < w1.heap.size)
    (hb : Below (((w1.setCell ⟨w.heap.size, 0, none⟩ a0).setCell ⟨w.heap.size, 1, none⟩ a1).setCell ⟨w.heap.size, 2, none⟩ a2).heap.size (((w1.setCell ⟨w.heap.size, 0, none⟩ a0).setCell ⟨w.heap.size, 1, none⟩ a1).setCell ⟨w.heap.size, 2, none⟩ a2) w2) :
    Row3 w2 w.heap.size a0 a1 a2 ∧ Row3 w2 (w.heap.size + 1) u0 u1 u2 ∧ Below w.heap.size w w2 ∧ w.heap.size + 1 < w2.heap.size :=
  ⟨(r0.set a0 a1 a2).below hb (by simp; omega), (((r1.setFar (c := w.heap.size) (by omega) 0 a0).setFar (c := w.heap.size) (by omega) 1 a1).setFar (c := w.heap.size) (by omega) 2 a2).below hb (by simp; omega),
    below_chain (below_set3 bw (Nat.le_refl _) a0 a1 a2) hb, by have := hb.size; simp at this; omega⟩

theorem Row3.set5 {w1 : World} {b : Nat} {v0 v1 v2 : Value} (r0 : Row3 w1 b v0 v1 v2) (a0 a1 a2 a3 : Value) :
    Row3 ((((w1.setCell ⟨b, 0, none⟩ a0).setCell ⟨b, 1, none⟩ a1).setCell ⟨b, 2, none⟩ a2).setCell ⟨b, 2, none⟩ a3) b a0 a1 a3 := by
  have r := r0.set a0 a1 a2
  exact ⟨by rw [World.cell?_setCell_other _ _ _ _ (by simp)]; exact r.c0, by rw [World.cell?_setCell_other _ _ _ _ (by simp)]; exact r.c1, World.cell?_setCell_same _ _ _ r.c2, by rw [World.frozen?_setCell]; exact r.f0, by rw [World.frozen?_setCell]; exact r.f1, by rw [World.frozen?_setCell]; exact r.f2⟩

theorem Row3.setAt {w1 : World} {b : Nat} {v0 v1 v2 : Value} (r0 : Row3 w1 b v0 v1 v2) (a0 a1 a2 a3 : Value) :
    Row3 ((((w1.setCell ⟨b, 0, none⟩ a0).setCell ⟨b, 1, none⟩ a1).setCell ⟨b, 2, none⟩ a2).setCell ⟨b, 1, none⟩ a3) b a0 a3 a2 := by
  have r := r0.set a0 a1 a2
  exact ⟨by rw [World.cell?_setCell_other _ _ _ _ (by simp)]; exact r.c0, World.cell?_setCell_same _ _ _ r.c1, by rw [World.cell?_setCell_other _ _ _ _ (by simp)]; exact r.c2, by rw [World.frozen?_setCell]; exact r.f0, by rw [World.frozen?_setCell]; exact r.f1, by rw [World.frozen?_setCell]; exact r.f2⟩

theorem rows_set5 {w w1 w2 : World} {v0 v1 v2 u0 u1 u2 a0 a1 a2 a3 : Value} (r0 : Row3 w1 w.heap.size v0 v1 v2) (r1 : Row3 w1 (w.heap.size + 1) u0 u1 u2) (bw : Below w.heap.size w w1) (hz : w.heap.size + 1 < w1.heap.size)
    (hb : Below ((((w1.setCell ⟨w.heap.size, 0, none⟩ a0).setCell ⟨w.heap.size, 1, none⟩ a1).setCell ⟨w.heap.size, 2, none⟩ a2).setCell ⟨w.heap.size, 2, none⟩ a3).heap.size ((((w1.setCell ⟨w.heap.size, 0, none⟩ a0).setCell ⟨w.heap.size, 1, none⟩ a1).setCell ⟨w.heap.size, 2, none⟩ a2).setCell ⟨w.heap.size, 2, none⟩ a3) w2) :
    Row3 w2 w.heap.size a0 a1 a3 ∧ Row3 w2 (w.heap.size + 1) u0 u1 u2 ∧ Below w.heap.size w w2 ∧ w.heap.size + 1 < w2.heap.size := by
  have r3 := r0.set5 a0 a1 a2 a3
  exact ⟨r3.below hb (by simp; omega), ((((r1.setFar (c := w.heap.size) (by omega) 0 a0).setFar (c := w.heap.size) (by omega) 1 a1).setFar (c := w.heap.size) (by omega) 2 a2).setFar (c := w.heap.size) (by omega) 2 a3).below hb (by simp; omega),
    below_chain ((below_set3 bw (Nat.le_refl _) a0 a1 a2).setCell (p := ⟨w.heap.size, 2, none⟩) (Nat.le_refl _) _) hb, by have := hb.size; simp at this; omega⟩

section
variable {s : ByteArray} {p : Nat} {e : Int} {w : World}

set_option maxHeartbeats 1600000 in
set_option maxRecDepth 60000 in
theorem xtext_stop {e1 e2 : Int} {p1 p2 L : Nat} {l : List UInt8} (hsz : s.size ≤ 140737488351232) (m : Int) (hL : L < 65536) (he1 : (e1 == 0) = false)
    (HT : Hid (∀ wx, Calls Try.prog 47 #[.agg #[.string s, .int .i64 p1, .int .i64 e1], .int .i64 L] wx fun x w' => x = .returned (.tuple #[.agg #[.string s, .int .i64 p2, .int .i64 e2], .string ⟨l.toArray⟩]) ∧ Below wx.heap.size wx w'))
    (HN : Hid (∀ wx, Calls Try.prog 23 #[.agg #[.string s, .int .i64 p, .int .i64 e], .int .i64 2] wx fun x w' => x = .returned (.tuple #[.agg #[.string s, .int .i64 p1, .int .i64 e1], .int .u64 L]) ∧ Below wx.heap.size wx w')) :
    Calls Try.prog 49 #[.agg #[.string s, .int .i64 p, .int .i64 e], .int .i64 m] w fun x w' =>
      x = .returned (.tuple #[.agg #[.string s, .int .i64 (if e2 = 0 then p2 else p : Nat), .int .i64 e2], .string ⟨l.toArray⟩]) ∧ Below w.heap.size w w' := by
  by_cases he2 : e2 = 0
  · subst he2
    rw [if_pos rfl]
    go_enter Try.func49, Try.ntmps49
    go_wp2_with fail
    refine (HN.out _).mono ?_
    rintro x w1 ⟨rfl, hb⟩
    obtain ⟨r0, r1, bw⟩ := two_rows hb
    have hz : w.heap.size + 1 < w1.heap.size := by have := hb.size; simp at this; omega
    obtain ⟨q0, q1, q2, g0, g1, g2⟩ := r0
    clear hb
    go_wp2_with fail
    refine (HT.out _).mono ?_
    rintro x w2 ⟨rfl, hb2⟩
    obtain ⟨r0, r1, bw2, hz2⟩ := rows_set ⟨q0, q1, q2, g0, g1, g2⟩ r1 bw hz hb2
    clear q0 q1 q2 g0 g1 g2 hb2 bw hz
    obtain ⟨q0, q1, q2, g0, g1, g2⟩ := r0
    obtain ⟨z0, z1, z2, y0, y1, y2⟩ := r1
    go_wp2
    refine bodyPost_ret (v := .tuple #[.agg #[.string s, .int .i64 p2, .int .i64 0], .string ⟨l.toArray⟩]) (by simp [results, Try.results49, go_sem, q0, q1, q2, z0, z1, z2]) rfl ⟨rfl, ?_⟩
    exact below_set3 (below_set3 bw2 (Nat.le_refl _) _ _ _) (Nat.le_succ _) _ _ _
  · rw [if_neg he2]
    have he3 : (e2 != 0) = true := by rw [bne_iff_ne]; exact he2
    clear he2
    go_enter Try.func49, Try.ntmps49
    go_wp2_with fail
    refine (HN.out _).mono ?_
    rintro x w1 ⟨rfl, hb⟩
    obtain ⟨r0, r1, bw⟩ := two_rows hb
    have hz : w.heap.size + 1 < w1.heap.size := by have := hb.size; simp at this; omega
    obtain ⟨q0, q1, q2, g0, g1, g2⟩ := r0
    clear hb
    go_wp2_with fail
    refine (HT.out _).mono ?_
    rintro x w2 ⟨rfl, hb2⟩
    obtain ⟨r0, r1, bw2, hz2⟩ := rows_set ⟨q0, q1, q2, g0, g1, g2⟩ r1 bw hz hb2
    clear q0 q1 q2 g0 g1 g2 hb2 bw hz
    obtain ⟨q0, q1, q2, g0, g1, g2⟩ := r0
    obtain ⟨z0, z1, z2, y0, y1, y2⟩ := r1
    have k6 := ((Row3.mk q0 q1 q2 g0 g1 g2).setAt (.string s) (.int .i64 p2) (.int .i64 e2) (.int .i64 p)).c1
    go_wp2
    refine bodyPost_ret (v := .tuple #[.agg #[.string s, .int .i64 p, .int .i64 e2], .string ⟨l.toArray⟩]) (by simp [results, Try.results49, go_sem, q0, q1, q2, z0, z1, z2]) rfl ⟨rfl, ?_⟩
    exact below_set3 ((below_set3 bw2 (Nat.le_refl _) _ _ _).setCell (p := ⟨w.heap.size, 1, none⟩) (Nat.le_refl _) _) (Nat.le_succ _) _ _ _

set_option maxHeartbeats 1600000 in
set_option maxRecDepth 60000 in
theorem xtext_more {e1 e2 : Int} {p1 p2 L : Nat} {l : List UInt8} (hsz : s.size ≤ 140737488351232) (m : Int) (hL : L < 65536) (hm : decide (m < (L : Int)) = true)
    (HT : Hid (∀ wx, Calls Try.prog 47 #[.agg #[.string s, .int .i64 p1, .int .i64 5], .int .i64 L] wx fun x w' => x = .returned (.tuple #[.agg #[.string s, .int .i64 p2, .int .i64 e2], .string ⟨l.toArray⟩]) ∧ Below wx.heap.size wx w'))
    (HN : Hid (∀ wx, Calls Try.prog 23 #[.agg #[.string s, .int .i64 p, .int .i64 e], .int .i64 2] wx fun x w' => x = .returned (.tuple #[.agg #[.string s, .int .i64 p1, .int .i64 0], .int .u64 L]) ∧ Below wx.heap.size wx w')) :
    Calls Try.prog 49 #[.agg #[.string s, .int .i64 p, .int .i64 e], .int .i64 m] w fun x w' =>
      x = .returned (.tuple #[.agg #[.string s, .int .i64 (if e2 = 0 then p2 else p : Nat), .int .i64 e2], .string ⟨l.toArray⟩]) ∧ Below w.heap.size w w' := by
  by_cases he2 : e2 = 0
  · subst he2
    rw [if_pos rfl]
    go_enter Try.func49, Try.ntmps49
    go_wp2_with fail
    refine (HN.out _).mono ?_
    rintro x w1 ⟨rfl, hb⟩
    obtain ⟨r0, r1, bw⟩ := two_rows hb
    have hz : w.heap.size + 1 < w1.heap.size := by have := hb.size; simp at this; omega
    obtain ⟨q0, q1, q2, g0, g1, g2⟩ := r0
    clear hb
    have k5 := (Row3.mk q0 q1 q2 g0 g1 g2).set5 (.string s) (.int .i64 p1) (.int .i64 0) (.int .i64 5)
    have k52 := k5.c2
    clear k5
    go_wp2_with fail
    refine (HT.out _).mono ?_
    rintro x w2 ⟨rfl, hb2⟩
    obtain ⟨r0, r1, bw2, hz2⟩ := rows_set5 ⟨q0, q1, q2, g0, g1, g2⟩ r1 bw hz hb2
    clear q0 q1 q2 g0 g1 g2 hb2 bw hz
    obtain ⟨q0, q1, q2, g0, g1, g2⟩ := r0
    obtain ⟨z0, z1, z2, y0, y1, y2⟩ := r1
    go_wp2
    refine bodyPost_ret (v := .tuple #[.agg #[.string s, .int .i64 p2, .int .i64 0], .string ⟨l.toArray⟩]) (by simp [results, Try.results49, go_sem, q0, q1, q2, z0, z1, z2]) rfl ⟨rfl, ?_⟩
    exact below_set3 (below_set3 bw2 (Nat.le_refl _) _ _ _) (Nat.le_succ _) _ _ _
  · rw [if_neg he2]
    have he3 : (e2 != 0) = true := by rw [bne_iff_ne]; exact he2
    clear he2
    go_enter Try.func49, Try.ntmps49
    go_wp2_with fail
    refine (HN.out _).mono ?_
    rintro x w1 ⟨rfl, hb⟩
    obtain ⟨r0, r1, bw⟩ := two_rows hb
    have hz : w.heap.size + 1 < w1.heap.size := by have := hb.size; simp at this; omega
    obtain ⟨q0, q1, q2, g0, g1, g2⟩ := r0
    clear hb
    have k5 := (Row3.mk q0 q1 q2 g0 g1 g2).set5 (.string s) (.int .i64 p1) (.int .i64 0) (.int .i64 5)
    have k52 := k5.c2
    clear k5
    go_wp2_with fail
    refine (HT.out _).mono ?_
    rintro x w2 ⟨rfl, hb2⟩
    obtain ⟨r0, r1, bw2, hz2⟩ := rows_set5 ⟨q0, q1, q2, g0, g1, g2⟩ r1 bw hz hb2
    clear q0 q1 q2 g0 g1 g2 hb2 bw hz
    obtain ⟨q0, q1, q2, g0, g1, g2⟩ := r0
    obtain ⟨z0, z1, z2, y0, y1, y2⟩ := r1
    have k6 := ((Row3.mk q0 q1 q2 g0 g1 g2).setAt (.string s) (.int .i64 p2) (.int .i64 e2) (.int .i64 p)).c1
    go_wp2
    refine bodyPost_ret (v := .tuple #[.agg #[.string s, .int .i64 p, .int .i64 e2], .string ⟨l.toArray⟩]) (by simp [results, Try.results49, go_sem, q0, q1, q2, z0, z1, z2]) rfl ⟨rfl, ?_⟩
    exact below_set3 ((below_set3 bw2 (Nat.le_refl _) _ _ _).setCell (p := ⟨w.heap.size, 1, none⟩) (Nat.le_refl _) _) (Nat.le_succ _) _ _ _

set_option maxHeartbeats 1600000 in
set_option maxRecDepth 60000 in
theorem xtext_take {e1 e2 : Int} {p1 p2 L : Nat} {l : List UInt8} (hsz : s.size ≤ 140737488351232) (m : Int) (hL : L < 65536) (hm : decide (m < (L : Int)) = false)
    (HT : Hid (∀ wx, Calls Try.prog 47 #[.agg #[.string s, .int .i64 p1, .int .i64 0], .int .i64 L] wx fun x w' => x = .returned (.tuple #[.agg #[.string s, .int .i64 p2, .int .i64 e2], .string ⟨l.toArray⟩]) ∧ Below wx.heap.size wx w'))
    (HN : Hid (∀ wx, Calls Try.prog 23 #[.agg #[.string s, .int .i64 p, .int .i64 e], .int .i64 2] wx fun x w' => x = .returned (.tuple #[.agg #[.string s, .int .i64 p1, .int .i64 0], .int .u64 L]) ∧ Below wx.heap.size wx w')) :
    Calls Try.prog 49 #[.agg #[.string s, .int .i64 p, .int .i64 e], .int .i64 m] w fun x w' =>
      x = .returned (.tuple #[.agg #[.string s, .int .i64 (if e2 = 0 then p2 else p : Nat), .int .i64 e2], .string ⟨l.toArray⟩]) ∧ Below w.heap.size w w' := by
  by_cases he2 : e2 = 0
  · subst he2
    rw [if_pos rfl]
    go_enter Try.func49, Try.ntmps49
    go_wp2_with fail
    refine (HN.out _).mono ?_
    rintro x w1 ⟨rfl, hb⟩
    obtain ⟨r0, r1, bw⟩ := two_rows hb
    have hz : w.heap.size + 1 < w1.heap.size := by have := hb.size; simp at this; omega
    obtain ⟨q0, q1, q2, g0, g1, g2⟩ := r0
    clear hb
    go_wp2_with fail
    refine (HT.out _).mono ?_
    rintro x w2 ⟨rfl, hb2⟩
    obtain ⟨r0, r1, bw2, hz2⟩ := rows_set ⟨q0, q1, q2, g0, g1, g2⟩ r1 bw hz hb2
    clear q0 q1 q2 g0 g1 g2 hb2 bw hz
    obtain ⟨q0, q1, q2, g0, g1, g2⟩ := r0
    obtain ⟨z0, z1, z2, y0, y1, y2⟩ := r1
    go_wp2
    refine bodyPost_ret (v := .tuple #[.agg #[.string s, .int .i64 p2, .int .i64 0], .string ⟨l.toArray⟩]) (by simp [results, Try.results49, go_sem, q0, q1, q2, z0, z1, z2]) rfl ⟨rfl, ?_⟩
    exact below_set3 (below_set3 bw2 (Nat.le_refl _) _ _ _) (Nat.le_succ _) _ _ _
  · rw [if_neg he2]
    have he3 : (e2 != 0) = true := by rw [bne_iff_ne]; exact he2
    clear he2
    go_enter Try.func49, Try.ntmps49
    go_wp2_with fail
    refine (HN.out _).mono ?_
    rintro x w1 ⟨rfl, hb⟩
    obtain ⟨r0, r1, bw⟩ := two_rows hb
    have hz : w.heap.size + 1 < w1.heap.size := by have := hb.size; simp at this; omega
    obtain ⟨q0, q1, q2, g0, g1, g2⟩ := r0
    clear hb
    go_wp2_with fail
    refine (HT.out _).mono ?_
    rintro x w2 ⟨rfl, hb2⟩
    obtain ⟨r0, r1, bw2, hz2⟩ := rows_set ⟨q0, q1, q2, g0, g1, g2⟩ r1 bw hz hb2
    clear q0 q1 q2 g0 g1 g2 hb2 bw hz
    obtain ⟨q0, q1, q2, g0, g1, g2⟩ := r0
    obtain ⟨z0, z1, z2, y0, y1, y2⟩ := r1
    have k6 := ((Row3.mk q0 q1 q2 g0 g1 g2).setAt (.string s) (.int .i64 p2) (.int .i64 e2) (.int .i64 p)).c1
    go_wp2
    refine bodyPost_ret (v := .tuple #[.agg #[.string s, .int .i64 p, .int .i64 e2], .string ⟨l.toArray⟩]) (by simp [results, Try.results49, go_sem, q0, q1, q2, z0, z1, z2]) rfl ⟨rfl, ?_⟩
    exact below_set3 ((below_set3 bw2 (Nat.le_refl _) _ _ _).setCell (p := ⟨w.heap.size, 1, none⟩) (Nat.le_refl _) _) (Nat.le_succ _) _ _ _


theorem numN {p1 L : Nat} {e1 : Int} (hsz : s.size ≤ 140737488351232) (hle : p ≤ s.size) (h : numF s p e 2 = (p1, e1, L)) :
    Hid (∀ wx, Calls Try.prog 23 #[.agg #[.string s, .int .i64 p, .int .i64 e], .int .i64 2] wx fun x w' => x = .returned (.tuple #[.agg #[.string s, .int .i64 p1, .int .i64 e1], .int .u64 L]) ∧ Below wx.heap.size wx w') := fun wx => by
  have := xnumber_any (w := wx) (e := e) hsz hle 2 (by decide)
  rw [h] at this
  exact this

theorem takeN {p2 n : Nat} {e2 : Int} {l : List UInt8} (hsz : s.size ≤ 140737488351232) (hle : p ≤ s.size) (hn : n < 65536) (h : bytesF s p e n = (p2, e2, l)) :
    Hid (∀ wx, Calls Try.prog 47 #[.agg #[.string s, .int .i64 p, .int .i64 e], .int .i64 n] wx fun x w' => x = .returned (.tuple #[.agg #[.string s, .int .i64 p2, .int .i64 e2], .string ⟨l.toArray⟩]) ∧ Below wx.heap.size wx w') := fun wx => by
  have := xtake_any (w := wx) (e := e) hsz hle n (by omega)
  rw [h] at this
  exact this

theorem xtext_any (hsz : s.size ≤ 140737488351232) (hle : p ≤ s.size) (m : Int) :
    Calls Try.prog 49 #[.agg #[.string s, .int .i64 p, .int .i64 e], .int .i64 m] w fun x w' =>
      x = .returned (.tuple #[.agg #[.string s, .int .i64 (textF s p e m).1, .int .i64 (textF s p e m).2.1], .string ⟨(textF s p e m).2.2.toArray⟩]) ∧ Below w.heap.size w w' := by
  by_cases he : e = 0
  · subst he
    by_cases hc : s.size < p + 2
    · have h := xtext_stop (w := w) (e := 0) (p := p) (e1 := 4) (e2 := 4) (p1 := p) (p2 := p) (L := 0) (l := []) hsz m (by decide) (by decide)
        (takeN hsz hle (by decide) (bytesF_err (by decide) _)) (numN hsz hle (numF_cut 2 (by decide) hc))
      rw [textF_cut m hc]
      exact h
    · have hn : numF s p 0 2 = (p + 2, 0, le (part s p 2)) := numF_ok 2 (by decide) (by omega)
      have hL : le (part s p 2) < 65536 := le_lt_of (l := part s p 2) (n := 2) (by rw [part_length (by omega)]; omega)
      by_cases hm : m < (le (part s p 2) : Int)
      · have h := xtext_more (w := w) (e := 0) (p := p) (e1 := 0) (e2 := 5) (p1 := p + 2) (p2 := p + 2) (L := le (part s p 2)) (l := []) hsz m hL (by simpa using hm)
          (takeN hsz (by omega) hL (bytesF_err (by decide) _)) (numN hsz hle hn)
        rw [textF_more m (by omega) hm]
        exact h
      · by_cases hd : s.size < p + 2 + le (part s p 2)
        · have h := xtext_take (w := w) (e := 0) (p := p) (e1 := 0) (e2 := 4) (p1 := p + 2) (p2 := p + 2) (L := le (part s p 2)) (l := []) hsz m hL (by simpa using hm)
            (takeN hsz (by omega) hL (bytesF_cut _ hd)) (numN hsz hle hn)
          rw [textF_cut2 m (by omega) (by omega) hd]
          exact h
        · have h := xtext_take (w := w) (e := 0) (p := p) (e1 := 0) (e2 := 0) (p1 := p + 2) (p2 := p + 2 + le (part s p 2)) (L := le (part s p 2)) (l := part s (p + 2) (le (part s p 2))) hsz m hL (by simpa using hm)
            (takeN hsz (by omega) hL (bytesF_ok _ (by omega))) (numN hsz hle hn)
          rw [textF_ok m (by omega) (by omega)]
          exact h
  · have h := xtext_stop (w := w) (e := e) (p := p) (e1 := e) (e2 := e) (p1 := p) (p2 := p) (L := 0) (l := []) hsz m (by decide) (by rw [beq_eq_false_iff_ne]; exact he)
      (takeN hsz hle (by decide) (bytesF_err he _)) (numN hsz hle (numF_err he _))
    rw [if_neg he] at h
    rw [textF_err he]
    exact h

set_option maxHeartbeats 800000 in
set_option maxRecDepth 60000 in
theorem xbool_any (hsz : s.size ≤ 140737488351232) (hle : p ≤ s.size) :
    Calls Try.prog 50 #[.agg #[.string s, .int .i64 p, .int .i64 e]] w fun x w' =>
      x = .returned (.tuple #[.agg #[.string s, .int .i64 (boolF s p e).1, .int .i64 (boolF s p e).2.1], .bool (boolF s p e).2.2]) ∧ Below w.heap.size w w' := by
  by_cases he : e = 0
  · subst he
    by_cases hc : s.size < p + 1
    · rw [boolF_cut hc]
      have HT := takeN (p := p) (e := 0) (n := 1) hsz hle (by decide) (bytesF_cut _ hc)
      go_enter Try.func50, Try.ntmps50
      go_wp2_with fail
      refine (HT.out _).mono ?_
      rintro x w1 ⟨rfl, hb⟩
      obtain ⟨r0, r1, bw⟩ := two_rows hb
      have hz : w.heap.size + 1 < w1.heap.size := by have := hb.size; simp at this; omega
      obtain ⟨q0, q1, q2, g0, g1, g2⟩ := r0
      obtain ⟨z0, z1, z2, y0, y1, y2⟩ := r1
      clear hb
      go_wp2_with fail
      go_region
      all_goals go_wp2
      refine bodyPost_ret (v := .tuple #[.agg #[.string s, .int .i64 p, .int .i64 4], .bool false]) (by simp [results, Try.results50, go_sem, z0, z1, z2, hz]) rfl ⟨?_, ?_⟩
      · rfl
      · exact ((below_set3 bw (Nat.le_succ _) _ _ _).alloc (by simp; omega) _).drew
    · obtain ⟨c, hl⟩ : ∃ c : UInt8, part s p 1 = [c] := ⟨s[p + 0], by rw [show (1 : Nat) = 0 + 1 from rfl, part_snoc (by omega)]; simp [part]⟩
      have hT := takeN (p := p) (e := 0) (n := 1) hsz hle (by decide) (bytesF_ok _ (by omega))
      have hle1 : le (part s p 1) = c.toNat := by rw [hl]; simp [le]
      rw [hl] at hT
      have HT : Hid (∀ wx, Calls Try.prog 47 #[.agg #[.string s, .int .i64 p, .int .i64 0], .int .i64 1] wx fun x w' => x = .returned (.tuple #[.agg #[.string s, .int .i64 ((p + 1 : Nat) : Int), .int .i64 0], .string ⟨#[c]⟩]) ∧ Below wx.heap.size wx w') := hT
      clear hT
      have hix : ∀ wx, (Instr.index 9 (.string ⟨#[c]⟩) (.int .i64 0)).run Try.prog wx = .ok (.int .u8 c.toNat) wx := fun _ => by kernel_rfl
      by_cases hm : 1 < c.toNat
      · rw [boolF_form (by omega) (by omega)]
        clear hl hle1
        go_enter Try.func50, Try.ntmps50
        go_wp2_with fail
        refine (HT.out _).mono ?_
        rintro x w1 ⟨rfl, hb⟩
        obtain ⟨r0, r1, bw⟩ := two_rows hb
        have hz : w.heap.size + 1 < w1.heap.size := by have := hb.size; simp at this; omega
        obtain ⟨q0, q1, q2, g0, g1, g2⟩ := r0
        obtain ⟨z0, z1, z2, y0, y1, y2⟩ := r1
        clear hb
        have hz0 : w.heap.size < w1.heap.size := by omega
        have k6 : ((w1.setCell ⟨w.heap.size, 2, none⟩ (.int .i64 6))).cell? ⟨w.heap.size, 2, none⟩ = some (.int .i64 6) := World.cell?_setCell_same _ _ _ q2
        go_wp2
        refine bodyPost_ret (v := .tuple #[.agg #[.string s, .int .i64 p, .int .i64 6], .bool false]) (by simp [results, Try.results50, go_sem, z0, z1, z2, hz, hz0]) rfl ⟨?_, ?_⟩
        · rfl
        · exact (below_set3 (bw.setCell (p := ⟨w.heap.size, 2, none⟩) (Nat.le_refl _) _) (Nat.le_succ _) _ _ _).alloc (by simp; omega) _
      · rw [boolF_ok (by omega) (by omega), hle1]
        clear hl hle1
        go_enter Try.func50, Try.ntmps50
        go_wp2_with fail
        refine (HT.out _).mono ?_
        rintro x w1 ⟨rfl, hb⟩
        obtain ⟨r0, r1, bw⟩ := two_rows hb
        have hz : w.heap.size + 1 < w1.heap.size := by have := hb.size; simp at this; omega
        obtain ⟨q0, q1, q2, g0, g1, g2⟩ := r0
        obtain ⟨z0, z1, z2, y0, y1, y2⟩ := r1
        clear hb
        have hz0 : w.heap.size < w1.heap.size := by omega
        have hbe : ((c.toNat : Int) == 1) = (c.toNat == 1) := by rw [Bool.eq_iff_iff]; simp; omega
        go_wp2_with fail
        go_region
        go_wp2
        refine bodyPost_ret (v := .tuple #[.agg #[.string s, .int .i64 ((p : Int) + 1), .int .i64 0], .bool (c.toNat == 1)]) (by simp [results, Try.results50, go_sem, z0, z1, z2, hz, hz0]) rfl ⟨?_, ?_⟩
        · rfl
        · exact ((below_set3 bw (Nat.le_succ _) _ _ _).alloc (by simp; omega) _).drew
  · rw [boolF_err he]
    have HT := takeN (p := p) (e := e) (n := 1) hsz hle (by decide) (bytesF_err he _)
    have h1 : (e == 0) = false := by rw [beq_eq_false_iff_ne]; exact he
    go_enter Try.func50, Try.ntmps50
    go_wp2_with fail
    refine (HT.out _).mono ?_
    rintro x w1 ⟨rfl, hb⟩
    obtain ⟨r0, r1, bw⟩ := two_rows hb
    have hz : w.heap.size + 1 < w1.heap.size := by have := hb.size; simp at this; omega
    obtain ⟨q0, q1, q2, g0, g1, g2⟩ := r0
    obtain ⟨z0, z1, z2, y0, y1, y2⟩ := r1
    clear hb
    go_wp2_with fail
    go_region
    all_goals go_wp2
    refine bodyPost_ret (v := .tuple #[.agg #[.string s, .int .i64 p, .int .i64 e], .bool false]) (by simp [results, Try.results50, go_sem, z0, z1, z2, hz]) rfl ⟨?_, ?_⟩
    · rfl
    · exact ((below_set3 bw (Nat.le_succ _) _ _ _).alloc (by simp; omega) _).drew

end
end Go.Proofs.Ytndfjjcflbpdnaa
