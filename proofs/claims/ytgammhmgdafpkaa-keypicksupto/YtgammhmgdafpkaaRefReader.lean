/-
  The walks of girderref01.Reader's methods: the same plain functions of the text, the place and the error.
-/
import Derived.Test.YtgammhmgdafpkaaReaderMore
namespace Go.Proofs.Ytgammhmgdafpkaa
open Go.RowKit
set_option linter.unusedVariables false

section
variable {s : ByteArray} {p : Nat} {e : Int} {w : World}

set_option maxHeartbeats 400000 in
theorem xtake_any (hsz : s.size ≤ 140737488351232) (hle : p ≤ s.size) (n : Int) (hi : n ≤ 9223372036854775807) :
    Calls Try.prog 30 #[.agg #[.string s, .int .i64 p, .int .i64 e], .int .i64 n] w fun x w' =>
      x = .returned (.tuple #[.agg #[.string s, .int .i64 (bytesF s p e n).1, .int .i64 (bytesF s p e n).2.1], .string ⟨(bytesF s p e n).2.2.toArray⟩]) ∧ Below w.heap.size w w' := by
  have B2 : ∀ a b, Below w.heap.size w ((w.alloc a).alloc b) := fun a b => ((Below.refl _ _).alloc (Nat.le_refl _) a).alloc (by simp) b
  by_cases he : e = 0
  · subst he
    by_cases hn : n < 0
    · rw [bytesF_arg n hn]
      go_enter Try.func30, Try.ntmps30
      go_wp2
      exact bodyPost_ret (v := .tuple #[.agg #[.string s, .int .i64 p, .int .i64 1], .string ⟨#[]⟩]) (by simp [results, Try.results30, go_sem]) rfl ⟨rfl, B2 _ _⟩
    · obtain ⟨n, rfl⟩ := Int.eq_ofNat_of_zero_le (show 0 ≤ n by omega)
      by_cases hc : s.size < p + n
      · rw [bytesF_cut n hc]
        go_enter Try.func30, Try.ntmps30
        go_wp2
        exact bodyPost_ret (v := .tuple #[.agg #[.string s, .int .i64 p, .int .i64 4], .string ⟨#[]⟩]) (by simp [results, Try.results30, go_sem]) rfl ⟨rfl, B2 _ _⟩
      · rw [bytesF_ok n (by omega)]
        have hw2 : IntKind.i64.wrap (p : Int) = (p : Int) := by rw [IntKind.wrap_i64]; omega
        have hsl := fun wx => run_slice_string (P := Try.prog) wx 9 s .i64 .i64 (p : Int) ((p : Int) + (n : Int)) Try.underlying9 (by omega) (by omega) (by omega)
        rw [show ((p : Int)).toNat = p from by omega, show ((p : Int) + (n : Int)).toNat = p + n from by omega] at hsl
        go_enter Try.func30, Try.ntmps30
        go_wp2
        go_region_held3 (fun w' => w'.cell? ⟨w.heap.size, 0, none⟩ = some (.string s) ∧ w'.cell? ⟨w.heap.size, 1, none⟩ = some (.int .i64 ((p : Int) + (n : Int))) ∧ w'.cell? ⟨w.heap.size, 2, none⟩ = some (.int .i64 0)) (go_keep) (fail)
        go_wp2
        refine bodyPost_ret (v := .tuple #[.agg #[.string s, .int .i64 ((p : Int) + (n : Int)), .int .i64 0], .string (s.extract p (p + n))]) (by simp [results, Try.results30, go_sem]) rfl ⟨?_, (B2 _ _).drew⟩
        rw [part_extract]; rfl
  · rw [bytesF_err he]
    have h1 : (e != 0) = true := by rw [bne_iff_ne]; exact he
    go_enter Try.func30, Try.ntmps30
    go_wp2
    exact bodyPost_ret (v := .tuple #[.agg #[.string s, .int .i64 p, .int .i64 e], .string ⟨#[]⟩]) (by simp [results, Try.results30, go_sem]) rfl ⟨rfl, B2 _ _⟩

theorem bytesF_len (n : Int) (hn : n ≤ 8) (hle : p ≤ s.size) : (bytesF s p e n).2.2.length ≤ 8 := by
  unfold bytesF
  split
  · simp
  · split
    · simp
    · split
      · simp
      · rw [part_length (by omega)]; omega

theorem numF_bytes (n : Int) (h : ¬ (e = 0 ∧ (n < 0 ∨ 8 < n))) : numF s p e n = ((bytesF s p e n).1, (bytesF s p e n).2.1, le (bytesF s p e n).2.2) := by
  unfold numF bytesF
  by_cases he : e = 0
  · subst he
    have h1 : ¬ (n < 0 ∨ 8 < n) := fun x => h ⟨rfl, x⟩
    have h2 : ¬ n < 0 := by omega
    simp only [ne_eq, not_true_eq_false, if_false, if_neg h1, if_neg h2]
    split
    · rfl
    · rfl
  · simp only [ne_eq, he, not_false_eq_true, if_true]
    rfl

/-- Three cells of block b, that may be written. -/
structure Row3 (w : World) (b : Nat) (v0 v1 v2 : Value) : Prop where
  c0 : w.cell? ⟨b, 0, none⟩ = some v0
  c1 : w.cell? ⟨b, 1, none⟩ = some v1
  c2 : w.cell? ⟨b, 2, none⟩ = some v2
  f0 : w.frozen? ⟨b, 0, none⟩ = false
  f1 : w.frozen? ⟨b, 1, none⟩ = false
  f2 : w.frozen? ⟨b, 2, none⟩ = false

theorem Row3.new (w : World) (v0 v1 v2 : Value) (t : TypeId) : Row3 (w.alloc (.cells #[v0, v1, v2] t)) w.heap.size v0 v1 v2 :=
  ⟨by simp, by simp, by simp, by simp, by simp, by simp⟩

theorem Row3.below {W w1 : World} {b B : Nat} {v0 v1 v2 : Value} (h : Row3 W b v0 v1 v2) (k : Below B W w1) (hb : b < B) : Row3 w1 b v0 v1 v2 :=
  ⟨(k.cell (p := ⟨b, 0, none⟩) hb).trans h.c0, (k.cell (p := ⟨b, 1, none⟩) hb).trans h.c1, (k.cell (p := ⟨b, 2, none⟩) hb).trans h.c2,
    (k.frozen (p := ⟨b, 0, none⟩) hb).trans h.f0, (k.frozen (p := ⟨b, 1, none⟩) hb).trans h.f1, (k.frozen (p := ⟨b, 2, none⟩) hb).trans h.f2⟩

theorem Row3.setFar {W : World} {b : Nat} {v0 v1 v2 : Value} (h : Row3 W b v0 v1 v2) {c : Nat} (hc : c ≠ b) (i : Nat) (v : Value) : Row3 (W.setCell ⟨c, i, none⟩ v) b v0 v1 v2 := by
  have e : ∀ j, (W.setCell ⟨c, i, none⟩ v).cell? ⟨b, j, none⟩ = W.cell? ⟨b, j, none⟩ := fun j => World.cell?_setCell_other _ _ _ _ (by intro x; exact hc (by simpa using congrArg Addr.block x))
  exact ⟨(e 0).trans h.c0, (e 1).trans h.c1, (e 2).trans h.c2, by rw [World.frozen?_setCell]; exact h.f0, by rw [World.frozen?_setCell]; exact h.f1, by rw [World.frozen?_setCell]; exact h.f2⟩

theorem Row3.set {W : World} {b : Nat} {v0 v1 v2 : Value} (h : Row3 W b v0 v1 v2) (u0 u1 u2 : Value) :
    Row3 (((W.setCell ⟨b, 0, none⟩ u0).setCell ⟨b, 1, none⟩ u1).setCell ⟨b, 2, none⟩ u2) b u0 u1 u2 := by
  have n01 : (⟨b, 0, none⟩ : Addr) ≠ ⟨b, 1, none⟩ := by simp
  have n02 : (⟨b, 0, none⟩ : Addr) ≠ ⟨b, 2, none⟩ := by simp
  have n12 : (⟨b, 1, none⟩ : Addr) ≠ ⟨b, 2, none⟩ := by simp
  refine ⟨?_, ?_, ?_, by simp [h.f0], by simp [h.f1], by simp [h.f2]⟩
  · rw [World.cell?_setCell_other _ _ _ _ n02.symm, World.cell?_setCell_other _ _ _ _ n01.symm]
    exact World.cell?_setCell_same _ _ _ h.c0
  · rw [World.cell?_setCell_other _ _ _ _ n12.symm]
    exact World.cell?_setCell_same (u := v1) _ _ _ (by rw [World.cell?_setCell_other _ _ _ _ n01]; exact h.c1)
  · exact World.cell?_setCell_same (u := v2) _ _ _ (by rw [World.cell?_setCell_other _ _ _ _ n12, World.cell?_setCell_other _ _ _ _ n02]; exact h.c2)

theorem below_set3 {B b : Nat} {w W : World} (h : Below B w W) (hb : B ≤ b) (u0 u1 u2 : Value) : Below B w (((W.setCell ⟨b, 0, none⟩ u0).setCell ⟨b, 1, none⟩ u1).setCell ⟨b, 2, none⟩ u2) :=
  ((h.setCell (p := ⟨b, 0, none⟩) hb _).setCell (p := ⟨b, 1, none⟩) hb _).setCell (p := ⟨b, 2, none⟩) hb _

theorem two_rows {w w1 : World} {v0 v1 v2 u0 u1 u2 : Value} {t u : TypeId} (hb : Below ((w.alloc (.cells #[v0, v1, v2] t)).alloc (.cells #[u0, u1, u2] u)).heap.size ((w.alloc (.cells #[v0, v1, v2] t)).alloc (.cells #[u0, u1, u2] u)) w1) :
    Row3 w1 w.heap.size v0 v1 v2 ∧ Row3 w1 (w.heap.size + 1) u0 u1 u2 ∧ Below w.heap.size w w1 := by
  have k : Below (w.heap.size + 1) (w.alloc (.cells #[v0, v1, v2] t)) ((w.alloc (.cells #[v0, v1, v2] t)).alloc (.cells #[u0, u1, u2] u)) := (Below.refl _ _).alloc (by simp) _
  refine ⟨((Row3.new w v0 v1 v2 t).below k (by omega)).below hb (by simp; omega), ?_, below_chain (((Below.refl _ _).alloc (Nat.le_refl _) _).alloc (by simp) _) hb⟩
  have r := (Row3.new (w.alloc (.cells #[v0, v1, v2] t)) u0 u1 u2 u).below hb (by simp)
  simpa using r

theorem keepB {W w1 : World} (hb : Below W.heap.size W w1) : (∀ b o, b < W.heap.size → w1.cell? ⟨b, o, none⟩ = W.cell? ⟨b, o, none⟩) ∧ (∀ b o, b < W.heap.size → w1.frozen? ⟨b, o, none⟩ = W.frozen? ⟨b, o, none⟩) :=
  ⟨fun b o h => hb.cell (p := ⟨b, o, none⟩) h, fun b o h => hb.frozen (p := ⟨b, o, none⟩) h⟩

set_option maxHeartbeats 800000 in
theorem xnumber_plain (hsz : s.size ≤ 140737488351232) (hle : p ≤ s.size) (n : Int) (hi : n ≤ 9223372036854775807) (h : ¬ (e = 0 ∧ (n < 0 ∨ 8 < n))) (hl8 : (bytesF s p e n).2.2.length ≤ 8) :
    Calls Try.prog 29 #[.agg #[.string s, .int .i64 p, .int .i64 e], .int .i64 n] w fun x w' =>
      x = .returned (.tuple #[.agg #[.string s, .int .i64 (numF s p e n).1, .int .i64 (numF s p e n).2.1], .int .u64 (numF s p e n).2.2]) ∧ Below w.heap.size w w' := by
  rw [numF_bytes n h]
  have HT : Hid (∀ wx, Calls Try.prog 30 #[.agg #[.string s, .int .i64 p, .int .i64 e], .int .i64 n] wx fun x w' =>
      x = .returned (.tuple #[.agg #[.string s, .int .i64 (bytesF s p e n).1, .int .i64 (bytesF s p e n).2.1], .string ⟨(bytesF s p e n).2.2.toArray⟩]) ∧ Below wx.heap.size wx w') := fun wx => xtake_any hsz hle n hi
  generalize (bytesF s p e n).1 = p' at *
  generalize (bytesF s p e n).2.1 = e' at *
  generalize (bytesF s p e n).2.2 = l at *
  have hb0 : (e == 0) = true ∧ decide (n < 0) = false ∧ decide (8 < n) = false ∨ (e == 0) = false := by
    by_cases he : e = 0
    · left; exact ⟨by rw [he]; rfl, by simp; omega, by simp; omega⟩
    · right; rw [beq_eq_false_iff_ne]; exact he
  clear h
  have B2 : ∀ a b, Below w.heap.size w ((w.alloc a).alloc b) := fun a b => ((Below.refl _ _).alloc (Nat.le_refl _) a).alloc (by simp) b
  have hnum : ∀ wx, Calls Try.prog 44 #[.string ⟨l.toArray⟩] wx fun x w' => x = .returned (.int .u64 (le l)) ∧ w' = wx := fun wx => by
    have := rnumber_any ⟨l.toArray⟩ wx (by rw [bytes_size]; exact hl8)
    simpa using this
  have HN : Hid (∀ wx, Calls Try.prog 44 #[.string ⟨l.toArray⟩] wx fun x w' => x = .returned (.int .u64 (le l)) ∧ w' = wx) := hnum
  clear hnum
  rcases hb0 with ⟨h1, h2, h3⟩ | h1
  all_goals
    go_enter Try.func29, Try.ntmps29
    go_wp2_with fail
    refine (HT.out _).mono ?_
    rintro x w1 ⟨rfl, hb⟩
    obtain ⟨r0, r1, bw⟩ := two_rows hb
    obtain ⟨q0, q1, q2, g0, g1, g2⟩ := r0
    go_wp2_with fail
    replace r0 := (Row3.mk q0 q1 q2 g0 g1 g2).set (.string s) (.int .i64 p') (.int .i64 e')
    replace r1 := ((r1.setFar (c := w.heap.size) (by omega) 0 (.string s)).setFar (c := w.heap.size) (by omega) 1 (.int .i64 p')).setFar (c := w.heap.size) (by omega) 2 (.int .i64 e')
    replace bw := below_set3 bw (Nat.le_refl _) (.string s) (.int .i64 p') (.int .i64 e')
    generalize ((w1.setCell ⟨w.heap.size, 0, none⟩ (.string s)).setCell ⟨w.heap.size, 1, none⟩ (.int .i64 p')).setCell ⟨w.heap.size, 2, none⟩ (.int .i64 e') = W2 at *
    clear q0 q1 q2 g0 g1 g2 hb
    obtain ⟨q0, q1, q2, g0, g1, g2⟩ := r0
    obtain ⟨z0, z1, z2, y0, y1, y2⟩ := r1
    go_region_held3 (fun w' => w'.cell? ⟨w.heap.size, 0, none⟩ = some (.string s) ∧ w'.cell? ⟨w.heap.size, 1, none⟩ = some (.int .i64 p') ∧ w'.cell? ⟨w.heap.size, 2, none⟩ = some (.int .i64 e')) (go_keep)
      (first | (go_at_call 44; refine (HN.out _).mono ?_; rintro x w3 ⟨rfl, rfl⟩))
    go_wp2
    refine bodyPost_ret (v := .tuple #[.agg #[.string s, .int .i64 p', .int .i64 e'], .int .u64 (le l)]) (by simp [results, Try.results29, go_sem, z0, z1, z2]) rfl ⟨rfl, ?_⟩
    exact (below_set3 bw (b := w.heap.size + 1) (by omega) _ _ _).drew

set_option maxHeartbeats 800000 in
theorem xnumber_bad (hsz : s.size ≤ 140737488351232) (hle : p ≤ s.size) (n : Int) (hi : n ≤ 9223372036854775807) (h : n < 0 ∨ 8 < n) :
    Calls Try.prog 29 #[.agg #[.string s, .int .i64 p, .int .i64 0], .int .i64 n] w fun x w' =>
      x = .returned (.tuple #[.agg #[.string s, .int .i64 (numF s p 0 n).1, .int .i64 (numF s p 0 n).2.1], .int .u64 (numF s p 0 n).2.2]) ∧ Below w.heap.size w w' := by
  rw [numF_arg n h]
  have ht : ∀ wx, Calls Try.prog 30 #[.agg #[.string s, .int .i64 p, .int .i64 1], .int .i64 n] wx fun x w' =>
      x = .returned (.tuple #[.agg #[.string s, .int .i64 p, .int .i64 1], .string ⟨#[]⟩]) ∧ Below wx.heap.size wx w' := fun wx => by
    have := xtake_any (w := wx) (e := 1) hsz hle n hi
    rw [bytesF_err (by decide)] at this
    exact this
  obtain ⟨p', hp'⟩ : ∃ p' : Nat, p' = p := ⟨p, rfl⟩
  obtain ⟨e', he'⟩ : ∃ e' : Int, e' = 1 := ⟨1, rfl⟩
  have hnum : ∀ wx, Calls Try.prog 44 #[.string ⟨#[]⟩] wx fun x w' => x = .returned (.int .u64 (le [])) ∧ w' = wx := fun wx => by
    have := rnumber_any ⟨#[]⟩ wx (by decide)
    simpa using this
  rw [show (p, (1 : Int), 0) = (p', e', le []) from by rw [hp', he']; rfl]
  have ht2 : ∀ wx, Calls Try.prog 30 #[.agg #[.string s, .int .i64 p, .int .i64 1], .int .i64 n] wx fun x w' =>
      x = .returned (.tuple #[.agg #[.string s, .int .i64 p', .int .i64 e'], .string ⟨#[]⟩]) ∧ Below wx.heap.size wx w' := by rw [hp', he']; exact ht
  have HT : Hid (∀ wx, Calls Try.prog 30 #[.agg #[.string s, .int .i64 p, .int .i64 1], .int .i64 n] wx fun x w' =>
      x = .returned (.tuple #[.agg #[.string s, .int .i64 p', .int .i64 e'], .string ⟨#[]⟩]) ∧ Below wx.heap.size wx w') := ht2
  have HN : Hid (∀ wx, Calls Try.prog 44 #[.string ⟨#[]⟩] wx fun x w' => x = .returned (.int .u64 (le [])) ∧ w' = wx) := hnum
  clear hnum ht ht2 hp' he'
  generalize le [] = L at *
  have hb0 : decide (n < 0) = true ∨ decide (n < 0) = false ∧ decide (8 < n) = true := by
    by_cases hn : n < 0
    · left; simpa using hn
    · right; exact ⟨by simp; omega, by simp; omega⟩
  clear h
  rcases hb0 with h2 | ⟨h2, h3⟩
  all_goals
    go_enter Try.func29, Try.ntmps29
    go_wp2_with fail
    refine (HT.out _).mono ?_
    rintro x w1 ⟨rfl, hb⟩
    obtain ⟨r0, r1, bw⟩ := two_rows hb
    obtain ⟨q0, q1, q2, g0, g1, g2⟩ := r0
    go_wp2_with fail
    replace r0 := (Row3.mk q0 q1 q2 g0 g1 g2).set (.string s) (.int .i64 p') (.int .i64 e')
    replace r1 := ((r1.setFar (c := w.heap.size) (by omega) 0 (.string s)).setFar (c := w.heap.size) (by omega) 1 (.int .i64 p')).setFar (c := w.heap.size) (by omega) 2 (.int .i64 e')
    replace bw := below_set3 bw (Nat.le_refl _) (.string s) (.int .i64 p') (.int .i64 e')
    generalize ((w1.setCell ⟨w.heap.size, 0, none⟩ (.string s)).setCell ⟨w.heap.size, 1, none⟩ (.int .i64 p')).setCell ⟨w.heap.size, 2, none⟩ (.int .i64 e') = W2 at *
    clear q0 q1 q2 g0 g1 g2 hb
    obtain ⟨q0, q1, q2, g0, g1, g2⟩ := r0
    obtain ⟨z0, z1, z2, y0, y1, y2⟩ := r1
    go_region_held3 (fun w' => w'.cell? ⟨w.heap.size, 0, none⟩ = some (.string s) ∧ w'.cell? ⟨w.heap.size, 1, none⟩ = some (.int .i64 p') ∧ w'.cell? ⟨w.heap.size, 2, none⟩ = some (.int .i64 e')) (go_keep)
      (first | (go_at_call 44; refine (HN.out _).mono ?_; rintro x w3 ⟨rfl, rfl⟩))
    go_wp2
    refine bodyPost_ret (v := .tuple #[.agg #[.string s, .int .i64 p', .int .i64 e'], .int .u64 L]) (by simp [results, Try.results29, go_sem, z0, z1, z2]) rfl ⟨rfl, ?_⟩
    exact (below_set3 bw (b := w.heap.size + 1) (by omega) _ _ _).drew

theorem xnumber_any (hsz : s.size ≤ 140737488351232) (hle : p ≤ s.size) (n : Int) (hi : n ≤ 9223372036854775807) :
    Calls Try.prog 29 #[.agg #[.string s, .int .i64 p, .int .i64 e], .int .i64 n] w fun x w' =>
      x = .returned (.tuple #[.agg #[.string s, .int .i64 (numF s p e n).1, .int .i64 (numF s p e n).2.1], .int .u64 (numF s p e n).2.2]) ∧ Below w.heap.size w w' := by
  by_cases h : e = 0 ∧ (n < 0 ∨ 8 < n)
  · obtain ⟨rfl, h⟩ := h
    exact xnumber_bad hsz hle n hi h
  · refine xnumber_plain hsz hle n hi h ?_
    by_cases he : e = 0
    · exact bytesF_len n (by omega) hle
    · rw [bytesF_err he]; simp

end
end Go.Proofs.Ytgammhmgdafpkaa
