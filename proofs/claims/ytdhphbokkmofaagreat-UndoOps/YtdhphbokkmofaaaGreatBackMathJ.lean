/-
  What a change does to a page that fits, as plain data; its inverse leads back.
-/
import Derived.Test.YtdhphbokkmofaaaGreatPageSetJ
set_option linter.unusedVariables false
set_option linter.unusedSimpArgs false
namespace Go.Proofs.YtdhphbokkmofaaaGreat
open Go.RowKit Go.Sort

def doE (p : SheetV) (o : OpV) : Int :=
  if o.kind = 2 then insE p o else if o.kind = 3 then standE p o else if o.kind = 4 then setE p o else if o.kind = 5 then headE p o else if o.kind = 6 then putE p o else turnE p o

def doQ (p : SheetV) (o : OpV) : SheetV :=
  if o.kind = 2 then { p with slots := insL p.slots o.at'.toNat o.S } else
  if o.kind = 3 then { p with slots := p.slots.eraseIdx o.at'.toNat } else
  if o.kind = 4 then { p with slots := p.slots.set o.at'.toNat o.S } else
  if o.kind = 5 then { p with head := o.S } else
  if o.kind = 6 then { p with slots := p.slots.set 0 (putS (p.slots.getD 0 ByteArray.empty) o.at'.toNat o.S) } else
  { p with kind := ((o.S.data.toList.getD 0 0).toNat : Int), head := o.S.extract 1 o.S.size }

def invO (o : OpV) : OpV :=
  if o.kind = 1 then ⟨1, 0, ⟨#[]⟩, ⟨#[]⟩⟩ else
  if o.kind = 2 then ⟨3, o.at', ⟨#[]⟩, o.S⟩ else
  if o.kind = 3 then ⟨2, o.at', o.old, ⟨#[]⟩⟩ else
  if 4 ≤ o.kind ∧ o.kind ≤ 7 then ⟨o.kind, o.at', o.old, o.S⟩ else o

theorem chk_parts {o : OpV} (h : chkB o = true) : o.S.size ≤ 512 ∧ o.old.size ≤ 512 ∧ mayP o := by
  unfold chkB at h
  simp only [Bool.and_eq_true, decide_eq_true_eq] at h
  exact ⟨h.1.1, h.1.2, (mayB_iff o).1 h.2⟩

theorem chk_of {o : OpV} (h1 : o.S.size ≤ 512) (h2 : o.old.size ≤ 512) (h3 : mayP o) : chkB o = true := by
  unfold chkB
  simp only [Bool.and_eq_true, decide_eq_true_eq]
  exact ⟨⟨h1, h2⟩, (mayB_iff o).2 h3⟩

theorem may_kinds {o : OpV} (h : mayP o) (h1 : o.kind ≠ 1) : o.kind = 2 ∨ o.kind = 3 ∨ o.kind = 4 ∨ o.kind = 5 ∨ o.kind = 6 ∨ o.kind = 7 := by
  unfold mayP at h
  rw [if_neg h1] at h
  by_cases k2 : o.kind = 2
  · exact .inl k2
  by_cases k3 : o.kind = 3
  · exact .inr (.inl k3)
  by_cases k4 : o.kind = 4
  · exact .inr (.inr (.inl k4))
  by_cases k5 : o.kind = 5
  · exact .inr (.inr (.inr (.inl k5)))
  by_cases k6 : o.kind = 6
  · exact .inr (.inr (.inr (.inr (.inl k6))))
  by_cases k7 : o.kind = 7
  · exact .inr (.inr (.inr (.inr (.inr k7))))
  rw [if_neg k2, if_neg k3, if_neg k4, if_neg k5, if_neg k6, if_neg k7] at h
  exact h.elim

theorem may2 {o : OpV} (h : mayP o) (k : o.kind = 2) : (0 ≤ o.at' ∧ o.at' ≤ 63) ∧ o.old.size = 0 := by simpa [mayP, k] using h
theorem may3 {o : OpV} (h : mayP o) (k : o.kind = 3) : (0 ≤ o.at' ∧ o.at' ≤ 63) ∧ o.S.size = 0 := by simpa [mayP, k] using h
theorem may4 {o : OpV} (h : mayP o) (k : o.kind = 4) : (0 ≤ o.at' ∧ o.at' ≤ 63) := by simpa [mayP, k] using h
theorem may5 {o : OpV} (h : mayP o) (k : o.kind = 5) : o.at' = 0 ∧ o.S.size ≤ 32 ∧ o.old.size ≤ 32 := by simpa [mayP, k] using h
theorem may6 {o : OpV} (h : mayP o) (k : o.kind = 6) : (0 ≤ o.at' ∧ o.at' ≤ 511) ∧ o.S.size = o.old.size ∧ 0 < o.S.size := by simpa [mayP, k] using h
theorem may7 {o : OpV} (h : mayP o) (k : o.kind = 7) : o.at' = 0 ∧ (1 ≤ o.S.size ∧ o.S.size ≤ 33) ∧ (1 ≤ o.old.size ∧ o.old.size ≤ 33) := by simpa [mayP, k] using h

theorem inv_ok {o : OpV} (h : o.Ok) : (invO o).Ok := by
  unfold invO
  split
  · exact ⟨⟨by decide, by decide⟩, ⟨by decide, by decide⟩, by decide, by decide⟩
  split
  · exact ⟨⟨by show (_ : Int) ≤ 3; decide, by show (3 : Int) ≤ _; decide⟩, h.at', by show (ByteArray.mk #[]).size ≤ _; decide, h.S⟩
  split
  · exact ⟨⟨by show (_ : Int) ≤ 2; decide, by show (2 : Int) ≤ _; decide⟩, h.at', h.old, by show (ByteArray.mk #[]).size ≤ _; decide⟩
  split
  · exact ⟨h.kind, h.at', h.old, h.S⟩
  · exact h

theorem does {p : SheetV} {o : OpV} (f : p.Fits) (ho : o.Ok) (hc : chkB o = true) (h1 : o.kind ≠ 1) : ChangeDoes p o (doE p o) (doQ p o) := by
  obtain ⟨hS, hT, hm⟩ := chk_parts hc
  rcases may_kinds hm h1 with k | k | k | k | k | k
  · have := may2 hm k
    have h := change_ins f ho k this.1.1
    simpa [doE, doQ, k] using h
  · have := may3 hm k
    have h := change_rem f ho k this.1.1
    simpa [doE, doQ, k] using h
  · have := may4 hm k
    have h := change_set f ho k this.1
    simpa [doE, doQ, k] using h
  · have h := change_head f ho k
    simpa [doE, doQ, k] using h
  · have := may6 hm k
    have h := change_put f ho k this.1.1 this.1.2
    simpa [doE, doQ, k] using h
  · have := may7 hm k
    have h := change_turn f ho k this.2.1.1
    simpa [doE, doQ, k] using h

theorem putS_parts {s S : ByteArray} {i : Nat} (h : i + S.size ≤ s.size) : ∃ A M Z : List UInt8, A.length = i ∧ M.length = S.size ∧ s.data.toList = A ++ (M ++ Z) ∧ s.extract i (i + S.size) = ⟨M.toArray⟩ ∧ putS s i S = ⟨(A ++ (S.data.toList ++ Z)).toArray⟩ := by
  have hs : s.data.toList.length = s.size := by simp
  refine ⟨s.data.toList.take i, (s.data.toList.drop i).take S.size, s.data.toList.drop (i + S.size), by rw [List.length_take, hs]; omega, by rw [List.length_take, List.length_drop, hs]; omega, ?_, ?_, ?_⟩
  · rw [← List.drop_drop, List.take_append_drop, List.take_append_drop]
  · apply ByteArray.ext
    simp [ByteArray.data_extract]
    apply Array.ext'
    simp [List.extract_eq_take_drop]
  · unfold putS
    apply ByteArray.ext
    apply Array.ext'
    simp [ByteArray.data_append, ByteArray.data_extract, List.extract_eq_take_drop]
    exact List.take_of_length_le (by rw [List.length_drop, hs]; exact Nat.le_refl _)

end Go.Proofs.YtdhphbokkmofaaaGreat

namespace Go.Proofs.YtdhphbokkmofaaaGreat
open Go.RowKit Go.Sort

set_option maxHeartbeats 1600000 in
set_option maxRecDepth 60000 in
theorem rinverse_any (o : OpV) (w : World) :
    Calls Tryz.prog 15 #[o.val] w fun e w' => e = .returned (invO o).val ∧ Below w.heap.size w w' := by
  obtain ⟨R, HR⟩ : ∃ R, Hid (invO o = R) := ⟨_, rfl⟩
  rw [HR.out]
  have HR2 := HR.out
  unfold invO at HR2
  obtain ⟨K, A, S, T⟩ := o
  simp only [OpV.val] at *
  by_cases k1 : K = 1
  · subst k1
    rw [if_pos rfl] at HR2
    subst HR2
    go_enter Tryz.func15, Tryz.ntmps15
    go_wp2
    refine bodyPost_ret (v := .agg #[.int .i64 1, .int .i64 0, .string ⟨#[]⟩, .string ⟨#[]⟩]) (by simp [results, Tryz.results15, go_sem]) rfl ?_
    exact ⟨rfl, ((Below.refl _ _).alloc (Nat.le_refl _) _).alloc (by simp) _⟩
  by_cases k2 : K = 2
  · subst k2
    simp at HR2
    subst HR2
    go_enter Tryz.func15, Tryz.ntmps15
    go_wp2
    refine bodyPost_ret (v := .agg #[.int .i64 3, .int .i64 A, .string ⟨#[]⟩, .string S]) (by simp [results, Tryz.results15, go_sem]) rfl ?_
    exact ⟨rfl, ((Below.refl _ _).alloc (Nat.le_refl _) _).alloc (by simp) _⟩
  by_cases k3 : K = 3
  · subst k3
    simp at HR2
    subst HR2
    go_enter Tryz.func15, Tryz.ntmps15
    go_wp2
    refine bodyPost_ret (v := .agg #[.int .i64 2, .int .i64 A, .string T, .string ⟨#[]⟩]) (by simp [results, Tryz.results15, go_sem]) rfl ?_
    exact ⟨rfl, ((Below.refl _ _).alloc (Nat.le_refl _) _).alloc (by simp) _⟩
  rw [if_neg k1, if_neg k2, if_neg k3] at HR2
  by_cases k4 : 4 ≤ K ∧ K ≤ 7
  · rw [if_pos k4] at HR2
    subst HR2
    clear HR
    have hk : K = 4 ∨ K = 5 ∨ K = 6 ∨ K = 7 := by omega
    rcases hk with rfl | rfl | rfl | rfl
    all_goals
      go_enter Tryz.func15, Tryz.ntmps15
      go_wp2
      refine bodyPost_ret (v := .agg #[.int .i64 _, .int .i64 A, .string T, .string S]) (by simp [results, Tryz.results15, go_sem]; rfl) rfl ?_
      exact ⟨rfl, ((Below.refl _ _).alloc (Nat.le_refl _) _).alloc (by simp) _⟩
  · rw [if_neg k4] at HR2
    subst HR2
    clear HR
    have j1 : (K == 1) = false := by rw [beq_eq_false_iff_ne]; exact k1
    have j2 : (K == 2) = false := by rw [beq_eq_false_iff_ne]; exact k2
    have j3 : (K == 3) = false := by rw [beq_eq_false_iff_ne]; exact k3
    have j4 : (K == 4) = false := by rw [beq_eq_false_iff_ne]; omega
    have j5 : (K == 5) = false := by rw [beq_eq_false_iff_ne]; omega
    have j6 : (K == 6) = false := by rw [beq_eq_false_iff_ne]; omega
    have j7 : (K == 7) = false := by rw [beq_eq_false_iff_ne]; omega
    go_enter Tryz.func15, Tryz.ntmps15
    go_wp2
    refine bodyPost_ret (v := .agg #[.int .i64 K, .int .i64 A, .string S, .string T]) (by simp [results, Tryz.results15, go_sem]) rfl ?_
    exact ⟨rfl, ((Below.refl _ _).alloc (Nat.le_refl _) _).alloc (by simp) _⟩

def store4 (w : World) (b : Nat) (v0 v1 v2 v3 : Value) : World := (((w.setCell ⟨b, 0, none⟩ v0).setCell ⟨b, 1, none⟩ v1).setCell ⟨b, 2, none⟩ v2).setCell ⟨b, 3, none⟩ v3

theorem RowV.put4 {w : World} {b : Nat} {u0 u1 u2 u3 : Value} (h : RowV w b 4 (four u0 u1 u2 u3)) (v0 v1 v2 v3 : Value) : RowV (store4 w b v0 v1 v2 v3) b 4 (four v0 v1 v2 v3) :=
  (((h.set0_4 v0).set1_4 v1).set2_4 v2).set3_4 v3

theorem below_set4 {B : Nat} {w wx : World} {b : Nat} (h : Below B w wx) (hb : B ≤ b) (v0 v1 v2 v3 : Value) : Below B w (store4 wx b v0 v1 v2 v3) :=
  (((h.setCell (p := ⟨b, 0, none⟩) hb v0).setCell (p := ⟨b, 1, none⟩) hb v1).setCell (p := ⟨b, 2, none⟩) hb v2).setCell (p := ⟨b, 3, none⟩) hb v3

theorem CopyAt.put {w wx : World} {K A : Int} {S T : ByteArray} (h : CopyAt w wx K A S T) (K' A' : Int) (S' T' : ByteArray) : CopyAt w (store4 wx w.heap.size (.int .i64 K') (.int .i64 A') (.string S') (.string T')) K' A' S' T' :=
  ⟨h.own.put4 _ _ _ _, (((h.res.set_other (by omega) _).set_other (by omega) _).set_other (by omega) _).set_other (by omega) _, below_set4 h.bel (Nat.le_refl _) _ _ _ _, by unfold store4; simpa using h.lt⟩

set_option maxHeartbeats 1600000 in
set_option maxRecDepth 60000 in
theorem inverse_any (o : OpV) (w : World) (h : o.Ok) :
    Calls Tryz.prog 44 #[o.val] w fun e w' => e = .returned (invO o).val ∧ Below w.heap.size w w' := by
  have HC : Hid (∀ wx, Calls Tryz.prog 104 #[o.val] wx fun e w' => e = .returned o.val ∧ Below wx.heap.size wx w') := fun wx => copyOfOp_any o wx h
  obtain ⟨R, HR⟩ : ∃ R, Hid (invO o = R) := ⟨_, rfl⟩
  rw [HR.out]
  have HR2 := HR.out
  unfold invO at HR2
  clear h
  obtain ⟨K, A, S, T⟩ := o
  simp only [OpV.val] at *
  obtain ⟨W, HW⟩ : ∃ W, Hid (W = (w.alloc (.cells #[.int .i64 K, .int .i64 A, .string S, .string T] 46)).alloc (.cells #[.int .i64 0, .int .i64 0, .string ⟨#[]⟩, .string ⟨#[]⟩] 46)) := ⟨_, rfl⟩
  have hp : CopyAt w W K A S T := by
    rw [HW.out]
    refine ⟨(RowV.four_new w _ _ _ _ _).below ((Below.refl _ _).alloc (Nat.le_refl _) _) (by simp), ?_, ((Below.refl _ _).alloc (Nat.le_refl _) _).alloc (by simp) _, by simp⟩
    have := RowV.four_new (w.alloc (.cells #[.int .i64 K, .int .i64 A, .string S, .string T] 46)) (.int .i64 0) (.int .i64 0) (.string ⟨#[]⟩) (.string ⟨#[]⟩) 46
    simpa using this
  go_enter Tryz.func44, Tryz.ntmps44
  go_wp2_with fail
  rw [← HW.out]
  clear HW
  refine (HC.out _).mono ?_
  rintro e w1 ⟨rfl, b1⟩
  have h1 := hp.below b1
  clear hp b1 HC
  obtain ⟨e0, e1, e2, e3⟩ := h1.own.cells4
  obtain ⟨f0, f1, f2, f3⟩ := h1.own.open4
  obtain ⟨y0, y1, y2, y3⟩ := h1.res.cells4
  obtain ⟨g0, g1, g2, g3⟩ := h1.res.open4
  have h2 := h1.put K A S T
  have hz2 : w.heap.size + 1 < w1.heap.size := h1.lt
  by_cases k1 : K = 1
  · subst k1
    rw [if_pos rfl] at HR2
    subst HR2
    clear HR
    go_wp2
    have hr := h2.res.put4 (.int .i64 1) (.int .i64 0) (.string ⟨#[]⟩) (.string ⟨#[]⟩)
    have br := below_set4 h2.bel (b := w.heap.size + 1) (by omega) (.int .i64 1) (.int .i64 0) (.string ⟨#[]⟩) (.string ⟨#[]⟩)
    obtain ⟨WX, HWX⟩ : ∃ WX, Hid (WX = store4 (store4 w1 w.heap.size (.int .i64 1) (.int .i64 A) (.string S) (.string T)) (w.heap.size + 1) (.int .i64 1) (.int .i64 0) (.string ⟨#[]⟩) (.string ⟨#[]⟩)) := ⟨_, rfl⟩
    rw [← HWX.out] at hr br
    obtain ⟨r0, r1, r2, r3⟩ := hr.cells4
    show bodyPost _ _ _ _ _ (store4 (store4 w1 w.heap.size (.int .i64 1) (.int .i64 A) (.string S) (.string T)) (w.heap.size + 1) (.int .i64 1) (.int .i64 0) (.string ⟨#[]⟩) (.string ⟨#[]⟩))
    rw [← HWX.out]
    refine bodyPost_ret (v := .agg #[.int .i64 1, .int .i64 0, .string ⟨#[]⟩, .string ⟨#[]⟩]) (by simp [results, Tryz.results44, go_sem, r0, r1, r2, r3]) rfl ?_
    exact ⟨rfl, br⟩
  by_cases k2 : K = 2
  · subst k2
    simp at HR2
    subst HR2
    clear HR k1
    go_wp2
    have hr := h2.res.put4 (.int .i64 3) (.int .i64 A) (.string ⟨#[]⟩) (.string S)
    have br := below_set4 h2.bel (b := w.heap.size + 1) (by omega) (.int .i64 3) (.int .i64 A) (.string ⟨#[]⟩) (.string S)
    obtain ⟨WX, HWX⟩ : ∃ WX, Hid (WX = store4 (store4 w1 w.heap.size (.int .i64 2) (.int .i64 A) (.string S) (.string T)) (w.heap.size + 1) (.int .i64 3) (.int .i64 A) (.string ⟨#[]⟩) (.string S)) := ⟨_, rfl⟩
    rw [← HWX.out] at hr br
    obtain ⟨r0, r1, r2, r3⟩ := hr.cells4
    show bodyPost _ _ _ _ _ (store4 (store4 w1 w.heap.size (.int .i64 2) (.int .i64 A) (.string S) (.string T)) (w.heap.size + 1) (.int .i64 3) (.int .i64 A) (.string ⟨#[]⟩) (.string S))
    rw [← HWX.out]
    refine bodyPost_ret (v := .agg #[.int .i64 3, .int .i64 A, .string ⟨#[]⟩, .string S]) (by simp [results, Tryz.results44, go_sem, r0, r1, r2, r3]) rfl ?_
    exact ⟨rfl, br⟩
  by_cases k3 : K = 3
  · subst k3
    simp at HR2
    subst HR2
    clear HR k1 k2
    go_wp2
    have hr := h2.res.put4 (.int .i64 2) (.int .i64 A) (.string T) (.string ⟨#[]⟩)
    have br := below_set4 h2.bel (b := w.heap.size + 1) (by omega) (.int .i64 2) (.int .i64 A) (.string T) (.string ⟨#[]⟩)
    obtain ⟨WX, HWX⟩ : ∃ WX, Hid (WX = store4 (store4 w1 w.heap.size (.int .i64 3) (.int .i64 A) (.string S) (.string T)) (w.heap.size + 1) (.int .i64 2) (.int .i64 A) (.string T) (.string ⟨#[]⟩)) := ⟨_, rfl⟩
    rw [← HWX.out] at hr br
    obtain ⟨r0, r1, r2, r3⟩ := hr.cells4
    show bodyPost _ _ _ _ _ (store4 (store4 w1 w.heap.size (.int .i64 3) (.int .i64 A) (.string S) (.string T)) (w.heap.size + 1) (.int .i64 2) (.int .i64 A) (.string T) (.string ⟨#[]⟩))
    rw [← HWX.out]
    refine bodyPost_ret (v := .agg #[.int .i64 2, .int .i64 A, .string T, .string ⟨#[]⟩]) (by simp [results, Tryz.results44, go_sem, r0, r1, r2, r3]) rfl ?_
    exact ⟨rfl, br⟩
  rw [if_neg k1, if_neg k2, if_neg k3] at HR2
  by_cases k4 : 4 ≤ K ∧ K ≤ 7
  · rw [if_pos k4] at HR2
    subst HR2
    clear HR
    have hk : K = 4 ∨ K = 5 ∨ K = 6 ∨ K = 7 := by omega
    have j1 : (K == 1) = false := by rw [beq_eq_false_iff_ne]; exact k1
    have j2 : (K == 2) = false := by rw [beq_eq_false_iff_ne]; exact k2
    have j3 : (K == 3) = false := by rw [beq_eq_false_iff_ne]; exact k3
    rcases hk with hk | hk | hk | hk
    · have j4 : (K == 4) = true := by rw [beq_iff_eq]; exact hk
      clear hk
      have h3 := (h2.own.set2_4 (.string T)).set3_4 (.string S)
      have h3r := (h2.res.set_other (b' := w.heap.size) (k := 2) (by omega) (.string T)).set_other (b' := w.heap.size) (k := 3) (by omega) (.string S)
      have h3b := (h2.bel.setCell (p := ⟨w.heap.size, 2, none⟩) (Nat.le_refl _) (.string T)).setCell (p := ⟨w.heap.size, 3, none⟩) (Nat.le_refl _) (.string S)
      unfold store4 at h3 h3r h3b
      have hr := h3r.put4 (.int .i64 K) (.int .i64 A) (.string T) (.string S)
      have br := below_set4 h3b (b := w.heap.size + 1) (by omega) (.int .i64 K) (.int .i64 A) (.string T) (.string S)
      obtain ⟨WX, HWX⟩ : ∃ WX, Hid (WX = store4 ((((((w1.setCell ⟨w.heap.size, 0, none⟩ (.int .i64 K)).setCell ⟨w.heap.size, 1, none⟩ (.int .i64 A)).setCell ⟨w.heap.size, 2, none⟩ (.string S)).setCell ⟨w.heap.size, 3, none⟩ (.string T)).setCell ⟨w.heap.size, 2, none⟩ (.string T)).setCell ⟨w.heap.size, 3, none⟩ (.string S)) (w.heap.size + 1) (.int .i64 K) (.int .i64 A) (.string T) (.string S)) := ⟨_, rfl⟩
      rw [← HWX.out] at hr br
      clear h1 h2 k1 k2 k3 k4
      obtain ⟨x0, x1, x2, x3⟩ := h3.cells4
      obtain ⟨u0, u1, u2, u3⟩ := h3r.cells4
      obtain ⟨v0, v1, v2, v3⟩ := h3r.open4
      clear h3 h3r h3b
      obtain ⟨r0, r1, r2, r3⟩ := hr.cells4
      clear hr
      go_wp2_with fail
      show bodyPost _ _ _ _ _ (store4 ((((((w1.setCell ⟨w.heap.size, 0, none⟩ (.int .i64 K)).setCell ⟨w.heap.size, 1, none⟩ (.int .i64 A)).setCell ⟨w.heap.size, 2, none⟩ (.string S)).setCell ⟨w.heap.size, 3, none⟩ (.string T)).setCell ⟨w.heap.size, 2, none⟩ (.string T)).setCell ⟨w.heap.size, 3, none⟩ (.string S)) (w.heap.size + 1) (.int .i64 K) (.int .i64 A) (.string T) (.string S))
      rw [← HWX.out]
      refine bodyPost_ret (v := .agg #[.int .i64 K, .int .i64 A, .string T, .string S]) (by simp [results, Tryz.results44, go_sem, r0, r1, r2, r3]) rfl ?_
      exact ⟨rfl, br⟩
    · have j4 : (K == 4) = false := by rw [beq_eq_false_iff_ne]; omega
      have j5 : (K == 5) = true := by rw [beq_iff_eq]; exact hk
      clear hk
      have h3 := (h2.own.set2_4 (.string T)).set3_4 (.string S)
      have h3r := (h2.res.set_other (b' := w.heap.size) (k := 2) (by omega) (.string T)).set_other (b' := w.heap.size) (k := 3) (by omega) (.string S)
      have h3b := (h2.bel.setCell (p := ⟨w.heap.size, 2, none⟩) (Nat.le_refl _) (.string T)).setCell (p := ⟨w.heap.size, 3, none⟩) (Nat.le_refl _) (.string S)
      unfold store4 at h3 h3r h3b
      have hr := h3r.put4 (.int .i64 K) (.int .i64 A) (.string T) (.string S)
      have br := below_set4 h3b (b := w.heap.size + 1) (by omega) (.int .i64 K) (.int .i64 A) (.string T) (.string S)
      obtain ⟨WX, HWX⟩ : ∃ WX, Hid (WX = store4 ((((((w1.setCell ⟨w.heap.size, 0, none⟩ (.int .i64 K)).setCell ⟨w.heap.size, 1, none⟩ (.int .i64 A)).setCell ⟨w.heap.size, 2, none⟩ (.string S)).setCell ⟨w.heap.size, 3, none⟩ (.string T)).setCell ⟨w.heap.size, 2, none⟩ (.string T)).setCell ⟨w.heap.size, 3, none⟩ (.string S)) (w.heap.size + 1) (.int .i64 K) (.int .i64 A) (.string T) (.string S)) := ⟨_, rfl⟩
      rw [← HWX.out] at hr br
      clear h1 h2 k1 k2 k3 k4
      obtain ⟨x0, x1, x2, x3⟩ := h3.cells4
      obtain ⟨u0, u1, u2, u3⟩ := h3r.cells4
      obtain ⟨v0, v1, v2, v3⟩ := h3r.open4
      clear h3 h3r h3b
      obtain ⟨r0, r1, r2, r3⟩ := hr.cells4
      clear hr
      go_wp2_with fail
      show bodyPost _ _ _ _ _ (store4 ((((((w1.setCell ⟨w.heap.size, 0, none⟩ (.int .i64 K)).setCell ⟨w.heap.size, 1, none⟩ (.int .i64 A)).setCell ⟨w.heap.size, 2, none⟩ (.string S)).setCell ⟨w.heap.size, 3, none⟩ (.string T)).setCell ⟨w.heap.size, 2, none⟩ (.string T)).setCell ⟨w.heap.size, 3, none⟩ (.string S)) (w.heap.size + 1) (.int .i64 K) (.int .i64 A) (.string T) (.string S))
      rw [← HWX.out]
      refine bodyPost_ret (v := .agg #[.int .i64 K, .int .i64 A, .string T, .string S]) (by simp [results, Tryz.results44, go_sem, r0, r1, r2, r3]) rfl ?_
      exact ⟨rfl, br⟩
    · have j4 : (K == 4) = false := by rw [beq_eq_false_iff_ne]; omega
      have j5 : (K == 5) = false := by rw [beq_eq_false_iff_ne]; omega
      have j6 : (K == 6) = true := by rw [beq_iff_eq]; exact hk
      clear hk
      have h3 := (h2.own.set2_4 (.string T)).set3_4 (.string S)
      have h3r := (h2.res.set_other (b' := w.heap.size) (k := 2) (by omega) (.string T)).set_other (b' := w.heap.size) (k := 3) (by omega) (.string S)
      have h3b := (h2.bel.setCell (p := ⟨w.heap.size, 2, none⟩) (Nat.le_refl _) (.string T)).setCell (p := ⟨w.heap.size, 3, none⟩) (Nat.le_refl _) (.string S)
      unfold store4 at h3 h3r h3b
      have hr := h3r.put4 (.int .i64 K) (.int .i64 A) (.string T) (.string S)
      have br := below_set4 h3b (b := w.heap.size + 1) (by omega) (.int .i64 K) (.int .i64 A) (.string T) (.string S)
      obtain ⟨WX, HWX⟩ : ∃ WX, Hid (WX = store4 ((((((w1.setCell ⟨w.heap.size, 0, none⟩ (.int .i64 K)).setCell ⟨w.heap.size, 1, none⟩ (.int .i64 A)).setCell ⟨w.heap.size, 2, none⟩ (.string S)).setCell ⟨w.heap.size, 3, none⟩ (.string T)).setCell ⟨w.heap.size, 2, none⟩ (.string T)).setCell ⟨w.heap.size, 3, none⟩ (.string S)) (w.heap.size + 1) (.int .i64 K) (.int .i64 A) (.string T) (.string S)) := ⟨_, rfl⟩
      rw [← HWX.out] at hr br
      clear h1 h2 k1 k2 k3 k4
      obtain ⟨x0, x1, x2, x3⟩ := h3.cells4
      obtain ⟨u0, u1, u2, u3⟩ := h3r.cells4
      obtain ⟨v0, v1, v2, v3⟩ := h3r.open4
      clear h3 h3r h3b
      obtain ⟨r0, r1, r2, r3⟩ := hr.cells4
      clear hr
      go_wp2_with fail
      show bodyPost _ _ _ _ _ (store4 ((((((w1.setCell ⟨w.heap.size, 0, none⟩ (.int .i64 K)).setCell ⟨w.heap.size, 1, none⟩ (.int .i64 A)).setCell ⟨w.heap.size, 2, none⟩ (.string S)).setCell ⟨w.heap.size, 3, none⟩ (.string T)).setCell ⟨w.heap.size, 2, none⟩ (.string T)).setCell ⟨w.heap.size, 3, none⟩ (.string S)) (w.heap.size + 1) (.int .i64 K) (.int .i64 A) (.string T) (.string S))
      rw [← HWX.out]
      refine bodyPost_ret (v := .agg #[.int .i64 K, .int .i64 A, .string T, .string S]) (by simp [results, Tryz.results44, go_sem, r0, r1, r2, r3]) rfl ?_
      exact ⟨rfl, br⟩
    · have j4 : (K == 4) = false := by rw [beq_eq_false_iff_ne]; omega
      have j5 : (K == 5) = false := by rw [beq_eq_false_iff_ne]; omega
      have j6 : (K == 6) = false := by rw [beq_eq_false_iff_ne]; omega
      have j7 : (K == 7) = true := by rw [beq_iff_eq]; exact hk
      clear hk
      have h3 := (h2.own.set2_4 (.string T)).set3_4 (.string S)
      have h3r := (h2.res.set_other (b' := w.heap.size) (k := 2) (by omega) (.string T)).set_other (b' := w.heap.size) (k := 3) (by omega) (.string S)
      have h3b := (h2.bel.setCell (p := ⟨w.heap.size, 2, none⟩) (Nat.le_refl _) (.string T)).setCell (p := ⟨w.heap.size, 3, none⟩) (Nat.le_refl _) (.string S)
      unfold store4 at h3 h3r h3b
      have hr := h3r.put4 (.int .i64 K) (.int .i64 A) (.string T) (.string S)
      have br := below_set4 h3b (b := w.heap.size + 1) (by omega) (.int .i64 K) (.int .i64 A) (.string T) (.string S)
      obtain ⟨WX, HWX⟩ : ∃ WX, Hid (WX = store4 ((((((w1.setCell ⟨w.heap.size, 0, none⟩ (.int .i64 K)).setCell ⟨w.heap.size, 1, none⟩ (.int .i64 A)).setCell ⟨w.heap.size, 2, none⟩ (.string S)).setCell ⟨w.heap.size, 3, none⟩ (.string T)).setCell ⟨w.heap.size, 2, none⟩ (.string T)).setCell ⟨w.heap.size, 3, none⟩ (.string S)) (w.heap.size + 1) (.int .i64 K) (.int .i64 A) (.string T) (.string S)) := ⟨_, rfl⟩
      rw [← HWX.out] at hr br
      clear h1 h2 k1 k2 k3 k4
      obtain ⟨x0, x1, x2, x3⟩ := h3.cells4
      obtain ⟨u0, u1, u2, u3⟩ := h3r.cells4
      obtain ⟨v0, v1, v2, v3⟩ := h3r.open4
      clear h3 h3r h3b
      obtain ⟨r0, r1, r2, r3⟩ := hr.cells4
      clear hr
      go_wp2_with fail
      show bodyPost _ _ _ _ _ (store4 ((((((w1.setCell ⟨w.heap.size, 0, none⟩ (.int .i64 K)).setCell ⟨w.heap.size, 1, none⟩ (.int .i64 A)).setCell ⟨w.heap.size, 2, none⟩ (.string S)).setCell ⟨w.heap.size, 3, none⟩ (.string T)).setCell ⟨w.heap.size, 2, none⟩ (.string T)).setCell ⟨w.heap.size, 3, none⟩ (.string S)) (w.heap.size + 1) (.int .i64 K) (.int .i64 A) (.string T) (.string S))
      rw [← HWX.out]
      refine bodyPost_ret (v := .agg #[.int .i64 K, .int .i64 A, .string T, .string S]) (by simp [results, Tryz.results44, go_sem, r0, r1, r2, r3]) rfl ?_
      exact ⟨rfl, br⟩
  · rw [if_neg k4] at HR2
    subst HR2
    clear HR
    have j1 : (K == 1) = false := by rw [beq_eq_false_iff_ne]; exact k1
    have j2 : (K == 2) = false := by rw [beq_eq_false_iff_ne]; exact k2
    have j3 : (K == 3) = false := by rw [beq_eq_false_iff_ne]; exact k3
    have j4 : (K == 4) = false := by rw [beq_eq_false_iff_ne]; omega
    have j5 : (K == 5) = false := by rw [beq_eq_false_iff_ne]; omega
    have j6 : (K == 6) = false := by rw [beq_eq_false_iff_ne]; omega
    have j7 : (K == 7) = false := by rw [beq_eq_false_iff_ne]; omega
    go_wp2
    have hr := h2.res.put4 (.int .i64 K) (.int .i64 A) (.string S) (.string T)
    have br := below_set4 h2.bel (b := w.heap.size + 1) (by omega) (.int .i64 K) (.int .i64 A) (.string S) (.string T)
    obtain ⟨WX, HWX⟩ : ∃ WX, Hid (WX = store4 (store4 w1 w.heap.size (.int .i64 K) (.int .i64 A) (.string S) (.string T)) (w.heap.size + 1) (.int .i64 K) (.int .i64 A) (.string S) (.string T)) := ⟨_, rfl⟩
    rw [← HWX.out] at hr br
    obtain ⟨r0, r1, r2, r3⟩ := hr.cells4
    show bodyPost _ _ _ _ _ (store4 (store4 w1 w.heap.size (.int .i64 K) (.int .i64 A) (.string S) (.string T)) (w.heap.size + 1) (.int .i64 K) (.int .i64 A) (.string S) (.string T))
    rw [← HWX.out]
    refine bodyPost_ret (v := .agg #[.int .i64 K, .int .i64 A, .string S, .string T]) (by simp [results, Tryz.results44, go_sem, r0, r1, r2, r3]) rfl ?_
    exact ⟨rfl, br⟩

end Go.Proofs.YtdhphbokkmofaaaGreat
