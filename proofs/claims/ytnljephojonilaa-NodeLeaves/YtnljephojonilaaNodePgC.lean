/-
  Leaves and inner pages as plain data; page.Apply of the changes of a tree's pages.
-/
import Derived.Test.YtnljephojonilaaNodePutC
import Derived.Test.YtnljephojonilaaBase7C
import Derived.StillTailTactics
namespace Go.Proofs.Ytnljephojonilaa
open Go.RowKit Go.Sort
set_option linter.unusedVariables false
set_option linter.unusedSimpArgs false

/-- The page that an OpFormat leaves. -/
def nfmtQ (p : SheetV) (o : OpV) : SheetV := ⟨p.num, 0, o.at', o.S, []⟩

set_option maxHeartbeats 1600000 in
set_option maxRecDepth 20000 in
theorem nchange_fmt {p : SheetV} {o : OpV} (ho : o.Ok) (hk : o.kind = 1) : ChangeDoes p o 0 (nfmtQ p o) := by
  intro B w b bs h
  have hb1 := h.b1
  have hlt := h.lt
  obtain ⟨K, A, S, T⟩ := o
  simp only at hk ⊢
  subst hk
  unfold nfmtQ
  simp only [OpV.val]
  obtain ⟨W, HW⟩ : ∃ W, Hid (W = w.alloc (.cells #[.int .i64 1, .int .i64 A, .string S, .string T] 35)) := ⟨_, rfl⟩
  have bW : Below w.heap.size w W := by rw [HW.out]; exact (Below.refl _ _).alloc (Nat.le_refl _) _
  have h1 := h.below bW
  have r1 : RowV W w.heap.size 4 (four (.int .i64 1) (.int .i64 A) (.string S) (.string T)) := by rw [HW.out]; exact RowV.four_new w _ _ _ _ _
  obtain ⟨x0, x1, x2, x3, x4⟩ := h1.row.cells5
  obtain ⟨g0, g1, g2, g3, g4⟩ := h1.row.open5
  obtain ⟨y0, y1, y2, y3⟩ := r1.cells4
  have bB : Below B w W := bW.mono (by omega)
  have hbo : b ≠ w.heap.size := by omega
  go_enter Try.func35, Try.ntmps35
  go_wp2_with fail
  rw [← HW.out]
  clear HW
  go_still_tail 11, (by kernel_rfl)
  change wpList _ _ _ _ _ W.drew
  have h2 : SheetAt B W.drew b bs p := h1.below ((Below.refl _ _).drew)
  have B2 : Below B w W.drew := bB.drew
  obtain ⟨V, HV⟩ : ∃ V, Hid (V = W.drew) := ⟨_, rfl⟩
  rw [← HV.out] at h2 B2 ⊢
  clear HV h1 x0 x1 x2 x3 x4 g0 g1 g2 g3 g4 y0 y1 y2 y3 r1 bB bW
  obtain ⟨x0, x1, x2, x3, x4⟩ := h2.row.cells5
  obtain ⟨g0, g1, g2, g3, g4⟩ := h2.row.open5
  go_wp2
  go_ret
  refine ⟨rfl, below_set5 B2 hb1 _ _ _ _ _, fun _ => ⟨none, 0, h2.row.set5 _ _ _ _ _, .inl rfl⟩⟩

/-- page.Apply, where the change can be done. -/
theorem applyN {w : World} {p q : SheetV} {o : OpV} {a : Option Addr} {c : Nat} (lsn : Nat) (h : p.Ok w a) (f : p.Fits) (ho : o.Ok) (hc : chkB o = true) (hd : ChangeDoes p o 0 q) :
    Calls Try.prog 8 #[p.val a c, o.val, .int .u64 lsn] w fun e w' => ∃ a' c', e = .returned (.tuple #[({ q with lsn := lsn } : SheetV).val a' c', .int .i64 0]) ∧ Below w.heap.size w w' ∧ StrsFrom w.heap.size w' a' q.slots := by
  refine (apply_of lsn h f ho hc hd).mono ?_
  rintro e w' ⟨X, rfl, b, hX, _⟩
  obtain ⟨a', c', rfl, hq⟩ := hX rfl
  exact ⟨a', c', rfl, b, hq⟩

/-- page.Apply, where it can't. -/
theorem applyE {w : World} {p q : SheetV} {o : OpV} {a : Option Addr} {c : Nat} {E : Int} (lsn : Nat) (h : p.Ok w a) (f : p.Fits) (ho : o.Ok) (hc : chkB o = true) (hd : ChangeDoes p o E q) (hE : E ≠ 0) :
    Calls Try.prog 8 #[p.val a c, o.val, .int .u64 lsn] w fun e w' => e = .returned (.tuple #[sheet0.val none 0, .int .i64 E]) ∧ Below w.heap.size w w' := by
  refine (apply_of lsn h f ho hc hd).mono ?_
  rintro e w' ⟨X, rfl, b, _, hX⟩
  exact ⟨by rw [hX hE], b⟩

/-- A leaf, an inner page. -/
def leafV (lsn next : Nat) (M : List ItemV) : SheetV := ⟨3, lsn, 3, num4 next, M.map ItemV.bs⟩
def innerV (lsn level : Nat) (M : List ChildV) : SheetV := ⟨3, lsn, 4, num1 level, M.map ChildV.bs⟩
def blankV : SheetV := ⟨3, 0, 0, ⟨#[]⟩, []⟩

theorem num4_size (n : Nat) : (num4 n).size = 4 := by unfold num4; rw [bytes_size, putL_length]
theorem num1_size (n : Nat) : (num1 n).size = 1 := by unfold num1; rw [bytes_size, putL_length]

theorem blankV_fits : blankV.Fits := ⟨by decide, by decide, by decide, by decide, by decide, by decide, by decide⟩

theorem leafV_fits {lsn next : Nat} {M : List ItemV} (hl : lsn < 18446744073709551616) (hm : M.length ≤ 64) (hs : 4 + slotSum (M.map ItemV.bs) ≤ 485) : (leafV lsn next M).Fits :=
  ⟨by show 3 < _; omega, hl, by show (0 : Int) ≤ 3; omega, by show (3 : Int) ≤ 255; omega, by show (num4 next).size ≤ 32; rw [num4_size]; omega, by show (M.map ItemV.bs).length ≤ 64; rw [List.length_map]; exact hm, by show (num4 next).size + slotSum (M.map ItemV.bs) ≤ 485; rw [num4_size]; exact hs⟩

theorem innerV_fits {lsn level : Nat} {M : List ChildV} (hl : lsn < 18446744073709551616) (hm : M.length ≤ 64) (hs : 1 + slotSum (M.map ChildV.bs) ≤ 485) : (innerV lsn level M).Fits :=
  ⟨by show 3 < _; omega, hl, by show (0 : Int) ≤ 4; omega, by show (4 : Int) ≤ 255; omega, by show (num1 level).size ≤ 32; rw [num1_size]; omega, by show (M.map ChildV.bs).length ≤ 64; rw [List.length_map]; exact hm, by show (num1 level).size + slotSum (M.map ChildV.bs) ≤ 485; rw [num1_size]; exact hs⟩

theorem leafV_H (lsn next : Nat) (M : List ItemV) : leafH (leafV lsn next M) = true := by
  unfold leafH leafV; simp [num4_size]

theorem innerV_H (lsn level : Nat) (M : List ChildV) : innerH (innerV lsn level M) = true := by
  unfold innerH innerV; simp [num1_size]

theorem leafV_L {M : List ItemV} (h : ∀ x ∈ M, x.e.May) (lsn next : Nat) : leafL (leafV lsn next M) = M := by
  unfold leafL leafV
  simp only [List.map_map]
  conv => rhs; rw [← List.map_id M]
  exact List.map_congr_left fun x hx => (item_back x (h x hx)).2

theorem leafV_B {M : List ItemV} (h : ∀ x ∈ M, x.e.May) (lsn next : Nat) : leafB (leafV lsn next M) = true := by
  unfold leafB
  rw [leafV_H, Bool.true_and, List.all_eq_true]
  intro s hs
  obtain ⟨x, hx, rfl⟩ := List.mem_map.1 hs
  exact (item_back x (h x hx)).1

theorem innerV_L {M : List ChildV} (h : ∀ x ∈ M, x.page < 4294967296 ∧ x.e.May) (lsn level : Nat) : innerL (innerV lsn level M) = M := by
  unfold innerL innerV
  simp only [List.map_map]
  conv => rhs; rw [← List.map_id M]
  exact List.map_congr_left fun x hx => (child_back x (h x hx).1 (h x hx).2).2

theorem innerV_B {M : List ChildV} (h : ∀ x ∈ M, x.page < 4294967296 ∧ x.e.May) (lsn level : Nat) : innerB (innerV lsn level M) = true := by
  unfold innerB
  rw [innerV_H, Bool.true_and, List.all_eq_true]
  intro s hs
  obtain ⟨x, hx, rfl⟩ := List.mem_map.1 hs
  exact (child_back x (h x hx).1 (h x hx).2).1

theorem leafV_next {next : Nat} (h : next < 4294967296) (lsn : Nat) (M : List ItemV) : nextF (leafV lsn next M) = next := by
  unfold nextF
  rw [leafV_H, if_pos rfl]
  show le (part (num4 next) 0 4) = next
  have e : part (num4 next) 0 4 = putL next 4 := npart_at (pre := []) (mid := putL next 4) (post := []) (by unfold num4; simp) rfl (by rw [putL_length])
  rw [e, le_putL]
  omega

theorem innerV_level {level : Nat} (h : level < 256) (lsn : Nat) (M : List ChildV) : levelF (innerV lsn level M) = level := by
  unfold levelF
  rw [innerV_H, if_pos rfl]
  show le (part (num1 level) 0 1) = level
  have e : part (num1 level) 0 1 = putL level 1 := npart_at (pre := []) (mid := putL level 1) (post := []) (by unfold num1; simp) rfl (by rw [putL_length])
  rw [e, le_putL]
  omega

theorem fmt_ok (k : Int) (S : ByteArray) (hk : 0 ≤ k ∧ k ≤ 255) (hS : S.size ≤ 32) : (opFmtN k S).Ok :=
  ⟨by show (-9223372036854775808 : Int) ≤ 1 ∧ (1 : Int) ≤ _; omega, by show (-9223372036854775808 : Int) ≤ k ∧ k ≤ _; omega, by show S.size ≤ _; omega, by show (0 : Nat) ≤ _; omega⟩

theorem fmt_chk (k : Int) (S : ByteArray) (hk : 0 ≤ k ∧ k ≤ 255) (hS : S.size ≤ 32) : chkB (opFmtN k S) = true := by
  refine chk_of ?_ ?_ ?_
  · show S.size ≤ 512; omega
  · show (0 : Nat) ≤ 512; omega
  · show mayP (opFmtN k S)
    unfold mayP
    rw [if_pos (show (opFmtN k S).kind = 1 from rfl)]
    exact ⟨hk, hS, rfl⟩

theorem apply_leaf {w : World} (next : Nat) : Calls Try.prog 8 #[blankV.val none 0, (opFmtN 3 (num4 next)).val, .int .u64 1] w fun e w' => ∃ a' c', e = .returned (.tuple #[(leafV 1 next []).val a' c', .int .i64 0]) ∧ Below w.heap.size w w' ∧ StrsAt w' a' [] := by
  refine (applyN 1 (SheetV.Fits.ok blankV_fits (.inl rfl)) blankV_fits (fmt_ok 3 _ (by omega) (by rw [num4_size]; omega)) (fmt_chk 3 _ (by omega) (by rw [num4_size]; omega)) (nchange_fmt (fmt_ok 3 _ (by omega) (by rw [num4_size]; omega)) rfl)).mono ?_
  rintro e w' ⟨a', c', rfl, b, hq⟩
  exact ⟨a', c', rfl, b, .inl rfl⟩

theorem apply_inner {w : World} (level : Nat) : Calls Try.prog 8 #[blankV.val none 0, (opFmtN 4 (num1 level)).val, .int .u64 1] w fun e w' => ∃ a' c', e = .returned (.tuple #[(innerV 1 level []).val a' c', .int .i64 0]) ∧ Below w.heap.size w w' ∧ StrsAt w' a' [] := by
  refine (applyN 1 (SheetV.Fits.ok blankV_fits (.inl rfl)) blankV_fits (fmt_ok 4 _ (by omega) (by rw [num1_size]; omega)) (fmt_chk 4 _ (by omega) (by rw [num1_size]; omega)) (nchange_fmt (fmt_ok 4 _ (by omega) (by rw [num1_size]; omega)) rfl)).mono ?_
  rintro e w' ⟨a', c', rfl, b, hq⟩
  exact ⟨a', c', rfl, b, .inl rfl⟩

/-- A list with one more in it. -/
def insN {α : Type} (M : List α) (k : Nat) (x : α) : List α := M.take k ++ x :: M.drop k

theorem insN_map {α : Type} (f : α → ByteArray) (M : List α) (k : Nat) (x : α) : (insN M k x).map f = insL (M.map f) k (f x) := by
  unfold insN insL; simp [List.map_take, List.map_drop]

theorem insN_length {α : Type} (M : List α) (k : Nat) (x : α) : (insN M k x).length = M.length + 1 := by
  unfold insN; simp; omega

theorem insN_mem {α : Type} {M : List α} {k : Nat} {x y : α} (h : y ∈ insN M k x) : y = x ∨ y ∈ M := by
  unfold insN at h
  simp only [List.mem_append, List.mem_cons] at h
  rcases h with h | h | h
  · exact .inr (List.mem_of_mem_take h)
  · exact .inl h
  · exact .inr (List.mem_of_mem_drop h)

theorem slotSum_ins (L : List ByteArray) (k : Nat) (s : ByteArray) : slotSum (insL L k s) = slotSum L + (2 + s.size) := by
  have := List.take_append_drop k L
  have h2 : slotSum L = slotSum (L.take k) + slotSum (L.drop k) := by conv => lhs; rw [← this]; rw [slotSum_append]
  unfold insL
  rw [slotSum_append, h2]
  show slotSum (L.take k) + (2 + s.size + slotSum (L.drop k)) = _
  omega

end Go.Proofs.Ytnljephojonilaa
