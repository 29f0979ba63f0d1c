/-
  The walks of cmp.Compare, cmp.Or, byName; slices.SortFunc of up to twelve names.
-/
import Derived.Test.YthagomibjlcfmaaDoorLkNamesC
import Derived.Test.YthagomibjlcfmaaDoorShLenC
import Derived.Deep.RegionHeld3
import Derived.Shelf.SlSortCmp.SmallK
namespace Go.Proofs.YthagomibjlcfmaaDoor
open Go.RowKit Go.Shelf Go.Lib Go.Sort
set_option linter.unusedVariables false
set_option linter.unusedSimpArgs false

/-- Two numbers held against one another. -/
def cmpF (x y : Int) : Int := if x < y then -1 else if y < x then 1 else 0

set_option maxHeartbeats 800000 in
set_option maxRecDepth 60000 in
theorem cmp_int (x y : Int) (w : World) : Calls Tryd.prog 65 #[.int .i64 x, .int .i64 y] w fun e w' => e = .returned (.int .i64 (cmpF x y)) ∧ w' = w := by
  have hn : ∀ (z : Int) wx, Calls Tryd.prog 90 #[.int .i64 z] wx fun e w' => e = .returned (.bool false) ∧ w' = wx := fun z wx => by
    go_enter Tryd.func90, Tryd.ntmps90
    go_wp2
    go_ret
    exact ⟨rfl, rfl⟩
  unfold cmpF
  rcases Int.lt_trichotomy x y with h | h | h
  · rw [if_pos h]
    go_enter Tryd.func65, Tryd.ntmps65
    go_wp2_with (go_at_call 90; refine (hn _ _).mono ?_; rintro e w' ⟨rfl, rfl⟩)
    go_ret
    exact ⟨rfl, rfl⟩
  · subst h
    rw [if_neg (by omega), if_neg (by omega)]
    go_enter Tryd.func65, Tryd.ntmps65
    go_wp2_with (go_at_call 90; refine (hn _ _).mono ?_; rintro e w' ⟨rfl, rfl⟩)
    go_ret
    exact ⟨rfl, rfl⟩
  · have h1 : ¬ x < y := by omega
    rw [if_neg h1, if_pos h]
    go_enter Tryd.func65, Tryd.ntmps65
    go_wp2_with (go_at_call 90; refine (hn _ _).mono ?_; rintro e w' ⟨rfl, rfl⟩)
    go_ret
    exact ⟨rfl, rfl⟩

set_option maxHeartbeats 800000 in
set_option maxRecDepth 60000 in
theorem cmp_page (x y : Int) (w : World) : Calls Tryd.prog 66 #[.int .u32 x, .int .u32 y] w fun e w' => e = .returned (.int .i64 (cmpF x y)) ∧ w' = w := by
  have hn : ∀ (z : Int) wx, Calls Tryd.prog 91 #[.int .u32 z] wx fun e w' => e = .returned (.bool false) ∧ w' = wx := fun z wx => by
    go_enter Tryd.func91, Tryd.ntmps91
    go_wp2
    go_ret
    exact ⟨rfl, rfl⟩
  unfold cmpF
  rcases Int.lt_trichotomy x y with h | h | h
  · rw [if_pos h]
    go_enter Tryd.func66, Tryd.ntmps66
    go_wp2_with (go_at_call 91; refine (hn _ _).mono ?_; rintro e w' ⟨rfl, rfl⟩)
    go_ret
    exact ⟨rfl, rfl⟩
  · subst h
    rw [if_neg (by omega), if_neg (by omega)]
    go_enter Tryd.func66, Tryd.ntmps66
    go_wp2_with (go_at_call 91; refine (hn _ _).mono ?_; rintro e w' ⟨rfl, rfl⟩)
    go_ret
    exact ⟨rfl, rfl⟩
  · have h1 : ¬ x < y := by omega
    rw [if_neg h1, if_pos h]
    go_enter Tryd.func66, Tryd.ntmps66
    go_wp2_with (go_at_call 91; refine (hn _ _).mono ?_; rintro e w' ⟨rfl, rfl⟩)
    go_ret
    exact ⟨rfl, rfl⟩

/-- The first of four numbers that is not 0. -/
def orF (a b c d : Int) : Int := if a ≠ 0 then a else if b ≠ 0 then b else if c ≠ 0 then c else d

theorem orF_at (L : Nat → Int) (k : Nat) (h : ∀ i, i < k → L i = 0) (hk : k < 4) (h0 : L k ≠ 0) : orF (L 0) (L 1) (L 2) (L 3) = L k := by
  unfold orF
  rcases (by omega : k = 0 ∨ k = 1 ∨ k = 2 ∨ k = 3) with rfl | rfl | rfl | rfl
  · rw [if_pos h0]
  · rw [h 0 (by omega), if_neg (by omega), if_pos h0]
  · rw [h 0 (by omega), h 1 (by omega), if_neg (by omega), if_neg (by omega), if_pos h0]
  · rw [h 0 (by omega), h 1 (by omega), h 2 (by omega), if_neg (by omega), if_neg (by omega), if_neg (by omega)]

theorem orF_none (L : Nat → Int) (h : ∀ i, i < 4 → L i = 0) : orF (L 0) (L 1) (L 2) (L 3) = 0 := by
  unfold orF
  rw [h 0 (by omega), h 1 (by omega), h 2 (by omega), h 3 (by omega)]
  simp

set_option maxHeartbeats 1600000 in
set_option maxRecDepth 60000 in
theorem or_any (g : Nat) (w : World) (L : Nat → Int) (hc : ∀ i, i < 4 → w.cell? ⟨g, i, none⟩ = some (.int .i64 (L i))) :
    Calls Tryd.prog 64 #[.slice (some ⟨g, 0, none⟩) 4 4] w fun e w' => e = .returned (.int .i64 (orF (L 0) (L 1) (L 2) (L 3))) ∧ w' = w := by
  have HA := fun k => orF_at L k
  have HN := orF_none L
  generalize orF (L 0) (L 1) (L 2) (L 3) = r at *
  have HA' : Hid (∀ (k : Nat), (∀ i, i < k → L i = 0) → k < 4 → L k ≠ 0 → r = L k) := HA
  have HN' : Hid ((∀ i, i < 4 → L i = 0) → r = 0) := HN
  have HC : Hid (∀ i, i < 4 → w.cell? ⟨g, i, none⟩ = some (.int .i64 (L i))) := hc
  clear HA HN hc
  go_enter Tryd.func64, Tryd.ntmps64
  go_wp2_with fail
  go_loopw [8] (fun i wr => ∃ k : Nat, k ≤ 4 ∧ i = .int .i64 k ∧ wr = w ∧ Hid (∀ j, j < k → L j = 0)) (fun i _ => 4 - (intOf i).toNat)
  case atStart => exact ⟨0, by omega, rfl, rfl, fun j hj => by omega⟩
  case round =>
    obtain ⟨k, hk, rfl, rfl, HK⟩ := hrel
    by_cases hlt : k < 4
    · have c0 := HC.out k hlt
      have i0 : (0 : Int) ≤ k := by omega
      have i1 : (k : Int) < 4 := by omega
      obtain ⟨x, Hx⟩ : ∃ x, Hid (L k = x) := ⟨L k, rfl⟩
      rw [Hx.out] at c0
      by_cases h0 : x = 0
      · subst h0
        go_wp2
        go_roundw
        case rel => exact ⟨k + 1, by omega, by go_num, trivial, fun j hj => by
          by_cases e : j = k
          · rw [e]; exact Hx.out
          · exact HK.out j (by omega)⟩
        case measure => simp [intOf]; omega
      · have hr := HA'.out k HK.out hlt (by rw [Hx.out]; exact h0)
        rw [Hx.out] at hr
        clear HA' HN'
        subst hr
        go_wp2
        go_ret
        exact ⟨rfl, rfl⟩
    · obtain rfl : k = 4 := by omega
      have hz := HN'.out HK.out
      subst hz
      go_wp2
      go_ret
      exact ⟨rfl, rfl⟩

/-- One name held against another. -/
def nmF (x y : NameV) : Int := orF (cmpF x.1 y.1) (cmpF x.2.1 y.2.1) (cmpF x.2.2.1 y.2.2.1) (cmpF x.2.2.2 y.2.2.2)

def fourF (a b c d : Int) (i : Nat) : Int := match i with | 0 => a | 1 => b | 2 => c | _ => d

set_option maxHeartbeats 3200000 in
set_option maxRecDepth 20000 in
theorem byName_any (x y : NameV) (w : World) : Calls Tryd.prog 47 #[nval x, nval y] w fun e w' => e = .returned (.int .i64 (nmF x y)) ∧ ∃ q os', w' = grow (w.drewN q) os' := by
  obtain ⟨x0, x1, x2, x3⟩ := x
  obtain ⟨y0, y1, y2, y3⟩ := y
  unfold nmF nval
  simp only
  have hI : ∀ (u v : Int) (wx : World), Calls Tryd.prog 65 #[.int .i64 u, .int .i64 v] wx fun e w' => e = .returned (.int .i64 (cmpF u v)) ∧ w' = wx := cmp_int
  have hP : ∀ (u v : Int) (wx : World), Calls Tryd.prog 66 #[.int .u32 u, .int .u32 v] wx fun e w' => e = .returned (.int .i64 (cmpF u v)) ∧ w' = wx := cmp_page
  generalize cmpF = C at *
  have ho : Hid (∀ (g : Nat) (wx : World), wx.heap[g]? = some (.cells #[.int .i64 (C x0 y0), .int .i64 (C x1 y1), .int .i64 (C x2 y2), .int .i64 (C x3 y3)] 3) → Calls Tryd.prog 64 #[.slice (some ⟨g, 0, none⟩) 4 4] wx fun e w' => e = .returned (.int .i64 (orF (C x0 y0) (C x1 y1) (C x2 y2) (C x3 y3))) ∧ w' = wx) := fun g wx hb =>
    or_any g wx (fourF (C x0 y0) (C x1 y1) (C x2 y2) (C x3 y3)) fun i hi => by
      rcases (by omega : i = 0 ∨ i = 1 ∨ i = 2 ∨ i = 3) with rfl | rfl | rfl | rfl <;> simp [World.cell?, hb, fourF]
  generalize orF (C x0 y0) (C x1 y1) (C x2 y2) (C x3 y3) = r at *
  go_enter Tryd.func47, Tryd.ntmps47
  go_wp2_with fail
  generalize hW : ((w.alloc (.cells #[.int .i64 x0, .int .i64 x1, .int .u32 x2, .int .i64 x3] 33)).alloc (.cells #[.int .i64 y0, .int .i64 y1, .int .u32 y2, .int .i64 y3] 33)) = W at *
  have s0 : W.heap[w.heap.size]? = some (.cells #[.int .i64 x0, .int .i64 x1, .int .u32 x2, .int .i64 x3] 33) := by
    rw [← hW, Below.heap_alloc _ _ _ (by simp)]
    exact heap_alloc_new w _
  have s1 : W.heap[w.heap.size + 1]? = some (.cells #[.int .i64 y0, .int .i64 y1, .int .u32 y2, .int .i64 y3] 33) := by
    rw [← hW]
    have := heap_alloc_new (w.alloc (.cells #[.int .i64 x0, .int .i64 x1, .int .u32 x2, .int .i64 x3] 33)) (.cells #[.int .i64 y0, .int .i64 y1, .int .u32 y2, .int .i64 y3] 33)
    simpa using this
  have a0 : W.cell? ⟨w.heap.size, 0, none⟩ = some (.int .i64 x0) := by simp [World.cell?, s0]
  have a1 : W.cell? ⟨w.heap.size, 1, none⟩ = some (.int .i64 x1) := by simp [World.cell?, s0]
  have a2 : W.cell? ⟨w.heap.size, 2, none⟩ = some (.int .u32 x2) := by simp [World.cell?, s0]
  have a3 : W.cell? ⟨w.heap.size, 3, none⟩ = some (.int .i64 x3) := by simp [World.cell?, s0]
  have b0 : W.cell? ⟨w.heap.size + 1, 0, none⟩ = some (.int .i64 y0) := by simp [World.cell?, s1]
  have b1 : W.cell? ⟨w.heap.size + 1, 1, none⟩ = some (.int .i64 y1) := by simp [World.cell?, s1]
  have b2 : W.cell? ⟨w.heap.size + 1, 2, none⟩ = some (.int .u32 y2) := by simp [World.cell?, s1]
  have b3 : W.cell? ⟨w.heap.size + 1, 3, none⟩ = some (.int .i64 y3) := by simp [World.cell?, s1]
  have HW : Hid (∃ os, W = grow w os) := ⟨_, by rw [← hW, alloc_eq_grow, alloc_eq_grow, grow_grow]⟩
  have hlt0 : w.heap.size < W.heap.size := (Array.getElem?_eq_some_iff.1 s0).1
  have hlt1 : w.heap.size + 1 < W.heap.size := (Array.getElem?_eq_some_iff.1 s1).1
  have HO : Hid (Calls Tryd.prog 64 #[.slice (some ⟨W.heap.size, 0, none⟩) 4 4] (W.alloc (.cells #[.int .i64 (C x0 y0), .int .i64 (C x1 y1), .int .i64 (C x2 y2), .int .i64 (C x3 y3)] 3)).drew fun e w' => e = .returned (.int .i64 r) ∧ w' = (W.alloc (.cells #[.int .i64 (C x0 y0), .int .i64 (C x1 y1), .int .i64 (C x2 y2), .int .i64 (C x3 y3)] 3)).drew) := ho.out W.heap.size _ (show (W.alloc _).heap[W.heap.size]? = _ from heap_alloc_new W _)
  clear hW s0 s1 ho
  go_region_held3 (fun wy => (wy.cell? ⟨w.heap.size, 0, none⟩ = some (.int .i64 x0) ∧ wy.cell? ⟨w.heap.size, 1, none⟩ = some (.int .i64 x1) ∧ wy.cell? ⟨w.heap.size, 2, none⟩ = some (.int .u32 x2) ∧ wy.cell? ⟨w.heap.size, 3, none⟩ = some (.int .i64 x3)) ∧ (wy.cell? ⟨w.heap.size + 1, 0, none⟩ = some (.int .i64 y0) ∧ wy.cell? ⟨w.heap.size + 1, 1, none⟩ = some (.int .i64 y1) ∧ wy.cell? ⟨w.heap.size + 1, 2, none⟩ = some (.int .u32 y2) ∧ wy.cell? ⟨w.heap.size + 1, 3, none⟩ = some (.int .i64 y3))) (first | go_keep)
    (first
      | (go_at_call 65; refine (hI _ _ _).mono ?_; rintro e w' ⟨rfl, rfl⟩)
      | (go_at_call 66; refine (hP _ _ _).mono ?_; rintro e w' ⟨rfl, rfl⟩)
      | (go_at_call 64; refine HO.out.mono ?_; rintro e w' ⟨rfl, rfl⟩))
  go_wp2
  go_ret
  obtain ⟨os, rfl⟩ := HW.out
  exact ⟨rfl, 1, _, by rw [alloc_eq_grow]; exact grow_grow (w.drewN 1) _ _⟩

end Go.Proofs.YthagomibjlcfmaaDoor
