/-
  slices.Insert of one text into a full row of texts: the row that comes back.
  The walk of page.insert.
  page.Apply, over what page.change does.
  page.change of an OpInsert; page.Apply and page.Fits of one.
  The walk of page.setHead (for PageBack).
  The walks of page.stands and page.set (for PageBack).
-/
import Derived.Test.YtkknglcckjhngaaBase2C
import Derived.Shelf.Spec.SlicesInsertGrow
namespace Go.Proofs.Ytkknglcckjhngaa
open Go.RowKit Go.Sort Go.Shelf
set_option linter.unusedVariables false

theorem below_setCells {B : Nat} {w : World} (b : Nat) (hb : B ≤ b) : ∀ (vs : List Value) (o : Nat) (w' : World), Below B w w' → Below B w (w'.setCells b o vs)
  | [], _, _, h => h
  | v :: vs, o, w', h => below_setCells b hb vs (o + 1) _ (h.setCell (p := ⟨b, o, none⟩) hb v)

theorem setCells_heap (b : Nat) : ∀ (vs : List Value) (o : Nat) (w : World), (w.setCells b o vs).heap.size = w.heap.size
  | [], _, _ => rfl
  | v :: vs, o, w => by show ((w.setCell ⟨b, o, none⟩ v).setCells b (o + 1) vs).heap.size = _; rw [setCells_heap b vs]; simp

/-- The texts as values. -/
def strV (L : List ByteArray) : List Value := L.map Value.string

theorem strV_get {L : List ByteArray} {j : Nat} {v : Value} (h : (strV L)[j]? = some v) : ∃ (hj : j < L.length), v = .string L[j] := by
  unfold strV at h
  rw [List.getElem?_map] at h
  rcases Option.map_eq_some_iff.1 h with ⟨s, hs, rfl⟩
  obtain ⟨hj, e⟩ := List.getElem?_eq_some_iff.1 hs
  exact ⟨hj, by rw [e]⟩

/-- A row of texts. -/
abbrev StrRow (w : World) (b : Nat) (L : List ByteArray) : Prop := RowV w b L.length (fun j => .string (L.getD j ByteArray.empty))

theorem StrRow.cell {w : World} {b : Nat} {L : List ByteArray} (h : StrRow w b L) {j : Nat} (hj : j < L.length) : w.cell? ⟨b, j, none⟩ = some (.string L[j]) := by
  have := (h j hj).1
  rw [this]
  show some (Value.string (L.getD j ByteArray.empty)) = _
  rw [List.getD_eq_getElem?_getD, List.getElem?_eq_getElem hj]; rfl

theorem StrRow.of {w : World} {b : Nat} {L : List ByteArray} (h : ∀ j (hj : j < L.length), w.cell? ⟨b, j, none⟩ = some (.string L[j]) ∧ w.frozen? ⟨b, j, none⟩ = false) : StrRow w b L := fun j hj => by
  refine ⟨?_, (h j hj).2⟩
  rw [(h j hj).1]
  show _ = some (Value.string (L.getD j ByteArray.empty))
  rw [List.getD_eq_getElem?_getD, List.getElem?_eq_getElem hj]; rfl

/-- L with s at place i. -/
def insL (L : List ByteArray) (i : Nat) (s : ByteArray) : List ByteArray := L.take i ++ s :: L.drop i

theorem insL_length (L : List ByteArray) (i : Nat) (s : ByteArray) (hi : i ≤ L.length) : (insL L i s).length = L.length + 1 := by
  simp [insL]; omega

theorem insL_sum (L : List ByteArray) (i : Nat) (s : ByteArray) : slotSum (insL L i s) = slotSum L + (2 + s.size) := by
  unfold insL
  rw [slotSum_append]
  conv => rhs; rw [← List.take_append_drop i L, slotSum_append]
  simp only [slotSum]; omega

theorem insL_get (L : List ByteArray) (i : Nat) (s : ByteArray) (hi : i ≤ L.length) (j : Nat) (hj : j < (insL L i s).length) :
    (insL L i s)[j]? = if j < i then L[j]? else if j = i then some s else L[j - 1]? := by
  unfold insL
  rw [List.getElem?_append]
  have hl : (L.take i).length = i := by simp; omega
  rw [hl]
  by_cases h : j < i
  · rw [if_pos h, if_pos h, List.getElem?_take, if_pos h]
  · rw [if_neg h, if_neg h]
    by_cases e : j = i
    · subst e; rw [if_pos rfl, Nat.sub_self]; rfl
    · rw [if_neg e, show j - i = (j - 1 - i) + 1 from by omega, List.getElem?_cons_succ, List.getElem?_drop]
      congr 1; omega

theorem zeroCells_size (n : Nat) : (Builtin.zeroCells (Value.string ⟨#[]⟩).cells n).size = n := by rw [size_zeroCells]; simp [Value.cells]

set_option maxHeartbeats 800000 in
theorem insert_call (L : List ByteArray) (bs vb : Nat) (s : ByteArray) (i : Nat) (w : World) (hr : StrRow w bs L) (hi : i ≤ L.length) (hv : w.cell? ⟨vb, 0, none⟩ = some (.string s)) (hL : L.length ≤ 64) (hbs : bs < w.heap.size) :
    Calls Try.prog 41 #[.slice (some ⟨bs, 0, none⟩) L.length L.length, .int .i64 i, .slice (some ⟨vb, 0, none⟩) 1 1] w fun e w' =>
      ∃ c, e = .returned (.slice (some ⟨w.heap.size, 0, none⟩) (L.length + 1) c) ∧ StrRow w' w.heap.size (insL L i s) ∧ Below w.heap.size w w' ∧ w.heap.size < w'.heap.size := by
  have hcl : (strV L).length = L.length := by simp [strV]
  have h1c : ∀ v ∈ strV L, v.oneCell' = true := fun v hv => by
    unfold strV at hv
    obtain ⟨x, _, rfl⟩ := List.mem_map.1 hv
    rfl
  have h1v : ∀ v ∈ ([.string s] : List Value), v.oneCell' = true := fun v hv => by
    rw [List.mem_singleton.1 hv]; rfl
  have hvs : ∀ j v, ([.string s] : List Value)[j]? = some v → w.cell? ⟨vb, 0 + j, none⟩ = some v := fun j v h => by
    match j, h with
    | 0, h => simp at h; subst h; exact hv
  have hcs : ∀ j v, (strV L)[j]? = some v → w.cell? ⟨bs, 0 + j, none⟩ = some v := fun j v h => by
    obtain ⟨hj, rfl⟩ := strV_get h
    rw [Nat.zero_add]; exact hr.cell hj
  have hil := insL_length L i s hi
  by_cases hlt : i < L.length
  · refine (Any2.slices_Insert_string_grow insertLays bs 0 L.length L.length i vb 0 1 1 (strV L) [.string s] w hlt (by omega) (by omega) (by omega) (by omega) hcl rfl hcs hvs h1c h1v).mono ?_
    rintro e w' ⟨rfl, rfl⟩
    refine ⟨_, rfl, StrRow.of fun j hj => ?_, ?_, ?_⟩
    · refine ⟨?_, ?_⟩
      · have hg := insL_get L i s hi j hj
        rw [List.getElem?_eq_getElem hj] at hg
        have hlt' : (strV (L.drop i)).length = L.length - i := by simp [strV]
        have hdr : (strV L).drop i = strV (L.drop i) := by simp [strV]
        rw [hdr]
        by_cases h1 : j < i
        · rw [if_pos h1] at hg
          rw [World.cell?_setCells_out w.heap.size _ _ _ _ (fun _ _ => .inl (by show j < i + 1; omega))]
          show (World.setCells _ _ _ _).cell? _ = _
          rw [World.cell?_setCells_out w.heap.size _ _ _ _ (fun _ _ => .inl (by show j < i; omega))]
          show (w.alloc _).cell? _ = _
          rw [World.cell?_alloc_new, Array.append_assoc, Array.getElem?_append_left (by simp [strV]; omega)]
          simp only [List.getElem?_toArray, List.getElem?_take, if_pos h1, strV, List.getElem?_map, ← hg, Option.map_some]
        · rw [if_neg h1] at hg
          by_cases h2 : j = i
          · subst h2
            rw [if_pos rfl] at hg
            rw [World.cell?_setCells_out w.heap.size _ _ _ _ (fun _ _ => .inl (by show j < j + 1; omega))]
            show (World.setCells _ _ _ _).cell? _ = _
            have := World.cell?_setCells_in w.heap.size [.string s] j (w.alloc (.cells (((strV L).take j).toArray ++ Builtin.zeroCells (Value.string ⟨#[]⟩).cells (L.length + 1 - j) ++ Builtin.zeroCells (Value.string ⟨#[]⟩).cells (grownCap w (L.length + 1) L.length (insertLays_ren.t 9) - (L.length + 1))) (insertLays_ren.t 9))).drew (fun k hk => by
              obtain rfl : k = 0 := by simpa using hk
              show ((w.alloc _).cell? _).isSome = true
              rw [World.cell?_alloc_new]
              simp [zeroCells_size, strV]; omega) 0 (by simp)
            rw [Nat.add_zero] at this
            refine this.trans ?_
            rw [Option.some.inj hg]; rfl
          · rw [if_neg h2] at hg
            have hj' : j < L.length + 1 := by omega
            have := World.cell?_setCells_in w.heap.size (strV (L.drop i)) (i + 1) (((w.alloc (.cells (((strV L).take i).toArray ++ Builtin.zeroCells (Value.string ⟨#[]⟩).cells (L.length + 1 - i) ++ Builtin.zeroCells (Value.string ⟨#[]⟩).cells (grownCap w (L.length + 1) L.length (insertLays_ren.t 9) - (L.length + 1))) (insertLays_ren.t 9))).drew.setCells w.heap.size i [.string s]).drew) (fun k hk => by
              show ((World.setCells _ _ _ _).cell? _).isSome = true
              rw [World.cell?_setCells_out w.heap.size _ _ _ _ (fun _ _ => .inr (by show i + 1 ≤ i + 1 + k; omega))]
              show ((w.alloc _).cell? _).isSome = true
              rw [World.cell?_alloc_new]
              simp [zeroCells_size, strV]; omega) (j - (i + 1)) (by omega)
            rw [show i + 1 + (j - (i + 1)) = j from by omega] at this
            rw [this]
            rw [List.getElem?_eq_getElem (by omega)] at hg
            rw [← Option.some.inj hg.symm]
            simp only [strV, List.getElem_map, List.getElem_drop]
            congr 3; omega
      · rw [World.frozen?_setCells]
        show (World.setCells _ _ _ _).frozen? _ = _
        rw [World.frozen?_setCells]
        show (w.alloc _).frozen? _ = _
        simp
    · refine below_setCells _ (Nat.le_refl _) _ _ _ ?_
      exact Below.drew (below_setCells _ (Nat.le_refl _) _ _ _ (((Below.refl _ _).alloc (Nat.le_refl _) _).drew))
    · rw [setCells_heap]
      show w.heap.size < (World.setCells _ _ _ _).heap.size
      rw [setCells_heap]
      show w.heap.size < (w.alloc _).heap.size
      simp
  · obtain rfl : i = L.length := by omega
    refine (Any2.slices_Insert_string_end_grow insertLays (some ⟨bs, 0, none⟩) L.length L.length vb 0 1 1 (strV L) [.string s] w (by omega) (by omega) (by omega) (by omega) hcl rfl (fun h => by cases h) (fun a ha j v h => by
      cases ha
      have := hcs j v h
      rw [Addr.add_lit]; exact this) hvs h1v).mono ?_
    rintro e w' ⟨rfl, rfl⟩
    refine ⟨_, rfl, StrRow.of fun j hj => ?_, ((Below.refl _ _).drew).alloc (Nat.le_refl _) _, ?_⟩
    · refine ⟨?_, ?_⟩
      · show (w.drew.alloc _).cell? ⟨w.drew.heap.size, j, none⟩ = _
        have hg := insL_get L L.length s hi j hj
        rw [List.getElem?_eq_getElem hj] at hg
        rw [World.cell?_alloc_new, Array.getElem?_append_left (by simp [strV]; omega)]
        simp only [List.getElem?_toArray, strV]
        rw [List.getElem?_append, List.length_map]
        by_cases h1 : j < L.length
        · rw [if_pos h1] at hg
          rw [if_pos h1, List.getElem?_map, ← hg]; rfl
        · obtain rfl : j = L.length := by omega
          rw [if_neg h1, if_pos rfl] at hg
          rw [if_neg h1, Nat.sub_self]
          rw [← Option.some.inj hg.symm]; rfl
      · exact World.frozen?_alloc_new w.drew _ _ _
    · show w.heap.size < (w.drew.alloc _).heap.size
      simp

end Go.Proofs.Ytkknglcckjhngaa

namespace Go.Proofs.Ytkknglcckjhngaa
open Go.RowKit Go.Sort
set_option linter.unusedVariables false

/-- A page in memory, at block b, its slots in block bs, both from B on. -/
structure SheetAt (B : Nat) (w : World) (b bs : Nat) (p : SheetV) : Prop where
  row : RowV w b 5 (five (.int .u32 p.num) (.int .u64 p.lsn) (.int .i64 p.kind) (.string p.head) (.slice (some ⟨bs, 0, none⟩) p.slots.length p.slots.length))
  str : StrRow w bs p.slots
  b1 : B ≤ b
  lt : b < w.heap.size
  bs1 : B ≤ bs
  bslt : bs < w.heap.size
  ne : bs ≠ b

theorem SheetAt.below {B : Nat} {w w' : World} {b bs : Nat} {p : SheetV} (h : SheetAt B w b bs p) (k : Below w.heap.size w w') : SheetAt B w' b bs p :=
  ⟨h.row.below k h.lt, h.str.below k h.bslt, h.b1, Nat.lt_of_lt_of_le h.lt k.size, h.bs1, Nat.lt_of_lt_of_le h.bslt k.size, h.ne⟩

theorem SheetAt.ok {B : Nat} {w : World} {b bs : Nat} {p : SheetV} (h : SheetAt B w b bs p) (f : p.Fits) : p.Ok w (some ⟨bs, 0, none⟩) := by
  have hf := f.fits
  refine ⟨f.num, f.lsn, ⟨by have := f.kind0; omega, by have := f.kind1; omega⟩, by have := f.head; omega, by have := f.len; omega, fun s hs => ?_, h.str.strs h.bslt⟩
  obtain ⟨j, hj, rfl⟩ := List.mem_iff_getElem.1 hs
  have := slotSum_at p.slots j hj
  omega

/-- The error of an OpInsert. -/
def insE (p : SheetV) (o : OpV) : Int := if (p.slots.length : Int) < o.at' then 1 else if 64 ≤ p.slots.length then 3 else if 485 < p.head.size + slotSum p.slots + (2 + o.S.size) then 30 else 0

section
variable {B : Nat} {w : World} {b bs : Nat} {p : SheetV} {o : OpV}

set_option maxHeartbeats 1600000 in
theorem insert_any (h : SheetAt B w b bs p) (f : p.Fits) (ho : o.Ok) (ha : 0 ≤ o.at') :
    Calls Try.prog 32 #[.pointer (some ⟨b, 0, none⟩), o.val] w fun e w' => e = .returned (.int .i64 (insE p o)) ∧ Below B w w' ∧
      (insE p o = 0 → ∃ bs' c, RowV w' b 5 (five (.int .u32 p.num) (.int .u64 p.lsn) (.int .i64 p.kind) (.string p.head) (.slice (some ⟨bs', 0, none⟩) (p.slots.length + 1) c)) ∧ StrRow w' bs' (insL p.slots o.at'.toNat o.S) ∧ B ≤ bs' ∧ bs' < w'.heap.size ∧ bs' ≠ b) := by
  have hb1 := h.b1
  have hlt := h.lt
  have hoS := ho.S
  have hat := ho.at'
  have hf := f.fits
  have hn64 := f.len
  clear ho
  obtain ⟨K, A, S, T⟩ := o
  simp only at ha hoS hat ⊢
  obtain ⟨i, rfl⟩ := Int.eq_ofNat_of_zero_le ha
  rw [Int.toNat_natCast]
  unfold OpV.val
  simp only
  obtain ⟨W, HW⟩ : ∃ W, Hid (W = w.alloc (.cells #[.int .i64 K, .int .i64 i, .string S, .string T] 41)) := ⟨_, rfl⟩
  have bW : Below w.heap.size w W := by rw [HW.out]; exact (Below.refl _ _).alloc (Nat.le_refl _) _
  have zW : w.heap.size < W.heap.size := by rw [HW.out]; simp
  have h1 := h.below bW
  have r1 : RowV W w.heap.size 4 (four (.int .i64 K) (.int .i64 i) (.string S) (.string T)) := by rw [HW.out]; exact RowV.four_new w _ _ _ _ _
  obtain ⟨x0, x1, x2, x3, x4⟩ := h1.row.cells5
  obtain ⟨y0, y1, y2, y3⟩ := r1.cells4
  have bB : Below B w W := bW.mono (by omega)
  by_cases c1 : (p.slots.length : Int) < (i : Int)
  · have hE : insE p ⟨K, i, S, T⟩ = 1 := by unfold insE; rw [if_pos c1]
    rw [hE]
    go_enter Try.func32, Try.ntmps32
    go_wp2_with fail
    rw [← HW.out]
    go_quiet (fail)
    go_wp2
    go_ret
    exact ⟨rfl, below_drewN bB nq, fun h => by cases h⟩
  · have hin : i ≤ p.slots.length := by omega
    by_cases c2 : 64 ≤ p.slots.length
    · have hE : insE p ⟨K, i, S, T⟩ = 3 := by unfold insE; rw [if_neg c1, if_pos c2]
      rw [hE]
      go_enter Try.func32, Try.ntmps32
      go_wp2_with fail
      rw [← HW.out]
      go_quiet (fail)
      go_wp2
      go_ret
      exact ⟨rfl, below_drewN bB nq, fun h => by cases h⟩
    · by_cases c3 : 485 < p.head.size + slotSum p.slots + (2 + S.size)
      · have hE : insE p ⟨K, i, S, T⟩ = 30 := by unfold insE; rw [if_neg c1, if_neg c2, if_pos c3]
        rw [hE]
        have hwr : IntKind.i64.wrap (2 + (S.size : Int)) = 2 + (S.size : Int) := wrap_small (by omega) (by omega)
        have hc2 : decide ((64 : Int) ≤ (p.slots.length : Int)) = false := by simp; omega
        have hc : decide (485 - (p.head.size : Int) - (slotSum p.slots : Int) < 2 + (S.size : Int)) = true := by simp; omega
        go_enter Try.func32, Try.ntmps32
        go_wp2_with fail
        rw [← HW.out]
        go_quiet (fail)
        have r2 : RowV (W.drewN nq) w.heap.size 4 (four (.int .i64 K) (.int .i64 i) (.string S) (.string T)) := r1.below (below_drewN (Below.refl W.heap.size W) nq) zW
        have h2 : SheetAt B (W.drewN nq) b bs p := h1.below (below_drewN (Below.refl W.heap.size W) nq)
        have bB2 := below_drewN bB nq
        have bW2 := below_drewN bW nq
        have zW2 : w.heap.size < (W.drewN nq).heap.size := zW
        obtain ⟨W2, HW2⟩ : ∃ W2, Hid (W2 = W.drewN nq) := ⟨_, rfl⟩
        rw [← HW2.out] at r2 h2 bB2 bW2 zW2 ⊢
        clear HW2 HW r1 h1 bB bW x0 x1 x2 x3 x4 y0 y1 y2 y3
        obtain ⟨x0, x1, x2, x3, x4⟩ := h2.row.cells5
        obtain ⟨y0, y1, y2, y3⟩ := r2.cells4
        go_wp2_with fail
        have gx0 := cell_regrown x0
        have gx1 := cell_regrown x1
        have gx2 := cell_regrown x2
        have gx3 := cell_regrown x3
        have gx4 := cell_regrown x4
        have gy2 := cell_regrown y2
        have cR : ∀ dd os, Calls Try.prog 40 #[.agg #[.int .u32 p.num, .int .u64 p.lsn, .int .i64 p.kind, .string p.head, .slice (some ⟨bs, 0, none⟩) p.slots.length p.slots.length]] (grow (redrawn W2 dd) os) fun e w'' => e = .returned (.int .i64 (485 - (p.head.size : Int) - (slotSum p.slots : Int))) ∧ ∃ p : Regrown, w'' = grow (redrawn W2 p.d) p.os := fun dd os => Calls.regrown_of (by
          have hk := (h2.below (below_regrown W2 dd os)).ok f
          have := hk.room p.slots.length
          rw [roomF_eq hk (by omega)] at this
          exact this)
        refine wp_region_quiet_below mixed (by kernel_rfl) ?_
        repeat (quiet_step (first | (go_at_call 40; exact cR _ _)))
        refine wpQuiet_nil ?_
        intro _ hw'
        obtain ⟨⟨dq, osq⟩, hw''⟩ := hw'
        subst hw''
        clear gx0 gx1 gx2 gx3 gx4 gy2 cR
        go_wp2
        go_ret
        exact ⟨rfl, bB2.trans ((below_regrown W2 dq osq).mono (by omega)), fun h => by cases h⟩
      · have hE : insE p ⟨K, i, S, T⟩ = 0 := by unfold insE; rw [if_neg c1, if_neg c2, if_neg c3]
        rw [hE]
        have hwr : IntKind.i64.wrap (2 + (S.size : Int)) = 2 + (S.size : Int) := wrap_small (by omega) (by omega)
        have hc2 : decide ((64 : Int) ≤ (p.slots.length : Int)) = false := by simp; omega
        have hc : decide (485 - (p.head.size : Int) - (slotSum p.slots : Int) < 2 + (S.size : Int)) = false := by simp; omega
        go_enter Try.func32, Try.ntmps32
        go_wp2_with fail
        rw [← HW.out]
        go_quiet (fail)
        have r2 : RowV (W.drewN nq) w.heap.size 4 (four (.int .i64 K) (.int .i64 i) (.string S) (.string T)) := r1.below (below_drewN (Below.refl W.heap.size W) nq) zW
        have h2 : SheetAt B (W.drewN nq) b bs p := h1.below (below_drewN (Below.refl W.heap.size W) nq)
        have bB2 := below_drewN bB nq
        have bW2 := below_drewN bW nq
        have zW2 : w.heap.size < (W.drewN nq).heap.size := zW
        obtain ⟨W2, HW2⟩ : ∃ W2, Hid (W2 = W.drewN nq) := ⟨_, rfl⟩
        rw [← HW2.out] at r2 h2 bB2 bW2 zW2 ⊢
        clear HW2 HW r1 h1 bB bW x0 x1 x2 x3 x4 y0 y1 y2 y3
        obtain ⟨x0, x1, x2, x3, x4⟩ := h2.row.cells5
        obtain ⟨y0, y1, y2, y3⟩ := r2.cells4
        go_wp2_with fail
        have gx0 := cell_regrown x0
        have gx1 := cell_regrown x1
        have gx2 := cell_regrown x2
        have gx3 := cell_regrown x3
        have gx4 := cell_regrown x4
        have gy2 := cell_regrown y2
        have cR : ∀ dd os, Calls Try.prog 40 #[.agg #[.int .u32 p.num, .int .u64 p.lsn, .int .i64 p.kind, .string p.head, .slice (some ⟨bs, 0, none⟩) p.slots.length p.slots.length]] (grow (redrawn W2 dd) os) fun e w'' => e = .returned (.int .i64 (485 - (p.head.size : Int) - (slotSum p.slots : Int))) ∧ ∃ p : Regrown, w'' = grow (redrawn W2 p.d) p.os := fun dd os => Calls.regrown_of (by
          have hk := (h2.below (below_regrown W2 dd os)).ok f
          have := hk.room p.slots.length
          rw [roomF_eq hk (by omega)] at this
          exact this)
        refine wp_region_quiet_below mixed (by kernel_rfl) ?_
        repeat (quiet_step (first | (go_at_call 40; exact cR _ _)))
        refine wpQuiet_nil ?_
        intro _ hw'
        obtain ⟨⟨dq, osq⟩, hw''⟩ := hw'
        subst hw''
        clear gx0 gx1 gx2 gx3 gx4 gy2 cR
        have bG := below_regrown W2 dq osq
        have h3 := h2.below bG
        have r3 := r2.below bG zW2
        have bB3 := bB2.trans (bG.mono (by omega))
        have zW3 := Nat.lt_of_lt_of_le zW2 bG.size
        obtain ⟨W3, HW3⟩ : ∃ W3, Hid (W3 = grow (redrawn W2 dq) osq) := ⟨_, rfl⟩
        rw [← HW3.out] at h3 r3 bB3 zW3 ⊢
        clear HW3 bG h2 r2 bB2 bW2 x0 x1 x2 x3 x4 y0 y1 y2 y3
        obtain ⟨x0, x1, x2, x3, x4⟩ := h3.row.cells5
        obtain ⟨f0, f1, f2, f3, f4⟩ := h3.row.open5
        obtain ⟨y0, y1, y2, y3⟩ := r3.cells4
        go_wp2_with fail
        have hz3 := h3.lt
        have HI : Hid (Calls Try.prog 41 #[.slice (some ⟨bs, 0, none⟩) p.slots.length p.slots.length, .int .i64 i, .slice (some ⟨W3.heap.size, 0, none⟩) 1 1] (W3.drew.alloc (.cells #[.string S] 9)) fun e w' =>
            ∃ c, e = .returned (.slice (some ⟨W3.heap.size + 1, 0, none⟩) (p.slots.length + 1) c) ∧ StrRow w' (W3.heap.size + 1) (insL p.slots i S) ∧ Below (W3.heap.size + 1) (W3.drew.alloc (.cells #[.string S] 9)) w' ∧ W3.heap.size + 1 < w'.heap.size ∧
              RowV w' b 5 (five (.int .u32 p.num) (.int .u64 p.lsn) (.int .i64 p.kind) (.string p.head) (.slice (some ⟨bs, 0, none⟩) p.slots.length p.slots.length)) ∧ Below B w w') := by
          have bA : Below W3.heap.size W3 (W3.drew.alloc (.cells #[.string S] 9)) := ((Below.refl _ _).drew).alloc (Nat.le_refl _) _
          have h4 := h3.below bA
          have hsz : (W3.drew.alloc (.cells #[.string S] 9)).heap.size = W3.heap.size + 1 := by simp
          refine (insert_call p.slots bs W3.heap.size S i _ h4.str hin (World.cell?_alloc_new (w := W3.drew) _ _ _) (by omega) h4.bslt).mono ?_
          rintro e w' ⟨c, rfl, q1, q2, q3⟩
          have q4 := h4.row.below q2 h4.lt
          rw [hsz] at q1 q2 q3 ⊢
          exact ⟨c, rfl, q1, q2, q3, q4, bB3.trans ((bA.mono (by omega)).trans (q2.mono (by omega)))⟩
        go_region_with (first | (go_at_call 41; refine HI.out.mono ?_; rintro e w4 ⟨c4, rfl, q1, q2, q3, q4, q5⟩; obtain ⟨k0, k1, k2, k3, k4⟩ := q4.cells5; obtain ⟨l0, l1, l2, l3, l4⟩ := q4.open5))
        all_goals
          go_wp2
          go_ret
          exact ⟨rfl, q5.setCell (p := ⟨b, 4, none⟩) hb1 _, fun _ => ⟨W3.heap.size + 1, c4, q4.set4 _, q1.set_other (by omega) _, by omega, by simpa using q3, by omega⟩⟩

end
end Go.Proofs.Ytkknglcckjhngaa

namespace Go.Proofs.Ytkknglcckjhngaa
open Go.RowKit Go.Sort
set_option linter.unusedVariables false

/-- Texts that lie in another block than b, from B on. -/
def StrsNot (B b : Nat) (w : World) (a : Option Addr) (L : List ByteArray) : Prop :=
  L = [] ∨ ∃ bs o, a = some ⟨bs, o, none⟩ ∧ bs ≠ b ∧ B ≤ bs ∧ bs < w.heap.size ∧ ∀ i (hi : i < L.length), w.cell? ⟨bs, o + i, none⟩ = some (.string L[i])

theorem StrsNot.set {B b : Nat} {w : World} {a : Option Addr} {L : List ByteArray} (h : StrsNot B b w a L) (i : Nat) (v : Value) : StrsNot B b (w.setCell ⟨b, i, none⟩ v) a L := by
  rcases h with h | ⟨bs, o, e, h1, h2, hb, hc⟩
  · exact .inl h
  · refine .inr ⟨bs, o, e, h1, h2, by simpa using hb, fun j hj => ?_⟩
    rw [World.cell?_setCell_other _ _ _ _ (by intro q; exact h1 (congrArg Addr.block q).symm)]
    exact hc j hj

theorem StrsNot.from {B b : Nat} {w : World} {a : Option Addr} {L : List ByteArray} (h : StrsNot B b w a L) : StrsFrom B w a L := by
  rcases h with h | ⟨bs, o, e, h1, h2, hb, hc⟩
  · exact .inl h
  · exact .inr ⟨bs, o, e, h2, hb, hc⟩

theorem StrRow.not {B b bs : Nat} {w : World} {L : List ByteArray} (h : StrRow w bs L) (h1 : bs ≠ b) (h2 : B ≤ bs) (h3 : bs < w.heap.size) : StrsNot B b w (some ⟨bs, 0, none⟩) L :=
  .inr ⟨bs, 0, rfl, h1, h2, h3, fun i hi => by rw [Nat.zero_add]; exact h.cell hi⟩

/-- What page.change does to a page: the error E; where it is 0, the page q. -/
def ChangeDoes (p : SheetV) (o : OpV) (E : Int) (q : SheetV) : Prop :=
  ∀ B w b bs, SheetAt B w b bs p → Calls Try.prog 26 #[.pointer (some ⟨b, 0, none⟩), o.val] w fun e w' => e = .returned (.int .i64 E) ∧ Below B w w' ∧
    (E = 0 → ∃ a' c', RowV w' b 5 (five (.int .u32 q.num) (.int .u64 q.lsn) (.int .i64 q.kind) (.string q.head) (.slice a' q.slots.length c')) ∧ StrsNot B b w' a' q.slots)

/-- Where Apply stands: the page, the change, the result. -/
structure ApplyAt (w wx : World) (p : SheetV) (o : OpV) (a : Option Addr) (c : Nat) : Prop where
  page : RowV wx w.heap.size 5 (five (.int .u32 p.num) (.int .u64 p.lsn) (.int .i64 p.kind) (.string p.head) (.slice a p.slots.length c))
  op : RowV wx (w.heap.size + 1) 4 (four (.int .i64 o.kind) (.int .i64 o.at') (.string o.S) (.string o.old))
  res : RowV wx (w.heap.size + 2) 5 (five (.int .u32 0) (.int .u64 0) (.int .i64 0) (.string ⟨#[]⟩) (.slice none 0 0))
  bel : Below w.heap.size w wx
  lt : w.heap.size + 3 ≤ wx.heap.size

theorem ApplyAt.below {w wx wy : World} {p : SheetV} {o : OpV} {a : Option Addr} {c B : Nat} (h : ApplyAt w wx p o a c) (k : Below B wx wy) (hB : w.heap.size + 3 ≤ B) : ApplyAt w wy p o a c :=
  ⟨h.page.below k (by omega), h.op.below k (by omega), h.res.below k (by omega), h.bel.trans (k.mono (by omega)), Nat.le_trans h.lt k.size⟩

section
variable {w : World} {p q : SheetV} {o : OpV} {a : Option Addr} {c : Nat} {E : Int}

set_option maxHeartbeats 1600000 in
theorem apply_bad (lsn : Nat) (h : p.Ok w a) (ho : o.Ok) (hc : chkB o = false) :
    Calls Try.prog 12 #[p.val a c, o.val, .int .u64 lsn] w fun e w' => e = .returned (.tuple #[sheet0.val none 0, .int .i64 33]) ∧ Below w.heap.size w w' := by
  have HCK : Hid (∀ wx, Calls Try.prog 24 #[o.val] wx fun e w' => e = .returned (.int .i64 33) ∧ Below wx.heap.size wx w') := fun wx => by
    have := check_any o wx ho
    rw [show chkE o = 33 from by unfold chkE; rw [hc]; rfl] at this
    exact this
  simp only [SheetV.val, OpV.val] at *
  obtain ⟨W, HW⟩ : ∃ W, Hid (W = ((w.alloc (.cells #[.int .u32 p.num, .int .u64 p.lsn, .int .i64 p.kind, .string p.head, .slice a p.slots.length c] 29)).alloc (.cells #[.int .i64 o.kind, .int .i64 o.at', .string o.S, .string o.old] 41)).alloc (.cells #[.int .u32 0, .int .u64 0, .int .i64 0, .string ⟨#[]⟩, .slice none 0 0] 29)) := ⟨_, rfl⟩
  have hA : ApplyAt w W p o a c := by
    rw [HW.out]
    refine ⟨((RowV.five_new w _ _ _ _ _ _).below ((Below.refl _ _).alloc (Nat.le_refl _) _) (by simp)).below ((Below.refl _ _).alloc (Nat.le_refl _) _) (by simp; omega), ?_, ?_, (((Below.refl _ _).alloc (Nat.le_refl _) _).alloc (by simp) _).alloc (by simp; omega) _, by simp⟩
    · have := (RowV.four_new (w.alloc (.cells #[.int .u32 p.num, .int .u64 p.lsn, .int .i64 p.kind, .string p.head, .slice a p.slots.length c] 29)) (.int .i64 o.kind) (.int .i64 o.at') (.string o.S) (.string o.old) 41).below ((Below.refl _ _).alloc (Nat.le_refl _) (.cells #[.int .u32 0, .int .u64 0, .int .i64 0, .string ⟨#[]⟩, .slice none 0 0] 29)) (by simp)
      simpa using this
    · have := RowV.five_new ((w.alloc (.cells #[.int .u32 p.num, .int .u64 p.lsn, .int .i64 p.kind, .string p.head, .slice a p.slots.length c] 29)).alloc (.cells #[.int .i64 o.kind, .int .i64 o.at', .string o.S, .string o.old] 41)) (.int .u32 0) (.int .u64 0) (.int .i64 0) (.string ⟨#[]⟩) (.slice none 0 0) 29
      simpa using this
  go_enter Try.func12, Try.ntmps12
  go_wp2_with fail
  rw [← HW.out]
  clear HW
  refine (HCK.out _).mono ?_
  rintro e w1 ⟨rfl, b1⟩
  have h1 := hA.below b1 hA.lt
  obtain ⟨y0, y1, y2, y3, y4⟩ := h1.res.cells5
  obtain ⟨g0, g1, g2, g3, g4⟩ := h1.res.open5
  go_wp2
  have hq := h1.res.set5 (.int .u32 0) (.int .u64 0) (.int .i64 0) (.string ⟨#[]⟩) (.slice none 0 0)
  have bq := below_set5 h1.bel (b := w.heap.size + 2) (by omega) (.int .u32 0) (.int .u64 0) (.int .i64 0) (.string ⟨#[]⟩) (.slice none 0 0)
  obtain ⟨WX, HWX⟩ : ∃ WX, Hid (WX = store5 w1 (w.heap.size + 2) (.int .u32 0) (.int .u64 0) (.int .i64 0) (.string ⟨#[]⟩) (.slice none 0 0)) := ⟨_, rfl⟩
  rw [← HWX.out] at hq bq
  obtain ⟨r0, r1, r2, r3, r4⟩ := hq.cells5
  rw [show (((((w1.setCell ⟨w.heap.size + 2, 0, none⟩ (.int .u32 0)).setCell ⟨w.heap.size + 2, 1, none⟩ (.int .u64 0)).setCell ⟨w.heap.size + 2, 2, none⟩ (.int .i64 0)).setCell ⟨w.heap.size + 2, 3, none⟩ (.string ⟨#[]⟩)).setCell ⟨w.heap.size + 2, 4, none⟩ (.slice none 0 0)) = WX from HWX.out.symm]
  refine bodyPost_ret (v := .tuple #[.agg #[.int .u32 0, .int .u64 0, .int .i64 0, .string ⟨#[]⟩, .slice none 0 0], .int .i64 33]) (by simp [results, Try.results12, go_sem, r0, r1, r2, r3, r4]) rfl ?_
  exact ⟨rfl, bq⟩

set_option maxHeartbeats 3200000 in
theorem apply_of (lsn : Nat) (h : p.Ok w a) (f : p.Fits) (ho : o.Ok) (hc : chkB o = true) (hd : ChangeDoes p o E q) :
    Calls Try.prog 12 #[p.val a c, o.val, .int .u64 lsn] w fun e w' => ∃ X, e = .returned (.tuple #[X, .int .i64 E]) ∧ Below w.heap.size w w' ∧
      (E = 0 → ∃ a' c', X = ({ q with lsn := lsn } : SheetV).val a' c' ∧ StrsFrom w.heap.size w' a' q.slots) ∧ (E ≠ 0 → X = sheet0.val none 0) := by
  have HCK : Hid (∀ wx, Calls Try.prog 24 #[o.val] wx fun e w' => e = .returned (.int .i64 0) ∧ Below wx.heap.size wx w') := fun wx => by
    have := check_any o wx ho
    rw [show chkE o = 0 from by unfold chkE; rw [hc]; rfl] at this
    exact this
  have HCP : Hid (∀ wx, Below w.heap.size w wx → Calls Try.prog 25 #[p.val a c] wx fun e w' => ∃ b, e = .returned (p.val (some ⟨b, 0, none⟩) p.slots.length) ∧ wx.heap.size < b ∧ b < w'.heap.size ∧ RowV w' b p.slots.length (fun j => .string (p.slots.getD j ByteArray.empty)) ∧ Below wx.heap.size wx w') := fun wx hb => copyOf_any p a c wx (h.below hb)
  have HCO : Hid (∀ wx, Calls Try.prog 27 #[o.val] wx fun e w' => e = .returned o.val ∧ Below wx.heap.size wx w') := fun wx => copyOfOp_any o wx ho
  have HCH : Hid (ChangeDoes p o E q) := hd
  clear hd
  unfold ChangeDoes at HCH
  simp only [SheetV.val, OpV.val] at HCK HCP HCO HCH ⊢
  obtain ⟨W, HW⟩ : ∃ W, Hid (W = ((w.alloc (.cells #[.int .u32 p.num, .int .u64 p.lsn, .int .i64 p.kind, .string p.head, .slice a p.slots.length c] 29)).alloc (.cells #[.int .i64 o.kind, .int .i64 o.at', .string o.S, .string o.old] 41)).alloc (.cells #[.int .u32 0, .int .u64 0, .int .i64 0, .string ⟨#[]⟩, .slice none 0 0] 29)) := ⟨_, rfl⟩
  have hA : ApplyAt w W p o a c := by
    rw [HW.out]
    refine ⟨((RowV.five_new w _ _ _ _ _ _).below ((Below.refl _ _).alloc (Nat.le_refl _) _) (by simp)).below ((Below.refl _ _).alloc (Nat.le_refl _) _) (by simp; omega), ?_, ?_, (((Below.refl _ _).alloc (Nat.le_refl _) _).alloc (by simp) _).alloc (by simp; omega) _, by simp⟩
    · have := (RowV.four_new (w.alloc (.cells #[.int .u32 p.num, .int .u64 p.lsn, .int .i64 p.kind, .string p.head, .slice a p.slots.length c] 29)) (.int .i64 o.kind) (.int .i64 o.at') (.string o.S) (.string o.old) 41).below ((Below.refl _ _).alloc (Nat.le_refl _) (.cells #[.int .u32 0, .int .u64 0, .int .i64 0, .string ⟨#[]⟩, .slice none 0 0] 29)) (by simp)
      simpa using this
    · have := RowV.five_new ((w.alloc (.cells #[.int .u32 p.num, .int .u64 p.lsn, .int .i64 p.kind, .string p.head, .slice a p.slots.length c] 29)).alloc (.cells #[.int .i64 o.kind, .int .i64 o.at', .string o.S, .string o.old] 41)) (.int .u32 0) (.int .u64 0) (.int .i64 0) (.string ⟨#[]⟩) (.slice none 0 0) 29
      simpa using this
  go_enter Try.func12, Try.ntmps12
  go_wp2_with fail
  rw [← HW.out]
  clear HW
  refine (HCK.out _).mono ?_
  rintro e w1 ⟨rfl, b1⟩
  have h1 := hA.below b1 hA.lt
  clear b1 hA
  obtain ⟨x0, x1, x2, x3, x4⟩ := h1.page.cells5
  go_wp2_with fail
  refine (HCP.out _ h1.bel).mono ?_
  rintro e w2 ⟨b, rfl, hb1, hb2, hrow, b2⟩
  have hl1 := h1.lt
  have h2 := h1.below b2 h1.lt
  clear h1 x0 x1 x2 x3 x4
  obtain ⟨y0, y1, y2, y3⟩ := h2.op.cells4
  have hz2 := h2.lt
  have hz2' : w.heap.size + 1 < w2.heap.size := by omega
  go_wp2_with fail
  obtain ⟨W2, HW2⟩ : ∃ W2, Hid (W2 = w2.alloc (.cells #[.int .u32 p.num, .int .u64 p.lsn, .int .i64 p.kind, .string p.head, .slice (some ⟨b, 0, none⟩) p.slots.length p.slots.length] 29)) := ⟨_, rfl⟩
  have bA : Below w2.heap.size w2 W2 := by rw [HW2.out]; exact (Below.refl _ _).alloc (Nat.le_refl _) _
  have h3 := h2.below bA hz2
  have hs : SheetAt (w.heap.size + 3) W2 w2.heap.size b p := by
    refine ⟨by rw [HW2.out]; exact RowV.five_new w2 _ _ _ _ _ _, hrow.below bA hb2, hz2, by rw [HW2.out]; simp, by omega, by rw [HW2.out]; simp; omega, by omega⟩
  rw [← HW2.out]
  clear HW2 h2 y0 y1 y2 y3 bA hrow b2
  refine (HCO.out _).mono ?_
  rintro e w3 ⟨rfl, b3⟩
  have h4 := h3.below b3 h3.lt
  have hs4 := hs.below b3
  clear h3 hs b3
  go_wp2_with fail
  refine (HCH.out _ _ _ _ hs4).mono ?_
  rintro e w4 ⟨rfl, b4, hres⟩
  have h5 := h4.below b4 (Nat.le_refl _)
  have hz5 := Nat.lt_of_lt_of_le hs4.lt b4.size
  clear h4 hs4 b4
  obtain ⟨y0, y1, y2, y3, y4⟩ := h5.res.cells5
  obtain ⟨g0, g1, g2, g3, g4⟩ := h5.res.open5
  by_cases hE : E = 0
  · obtain ⟨a', c', hrow, hst⟩ := hres hE
    subst hE
    obtain ⟨x0, x1, x2, x3, x4⟩ := hrow.cells5
    obtain ⟨f0, f1, f2, f3, f4⟩ := hrow.open5
    go_wp2_with fail
    obtain ⟨w5, HW5⟩ : ∃ w5, Hid (w5 = w4.setCell ⟨w2.heap.size, 1, none⟩ (.int .u64 lsn)) := ⟨_, rfl⟩
    have hs5 := (hst.set 1 (.int .u64 lsn)).from
    have hr5 := h5.res.set_other (b' := w2.heap.size) (k := 1) (by omega) (.int .u64 lsn)
    have hb5 := h5.bel.setCell (p := ⟨w2.heap.size, 1, none⟩) (by show w.heap.size ≤ w2.heap.size; omega) (.int .u64 lsn)
    rw [← HW5.out] at hs5 hr5 hb5 ⊢
    have hq := hr5.set5 (.int .u32 q.num) (.int .u64 lsn) (.int .i64 q.kind) (.string q.head) (.slice a' q.slots.length c')
    have bq := below_set5 hb5 (b := w.heap.size + 2) (by omega) (.int .u32 q.num) (.int .u64 lsn) (.int .i64 q.kind) (.string q.head) (.slice a' q.slots.length c')
    have sq := hs5.store5 (b := w.heap.size + 2) (by omega) (.int .u32 q.num) (.int .u64 lsn) (.int .i64 q.kind) (.string q.head) (.slice a' q.slots.length c')
    obtain ⟨WX, HWX⟩ : ∃ WX, Hid (WX = store5 w5 (w.heap.size + 2) (.int .u32 q.num) (.int .u64 lsn) (.int .i64 q.kind) (.string q.head) (.slice a' q.slots.length c')) := ⟨_, rfl⟩
    rw [← HWX.out] at hq bq
    rw [show (((((w5.setCell ⟨w.heap.size + 2, 0, none⟩ (.int .u32 q.num)).setCell ⟨w.heap.size + 2, 1, none⟩ (.int .u64 lsn)).setCell ⟨w.heap.size + 2, 2, none⟩ (.int .i64 q.kind)).setCell ⟨w.heap.size + 2, 3, none⟩ (.string q.head)).setCell ⟨w.heap.size + 2, 4, none⟩ (.slice a' q.slots.length c')) = WX from HWX.out.symm] at sq ⊢
    obtain ⟨r0, r1, r2, r3, r4⟩ := hq.cells5
    refine bodyPost_ret (v := .tuple #[.agg #[.int .u32 q.num, .int .u64 lsn, .int .i64 q.kind, .string q.head, .slice a' q.slots.length c'], .int .i64 0]) (by simp [results, Try.results12, go_sem, r0, r1, r2, r3, r4]) rfl ?_
    exact ⟨_, rfl, bq, a', ⟨c', rfl⟩, sq.mono (by omega)⟩
  · have hE' : (E != 0) = true := by rw [bne_iff_ne]; exact hE
    clear hres
    go_wp2
    have hq := h5.res.set5 (.int .u32 0) (.int .u64 0) (.int .i64 0) (.string ⟨#[]⟩) (.slice none 0 0)
    have bq := below_set5 h5.bel (b := w.heap.size + 2) (by omega) (.int .u32 0) (.int .u64 0) (.int .i64 0) (.string ⟨#[]⟩) (.slice none 0 0)
    obtain ⟨WX, HWX⟩ : ∃ WX, Hid (WX = store5 w4 (w.heap.size + 2) (.int .u32 0) (.int .u64 0) (.int .i64 0) (.string ⟨#[]⟩) (.slice none 0 0)) := ⟨_, rfl⟩
    rw [← HWX.out] at hq bq
    obtain ⟨r0, r1, r2, r3, r4⟩ := hq.cells5
    rw [show (((((w4.setCell ⟨w.heap.size + 2, 0, none⟩ (.int .u32 0)).setCell ⟨w.heap.size + 2, 1, none⟩ (.int .u64 0)).setCell ⟨w.heap.size + 2, 2, none⟩ (.int .i64 0)).setCell ⟨w.heap.size + 2, 3, none⟩ (.string ⟨#[]⟩)).setCell ⟨w.heap.size + 2, 4, none⟩ (.slice none 0 0)) = WX from HWX.out.symm]
    refine bodyPost_ret (v := .tuple #[.agg #[.int .u32 0, .int .u64 0, .int .i64 0, .string ⟨#[]⟩, .slice none 0 0], .int .i64 E]) (by simp [results, Try.results12, go_sem, r0, r1, r2, r3, r4]) rfl ?_
    exact ⟨_, rfl, bq, fun h => absurd h hE, fun _ => rfl⟩

end
end Go.Proofs.Ytkknglcckjhngaa

namespace Go.Proofs.Ytkknglcckjhngaa
open Go.RowKit Go.Sort
set_option linter.unusedVariables false

theorem insE_zero {p : SheetV} {o : OpV} (h : insE p o = 0) : o.at' ≤ p.slots.length ∧ p.slots.length < 64 ∧ p.head.size + slotSum p.slots + (2 + o.S.size) ≤ 485 := by
  unfold insE at h
  split at h
  · cases h
  split at h
  · cases h
  split at h
  · cases h
  · omega

set_option maxHeartbeats 1600000 in
theorem change_ins {p : SheetV} {o : OpV} (f : p.Fits) (ho : o.Ok) (hk : o.kind = 2) (ha : 0 ≤ o.at') : ChangeDoes p o (insE p o) { p with slots := insL p.slots o.at'.toNat o.S } := by
  intro B w b bs h
  have hb1 := h.b1
  have hlt := h.lt
  have HI : Hid (∀ wx, SheetAt B wx b bs p → Calls Try.prog 32 #[.pointer (some ⟨b, 0, none⟩), o.val] wx fun e w' => e = .returned (.int .i64 (insE p o)) ∧ Below B wx w' ∧
      (insE p o = 0 → ∃ bs' c, RowV w' b 5 (five (.int .u32 p.num) (.int .u64 p.lsn) (.int .i64 p.kind) (.string p.head) (.slice (some ⟨bs', 0, none⟩) (p.slots.length + 1) c)) ∧ StrRow w' bs' (insL p.slots o.at'.toNat o.S) ∧ B ≤ bs' ∧ bs' < w'.heap.size ∧ bs' ≠ b)) := fun wx hx => insert_any hx f ho ha
  have HZ : Hid (insE p o = 0 → o.at'.toNat ≤ p.slots.length) := fun e => by have := insE_zero e; omega
  generalize insE p o = E at *
  obtain ⟨K, A, S, T⟩ := o
  simp only at hk ha HI HZ ⊢
  subst hk
  generalize A.toNat = i at *
  simp only [OpV.val] at HI ⊢
  obtain ⟨W, HW⟩ : ∃ W, Hid (W = w.alloc (.cells #[.int .i64 2, .int .i64 A, .string S, .string T] 41)) := ⟨_, rfl⟩
  have bW : Below w.heap.size w W := by rw [HW.out]; exact (Below.refl _ _).alloc (Nat.le_refl _) _
  have h1 := h.below bW
  go_enter Try.func26, Try.ntmps26
  go_wp2_with fail
  rw [← HW.out]
  clear HW
  refine (HI.out _ h1).mono ?_
  rintro e w1 ⟨rfl, b1, hz⟩
  go_wp2
  go_ret
  refine ⟨rfl, (bW.mono (by omega)).trans b1, fun hE => ?_⟩
  obtain ⟨bs', c', q1, q2, q3, q4, q5⟩ := hz hE
  exact ⟨some ⟨bs', 0, none⟩, c', by rw [insL_length _ _ _ (HZ.out hE)]; exact q1, q2.not q5 q3 q4⟩

end Go.Proofs.Ytkknglcckjhngaa

namespace Go.Proofs.Ytkknglcckjhngaa
open Go.RowKit Go.Sort
set_option linter.unusedVariables false

/-- The error of an OpHead. -/
def headE (p : SheetV) (o : OpV) : Int := if p.head ≠ o.old then 31 else if 485 < o.S.size + slotSum p.slots then 30 else 0

section
variable {B : Nat} {w : World} {b bs : Nat} {p : SheetV} {o : OpV}

set_option maxHeartbeats 1600000 in
theorem setHead_any (h : SheetAt B w b bs p) (f : p.Fits) (ho : o.Ok) :
    Calls Try.prog 35 #[.pointer (some ⟨b, 0, none⟩), o.val] w fun e w' => e = .returned (.int .i64 (headE p o)) ∧ Below B w w' ∧
      (headE p o = 0 → SheetAt B w' b bs { p with head := o.S }) := by
  have hb1 := h.b1
  have hlt := h.lt
  have hoS := ho.S
  have hoT := ho.old
  have hf := f.fits
  have hn64 := f.len
  clear ho
  obtain ⟨K, A, S, T⟩ := o
  simp only at hoS hoT ⊢
  unfold OpV.val
  simp only
  obtain ⟨W, HW⟩ : ∃ W, Hid (W = w.alloc (.cells #[.int .i64 K, .int .i64 A, .string S, .string T] 41)) := ⟨_, rfl⟩
  have bW : Below w.heap.size w W := by rw [HW.out]; exact (Below.refl _ _).alloc (Nat.le_refl _) _
  have zW : w.heap.size < W.heap.size := by rw [HW.out]; simp
  have h1 := h.below bW
  have r1 : RowV W w.heap.size 4 (four (.int .i64 K) (.int .i64 A) (.string S) (.string T)) := by rw [HW.out]; exact RowV.four_new w _ _ _ _ _
  obtain ⟨x0, x1, x2, x3, x4⟩ := h1.row.cells5
  obtain ⟨y0, y1, y2, y3⟩ := r1.cells4
  have bB : Below B w W := bW.mono (by omega)
  by_cases c1 : p.head = T
  · have hwr : IntKind.i64.wrap ((S.size : Int) - (T.size : Int)) = (S.size : Int) - (T.size : Int) := wrap_small (by omega) (by omega)
    have c1' := str_eq c1
    have hTs : T.size = p.head.size := by rw [c1]
    have c1h : Hid (p.head = T) := c1
    by_cases c3 : 485 < S.size + slotSum p.slots
    · have hE : headE p ⟨K, A, S, T⟩ = 30 := by unfold headE; rw [if_neg (by simpa using c1), if_pos c3]
      rw [hE]
      have hc : decide (485 - (p.head.size : Int) - (slotSum p.slots : Int) < (S.size : Int) - (T.size : Int)) = true := by simp; omega
      clear c1 hTs
      go_enter Try.func35, Try.ntmps35
      go_wp2_with fail
      rw [← HW.out]
      go_quiet (fail)
      have r2 : RowV (W.drewN nq) w.heap.size 4 (four (.int .i64 K) (.int .i64 A) (.string S) (.string T)) := r1.below (below_drewN (Below.refl W.heap.size W) nq) zW
      have h2 : SheetAt B (W.drewN nq) b bs p := h1.below (below_drewN (Below.refl W.heap.size W) nq)
      have bB2 := below_drewN bB nq
      have zW2 : w.heap.size < (W.drewN nq).heap.size := zW
      obtain ⟨W2, HW2⟩ : ∃ W2, Hid (W2 = W.drewN nq) := ⟨_, rfl⟩
      rw [← HW2.out] at r2 h2 bB2 zW2 ⊢
      clear HW2 HW r1 h1 bB bW x0 x1 x2 x3 x4 y0 y1 y2 y3
      obtain ⟨x0, x1, x2, x3, x4⟩ := h2.row.cells5
      obtain ⟨y0, y1, y2, y3⟩ := r2.cells4
      go_wp2_with fail
      have gx0 := cell_regrown x0
      have gx1 := cell_regrown x1
      have gx2 := cell_regrown x2
      have gx3 := cell_regrown x3
      have gx4 := cell_regrown x4
      have gy2 := cell_regrown y2
      have gy3 := cell_regrown y3
      have cR : ∀ dd os, Calls Try.prog 40 #[.agg #[.int .u32 p.num, .int .u64 p.lsn, .int .i64 p.kind, .string p.head, .slice (some ⟨bs, 0, none⟩) p.slots.length p.slots.length]] (grow (redrawn W2 dd) os) fun e w'' => e = .returned (.int .i64 (485 - (p.head.size : Int) - (slotSum p.slots : Int))) ∧ ∃ p : Regrown, w'' = grow (redrawn W2 p.d) p.os := fun dd os => Calls.regrown_of (by
        have hk := (h2.below (below_regrown W2 dd os)).ok f
        have := hk.room p.slots.length
        rw [roomF_eq hk (by omega)] at this
        exact this)
      refine wp_region_quiet_below mixed (by kernel_rfl) ?_
      repeat (quiet_step (first | (go_at_call 40; exact cR _ _)))
      refine wpQuiet_nil ?_
      intro _ hw'
      obtain ⟨⟨dq, osq⟩, hw''⟩ := hw'
      subst hw''
      clear gx0 gx1 gx2 gx3 gx4 gy2 gy3 cR
      go_wp2
      go_ret
      exact ⟨rfl, bB2.trans ((below_regrown W2 dq osq).mono (by omega)), fun h => by cases h⟩
    · have hE : headE p ⟨K, A, S, T⟩ = 0 := by unfold headE; rw [if_neg (by simpa using c1), if_neg c3]
      rw [hE]
      have hc : decide (485 - (p.head.size : Int) - (slotSum p.slots : Int) < (S.size : Int) - (T.size : Int)) = false := by simp; omega
      clear c1 hTs
      go_enter Try.func35, Try.ntmps35
      go_wp2_with fail
      rw [← HW.out]
      go_quiet (fail)
      have r2 : RowV (W.drewN nq) w.heap.size 4 (four (.int .i64 K) (.int .i64 A) (.string S) (.string T)) := r1.below (below_drewN (Below.refl W.heap.size W) nq) zW
      have h2 : SheetAt B (W.drewN nq) b bs p := h1.below (below_drewN (Below.refl W.heap.size W) nq)
      have bB2 := below_drewN bB nq
      have zW2 : w.heap.size < (W.drewN nq).heap.size := zW
      obtain ⟨W2, HW2⟩ : ∃ W2, Hid (W2 = W.drewN nq) := ⟨_, rfl⟩
      rw [← HW2.out] at r2 h2 bB2 zW2 ⊢
      clear HW2 HW r1 h1 bB bW x0 x1 x2 x3 x4 y0 y1 y2 y3
      obtain ⟨x0, x1, x2, x3, x4⟩ := h2.row.cells5
      obtain ⟨y0, y1, y2, y3⟩ := r2.cells4
      go_wp2_with fail
      have gx0 := cell_regrown x0
      have gx1 := cell_regrown x1
      have gx2 := cell_regrown x2
      have gx3 := cell_regrown x3
      have gx4 := cell_regrown x4
      have gy2 := cell_regrown y2
      have gy3 := cell_regrown y3
      have cR : ∀ dd os, Calls Try.prog 40 #[.agg #[.int .u32 p.num, .int .u64 p.lsn, .int .i64 p.kind, .string p.head, .slice (some ⟨bs, 0, none⟩) p.slots.length p.slots.length]] (grow (redrawn W2 dd) os) fun e w'' => e = .returned (.int .i64 (485 - (p.head.size : Int) - (slotSum p.slots : Int))) ∧ ∃ p : Regrown, w'' = grow (redrawn W2 p.d) p.os := fun dd os => Calls.regrown_of (by
        have hk := (h2.below (below_regrown W2 dd os)).ok f
        have := hk.room p.slots.length
        rw [roomF_eq hk (by omega)] at this
        exact this)
      refine wp_region_quiet_below mixed (by kernel_rfl) ?_
      repeat (quiet_step (first | (go_at_call 40; exact cR _ _)))
      refine wpQuiet_nil ?_
      intro _ hw'
      obtain ⟨⟨dq, osq⟩, hw''⟩ := hw'
      subst hw''
      clear gx0 gx1 gx2 gx3 gx4 gy2 gy3 cR
      have bG := below_regrown W2 dq osq
      have h3 := h2.below bG
      have r3 := r2.below bG zW2
      have bB3 := bB2.trans (bG.mono (by omega))
      have zW3 := Nat.lt_of_lt_of_le zW2 bG.size
      obtain ⟨W3, HW3⟩ : ∃ W3, Hid (W3 = grow (redrawn W2 dq) osq) := ⟨_, rfl⟩
      rw [← HW3.out] at h3 r3 bB3 zW3 ⊢
      clear HW3 bG h2 r2 bB2 x0 x1 x2 x3 x4 y0 y1 y2 y3
      obtain ⟨x0, x1, x2, x3, x4⟩ := h3.row.cells5
      obtain ⟨f0, f1, f2, f3, f4⟩ := h3.row.open5
      obtain ⟨y0, y1, y2, y3⟩ := r3.cells4
      go_wp2
      go_ret
      exact ⟨rfl, bB3.setCell (p := ⟨b, 3, none⟩) hb1 _, fun _ => ⟨h3.row.set3 _, h3.str.set_other (fun q => h3.ne q.symm) _, h3.b1, by simpa using h3.lt, h3.bs1, by simpa using h3.bslt, h3.ne⟩⟩
  · have hE : headE p ⟨K, A, S, T⟩ = 31 := by unfold headE; rw [if_pos c1]
    rw [hE]
    have c1' := str_ne c1
    go_enter Try.func35, Try.ntmps35
    go_wp2_with fail
    rw [← HW.out]
    go_quiet (fail)
    go_wp2
    go_ret
    exact ⟨rfl, below_drewN bB nq, fun h => by cases h⟩

end
end Go.Proofs.Ytkknglcckjhngaa

namespace Go.Proofs.Ytkknglcckjhngaa
open Go.RowKit Go.Sort
set_option linter.unusedVariables false

/-- The error of 'stands': is there a slot at, and is it Old? -/
def standE (p : SheetV) (o : OpV) : Int := if (p.slots.length : Int) ≤ o.at' then 1 else if p.slots.getD o.at'.toNat ByteArray.empty ≠ o.old then 31 else 0

theorem getD_at {L : List ByteArray} {i : Nat} (h : i < L.length) : L.getD i ByteArray.empty = L[i] := by
  rw [List.getD_eq_getElem?_getD, List.getElem?_eq_getElem h]; rfl

section
variable {B : Nat} {w : World} {b bs : Nat} {p : SheetV} {o : OpV}

set_option maxHeartbeats 1600000 in
theorem stands_any (h : SheetAt B w b bs p) (f : p.Fits) (ho : o.Ok) (ha : 0 ≤ o.at') :
    Calls Try.prog 42 #[.pointer (some ⟨b, 0, none⟩), o.val] w fun e w' => e = .returned (.int .i64 (standE p o)) ∧ Below w.heap.size w w' := by
  have hb1 := h.b1
  have hlt := h.lt
  have hoS := ho.S
  have hoT := ho.old
  have hf := f.fits
  have hn64 := f.len
  clear ho
  obtain ⟨K, A, S, T⟩ := o
  simp only at hoS hoT ha ⊢
  obtain ⟨i, rfl⟩ := Int.eq_ofNat_of_zero_le ha
  try rw [Int.toNat_natCast]
  unfold OpV.val
  simp only
  obtain ⟨W, HW⟩ : ∃ W, Hid (W = w.alloc (.cells #[.int .i64 K, .int .i64 i, .string S, .string T] 41)) := ⟨_, rfl⟩
  have bW : Below w.heap.size w W := by rw [HW.out]; exact (Below.refl _ _).alloc (Nat.le_refl _) _
  have zW : w.heap.size < W.heap.size := by rw [HW.out]; simp
  have h1 := h.below bW
  have r1 : RowV W w.heap.size 4 (four (.int .i64 K) (.int .i64 i) (.string S) (.string T)) := by rw [HW.out]; exact RowV.four_new w _ _ _ _ _
  obtain ⟨x0, x1, x2, x3, x4⟩ := h1.row.cells5
  obtain ⟨y0, y1, y2, y3⟩ := r1.cells4
  have bB : Below B w W := bW.mono (by omega)
  by_cases c1 : (p.slots.length : Int) ≤ (i : Int)
  · have hE : standE p ⟨K, i, S, T⟩ = 1 := by unfold standE; rw [if_pos c1]
    rw [hE]
    go_enter Try.func42, Try.ntmps42
    go_wp2_with fail
    rw [← HW.out]
    go_quiet (fail)
    go_wp2
    go_ret
    exact ⟨rfl, below_drewN bW nq⟩
  · have hin : i < p.slots.length := by omega
    have hgd := getD_at hin
    by_cases c2 : p.slots[i] = T
    · have hE : standE p ⟨K, i, S, T⟩ = 0 := by unfold standE; rw [if_neg c1]; simp only [Int.toNat_natCast]; exact if_neg (by rw [hgd]; simpa using c2)
      rw [hE]
      have hcc := str_eq c2
      clear hgd c2
      go_enter Try.func42, Try.ntmps42
      go_wp2_with fail
      rw [← HW.out]
      go_quiet (fail)
      have r2 : RowV (W.drewN nq) w.heap.size 4 (four (.int .i64 K) (.int .i64 i) (.string S) (.string T)) := r1.below (below_drewN (Below.refl W.heap.size W) nq) zW
      have h2 : SheetAt B (W.drewN nq) b bs p := h1.below (below_drewN (Below.refl W.heap.size W) nq)
      have bW2 := below_drewN bW nq
      obtain ⟨W2, HW2⟩ : ∃ W2, Hid (W2 = W.drewN nq) := ⟨_, rfl⟩
      rw [← HW2.out] at r2 h2 bW2 ⊢
      clear HW2 HW r1 h1 bB bW x0 x1 x2 x3 x4 y0 y1 y2 y3
      obtain ⟨x0, x1, x2, x3, x4⟩ := h2.row.cells5
      obtain ⟨y0, y1, y2, y3⟩ := r2.cells4
      have hsc := h2.str.cell hin
      obtain ⟨Q, hQ⟩ : ∃ Q, p.slots[i] = Q := ⟨_, rfl⟩
      rw [hQ] at hsc hcc
      clear hQ
      have hi0 : (0 : Int) ≤ (i : Int) := by omega
      have hi1 : (i : Int) < (p.slots.length : Int) := by omega
      go_wp2_with fail
      go_quiet (fail)
      go_wp2
      go_ret
      exact ⟨rfl, below_drewN bW2 nq⟩
    · have hE : standE p ⟨K, i, S, T⟩ = 31 := by unfold standE; rw [if_neg c1]; simp only [Int.toNat_natCast]; exact if_pos (by rw [hgd]; exact c2)
      rw [hE]
      have hcc := str_ne c2
      clear hgd c2
      go_enter Try.func42, Try.ntmps42
      go_wp2_with fail
      rw [← HW.out]
      go_quiet (fail)
      have r2 : RowV (W.drewN nq) w.heap.size 4 (four (.int .i64 K) (.int .i64 i) (.string S) (.string T)) := r1.below (below_drewN (Below.refl W.heap.size W) nq) zW
      have h2 : SheetAt B (W.drewN nq) b bs p := h1.below (below_drewN (Below.refl W.heap.size W) nq)
      have bW2 := below_drewN bW nq
      obtain ⟨W2, HW2⟩ : ∃ W2, Hid (W2 = W.drewN nq) := ⟨_, rfl⟩
      rw [← HW2.out] at r2 h2 bW2 ⊢
      clear HW2 HW r1 h1 bB bW x0 x1 x2 x3 x4 y0 y1 y2 y3
      obtain ⟨x0, x1, x2, x3, x4⟩ := h2.row.cells5
      obtain ⟨y0, y1, y2, y3⟩ := r2.cells4
      have hsc := h2.str.cell hin
      obtain ⟨Q, hQ⟩ : ∃ Q, p.slots[i] = Q := ⟨_, rfl⟩
      rw [hQ] at hsc hcc
      clear hQ
      have hi0 : (0 : Int) ≤ (i : Int) := by omega
      have hi1 : (i : Int) < (p.slots.length : Int) := by omega
      go_wp2_with fail
      go_quiet (fail)
      go_wp2
      go_ret
      exact ⟨rfl, below_drewN bW2 nq⟩

/-- The error of an OpSet. -/
def setE (p : SheetV) (o : OpV) : Int := if standE p o ≠ 0 then standE p o else if 485 + o.old.size < p.head.size + slotSum p.slots + o.S.size then 30 else 0

theorem standE_zero {p : SheetV} {o : OpV} (h : standE p o = 0) : o.at' < p.slots.length ∧ p.slots.getD o.at'.toNat ByteArray.empty = o.old := by
  unfold standE at h
  split at h
  · cases h
  split at h
  · cases h
  · rename_i h1 h2; exact ⟨by omega, by simpa using h2⟩

theorem StrRow.setAt {w : World} {b : Nat} {L : List ByteArray} (h : StrRow w b L) {i : Nat} (hi : i < L.length) (s : ByteArray) : StrRow (w.setCell ⟨b, i, none⟩ (.string s)) b (L.set i s) := by
  have := h.set hi (.string s)
  refine StrRow.of fun j hj => ?_
  rw [List.length_set] at hj
  have q := this j hj
  refine ⟨?_, q.2⟩
  rw [q.1]
  by_cases e : j = i
  · subst e; simp
  · simp only [if_neg e]
    rw [getD_at hj, List.getElem_set_ne (fun q => e q.symm)]

set_option maxHeartbeats 1600000 in
theorem set_any (h : SheetAt B w b bs p) (f : p.Fits) (ho : o.Ok) (ha : 0 ≤ o.at') :
    Calls Try.prog 34 #[.pointer (some ⟨b, 0, none⟩), o.val] w fun e w' => e = .returned (.int .i64 (setE p o)) ∧ Below B w w' ∧
      (setE p o = 0 → SheetAt B w' b bs { p with slots := p.slots.set o.at'.toNat o.S }) := by
  have hb1 := h.b1
  have hlt := h.lt
  have hoS := ho.S
  have hoT := ho.old
  have hf := f.fits
  have hn64 := f.len
  have HST : Hid (∀ wx, SheetAt B wx b bs p → Calls Try.prog 42 #[.pointer (some ⟨b, 0, none⟩), o.val] wx fun e w' => e = .returned (.int .i64 (standE p o)) ∧ Below wx.heap.size wx w') := fun wx hx => stands_any hx f ho ha
  clear ho
  obtain ⟨K, A, S, T⟩ := o
  simp only at hoS hoT ha HST ⊢
  obtain ⟨i, rfl⟩ := Int.eq_ofNat_of_zero_le ha
  simp only [Int.toNat_natCast]
  unfold OpV.val at HST ⊢
  simp only at HST ⊢
  obtain ⟨W, HW⟩ : ∃ W, Hid (W = w.alloc (.cells #[.int .i64 K, .int .i64 i, .string S, .string T] 41)) := ⟨_, rfl⟩
  have bW : Below w.heap.size w W := by rw [HW.out]; exact (Below.refl _ _).alloc (Nat.le_refl _) _
  have zW : w.heap.size < W.heap.size := by rw [HW.out]; simp
  have h1 := h.below bW
  have r1 : RowV W w.heap.size 4 (four (.int .i64 K) (.int .i64 i) (.string S) (.string T)) := by rw [HW.out]; exact RowV.four_new w _ _ _ _ _
  obtain ⟨x0, x1, x2, x3, x4⟩ := h1.row.cells5
  obtain ⟨y0, y1, y2, y3⟩ := r1.cells4
  have bB : Below B w W := bW.mono (by omega)
  have HSZ : Hid (standE p ⟨K, i, S, T⟩ = 0 → i < p.slots.length) := fun q => by have := (standE_zero q).1; simp only at this; omega
  have HSE : Hid (setE p ⟨K, i, S, T⟩ = if standE p ⟨K, i, S, T⟩ ≠ 0 then standE p ⟨K, i, S, T⟩ else if 485 + T.size < p.head.size + slotSum p.slots + S.size then 30 else 0) := rfl
  generalize setE p ⟨K, i, S, T⟩ = EE at *
  generalize standE p ⟨K, i, S, T⟩ = E at *
  by_cases c1 : E = 0
  · have hin := HSZ.out c1
    subst c1
    have hwr : IntKind.i64.wrap ((S.size : Int) - (T.size : Int)) = (S.size : Int) - (T.size : Int) := wrap_small (by omega) (by omega)
    by_cases c3 : 485 + T.size < p.head.size + slotSum p.slots + S.size
    · have hE : EE = 30 := by rw [HSE.out, if_neg (by simp), if_pos c3]
      clear HSE
      subst hE
      have hc : decide (485 - (p.head.size : Int) - (slotSum p.slots : Int) < (S.size : Int) - (T.size : Int)) = true := by simp; omega
      go_enter Try.func34, Try.ntmps34
      go_wp2_with fail
      rw [← HW.out]
      refine (HST.out _ h1).mono ?_
      rintro e W2 ⟨rfl, b2⟩
      have h2 := h1.below b2
      have r2 := r1.below b2 zW
      have bB2 := bB.trans (b2.mono (by have := bW.size; omega))
      have zW2 := Nat.lt_of_lt_of_le zW b2.size
      clear HW r1 h1 bB bW x0 x1 x2 x3 x4 y0 y1 y2 y3 b2
      obtain ⟨x0, x1, x2, x3, x4⟩ := h2.row.cells5
      obtain ⟨y0, y1, y2, y3⟩ := r2.cells4
      go_wp2_with fail
      have gx0 := cell_regrown x0
      have gx1 := cell_regrown x1
      have gx2 := cell_regrown x2
      have gx3 := cell_regrown x3
      have gx4 := cell_regrown x4
      have gy2 := cell_regrown y2
      have gy3 := cell_regrown y3
      have cR : ∀ dd os, Calls Try.prog 40 #[.agg #[.int .u32 p.num, .int .u64 p.lsn, .int .i64 p.kind, .string p.head, .slice (some ⟨bs, 0, none⟩) p.slots.length p.slots.length]] (grow (redrawn W2 dd) os) fun e w'' => e = .returned (.int .i64 (485 - (p.head.size : Int) - (slotSum p.slots : Int))) ∧ ∃ p : Regrown, w'' = grow (redrawn W2 p.d) p.os := fun dd os => Calls.regrown_of (by
        have hk := (h2.below (below_regrown W2 dd os)).ok f
        have := hk.room p.slots.length
        rw [roomF_eq hk (by omega)] at this
        exact this)
      refine wp_region_quiet_below mixed (by kernel_rfl) ?_
      repeat (quiet_step (first | (go_at_call 40; exact cR _ _)))
      refine wpQuiet_nil ?_
      intro _ hw'
      obtain ⟨⟨dq, osq⟩, hw''⟩ := hw'
      subst hw''
      clear gx0 gx1 gx2 gx3 gx4 gy2 gy3 cR
      go_wp2
      go_ret
      exact ⟨rfl, bB2.trans ((below_regrown W2 dq osq).mono (by omega)), fun h => by cases h⟩
    · have hE : EE = 0 := by rw [HSE.out, if_neg (by simp), if_neg c3]
      clear HSE
      subst hE
      have hc : decide (485 - (p.head.size : Int) - (slotSum p.slots : Int) < (S.size : Int) - (T.size : Int)) = false := by simp; omega
      go_enter Try.func34, Try.ntmps34
      go_wp2_with fail
      rw [← HW.out]
      refine (HST.out _ h1).mono ?_
      rintro e W2 ⟨rfl, b2⟩
      have h2 := h1.below b2
      have r2 := r1.below b2 zW
      have bB2 := bB.trans (b2.mono (by have := bW.size; omega))
      have zW2 := Nat.lt_of_lt_of_le zW b2.size
      clear HW r1 h1 bB bW x0 x1 x2 x3 x4 y0 y1 y2 y3 b2
      obtain ⟨x0, x1, x2, x3, x4⟩ := h2.row.cells5
      obtain ⟨y0, y1, y2, y3⟩ := r2.cells4
      go_wp2_with fail
      have gx0 := cell_regrown x0
      have gx1 := cell_regrown x1
      have gx2 := cell_regrown x2
      have gx3 := cell_regrown x3
      have gx4 := cell_regrown x4
      have gy2 := cell_regrown y2
      have gy3 := cell_regrown y3
      have cR : ∀ dd os, Calls Try.prog 40 #[.agg #[.int .u32 p.num, .int .u64 p.lsn, .int .i64 p.kind, .string p.head, .slice (some ⟨bs, 0, none⟩) p.slots.length p.slots.length]] (grow (redrawn W2 dd) os) fun e w'' => e = .returned (.int .i64 (485 - (p.head.size : Int) - (slotSum p.slots : Int))) ∧ ∃ p : Regrown, w'' = grow (redrawn W2 p.d) p.os := fun dd os => Calls.regrown_of (by
        have hk := (h2.below (below_regrown W2 dd os)).ok f
        have := hk.room p.slots.length
        rw [roomF_eq hk (by omega)] at this
        exact this)
      refine wp_region_quiet_below mixed (by kernel_rfl) ?_
      repeat (quiet_step (first | (go_at_call 40; exact cR _ _)))
      refine wpQuiet_nil ?_
      intro _ hw'
      obtain ⟨⟨dq, osq⟩, hw''⟩ := hw'
      subst hw''
      clear gx0 gx1 gx2 gx3 gx4 gy2 gy3 cR
      have bG := below_regrown W2 dq osq
      have h3 := h2.below bG
      have r3 := r2.below bG zW2
      have bB3 := bB2.trans (bG.mono (by omega))
      have zW3 := Nat.lt_of_lt_of_le zW2 bG.size
      obtain ⟨W3, HW3⟩ : ∃ W3, Hid (W3 = grow (redrawn W2 dq) osq) := ⟨_, rfl⟩
      rw [← HW3.out] at h3 r3 bB3 zW3 ⊢
      clear HW3 bG h2 r2 bB2 x0 x1 x2 x3 x4 y0 y1 y2 y3
      obtain ⟨x0, x1, x2, x3, x4⟩ := h3.row.cells5
      obtain ⟨f0, f1, f2, f3, f4⟩ := h3.row.open5
      obtain ⟨y0, y1, y2, y3⟩ := r3.cells4
      have hi0 : (0 : Int) ≤ (i : Int) := by omega
      have hi1 : (i : Int) < (p.slots.length : Int) := by omega
      have hsc := (h3.str i hin).1
      have hsf := (h3.str i hin).2
      have hn1 := h3.ne
      have hn2 := h3.lt
      have hn3 := h3.bslt
      have hbo : bs ≠ w.heap.size := by have := h.bslt; omega
      go_wp2_with fail
      go_region_held3 (fun w' => w'.cell? ⟨b, 4, none⟩ = some (.slice (some ⟨bs, 0, none⟩) p.slots.length p.slots.length) ∧ w'.cell? ⟨w.heap.size, 1, none⟩ = some (.int .i64 i) ∧ w'.cell? ⟨w.heap.size, 2, none⟩ = some (.string S)) (first | go_keep | (refine ⟨?_, ?_, ?_⟩ <;> (rw [World.cell?_setCell_other _ _ _ _ (by intro q; have := congrArg Addr.block q; simp only at this; omega)]; assumption))) (fail)
      go_wp2
      go_ret
      refine ⟨rfl, (bB3.setCell (p := ⟨bs, i, none⟩) h3.bs1 _).drew, fun _ => ?_⟩
      have hrow := (h3.row.set_other (b' := bs) (k := i) h3.ne (.string S))
      have hstr := h3.str.setAt hin S
      refine SheetAt.below ⟨?_, hstr, h3.b1, by simpa using h3.lt, h3.bs1, by simpa using h3.bslt, h3.ne⟩ ((Below.refl _ _).drew)
      simp only [List.length_set]
      exact hrow
  · have hE : EE = E := by rw [HSE.out, if_pos c1]
    clear HSE
    subst hE
    have c1' : (EE != 0) = true := by rw [bne_iff_ne]; exact c1
    go_enter Try.func34, Try.ntmps34
    go_wp2_with fail
    rw [← HW.out]
    refine (HST.out _ h1).mono ?_
    rintro e W2 ⟨rfl, b2⟩
    have h2 := h1.below b2
    have r2 := r1.below b2 zW
    have bB2 := bB.trans (b2.mono (by have := bW.size; omega))
    have zW2 := Nat.lt_of_lt_of_le zW b2.size
    clear HW r1 h1 bB bW x0 x1 x2 x3 x4 y0 y1 y2 y3 b2
    obtain ⟨x0, x1, x2, x3, x4⟩ := h2.row.cells5
    obtain ⟨y0, y1, y2, y3⟩ := r2.cells4
    go_wp2
    go_ret
    exact ⟨rfl, bB2, fun h => absurd h c1⟩

end
end Go.Proofs.Ytkknglcckjhngaa
