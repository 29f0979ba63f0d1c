/-
  The laying of a contract of the library's shelf at this program's numbers (plain text by the library's own command).
-/
import Derived.Test.YtgkfdakieebnmaaGreatProg
import Derived.Shelf.Spec.SlicesInsert
import Derived.Test.YtgkfdakieebnmaaGreatPageCopyJ
import Derived.Shelf.Spec.SlicesInsertGrow
set_option linter.unusedVariables false
set_option linter.unusedSimpArgs false
namespace Go.Proofs.YtgkfdakieebnmaaGreat
open Go.Shelf

def insertLays_ren : Go.Shelf.Ren := ⟨fun | 22 => 166 | 29 => 208 | 30 => 209 | 36 => 225 | 17 => 240 | n => n, fun | 24 => 50 | 9 => 9 | 3 => 3 | 4 => 4 | 0 => 0 | n => n, fun | n => n⟩
theorem insertLays : Go.Proofs.Lays2.n22 Tryz.prog insertLays_ren := {
  mixed := by kernel_rfl
  f17 := Tryz.func240.trans (congrArg some (by kernel_rfl))
  f22 := Tryz.func166.trans (congrArg some (by kernel_rfl))
  f29 := Tryz.func208.trans (congrArg some (by kernel_rfl))
  f30 := Tryz.func209.trans (congrArg some (by kernel_rfl))
  f36 := Tryz.func225.trans (congrArg some (by kernel_rfl))
  t0 := Tryz.underlying0
  a0 := Tryz.isAgg0
  z0 := Tryz.sizeOf0
  v0 := Tryz.zeroValue0
  t3 := Tryz.underlying3
  a3 := Tryz.isAgg3
  z3 := Tryz.sizeOf3
  v3 := Tryz.zeroValue3
  t4 := Tryz.underlying4
  a4 := Tryz.isAgg4
  z4 := Tryz.sizeOf4
  v4 := Tryz.zeroValue4
  t9 := Tryz.underlying9
  a9 := Tryz.isAgg9
  z9 := Tryz.sizeOf9
  v9 := Tryz.zeroValue9
  t24 := Tryz.underlying50
  a24 := Tryz.isAgg50
  z24 := Tryz.sizeOf50
  v24 := Tryz.zeroValue50
  i9 := by kernel_rfl }

end Go.Proofs.YtgkfdakieebnmaaGreat

namespace Go.Proofs.YtgkfdakieebnmaaGreat
open Go.RowKit Go.Sort Go.Shelf

theorem below_setCells {B : Nat} {w : World} (b : Nat) (hb : B ≤ b) : ∀ (vs : List Value) (o : Nat) (w' : World), Below B w w' → Below B w (w'.setCells b o vs)
  | [], _, _, h => h
  | v :: vs, o, w', h => below_setCells b hb vs (o + 1) _ (h.setCell (p := ⟨b, o, none⟩) hb v)

theorem setCells_heap (b : Nat) : ∀ (vs : List Value) (o : Nat) (w : World), (w.setCells b o vs).heap.size = w.heap.size
  | [], _, _ => rfl
  | v :: vs, o, w => by show ((w.setCell ⟨b, o, none⟩ v).setCells b (o + 1) vs).heap.size = _; rw [setCells_heap b vs]; simp

def strV (L : List ByteArray) : List Value := L.map Value.string

theorem strV_get {L : List ByteArray} {j : Nat} {v : Value} (h : (strV L)[j]? = some v) : ∃ (hj : j < L.length), v = .string L[j] := by
  unfold strV at h
  rw [List.getElem?_map] at h
  rcases Option.map_eq_some_iff.1 h with ⟨s, hs, rfl⟩
  obtain ⟨hj, e⟩ := List.getElem?_eq_some_iff.1 hs
  exact ⟨hj, by rw [e]⟩

abbrev StrRow (w : World) (b : Nat) (L : List ByteArray) : Prop := RowV w b L.length (fun j => .string (L.getD j ByteArray.empty))

theorem StrRow.cell {w : World} {b : Nat} {L : List ByteArray} (h : StrRow w b L) {j : Nat} (hj : j < L.length) : w.cell? ⟨b, j, none⟩ = some (.string L[j]) := by
  have := (h j hj).1
  rw [this]
  show some (Value.string (L.getD j ByteArray.empty)) = _
  rw [List.getD_eq_getElem?_getD, List.getElem?_eq_getElem hj]; rfl

theorem StrRow.of {w : World} {b : Nat} {L : List ByteArray} (h : ∀ j (hj : j < L.length), w.cell? ⟨b, j, none⟩ = some (.string L[j]) ∧ w.frozen? ⟨b, j, none⟩ = false) : StrRow w b L := fun j hj => by
  refine ⟨?_, (h j hj).2⟩
  rw [(h j hj).1]
  show _ = some (Value.string (L.getD j ByteArray.empty))
  rw [List.getD_eq_getElem?_getD, List.getElem?_eq_getElem hj]; rfl

def insL (L : List ByteArray) (i : Nat) (s : ByteArray) : List ByteArray := L.take i ++ s :: L.drop i

theorem insL_length (L : List ByteArray) (i : Nat) (s : ByteArray) (hi : i ≤ L.length) : (insL L i s).length = L.length + 1 := by
  simp [insL]; omega

theorem insL_get (L : List ByteArray) (i : Nat) (s : ByteArray) (hi : i ≤ L.length) (j : Nat) (hj : j < (insL L i s).length) :
    (insL L i s)[j]? = if j < i then L[j]? else if j = i then some s else L[j - 1]? := by
  unfold insL
  rw [List.getElem?_append]
  have hl : (L.take i).length = i := by simp; omega
  rw [hl]
  by_cases h : j < i
  · rw [if_pos h, if_pos h, List.getElem?_take, if_pos h]
  · rw [if_neg h, if_neg h]
    by_cases e : j = i
    · subst e; rw [if_pos rfl, Nat.sub_self]; rfl
    · rw [if_neg e, show j - i = (j - 1 - i) + 1 from by omega, List.getElem?_cons_succ, List.getElem?_drop]
      congr 1; omega

theorem zeroCells_size (n : Nat) : (Builtin.zeroCells (Value.string ⟨#[]⟩).cells n).size = n := by rw [size_zeroCells]; simp [Value.cells]

set_option maxHeartbeats 800000 in
set_option maxRecDepth 60000 in
theorem insert_call (L : List ByteArray) (bs vb : Nat) (s : ByteArray) (i : Nat) (w : World) (hr : StrRow w bs L) (hi : i ≤ L.length) (hv : w.cell? ⟨vb, 0, none⟩ = some (.string s)) (hL : L.length ≤ 64) (hbs : bs < w.heap.size) :
    Calls Tryz.prog 166 #[.slice (some ⟨bs, 0, none⟩) L.length L.length, .int .i64 i, .slice (some ⟨vb, 0, none⟩) 1 1] w fun e w' =>
      ∃ c, e = .returned (.slice (some ⟨w.heap.size, 0, none⟩) (L.length + 1) c) ∧ StrRow w' w.heap.size (insL L i s) ∧ Below w.heap.size w w' ∧ w.heap.size < w'.heap.size := by
  have hcl : (strV L).length = L.length := by simp [strV]
  have h1c : ∀ v ∈ strV L, v.oneCell' = true := fun v hv => by
    unfold strV at hv
    obtain ⟨x, _, rfl⟩ := List.mem_map.1 hv
    rfl
  have h1v : ∀ v ∈ ([.string s] : List Value), v.oneCell' = true := fun v hv => by
    rw [List.mem_singleton.1 hv]; rfl
  have hvs : ∀ j v, ([.string s] : List Value)[j]? = some v → w.cell? ⟨vb, 0 + j, none⟩ = some v := fun j v h => by
    match j, h with
    | 0, h => simp at h; subst h; exact hv
  have hcs : ∀ j v, (strV L)[j]? = some v → w.cell? ⟨bs, 0 + j, none⟩ = some v := fun j v h => by
    obtain ⟨hj, rfl⟩ := strV_get h
    rw [Nat.zero_add]; exact hr.cell hj
  have hil := insL_length L i s hi
  by_cases hlt : i < L.length
  · refine (Any2.slices_Insert_string_grow insertLays bs 0 L.length L.length i vb 0 1 1 (strV L) [.string s] w hlt (by omega) (by omega) (by omega) (by omega) hcl rfl hcs hvs h1c h1v).mono ?_
    rintro e w' ⟨rfl, rfl⟩
    refine ⟨_, rfl, StrRow.of fun j hj => ?_, ?_, ?_⟩
    · refine ⟨?_, ?_⟩
      · have hg := insL_get L i s hi j hj
        rw [List.getElem?_eq_getElem hj] at hg
        have hlt' : (strV (L.drop i)).length = L.length - i := by simp [strV]
        have hdr : (strV L).drop i = strV (L.drop i) := by simp [strV]
        rw [hdr]
        by_cases h1 : j < i
        · rw [if_pos h1] at hg
          rw [World.cell?_setCells_out w.heap.size _ _ _ _ (fun _ _ => .inl (by show j < i + 1; omega))]
          show (World.setCells _ _ _ _).cell? _ = _
          rw [World.cell?_setCells_out w.heap.size _ _ _ _ (fun _ _ => .inl (by show j < i; omega))]
          show (w.alloc _).cell? _ = _
          rw [World.cell?_alloc_new, Array.append_assoc, Array.getElem?_append_left (by simp [strV]; omega)]
          simp only [List.getElem?_toArray, List.getElem?_take, if_pos h1, strV, List.getElem?_map, ← hg, Option.map_some]
        · rw [if_neg h1] at hg
          by_cases h2 : j = i
          · subst h2
            rw [if_pos rfl] at hg
            rw [World.cell?_setCells_out w.heap.size _ _ _ _ (fun _ _ => .inl (by show j < j + 1; omega))]
            show (World.setCells _ _ _ _).cell? _ = _
            have := World.cell?_setCells_in w.heap.size [.string s] j (w.alloc (.cells (((strV L).take j).toArray ++ Builtin.zeroCells (Value.string ⟨#[]⟩).cells (L.length + 1 - j) ++ Builtin.zeroCells (Value.string ⟨#[]⟩).cells (grownCap w (L.length + 1) L.length (insertLays_ren.t 9) - (L.length + 1))) (insertLays_ren.t 9))).drew (fun k hk => by
              obtain rfl : k = 0 := by simpa using hk
              show ((w.alloc _).cell? _).isSome = true
              rw [World.cell?_alloc_new]
              simp [zeroCells_size, strV]; omega) 0 (by simp)
            rw [Nat.add_zero] at this
            refine this.trans ?_
            rw [Option.some.inj hg]; rfl
          · rw [if_neg h2] at hg
            have hj' : j < L.length + 1 := by omega
            have := World.cell?_setCells_in w.heap.size (strV (L.drop i)) (i + 1) (((w.alloc (.cells (((strV L).take i).toArray ++ Builtin.zeroCells (Value.string ⟨#[]⟩).cells (L.length + 1 - i) ++ Builtin.zeroCells (Value.string ⟨#[]⟩).cells (grownCap w (L.length + 1) L.length (insertLays_ren.t 9) - (L.length + 1))) (insertLays_ren.t 9))).drew.setCells w.heap.size i [.string s]).drew) (fun k hk => by
              show ((World.setCells _ _ _ _).cell? _).isSome = true
              rw [World.cell?_setCells_out w.heap.size _ _ _ _ (fun _ _ => .inr (by show i + 1 ≤ i + 1 + k; omega))]
              show ((w.alloc _).cell? _).isSome = true
              rw [World.cell?_alloc_new]
              simp [zeroCells_size, strV]; omega) (j - (i + 1)) (by omega)
            rw [show i + 1 + (j - (i + 1)) = j from by omega] at this
            rw [this]
            rw [List.getElem?_eq_getElem (by omega)] at hg
            rw [← Option.some.inj hg.symm]
            simp only [strV, List.getElem_map, List.getElem_drop]
            congr 3; omega
      · rw [World.frozen?_setCells]
        show (World.setCells _ _ _ _).frozen? _ = _
        rw [World.frozen?_setCells]
        show (w.alloc _).frozen? _ = _
        simp
    · refine below_setCells _ (Nat.le_refl _) _ _ _ ?_
      exact Below.drew (below_setCells _ (Nat.le_refl _) _ _ _ (((Below.refl _ _).alloc (Nat.le_refl _) _).drew))
    · rw [setCells_heap]
      show w.heap.size < (World.setCells _ _ _ _).heap.size
      rw [setCells_heap]
      show w.heap.size < (w.alloc _).heap.size
      simp
  · obtain rfl : i = L.length := by omega
    refine (Any2.slices_Insert_string_end_grow insertLays (some ⟨bs, 0, none⟩) L.length L.length vb 0 1 1 (strV L) [.string s] w (by omega) (by omega) (by omega) (by omega) hcl rfl (fun h => by cases h) (fun a ha j v h => by
      cases ha
      have := hcs j v h
      rw [Addr.add_lit]; exact this) hvs h1v).mono ?_
    rintro e w' ⟨rfl, rfl⟩
    refine ⟨_, rfl, StrRow.of fun j hj => ?_, ((Below.refl _ _).drew).alloc (Nat.le_refl _) _, ?_⟩
    · refine ⟨?_, ?_⟩
      · show (w.drew.alloc _).cell? ⟨w.drew.heap.size, j, none⟩ = _
        have hg := insL_get L L.length s hi j hj
        rw [List.getElem?_eq_getElem hj] at hg
        rw [World.cell?_alloc_new, Array.getElem?_append_left (by simp [strV]; omega)]
        simp only [List.getElem?_toArray, strV]
        rw [List.getElem?_append, List.length_map]
        by_cases h1 : j < L.length
        · rw [if_pos h1] at hg
          rw [if_pos h1, List.getElem?_map, ← hg]; rfl
        · obtain rfl : j = L.length := by omega
          rw [if_neg h1, if_pos rfl] at hg
          rw [if_neg h1, Nat.sub_self]
          rw [← Option.some.inj hg.symm]; rfl
      · exact World.frozen?_alloc_new w.drew _ _ _
    · show w.heap.size < (w.drew.alloc _).heap.size
      simp

end Go.Proofs.YtgkfdakieebnmaaGreat

namespace Go.Proofs.YtgkfdakieebnmaaGreat
open Go.RowKit Go.Sort

structure SheetAt (B : Nat) (w : World) (b bs : Nat) (p : SheetV) : Prop where
  row : RowV w b 5 (five (.int .u32 p.num) (.int .u64 p.lsn) (.int .i64 p.kind) (.string p.head) (.slice (some ⟨bs, 0, none⟩) p.slots.length p.slots.length))
  str : StrRow w bs p.slots
  b1 : B ≤ b
  lt : b < w.heap.size
  bs1 : B ≤ bs
  bslt : bs < w.heap.size
  ne : bs ≠ b

theorem SheetAt.below {B : Nat} {w w' : World} {b bs : Nat} {p : SheetV} (h : SheetAt B w b bs p) (k : Below w.heap.size w w') : SheetAt B w' b bs p :=
  ⟨h.row.below k h.lt, h.str.below k h.bslt, h.b1, Nat.lt_of_lt_of_le h.lt k.size, h.bs1, Nat.lt_of_lt_of_le h.bslt k.size, h.ne⟩

theorem SheetAt.ok {B : Nat} {w : World} {b bs : Nat} {p : SheetV} (h : SheetAt B w b bs p) (f : p.Fits) : p.Ok w (some ⟨bs, 0, none⟩) := by
  have hf := f.fits
  refine ⟨f.num, f.lsn, ⟨by have := f.kind0; omega, by have := f.kind1; omega⟩, by have := f.head; omega, by have := f.len; omega, fun s hs => ?_, h.str.strs h.bslt⟩
  obtain ⟨j, hj, rfl⟩ := List.mem_iff_getElem.1 hs
  have := slotSum_at p.slots j hj
  omega

def insE (p : SheetV) (o : OpV) : Int := if (p.slots.length : Int) < o.at' then 1 else if 64 ≤ p.slots.length then 3 else if 485 < p.head.size + slotSum p.slots + (2 + o.S.size) then 30 else 0

section
variable {B : Nat} {w : World} {b bs : Nat} {p : SheetV} {o : OpV}

set_option maxHeartbeats 1600000 in
set_option maxRecDepth 60000 in
theorem insert_any (h : SheetAt B w b bs p) (f : p.Fits) (ho : o.Ok) (ha : 0 ≤ o.at') :
    Calls Tryz.prog 115 #[.pointer (some ⟨b, 0, none⟩), o.val] w fun e w' => e = .returned (.int .i64 (insE p o)) ∧ Below B w w' ∧
      (insE p o = 0 → ∃ bs' c, RowV w' b 5 (five (.int .u32 p.num) (.int .u64 p.lsn) (.int .i64 p.kind) (.string p.head) (.slice (some ⟨bs', 0, none⟩) (p.slots.length + 1) c)) ∧ StrRow w' bs' (insL p.slots o.at'.toNat o.S) ∧ B ≤ bs' ∧ bs' < w'.heap.size ∧ bs' ≠ b) := by
  have hb1 := h.b1
  have hlt := h.lt
  have hoS := ho.S
  have hat := ho.at'
  have hf := f.fits
  have hn64 := f.len
  clear ho
  obtain ⟨K, A, S, T⟩ := o
  simp only at ha hoS hat ⊢
  obtain ⟨i, rfl⟩ := Int.eq_ofNat_of_zero_le ha
  rw [Int.toNat_natCast]
  unfold OpV.val
  simp only
  obtain ⟨W, HW⟩ : ∃ W, Hid (W = w.alloc (.cells #[.int .i64 K, .int .i64 i, .string S, .string T] 58)) := ⟨_, rfl⟩
  have bW : Below w.heap.size w W := by rw [HW.out]; exact (Below.refl _ _).alloc (Nat.le_refl _) _
  have zW : w.heap.size < W.heap.size := by rw [HW.out]; simp
  have h1 := h.below bW
  have r1 : RowV W w.heap.size 4 (four (.int .i64 K) (.int .i64 i) (.string S) (.string T)) := by rw [HW.out]; exact RowV.four_new w _ _ _ _ _
  obtain ⟨x0, x1, x2, x3, x4⟩ := h1.row.cells5
  obtain ⟨y0, y1, y2, y3⟩ := r1.cells4
  have bB : Below B w W := bW.mono (by omega)
  by_cases c1 : (p.slots.length : Int) < (i : Int)
  · have hE : insE p ⟨K, i, S, T⟩ = 1 := by unfold insE; rw [if_pos c1]
    rw [hE]
    go_enter Tryz.func115, Tryz.ntmps115
    go_wp2_with fail
    rw [← HW.out]
    go_quiet (fail)
    go_wp2
    go_ret
    exact ⟨rfl, below_drewN bB nq, fun h => by cases h⟩
  · have hin : i ≤ p.slots.length := by omega
    by_cases c2 : 64 ≤ p.slots.length
    · have hE : insE p ⟨K, i, S, T⟩ = 3 := by unfold insE; rw [if_neg c1, if_pos c2]
      rw [hE]
      go_enter Tryz.func115, Tryz.ntmps115
      go_wp2_with fail
      rw [← HW.out]
      go_quiet (fail)
      go_wp2
      go_ret
      exact ⟨rfl, below_drewN bB nq, fun h => by cases h⟩
    · by_cases c3 : 485 < p.head.size + slotSum p.slots + (2 + S.size)
      · have hE : insE p ⟨K, i, S, T⟩ = 30 := by unfold insE; rw [if_neg c1, if_neg c2, if_pos c3]
        rw [hE]
        have hwr : IntKind.i64.wrap (2 + (S.size : Int)) = 2 + (S.size : Int) := wrap_small (by omega) (by omega)
        have hc2 : decide ((64 : Int) ≤ (p.slots.length : Int)) = false := by simp; omega
        have hc : decide (485 - (p.head.size : Int) - (slotSum p.slots : Int) < 2 + (S.size : Int)) = true := by simp; omega
        go_enter Tryz.func115, Tryz.ntmps115
        go_wp2_with fail
        rw [← HW.out]
        go_quiet (fail)
        have r2 : RowV (W.drewN nq) w.heap.size 4 (four (.int .i64 K) (.int .i64 i) (.string S) (.string T)) := r1.below (below_drewN (Below.refl W.heap.size W) nq) zW
        have h2 : SheetAt B (W.drewN nq) b bs p := h1.below (below_drewN (Below.refl W.heap.size W) nq)
        have bB2 := below_drewN bB nq
        have bW2 := below_drewN bW nq
        have zW2 : w.heap.size < (W.drewN nq).heap.size := zW
        obtain ⟨W2, HW2⟩ : ∃ W2, Hid (W2 = W.drewN nq) := ⟨_, rfl⟩
        rw [← HW2.out] at r2 h2 bB2 bW2 zW2 ⊢
        clear HW2 HW r1 h1 bB bW x0 x1 x2 x3 x4 y0 y1 y2 y3
        obtain ⟨x0, x1, x2, x3, x4⟩ := h2.row.cells5
        obtain ⟨y0, y1, y2, y3⟩ := r2.cells4
        go_wp2_with fail
        have gx0 := cell_regrown x0
        have gx1 := cell_regrown x1
        have gx2 := cell_regrown x2
        have gx3 := cell_regrown x3
        have gx4 := cell_regrown x4
        have gy2 := cell_regrown y2
        have cR : ∀ dd os, Calls Tryz.prog 105 #[.agg #[.int .u32 p.num, .int .u64 p.lsn, .int .i64 p.kind, .string p.head, .slice (some ⟨bs, 0, none⟩) p.slots.length p.slots.length]] (grow (redrawn W2 dd) os) fun e w'' => e = .returned (.int .i64 (485 - (p.head.size : Int) - (slotSum p.slots : Int))) ∧ ∃ p : Regrown, w'' = grow (redrawn W2 p.d) p.os := fun dd os => Calls.regrown_of (by
          have hk := (h2.below (below_regrown W2 dd os)).ok f
          have := hk.room p.slots.length
          rw [roomF_eq hk (by omega)] at this
          exact this)
        refine wp_region_quiet_below mixed (by kernel_rfl) ?_
        repeat (quiet_step (first | (go_at_call 105; exact cR _ _)))
        refine wpQuiet_nil ?_
        intro _ hw'
        obtain ⟨⟨dq, osq⟩, hw''⟩ := hw'
        subst hw''
        clear gx0 gx1 gx2 gx3 gx4 gy2 cR
        go_wp2
        go_ret
        exact ⟨rfl, bB2.trans ((below_regrown W2 dq osq).mono (by omega)), fun h => by cases h⟩
      · have hE : insE p ⟨K, i, S, T⟩ = 0 := by unfold insE; rw [if_neg c1, if_neg c2, if_neg c3]
        rw [hE]
        have hwr : IntKind.i64.wrap (2 + (S.size : Int)) = 2 + (S.size : Int) := wrap_small (by omega) (by omega)
        have hc2 : decide ((64 : Int) ≤ (p.slots.length : Int)) = false := by simp; omega
        have hc : decide (485 - (p.head.size : Int) - (slotSum p.slots : Int) < 2 + (S.size : Int)) = false := by simp; omega
        go_enter Tryz.func115, Tryz.ntmps115
        go_wp2_with fail
        rw [← HW.out]
        go_quiet (fail)
        have r2 : RowV (W.drewN nq) w.heap.size 4 (four (.int .i64 K) (.int .i64 i) (.string S) (.string T)) := r1.below (below_drewN (Below.refl W.heap.size W) nq) zW
        have h2 : SheetAt B (W.drewN nq) b bs p := h1.below (below_drewN (Below.refl W.heap.size W) nq)
        have bB2 := below_drewN bB nq
        have bW2 := below_drewN bW nq
        have zW2 : w.heap.size < (W.drewN nq).heap.size := zW
        obtain ⟨W2, HW2⟩ : ∃ W2, Hid (W2 = W.drewN nq) := ⟨_, rfl⟩
        rw [← HW2.out] at r2 h2 bB2 bW2 zW2 ⊢
        clear HW2 HW r1 h1 bB bW x0 x1 x2 x3 x4 y0 y1 y2 y3
        obtain ⟨x0, x1, x2, x3, x4⟩ := h2.row.cells5
        obtain ⟨y0, y1, y2, y3⟩ := r2.cells4
        go_wp2_with fail
        have gx0 := cell_regrown x0
        have gx1 := cell_regrown x1
        have gx2 := cell_regrown x2
        have gx3 := cell_regrown x3
        have gx4 := cell_regrown x4
        have gy2 := cell_regrown y2
        have cR : ∀ dd os, Calls Tryz.prog 105 #[.agg #[.int .u32 p.num, .int .u64 p.lsn, .int .i64 p.kind, .string p.head, .slice (some ⟨bs, 0, none⟩) p.slots.length p.slots.length]] (grow (redrawn W2 dd) os) fun e w'' => e = .returned (.int .i64 (485 - (p.head.size : Int) - (slotSum p.slots : Int))) ∧ ∃ p : Regrown, w'' = grow (redrawn W2 p.d) p.os := fun dd os => Calls.regrown_of (by
          have hk := (h2.below (below_regrown W2 dd os)).ok f
          have := hk.room p.slots.length
          rw [roomF_eq hk (by omega)] at this
          exact this)
        refine wp_region_quiet_below mixed (by kernel_rfl) ?_
        repeat (quiet_step (first | (go_at_call 105; exact cR _ _)))
        refine wpQuiet_nil ?_
        intro _ hw'
        obtain ⟨⟨dq, osq⟩, hw''⟩ := hw'
        subst hw''
        clear gx0 gx1 gx2 gx3 gx4 gy2 cR
        have bG := below_regrown W2 dq osq
        have h3 := h2.below bG
        have r3 := r2.below bG zW2
        have bB3 := bB2.trans (bG.mono (by omega))
        have zW3 := Nat.lt_of_lt_of_le zW2 bG.size
        obtain ⟨W3, HW3⟩ : ∃ W3, Hid (W3 = grow (redrawn W2 dq) osq) := ⟨_, rfl⟩
        rw [← HW3.out] at h3 r3 bB3 zW3 ⊢
        clear HW3 bG h2 r2 bB2 bW2 x0 x1 x2 x3 x4 y0 y1 y2 y3
        obtain ⟨x0, x1, x2, x3, x4⟩ := h3.row.cells5
        obtain ⟨f0, f1, f2, f3, f4⟩ := h3.row.open5
        obtain ⟨y0, y1, y2, y3⟩ := r3.cells4
        go_wp2_with fail
        have hz3 := h3.lt
        have HI : Hid (Calls Tryz.prog 166 #[.slice (some ⟨bs, 0, none⟩) p.slots.length p.slots.length, .int .i64 i, .slice (some ⟨W3.heap.size, 0, none⟩) 1 1] (W3.drew.alloc (.cells #[.string S] 9)) fun e w' =>
            ∃ c, e = .returned (.slice (some ⟨W3.heap.size + 1, 0, none⟩) (p.slots.length + 1) c) ∧ StrRow w' (W3.heap.size + 1) (insL p.slots i S) ∧ Below (W3.heap.size + 1) (W3.drew.alloc (.cells #[.string S] 9)) w' ∧ W3.heap.size + 1 < w'.heap.size ∧
              RowV w' b 5 (five (.int .u32 p.num) (.int .u64 p.lsn) (.int .i64 p.kind) (.string p.head) (.slice (some ⟨bs, 0, none⟩) p.slots.length p.slots.length)) ∧ Below B w w') := by
          have bA : Below W3.heap.size W3 (W3.drew.alloc (.cells #[.string S] 9)) := ((Below.refl _ _).drew).alloc (Nat.le_refl _) _
          have h4 := h3.below bA
          have hsz : (W3.drew.alloc (.cells #[.string S] 9)).heap.size = W3.heap.size + 1 := by simp
          refine (insert_call p.slots bs W3.heap.size S i _ h4.str hin (World.cell?_alloc_new (w := W3.drew) _ _ _) (by omega) h4.bslt).mono ?_
          rintro e w' ⟨c, rfl, q1, q2, q3⟩
          have q4 := h4.row.below q2 h4.lt
          rw [hsz] at q1 q2 q3 ⊢
          exact ⟨c, rfl, q1, q2, q3, q4, bB3.trans ((bA.mono (by omega)).trans (q2.mono (by omega)))⟩
        go_region_with (first | (go_at_call 166; refine HI.out.mono ?_; rintro e w4 ⟨c4, rfl, q1, q2, q3, q4, q5⟩; obtain ⟨k0, k1, k2, k3, k4⟩ := q4.cells5; obtain ⟨l0, l1, l2, l3, l4⟩ := q4.open5))
        all_goals
          go_wp2
          go_ret
          exact ⟨rfl, q5.setCell (p := ⟨b, 4, none⟩) hb1 _, fun _ => ⟨W3.heap.size + 1, c4, q4.set4 _, q1.set_other (by omega) _, by omega, by simpa using q3, by omega⟩⟩

end
end Go.Proofs.YtgkfdakieebnmaaGreat
