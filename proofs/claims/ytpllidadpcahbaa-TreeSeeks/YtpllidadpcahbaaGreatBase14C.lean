/-
  The closures of Seek and Behind.
  slices.IndexFunc with what Seek and Behind want.
  What firstFrom does at each leaf.
  tree.goDown in a tree of a root over leaves.
-/
import Derived.Test.YtpllidadpcahbaaGreatBase9C
import Derived.Test.YtpllidadpcahbaaGreatNodeFindC
import Derived.Test.YtpllidadpcahbaaGreatTreePartC
import Derived.Test.YtpllidadpcahbaaGreatBase10C
import Derived.Test.YtpllidadpcahbaaGreatNodeLawC
namespace Go.Proofs.YtpllidadpcahbaaGreat
open Go.RowKit Go.Sort
set_option linter.unusedVariables false
set_option linter.unusedSimpArgs false

set_option maxHeartbeats 1600000 in
theorem seek1_any (x e : EntV) (B : Nat) (w : World) (h : EBox w B e) :
    Calls Tryz.prog 31 #[x.val, .pointer (some ⟨B, 0, none⟩)] w fun r w' => r = .returned (.bool (!ltE x e)) ∧ Below w.heap.size w w' := by
  obtain ⟨h0, h1, h2, hB⟩ := h
  have HE : Hid (∀ wx, Calls Tryz.prog 32 #[.agg #[.string x.key, .int .u32 x.page, .int .i64 x.slot], .agg #[.string e.key, .int .u32 e.page, .int .i64 e.slot]] wx fun r w' => r = .returned (.int .i64 (cmpE x e)) ∧ Below wx.heap.size wx w') := fun wx => entries_any _ _ _ _ _ _ wx
  simp only [EntV.val]
  rw [← cmpE_ge]
  generalize cmpE x e = C at *
  have bW : Below w.heap.size w (w.alloc (.cells #[.string x.key, .int .u32 x.page, .int .i64 x.slot] 28)) := (Below.refl _ _).alloc (Nat.le_refl _) _
  go_enter Tryz.func31, Tryz.ntmps31
  go_wp2_with fail
  refine (HE.out _).mono ?_
  rintro r w1 ⟨rfl, b1⟩
  go_wp2
  go_ret
  exact ⟨nret_bool (by first | rfl | simp), below_chain bW b1⟩

set_option maxHeartbeats 1600000 in
theorem behind1_any (x e : EntV) (B : Nat) (w : World) (h : EBox w B e) :
    Calls Tryz.prog 33 #[x.val, .pointer (some ⟨B, 0, none⟩)] w fun r w' => r = .returned (.bool (ltE e x)) ∧ Below w.heap.size w w' := by
  obtain ⟨h0, h1, h2, hB⟩ := h
  have HE : Hid (∀ wx, Calls Tryz.prog 32 #[.agg #[.string x.key, .int .u32 x.page, .int .i64 x.slot], .agg #[.string e.key, .int .u32 e.page, .int .i64 e.slot]] wx fun r w' => r = .returned (.int .i64 (cmpE x e)) ∧ Below wx.heap.size wx w') := fun wx => entries_any _ _ _ _ _ _ wx
  simp only [EntV.val]
  rw [← gtE_iff]
  unfold gtE
  generalize cmpE x e = C at *
  have bW : Below w.heap.size w (w.alloc (.cells #[.string x.key, .int .u32 x.page, .int .i64 x.slot] 28)) := (Below.refl _ _).alloc (Nat.le_refl _) _
  go_enter Tryz.func33, Tryz.ntmps33
  go_wp2_with fail
  refine (HE.out _).mono ?_
  rintro r w1 ⟨rfl, b1⟩
  go_wp2
  go_ret
  exact ⟨nret_bool (by first | rfl | simp), below_chain bW b1⟩

end Go.Proofs.YtpllidadpcahbaaGreat

namespace Go.Proofs.YtpllidadpcahbaaGreat
open Go.RowKit Go.Sort
set_option linter.unusedVariables false
set_option linter.unusedSimpArgs false

set_option maxHeartbeats 1600000 in
theorem wantSeek_any (x : ItemV) (e : EntV) (B C : Nat) (w : World) (h : EBox w B e) (hc : w.cell? ⟨C, 0, none⟩ = some (.func (.func 31) #[] #[.pointer (some ⟨B, 0, none⟩)])) :
    Calls Tryz.prog 60 #[x.val, .pointer (some ⟨C, 0, none⟩)] w fun r w' => r = .returned (.bool (!ltE x.e e)) ∧ Below w.heap.size w w' := by
  obtain ⟨W, HW⟩ : ∃ W, Hid (W = w.alloc (.cells #[.string x.e.key, .int .u32 x.e.page, .int .i64 x.e.slot, .bool x.live] 42)) := ⟨_, rfl⟩
  have bW : Below w.heap.size w W := by rw [HW.out]; exact (Below.refl _ _).alloc (Nat.le_refl _) _
  have hcl := World.block_lt_of_cell? _ _ hc
  have hc1 := (bW.cell (p := ⟨C, 0, none⟩) hcl).trans hc
  have HE := hidn (seek1_any x.e e B W (h.below bW h.lt))
  have hne : C ≠ w.heap.size := by simp only at hcl; omega
  rw [HW.out] at hc1
  simp only [EntV.val] at HE
  simp only [ItemV.val]
  generalize (!ltE x.e e) = R at *
  go_enter Tryz.func60, Tryz.ntmps60
  go_wp2_with fail
  rw [← HW.out]
  refine HE.out.mono ?_
  rintro r w1 ⟨rfl, b1⟩
  have bb := hidn (below_chain bW b1)
  clear HW hc1
  go_wp2
  go_ret
  exact ⟨rfl, bb.out⟩

set_option maxHeartbeats 1600000 in
theorem indexSeek (a : Option Addr) (c : Nat) (L : List ItemV) (e : EntV) (B C : Nat) (w : World) (hm : ItemsAt w a L) (hl : L.length ≤ 9223372036854775807) (hB : EBox w B e) (hc : w.cell? ⟨C, 0, none⟩ = some (.func (.func 31) #[] #[.pointer (some ⟨B, 0, none⟩)])) :
    Calls Tryz.prog 59 #[.slice a L.length c, .func (.func 60) #[] #[.pointer (some ⟨C, 0, none⟩)]] w fun r w' => r = .returned (.int .i64 (idxF (fun x : ItemV => !ltE x.e e) L)) ∧ Below w.heap.size w w' := by
  obtain ⟨R, HR⟩ : ∃ R, Hid (idxF (fun x : ItemV => !ltE x.e e) L = R) := ⟨_, rfl⟩
  rw [HR.out]
  have hcl := World.block_lt_of_cell? _ _ hc
  have HCC : Hid (∀ wx, Below w.heap.size w wx → wx.cell? ⟨C, 0, none⟩ = some (.func (.func 31) #[] #[.pointer (some ⟨B, 0, none⟩)])) := fun wx hb => (hb.cell (p := ⟨C, 0, none⟩) hcl).trans hc
  clear hc hcl
  go_enter Tryz.func59, Tryz.ntmps59
  go_wp2_with fail
  go_loopw [8] (fun i wr => ∃ k : Nat, k ≤ L.length ∧ i = .int .i64 k ∧ Hid (Below w.heap.size w wr) ∧ Hid (∀ j (hj : j < L.length), j < k → (fun x : ItemV => !ltE x.e e) L[j] = false)) (fun i _ => L.length - (intOf i).toNat)
  case atStart => exact ⟨0, by omega, rfl, Below.refl _ _, fun j hj h => by omega⟩
  case round =>
    obtain ⟨k, hk, rfl, HB, HN⟩ := hrel
    by_cases hlt : k < L.length
    · obtain ⟨bb, o, rfl, hb, c0, c1, c2, c3⟩ := (hm.below HB.out).item hlt
      have HC := hidn (wantSeek_any L[k] e B C wr (hB.below HB.out hB.lt) (HCC.out wr HB.out))
      simp only [ItemV.val] at HC
      have HH : Hid ((fun x : ItemV => !ltE x.e e) L[k] = true → R = k) := fun h => by rw [← HR.out]; exact idxF_hit hlt h HN.out
      have HF : Hid ((fun x : ItemV => !ltE x.e e) L[k] = false → ∀ j (hj : j < L.length), j < k + 1 → (fun x : ItemV => !ltE x.e e) L[j] = false) := fun h j hj hjk => by
        by_cases e1 : j = k
        · subst e1; exact h
        · exact HN.out j hj (by omega)
      generalize L[k] = x at *
      have hi0 : (0 : Int) ≤ (k : Int) := by omega
      have hi1 : (k : Int) < (L.length : Int) := by omega
      cases hq : (!ltE x.e e) with
      | true =>
        rw [hq] at HC
        have hR := hidn (HH.out hq)
        clear hq
        go_wp2_with fail
        refine HC.out.mono ?_
        rintro r w1 ⟨rfl, b1⟩
        go_wp2
        go_ret
        exact ⟨nret_int hR.out.symm, below_chain HB.out b1⟩
      | false =>
        rw [hq] at HC
        have hF := hidn (HF.out hq)
        clear hq
        go_wp2_with fail
        refine HC.out.mono ?_
        rintro r w1 ⟨rfl, b1⟩
        go_wp2
        go_roundw
        case rel => exact ⟨k + 1, by omega, by go_num, below_chain HB.out b1, hF.out⟩
        case measure => simp [intOf]; omega
    · obtain rfl : k = L.length := by omega
      have hR := hidn (idxF_miss (p := fun x : ItemV => !ltE x.e e) fun j hj => HN.out j hj hj)
      go_wp2
      go_ret
      exact ⟨nret_int (by rw [← HR.out]; exact hR.out.symm), HB.out⟩

set_option maxHeartbeats 1600000 in
theorem wantBehind_any (x : ItemV) (e : EntV) (B C : Nat) (w : World) (h : EBox w B e) (hc : w.cell? ⟨C, 0, none⟩ = some (.func (.func 33) #[] #[.pointer (some ⟨B, 0, none⟩)])) :
    Calls Tryz.prog 60 #[x.val, .pointer (some ⟨C, 0, none⟩)] w fun r w' => r = .returned (.bool (ltE e x.e)) ∧ Below w.heap.size w w' := by
  obtain ⟨W, HW⟩ : ∃ W, Hid (W = w.alloc (.cells #[.string x.e.key, .int .u32 x.e.page, .int .i64 x.e.slot, .bool x.live] 42)) := ⟨_, rfl⟩
  have bW : Below w.heap.size w W := by rw [HW.out]; exact (Below.refl _ _).alloc (Nat.le_refl _) _
  have hcl := World.block_lt_of_cell? _ _ hc
  have hc1 := (bW.cell (p := ⟨C, 0, none⟩) hcl).trans hc
  have HE := hidn (behind1_any x.e e B W (h.below bW h.lt))
  have hne : C ≠ w.heap.size := by simp only at hcl; omega
  rw [HW.out] at hc1
  simp only [EntV.val] at HE
  simp only [ItemV.val]
  generalize ltE e x.e = R at *
  go_enter Tryz.func60, Tryz.ntmps60
  go_wp2_with fail
  rw [← HW.out]
  refine HE.out.mono ?_
  rintro r w1 ⟨rfl, b1⟩
  have bb := hidn (below_chain bW b1)
  clear HW hc1
  go_wp2
  go_ret
  exact ⟨rfl, bb.out⟩

set_option maxHeartbeats 1600000 in
theorem indexBehind (a : Option Addr) (c : Nat) (L : List ItemV) (e : EntV) (B C : Nat) (w : World) (hm : ItemsAt w a L) (hl : L.length ≤ 9223372036854775807) (hB : EBox w B e) (hc : w.cell? ⟨C, 0, none⟩ = some (.func (.func 33) #[] #[.pointer (some ⟨B, 0, none⟩)])) :
    Calls Tryz.prog 59 #[.slice a L.length c, .func (.func 60) #[] #[.pointer (some ⟨C, 0, none⟩)]] w fun r w' => r = .returned (.int .i64 (idxF (fun x : ItemV => ltE e x.e) L)) ∧ Below w.heap.size w w' := by
  obtain ⟨R, HR⟩ : ∃ R, Hid (idxF (fun x : ItemV => ltE e x.e) L = R) := ⟨_, rfl⟩
  rw [HR.out]
  have hcl := World.block_lt_of_cell? _ _ hc
  have HCC : Hid (∀ wx, Below w.heap.size w wx → wx.cell? ⟨C, 0, none⟩ = some (.func (.func 33) #[] #[.pointer (some ⟨B, 0, none⟩)])) := fun wx hb => (hb.cell (p := ⟨C, 0, none⟩) hcl).trans hc
  clear hc hcl
  go_enter Tryz.func59, Tryz.ntmps59
  go_wp2_with fail
  go_loopw [8] (fun i wr => ∃ k : Nat, k ≤ L.length ∧ i = .int .i64 k ∧ Hid (Below w.heap.size w wr) ∧ Hid (∀ j (hj : j < L.length), j < k → (fun x : ItemV => ltE e x.e) L[j] = false)) (fun i _ => L.length - (intOf i).toNat)
  case atStart => exact ⟨0, by omega, rfl, Below.refl _ _, fun j hj h => by omega⟩
  case round =>
    obtain ⟨k, hk, rfl, HB, HN⟩ := hrel
    by_cases hlt : k < L.length
    · obtain ⟨bb, o, rfl, hb, c0, c1, c2, c3⟩ := (hm.below HB.out).item hlt
      have HC := hidn (wantBehind_any L[k] e B C wr (hB.below HB.out hB.lt) (HCC.out wr HB.out))
      simp only [ItemV.val] at HC
      have HH : Hid ((fun x : ItemV => ltE e x.e) L[k] = true → R = k) := fun h => by rw [← HR.out]; exact idxF_hit hlt h HN.out
      have HF : Hid ((fun x : ItemV => ltE e x.e) L[k] = false → ∀ j (hj : j < L.length), j < k + 1 → (fun x : ItemV => ltE e x.e) L[j] = false) := fun h j hj hjk => by
        by_cases e1 : j = k
        · subst e1; exact h
        · exact HN.out j hj (by omega)
      generalize L[k] = x at *
      have hi0 : (0 : Int) ≤ (k : Int) := by omega
      have hi1 : (k : Int) < (L.length : Int) := by omega
      cases hq : (ltE e x.e) with
      | true =>
        rw [hq] at HC
        have hR := hidn (HH.out hq)
        clear hq
        go_wp2_with fail
        refine HC.out.mono ?_
        rintro r w1 ⟨rfl, b1⟩
        go_wp2
        go_ret
        exact ⟨nret_int hR.out.symm, below_chain HB.out b1⟩
      | false =>
        rw [hq] at HC
        have hF := hidn (HF.out hq)
        clear hq
        go_wp2_with fail
        refine HC.out.mono ?_
        rintro r w1 ⟨rfl, b1⟩
        go_wp2
        go_roundw
        case rel => exact ⟨k + 1, by omega, by go_num, below_chain HB.out b1, hF.out⟩
        case measure => simp [intOf]; omega
    · obtain rfl : k = L.length := by omega
      have hR := hidn (idxF_miss (p := fun x : ItemV => ltE e x.e) fun j hj => HN.out j hj hj)
      go_wp2
      go_ret
      exact ⟨nret_int (by rw [← HR.out]; exact hR.out.symm), HB.out⟩

end Go.Proofs.YtpllidadpcahbaaGreat

namespace Go.Proofs.YtpllidadpcahbaaGreat
open Go.RowKit Go.Sort
set_option linter.unusedVariables false
set_option linter.unusedSimpArgs false

theorem idxF_cases {α : Type} (q : α → Bool) (L : List α) : (idxF q L = -1 ∧ L.find? q = none) ∨ ∃ (k : Nat) (h : k < L.length), idxF q L = k ∧ L.find? q = some L[k] := by
  by_cases h : L.findIdx q < L.length
  · refine .inr ⟨L.findIdx q, h, ?_, ?_⟩
    · unfold idxF; rw [if_pos h]
    · rw [List.find?_eq_getElem?_findIdx, List.getElem?_eq_getElem h]
  · refine .inl ⟨?_, ?_⟩
    · unfold idxF; rw [if_neg h]
    · rw [List.find?_eq_getElem?_findIdx, List.getElem?_eq_none (by omega)]

/-- slices.IndexFunc finds what is wanted. -/
def IdxDoes (fn : Nat) (e : EntV) (q : ItemV → Bool) : Prop :=
  ∀ (a : Option Addr) (c : Nat) (L : List ItemV) (B C : Nat) (w : World), ItemsAt w a L → L.length ≤ 9223372036854775807 → EBox w B e → w.cell? ⟨C, 0, none⟩ = some (.func (.func fn) #[] #[.pointer (some ⟨B, 0, none⟩)]) →
    Calls Tryz.prog 59 #[.slice a L.length c, .func (.func 60) #[] #[.pointer (some ⟨C, 0, none⟩)]] w fun r w' => r = .returned (.int .i64 (idxF q L)) ∧ Below w.heap.size w w'

theorem idxSeek (e : EntV) : IdxDoes 31 e (fun x => !ltE x.e e) := fun a c L B C w hm hl hB hc => indexSeek a c L e B C w hm hl hB hc

theorem idxBehind (e : EntV) : IdxDoes 33 e (fun x => ltE e x.e) := fun a c L B C w hm hl hB hc => indexBehind a c L e B C w hm hl hB hc

/-- Where firstFrom looks: what is wanted, the first item, whether it was found. -/
structure FfAt (w : World) (C Fb Fo : Nat) (e : EntV) (B fn : Nat) (x : ItemV) (fd : Bool) : Prop where
  en : EBox w B e
  want : w.cell? ⟨C, 0, none⟩ = some (.func (.func fn) #[] #[.pointer (some ⟨B, 0, none⟩)])
  first : Blk w Fb #[.string x.e.key, .int .u32 x.e.page, .int .i64 x.e.slot, .bool x.live] 42
  found : Blk w Fo #[.bool fd] 4
  n1 : Fb ≠ Fo
  n2 : B ≠ Fb
  n3 : B ≠ Fo
  n4 : C ≠ Fb
  n5 : C ≠ Fo

section
variable {w w' : World} {C Fb Fo : Nat} {e : EntV} {B fn : Nat} {x : ItemV} {fd : Bool}

theorem EBox.sameB {w w' : World} {B : Nat} {e : EntV} (h : EBox w B e) (q : w'.heap[B]? = w.heap[B]?) (hz : w.heap.size ≤ w'.heap.size) : EBox w' B e := by
  obtain ⟨h0, h1, h2, h3⟩ := h
  exact ⟨(World.cell?_of_block (w := w) (a := ⟨B, 0, none⟩) q).trans h0, (World.cell?_of_block (w := w) (a := ⟨B, 1, none⟩) q).trans h1, (World.cell?_of_block (w := w) (a := ⟨B, 2, none⟩) q).trans h2, Nat.lt_of_lt_of_le h3 hz⟩

theorem FfAt.clt (h : FfAt w C Fb Fo e B fn x fd) : C < w.heap.size := World.block_lt_of_cell? _ _ h.want

theorem FfAt.same (h : FfAt w C Fb Fo e B fn x fd) (k : ∀ b, b < w.heap.size → (b = B ∨ b = C ∨ b = Fb ∨ b = Fo) → w'.heap[b]? = w.heap[b]?) (hz : w.heap.size ≤ w'.heap.size) : FfAt w' C Fb Fo e B fn x fd :=
  ⟨h.en.sameB (k B h.en.lt (.inl rfl)) hz, (World.cell?_of_block (w := w) (a := ⟨C, 0, none⟩) (k C h.clt (.inr (.inl rfl)))).trans h.want, h.first.same (k Fb h.first.lt (.inr (.inr (.inl rfl)))), h.found.same (k Fo h.found.lt (.inr (.inr (.inr rfl)))), h.n1, h.n2, h.n3, h.n4, h.n5⟩

theorem FfAt.below (h : FfAt w C Fb Fo e B fn x fd) (k : Below w.heap.size w w') : FfAt w' C Fb Fo e B fn x fd := h.same (fun b hb _ => k.block b hb) k.size

/-- An item was found. -/
def foundW (w : World) (Fb Fo : Nat) (y : ItemV) : World :=
  ((((w.setCell ⟨Fb, 0, none⟩ (.string y.e.key)).setCell ⟨Fb, 1, none⟩ (.int .u32 y.e.page)).setCell ⟨Fb, 2, none⟩ (.int .i64 y.e.slot)).setCell ⟨Fb, 3, none⟩ (.bool y.live)).setCell ⟨Fo, 0, none⟩ (.bool true)

theorem foundW_kept (w : World) (Fb Fo : Nat) (y : ItemV) : Kept (fun k => k = Fb ∨ k = Fo) w (foundW w Fb Fo y) :=
  ((((Kept.setCell _ _ Fb 0 _ (.inl rfl)).trans (Kept.setCell _ _ Fb 1 _ (.inl rfl))).trans (Kept.setCell _ _ Fb 2 _ (.inl rfl))).trans (Kept.setCell _ _ Fb 3 _ (.inl rfl))).trans (Kept.setCell _ _ Fo 0 _ (.inr rfl))

theorem FfAt.hit (h : FfAt w C Fb Fo e B fn x fd) (y : ItemV) : FfAt (foundW w Fb Fo y) C Fb Fo e B fn y true := by
  have k := foundW_kept w Fb Fo y
  have n1 := h.n1
  have hb : Blk ((((w.setCell ⟨Fb, 0, none⟩ (.string y.e.key)).setCell ⟨Fb, 1, none⟩ (.int .u32 y.e.page)).setCell ⟨Fb, 2, none⟩ (.int .i64 y.e.slot)).setCell ⟨Fb, 3, none⟩ (.bool y.live)) Fb #[.string y.e.key, .int .u32 y.e.page, .int .i64 y.e.slot, .bool y.live] 42 :=
    (((h.first.set 0 _).set 1 _).set 2 _).set 3 _
  have hf : Blk ((((w.setCell ⟨Fb, 0, none⟩ (.string y.e.key)).setCell ⟨Fb, 1, none⟩ (.int .u32 y.e.page)).setCell ⟨Fb, 2, none⟩ (.int .i64 y.e.slot)).setCell ⟨Fb, 3, none⟩ (.bool y.live)) Fo #[.bool fd] 4 := by
    refine h.found.same ?_
    rw [heap_setCell_other _ _ _ _ (by simpa using n1.symm), heap_setCell_other _ _ _ _ (by simpa using n1.symm), heap_setCell_other _ _ _ _ (by simpa using n1.symm), heap_setCell_other _ _ _ _ (by simpa using n1.symm)]
  refine ⟨h.en.sameB (k.block B h.en.lt fun q => ?_) k.size, (World.cell?_of_block (w := w) (a := ⟨C, 0, none⟩) (k.block C h.clt fun q => ?_)).trans h.want, ?_, hf.set 0 _, h.n1, h.n2, h.n3, h.n4, h.n5⟩
  · rcases q with q | q
    · exact h.n2 q
    · exact h.n3 q
  · rcases q with q | q
    · exact h.n4 q
    · exact h.n5 q
  · exact hb.same (heap_setCell_other _ _ _ _ (by simpa using n1))

/-- What a visit does. -/
structure VisOut (w : World) (C Fb Fo : Nat) (e : EntV) (B fn : Nat) (q : ItemV → Bool) (M : List ItemV) (r : Ending) (w' : World) : Prop where
  no : M.find? q = none → r = .returned (.bool true) ∧ Below w.heap.size w w'
  yes : ∀ y, M.find? q = some y → r = .returned (.bool false) ∧ FfAt w' C Fb Fo e B fn y true ∧ Kept (fun k => k = Fb ∨ k = Fo) w w'

set_option maxHeartbeats 3200000 in
set_option maxRecDepth 20000 in
theorem visit_any {q : ItemV → Bool} (hI : IdxDoes fn e q) (n next : Nat) (a : Option Addr) (M : List ItemV) (c : Nat) (hA : ItemsAt w a M) (hl : M.length ≤ 64) (h : FfAt w C Fb Fo e B fn x false) (hoff : ∀ b o, a = some ⟨b, o, none⟩ → M ≠ [] → b ≠ Fb ∧ b ≠ Fo) :
    Calls Tryz.prog 58 #[leafS n next a M.length c, .pointer (some ⟨C, 0, none⟩), .pointer (some ⟨Fb, 0, none⟩), .pointer (some ⟨Fo, 0, none⟩)] w (VisOut w C Fb Fo e B fn q M) := by
  obtain ⟨W, HW⟩ : ∃ W, Hid (W = w.alloc (.cells #[.int .u32 n, .int .i64 0, .slice none 0 0, .int .u32 next, .slice a M.length c] 82)) := ⟨_, rfl⟩
  have bW : Below w.heap.size w W := by rw [HW.out]; exact (Below.refl _ _).alloc (Nat.le_refl _) _
  have rW : RowV W w.heap.size 5 (five (.int .u32 n) (.int .i64 0) (.slice none 0 0) (.int .u32 next) (.slice a M.length c)) := by rw [HW.out]; exact RowV.five_new _ _ _ _ _ _ _
  have zW : w.heap.size < W.heap.size := by rw [HW.out]; simp
  have hW := h.below bW
  have HX := hidn (hI a c M B C W (hA.below bW) (by omega) hW.en hW.want)
  have hfl := h.first.lt
  have hol := h.found.lt
  unfold leafS
  go_enter Tryz.func58, Tryz.ntmps58
  go_wp2_with fail
  rw [← HW.out]
  clear HW
  refine HX.out.mono ?_
  rintro r w2 ⟨rfl, b2⟩
  have h2 := hidn (hW.below b2)
  have r2 := rW.below b2 zW
  have A2 := hA.below (below_chain bW b2)
  have B2 := hidn (below_chain bW b2)
  clear HX hW rW hI
  obtain ⟨x0, x1, x2, x3, x4⟩ := r2.cells5
  rcases idxF_cases q M with ⟨e1, e2⟩ | ⟨k, hk, e1, e2⟩
  · rw [e1]
    have f0 := h2.out.found.cell 0
    have f0' : w2.cell? ⟨Fo, 0, none⟩ = some (.bool false) := f0
    have HO := hidn e2
    clear e1 e2 f0
    go_wp2
    go_ret
    exact ⟨fun _ => ⟨rfl, B2.out⟩, fun y q => by rw [HO.out] at q; cases q⟩
  · rw [e1]
    obtain ⟨b, o, rfl, hb, y0, y1, y2, y3⟩ := A2.item hk
    have hne : M ≠ [] := fun q => by rw [q] at hk; simp at hk
    obtain ⟨hn1, hn2⟩ := hoff b o rfl hne
    generalize M[k] = y at *
    have i0 : (0 : Int) ≤ (k : Int) := by omega
    have i1 : (k : Int) < (M.length : Int) := by omega
    have HO := hidn e2
    have g0 : w2.cell? ⟨Fb, 0, none⟩ = some (.string x.e.key) := h2.out.first.cell 0
    have g1 : w2.cell? ⟨Fb, 1, none⟩ = some (.int .u32 x.e.page) := h2.out.first.cell 1
    have g2 : w2.cell? ⟨Fb, 2, none⟩ = some (.int .i64 x.e.slot) := h2.out.first.cell 2
    have g3 : w2.cell? ⟨Fb, 3, none⟩ = some (.bool x.live) := h2.out.first.cell 3
    have z0 := h2.out.first.frozen 0
    have z1 := h2.out.first.frozen 1
    have z2 := h2.out.first.frozen 2
    have z3 := h2.out.first.frozen 3
    have f0 : w2.cell? ⟨Fo, 0, none⟩ = some (.bool false) := h2.out.found.cell 0
    have f1 := h2.out.found.frozen 0
    have n1 := h.n1
    have n1' := h.n1.symm
    have HF := hidn (h2.out.hit y)
    have HK := hidn ((Kept.of_below B2.out).trans (foundW_kept w2 Fb Fo y))
    unfold foundW at HF HK
    have ff : (foundW w2 Fb Fo y).cell? ⟨Fo, 0, none⟩ = some (.bool true) := (h2.out.hit y).found.cell 0
    unfold foundW at ff
    clear e1 e2 A2
    go_wp2
    go_ret
    refine ⟨fun q => ?_, fun y' q => ?_⟩
    · rw [HO.out] at q; cases q
    · rw [HO.out] at q
      simp only [Option.some.injEq] at q
      subst q
      exact ⟨rfl, HF.out, HK.out⟩

end

end Go.Proofs.YtpllidadpcahbaaGreat

namespace Go.Proofs.YtpllidadpcahbaaGreat
open Go.RowKit Go.Sort
set_option linter.unusedVariables false
set_option linter.unusedSimpArgs false

def lenV : Value → Nat
  | .slice _ m _ => m
  | _ => 0

/-- What goDown tells. -/
structure DownOut (P : PG) (w : World) (n : Nat) (C : List ChildV) (e : EntV) (r : Ending) (w' : World) : Prop where
  out : ∃ (D : Nat) (x : ChildV) (f' : FrV) (a : Option Addr) (c : Nat) (way : Value), C[D]? = some x ∧ DownIs C e D ∧ P.F x.page = some f' ∧ r = .returned (.tuple #[way, leafS x.page (nextF f'.sh) a f'.sh.slots.length c, .int .i64 0]) ∧ w'.ownsRow (w.heap.size + 2) 24 1 way 2 [.int .u32 n, .int .u32 x.page] ∧ RowsFrom w.heap.size 4 ItemV.enc w' a (leafL f'.sh)
  bel : Below w.heap.size w w'

theorem RowsFrom.same {α : Type} {B k : Nat} {enc : α → List Value} {w w' : World} {a : Option Addr} {L : List α} (h : RowsFrom B k enc w a L) (q : ∀ b, B ≤ b → b < w.heap.size → w'.heap[b]? = w.heap[b]?) (hz : w.heap.size ≤ w'.heap.size) : RowsFrom B k enc w' a L := by
  rcases h with h | ⟨b, o, e, h1, hb, hc⟩
  · exact .inl h
  · exact .inr ⟨b, o, e, h1, Nat.lt_of_lt_of_le hb hz, fun i hi j v hv => (World.cell?_of_block (w := w) (a := ⟨b, o + i * k + j, none⟩) (q b h1 hb)).trans (hc i hi j v hv)⟩

theorem EBox.same {w w' : World} {B : Nat} {e : EntV} (h : EBox w B e) (q : w'.heap[B]? = w.heap[B]?) (hz : w.heap.size ≤ w'.heap.size) : EBox w' B e := by
  obtain ⟨h0, h1, h2, h3⟩ := h
  exact ⟨(World.cell?_of_block (w := w) (a := ⟨B, 0, none⟩) q).trans h0, (World.cell?_of_block (w := w) (a := ⟨B, 1, none⟩) q).trans h1, (World.cell?_of_block (w := w) (a := ⟨B, 2, none⟩) q).trans h2, Nat.lt_of_lt_of_le h3 hz⟩

theorem RowV.same5 {w w' : World} {b k : Nat} {f : Nat → Value} (h : RowV w b k f) (e : w'.heap[b]? = w.heap[b]?) : RowV w' b k f := fun j hj =>
  ⟨(World.cell?_of_block (w := w) (a := ⟨b, j, none⟩) e).trans (h j hj).1, (World.frozen?_of_block (w := w) (a := ⟨b, j, none⟩) e).trans (h j hj).2⟩

theorem DownIs.ex (L : List ChildV) (e : EntV) : ∃ D, DownIs L e D := by
  have : ∀ n, n ≤ L.length → ∃ D, (D = 0 ∨ ∃ h : D < L.length, gtE L[D].e e = false) ∧ ∀ j (h : j < L.length), D < j → j < n → gtE L[j].e e = true := by
    intro n
    induction n with
    | zero => exact fun _ => ⟨0, .inl rfl, fun j h h1 h2 => by omega⟩
    | succ n ih =>
      intro hn
      obtain ⟨D, hD, hj⟩ := ih (by omega)
      cases hg : gtE (L[n]'(by omega)).e e with
      | false => exact ⟨n, .inr ⟨by omega, hg⟩, fun j h h1 h2 => by omega⟩
      | true =>
        refine ⟨D, hD, fun j h h1 h2 => ?_⟩
        by_cases q : j = n
        · subst q; exact hg
        · exact hj j h h1 (by omega)
  obtain ⟨D, hD, hj⟩ := this L.length (Nat.le_refl _)
  exact ⟨D, hD, fun j h h1 => hj j h h1 h⟩

theorem DownIs.lt {L : List ChildV} {e : EntV} {D : Nat} (h : DownIs L e D) (h0 : 0 < L.length) : D < L.length := by
  rcases h.1 with q | ⟨q, _⟩
  · omega
  · exact q

section
variable {w : World} {p : Nat} {A : Nat → Prop} {P : PG} {l : LG} {d : DG}

/-- Where goDown stands. -/
structure DnAt (w wr : World) (e : EntV) (v : Value) (L : List Nat) : Prop where
  row : wr.ownsRow (w.heap.size + 2) 24 1 v L.length (L.map fun n : Nat => Value.int .u32 (n : Int))
  bel : Below w.heap.size w wr
  en : EBox wr w.heap.size e
  out : RowV wr (w.heap.size + 1) 5 (five (.int .u32 0) (.int .i64 0) (.slice none 0 0) (.int .u32 0) (.slice none 0 0))
  big : w.heap.size + 2 ≤ wr.heap.size

theorem DnAt.below {w wr wx : World} {e : EntV} {v : Value} {L : List Nat} (h : DnAt w wr e v L) (k : Below wr.heap.size wr wx) : DnAt w wx e v L :=
  ⟨h.row.kept (row := none) ⟨k.os, k.tape, k.output, k.size, fun i hi _ => k.block i hi⟩ (by cases e : v.ownBlock <;> simp), below_chain h.bel k, h.en.below k h.en.lt, h.out.below k (by have := h.big; omega), Nat.le_trans h.big k.size⟩

theorem DnAt.grown {w wr wx : World} {e : EntV} {v v' : Value} {L L' : List Nat} (h : DnAt w wr e v L) (hr : wx.ownsRow (w.heap.size + 2) 24 1 v' L'.length (L'.map fun n : Nat => Value.int .u32 (n : Int))) (g : wr.grownBy wx v.ownBlock) : DnAt w wx e v' L' := by
  have hb := h.big
  have hlt := h.row.lt
  have f : ∀ k, k < w.heap.size + 2 → wx.heap[k]? = wr.heap[k]? := fun k hk => g.block k (by omega) fun q => by have := (hlt k q.symm).1; omega
  exact ⟨hr, ⟨g.os.trans h.bel.os, g.tape.trans h.bel.tape, g.output.trans h.bel.output, Nat.le_trans h.bel.size g.size, fun k hk => (f k (by omega)).trans (h.bel.block k hk)⟩, h.en.same (f _ (by omega)) g.size, h.out.same5 (f _ (by omega)), Nat.le_trans hb g.size⟩

theorem ownsRow_drew {w : World} {b : Nat} {t : TypeId} {s : Nat} {v : Value} {n : Nat} {xs : List Value} (h : w.ownsRow b t s v n xs) : w.drew.ownsRow b t s v n xs := h

theorem ownsRow_store5 {w wr : World} {v : Value} {n : Nat} {xs : List Value} (h : wr.ownsRow (w.heap.size + 2) 24 1 v n xs) (v0 v1 v2 v3 v4 : Value) : (((((wr.setCell ⟨w.heap.size + 1, 0, none⟩ v0).setCell ⟨w.heap.size + 1, 1, none⟩ v1).setCell ⟨w.heap.size + 1, 2, none⟩ v2).setCell ⟨w.heap.size + 1, 3, none⟩ v3).setCell ⟨w.heap.size + 1, 4, none⟩ v4).ownsRow (w.heap.size + 2) 24 1 v n xs :=
  ownsRow_setCell_below (ownsRow_setCell_below (ownsRow_setCell_below (ownsRow_setCell_below (ownsRow_setCell_below h (Nat.lt_succ_self _) _) (Nat.lt_succ_self _) _) (Nat.lt_succ_self _) _) (Nat.lt_succ_self _) _) (Nat.lt_succ_self _) _

set_option maxHeartbeats 1600000 in
set_option maxRecDepth 20000 in
theorem goDown_any (hS : Sys w p A P l d) (n : Nat) (h1 : 1 ≤ n) (h2 : n ≤ 2048) {f : FrV} (hf : P.F n = some f) (hfit : f.sh.Fits) (hN : leafB f.sh = false) (hB : innerB f.sh = true) (h0 : innerL f.sh ≠ [])
    (hP : ∀ x ∈ innerL f.sh, (1 ≤ x.page ∧ x.page ≤ 2048) ∧ ∃ f', P.F x.page = some f' ∧ f'.sh.Fits ∧ leafB f'.sh = true) (e : EntV) :
    Calls Tryz.prog 34 #[.pointer (some ⟨p, 0, none⟩), .int .u32 n, e.val] w (DownOut P w n (innerL f.sh) e) := by
  have hMl : (innerL f.sh).length = f.sh.slots.length := innerL_length _
  have hlen := hfit.len
  have hM0 : 0 < (innerL f.sh).length := List.length_pos_iff.2 h0
  have hs0 : f.sh.slots ≠ [] := fun q => by rw [q] at hMl; exact h0 (List.eq_nil_of_length_eq_zero hMl)
  have HFI : Hid (∀ wx, Below w.heap.size w wx → Calls Tryz.prog 53 #[.pointer (some ⟨p, 0, none⟩), .int .u32 n] wx fun r w' => ∃ a' c', r = .returned (.tuple #[innerS n (levelF f.sh) a' (innerL f.sh).length c', .int .i64 0]) ∧ RowsFrom wx.heap.size 4 ChildV.enc w' a' (innerL f.sh) ∧ Below wx.heap.size wx w') := fun wx hb => by
    rw [hMl]; exact tfetch_inner (hS.below hb) n h1 h2 hf hfit hN hB hs0
  have HFL : Hid (∀ wx x, x ∈ innerL f.sh → Below w.heap.size w wx → ∃ f', P.F x.page = some f' ∧ Calls Tryz.prog 53 #[.pointer (some ⟨p, 0, none⟩), .int .u32 x.page] wx fun r w' => ∃ a' c', r = .returned (.tuple #[leafS x.page (nextF f'.sh) a' f'.sh.slots.length c', .int .i64 0]) ∧ RowsFrom wx.heap.size 4 ItemV.enc w' a' (leafL f'.sh) ∧ Below wx.heap.size wx w') := fun wx x hx hb => by
    obtain ⟨⟨q1, q2⟩, f', e1, e2, e3⟩ := hP x hx
    exact ⟨f', e1, tfetch_leaf (hS.below hb) x.page q1 q2 e1 e2 e3⟩
  obtain ⟨D, hD⟩ := DownIs.ex (innerL f.sh) e
  have hDl := hD.lt hM0
  have HDN : Hid (∀ wx (a : Option Addr) (c : Nat), ChildsAt wx a (innerL f.sh) → Calls Tryz.prog 65 #[.slice a (innerL f.sh).length c, .agg #[.string e.key, .int .u32 e.page, .int .i64 e.slot]] wx fun r w' => r = .returned (.int .i64 D) ∧ Below wx.heap.size wx w') := fun wx a c hm => (down_any a c _ e wx hm (by omega)).mono fun r w' h => by
    obtain ⟨⟨D', e1, e2⟩, b⟩ := h
    rw [e1, e2.unique hD]
    exact ⟨rfl, b⟩
  have HIL : Hid (∀ (wx : World) (next : Nat) (a : Option Addr) (m c q : Nat), Calls Tryz.prog 55 #[.agg #[.int .u32 q, .int .i64 0, .slice none 0 0, .int .u32 next, .slice a m c]] wx fun r w' => r = .returned (.bool true) ∧ Below wx.heap.size wx w') := fun wx next a m c q => isLeaf_leaf q next a m c wx
  have HII : Hid (∀ (wx : World) (lv : Nat) (a : Option Addr) (c : Nat), Calls Tryz.prog 55 #[.agg #[.int .u32 n, .int .i64 lv, .slice a (innerL f.sh).length c, .int .u32 0, .slice none 0 0]] wx fun r w' => r = .returned (.bool false) ∧ Below wx.heap.size wx w') := fun wx lv a c => isLeaf_inner n lv a _ c wx (by omega)
  clear hP hfit hN hB hs0 hMl
  obtain ⟨i0, hi, hz0, hz1, hz2⟩ := info_parts infoPage
  simp only [EntV.val, innerS, leafS] at HFI HFL ⊢
  obtain ⟨W, HW⟩ : ∃ W, Hid (W = (w.alloc (.cells #[.string e.key, .int .u32 e.page, .int .i64 e.slot] 28)).alloc (.cells #[.int .u32 0, .int .i64 0, .slice none 0 0, .int .u32 0, .slice none 0 0] 82)) := ⟨_, rfl⟩
  have D0 : DnAt w W e (.slice none 0 0) [] := by
    have bz : (w.alloc (.cells #[.string e.key, .int .u32 e.page, .int .i64 e.slot] 28)).heap.size = w.heap.size + 1 := by simp
    refine ⟨World.ownsRow_nil _ _ _ _, by rw [HW.out]; exact ((Below.refl _ _).alloc (Nat.le_refl _) _).alloc (by simp) _, by rw [HW.out]; exact (EBox.new _ _).below ((Below.refl _ _).alloc (Nat.le_refl _) _) (by simp), ?_, by rw [HW.out]; simp⟩
    rw [HW.out, ← bz]
    exact RowV.five_new _ _ _ _ _ _ _
  go_enter Tryz.func34, Tryz.ntmps34
  go_wp2_with fail
  rw [← HW.out]
  clear HW
  go_loopw [9, 10] (fun v9 v10 wr => ∃ (L : List Nat) (m : Nat), v10 = .int .u32 m ∧ (∃ g cap, v9 = .slice g L.length cap) ∧ Hid (DnAt w wr e v9 L) ∧ ((L = [] ∧ m = n) ∨ (L = [n] ∧ m = ((innerL f.sh)[D]'hDl).page))) (fun v9 _ _ => 2 - lenV v9)
  case atStart => exact ⟨[], n, rfl, ⟨none, 0, rfl⟩, D0, .inl ⟨rfl, rfl⟩⟩
  case round =>
    obtain ⟨L, m, rfl, ⟨gg, cap, rfl⟩, HD, hcase⟩ := hrel
    rcases hcase with ⟨rfl, rfl⟩ | ⟨rfl, rfl⟩
    · simp only [List.length_nil] at HD ⊢
      go_wp2_with fail
      refine (HFI.out wr HD.out.bel).mono ?_
      rintro r w2 ⟨a2, c2, rfl, r2, b2⟩
      obtain ⟨W3, HW3⟩ : ∃ W3, Hid (W3 = w2.alloc (.cells #[.int .u32 m, .int .i64 (levelF f.sh), .slice a2 (innerL f.sh).length c2, .int .u32 0, .slice none 0 0] 82)) := ⟨_, rfl⟩
      have k3 : Below w2.heap.size w2 W3 := by rw [HW3.out]; exact (Below.refl _ _).alloc (Nat.le_refl _) _
      have q3 : RowV W3 w2.heap.size 5 (five (.int .u32 m) (.int .i64 (levelF f.sh)) (.slice a2 (innerL f.sh).length c2) (.int .u32 0) (.slice none 0 0)) := by rw [HW3.out]; exact RowV.five_new _ _ _ _ _ _ _
      have z3 : w2.heap.size < W3.heap.size := by rw [HW3.out]; simp
      have D3 := HD.out.below (below_chain b2 k3)
      have r3 := r2.belowF k3
      have z2 := b2.size
      have zb := HD.out.big
      go_upto_region 7 with fail
      rw [← HW3.out]
      have kV : Below W3.heap.size W3 (W3.alloc (.cells #[.int .u32 m] 24)) := (Below.refl _ _).alloc (Nat.le_refl _) _
      have DV := D3.below kV
      have qV := q3.below kV z3
      have rV := r3.belowF kV
      have hnews : Hid (∀ j u', ([.int .u32 (m : Int)] : List Value)[j]? = some u' → (W3.alloc (.cells #[.int .u32 m] 24)).cell? ((⟨W3.heap.size, 0, none⟩ : Addr).add j) = some u') := cell_one_new _ _ _
      have hown := hidn DV.row
      clear HW3
      go_wp2_with (at_builtin; refine wpList_append_lies _ rfl _ _ 38 rfl (w.heap.size + 2) 24 i0 _ 1 4 Tryz.underlying38 hi hz0 hz1 hz2 rfl (by decide) (.slice gg 0 cap) 0 [] rfl hown.out ⟨W3.heap.size, 0, none⟩ 1 1 [.int .u32 m] rfl rfl hnews.out (by intro u' hu'; simp at hu'; subst hu'; rfl) (by decide) (by unfold maxLen; omega) (by omega) (by simp; omega) _ rfl ?_; intro g4 cap4 w4 hown4 hgrow4 hloc4 hlt4; have D4 := DV.grown (L' := [m]) (by simpa using hown4) hgrow4; have q4 := qV.same5 (hgrow4.block w2.heap.size (by simp; omega) (fun q => by have := (HD.out.row.lt _ q.symm).2; omega)); obtain ⟨x0, x1, x2, x3, x4⟩ := q4.cells5)
      have r4 := rV.same (fun b g1 g2 => hgrow4.block b g2 (fun q => by have := (HD.out.row.lt _ q.symm).2; omega)) hgrow4.size
      have z4 : w2.heap.size < w4.heap.size := by have := hgrow4.size; simp at this; omega
      clear hown4 hgrow4 hloc4 hlt4 hown hnews rV qV DV kV r3 q3 D3 k3 b2 r2
      refine (HII.out _ _ _ _).mono ?_
      rintro r w5 ⟨rfl, b5⟩
      have D5 := hidn (D4.below b5)
      have q5 := q4.below b5 z4
      have r5 := (r4.belowF b5).at
      clear D4 q4 r4 x0 x1 x2 x3 x4
      obtain ⟨x0, x1, x2, x3, x4⟩ := q5.cells5
      obtain ⟨u0, u1, u2, ul⟩ := D5.out.en
      obtain ⟨bk, ok, rfl, hbk, y0, y1, y2, y3⟩ := r5.child hDl
      have cD : ∀ dd os, Calls Tryz.prog 65 #[.slice (some ⟨bk, ok, none⟩) (innerL f.sh).length c2, .agg #[.string e.key, .int .u32 e.page, .int .i64 e.slot]] (grow (redrawn w5 dd) os) fun r w'' => r = .returned (.int .i64 D) ∧ ∃ p : Regrown, w'' = grow (redrawn w5 p.d) p.os := fun dd os => Calls.regrown_of (HDN.out _ _ _ (r5.below (below_regrown w5 dd os)))
      have gx2 := cell_regrown x2
      have gu0 := cell_regrown u0
      have gu1 := cell_regrown u1
      have gu2 := cell_regrown u2
      have gy0 := cell_regrown y0
      have i0' : (0 : Int) ≤ (D : Int) := by omega
      have i1' : (D : Int) < ((innerL f.sh).length : Int) := by omega
      clear x0 x1 x2 x3 x4 u0 u1 u2 y0 y1 y2 y3 r5 q5
      go_upto_region 10 with fail
      generalize hxx : (innerL f.sh)[D] = x at *
      refine wp_region_quiet_below nmixed (by kernel_rfl) ?_
      iterate 10 (quiet_step (first | (go_at_call 65; exact cD _ _)))
      refine wpQuiet_nil ?_
      intro _ hw'
      obtain ⟨⟨dq, osq⟩, hw''⟩ := hw'
      have D9 := hidn (D5.out.below (below_regrown w5 dq osq))
      rw [hw'']
      generalize grow (redrawn w5 dq) osq = V9 at *
      go_wp2
      go_roundw
      case rel => exact ⟨[m], x.page, rfl, ⟨some ⟨g4, 0, none⟩, cap4, rfl⟩, D9, .inr ⟨rfl, by rw [hxx]⟩⟩
      case measure => simp [lenV]
    · simp only [List.length_singleton] at HD ⊢
      have hxm := List.getElem_mem hDl
      have hxd : (innerL f.sh)[D]? = some (innerL f.sh)[D] := List.getElem?_eq_getElem hDl
      generalize (innerL f.sh)[D] = x at *
      obtain ⟨f', hf', HC⟩ := HFL.out wr x hxm HD.out.bel
      have HCc := hidn HC
      have Hf' := hidn hf'
      have Hxd := hidn hxd
      clear HC hf' hxd
      go_wp2_with fail
      refine HCc.out.mono ?_
      rintro r w2 ⟨a2, c2, rfl, r2, b2⟩
      obtain ⟨W3, HW3⟩ : ∃ W3, Hid (W3 = w2.alloc (.cells #[.int .u32 x.page, .int .i64 0, .slice none 0 0, .int .u32 (nextF f'.sh), .slice a2 f'.sh.slots.length c2] 82)) := ⟨_, rfl⟩
      have k3 : Below w2.heap.size w2 W3 := by rw [HW3.out]; exact (Below.refl _ _).alloc (Nat.le_refl _) _
      have q3 : RowV W3 w2.heap.size 5 (five (.int .u32 x.page) (.int .i64 0) (.slice none 0 0) (.int .u32 (nextF f'.sh)) (.slice a2 f'.sh.slots.length c2)) := by rw [HW3.out]; exact RowV.five_new _ _ _ _ _ _ _
      have z3 : w2.heap.size < W3.heap.size := by rw [HW3.out]; simp
      have D3 := HD.out.below (below_chain b2 k3)
      have r3 := r2.belowF k3
      have z2 := b2.size
      have zb := HD.out.big
      go_upto_region 7 with fail
      rw [← HW3.out]
      have kV : Below W3.heap.size W3 (W3.alloc (.cells #[.int .u32 x.page] 24)) := (Below.refl _ _).alloc (Nat.le_refl _) _
      have DV := D3.below kV
      have qV := q3.below kV z3
      have rV := r3.belowF kV
      have hnews : Hid (∀ j u', ([.int .u32 (x.page : Int)] : List Value)[j]? = some u' → (W3.alloc (.cells #[.int .u32 x.page] 24)).cell? ((⟨W3.heap.size, 0, none⟩ : Addr).add j) = some u') := cell_one_new _ _ _
      have hown := hidn DV.row
      clear HW3
      go_wp2_with (at_builtin; refine wpList_append_lies _ rfl _ _ 38 rfl (w.heap.size + 2) 24 i0 _ 1 4 Tryz.underlying38 hi hz0 hz1 hz2 rfl (by decide) (.slice gg 1 cap) 1 [.int .u32 n] rfl hown.out ⟨W3.heap.size, 0, none⟩ 1 1 [.int .u32 x.page] rfl rfl hnews.out (by intro u' hu'; simp at hu'; subst hu'; rfl) (by decide) (by unfold maxLen; omega) (by omega) (by simp; omega) _ rfl ?_; intro g4 cap4 w4 hown4 hgrow4 hloc4 hlt4; have D4 := DV.grown (L' := [n, x.page]) (by simpa using hown4) hgrow4; have q4 := qV.same5 (hgrow4.block w2.heap.size (by simp; omega) (fun q => by have := (HD.out.row.lt _ q.symm).2; omega)); obtain ⟨x0, x1, x2, x3, x4⟩ := q4.cells5)
      have r4 := rV.same (fun b g1 g2 => hgrow4.block b g2 (fun q => by have := (HD.out.row.lt _ q.symm).2; omega)) hgrow4.size
      have z4 : w2.heap.size < w4.heap.size := by have := hgrow4.size; simp at this; omega
      clear hown4 hgrow4 hloc4 hlt4 hown hnews rV qV DV kV r3 q3 D3 k3 b2 r2
      refine (HIL.out _ _ _ _ _ _).mono ?_
      rintro r w5 ⟨rfl, b5⟩
      have D5 := hidn (D4.below b5)
      have q5 := q4.below b5 z4
      have r5 := r4.belowF b5
      clear D4 q4 r4 x0 x1 x2 x3 x4
      obtain ⟨x0, x1, x2, x3, x4⟩ := q5.cells5
      have r6 := D5.out.out
      obtain ⟨o0, o1, o2, o3, o4⟩ := r6.cells5
      obtain ⟨p0, p1, p2, p3, p4⟩ := r6.open5
      obtain ⟨y0, y1, y2, y3, y4⟩ := (r6.set5 (.int .u32 x.page) (.int .i64 0) (.slice none 0 0) (.int .u32 (nextF f'.sh)) (.slice a2 f'.sh.slots.length c2)).cells5
      have bend := below_set5 D5.out.bel (Nat.le_succ w.heap.size) (.int .u32 x.page) (.int .i64 0) (.slice none 0 0) (.int .u32 (nextF f'.sh)) (.slice a2 f'.sh.slots.length c2)
      have hA6 := r5.stored (c := w.heap.size + 1) (by omega) (show w.heap.size ≤ wr.heap.size by omega) (.int .u32 x.page) (.int .i64 0) (.slice none 0 0) (.int .u32 (nextF f'.sh)) (.slice a2 f'.sh.slots.length c2)
      unfold store5 at y0 y1 y2 y3 y4 bend hA6
      have HRW := hidn (ownsRow_store5 D5.out.row (.int .u32 x.page) (.int .i64 0) (.slice none 0 0) (.int .u32 (nextF f'.sh)) (.slice a2 f'.sh.slots.length c2))
      have HBE := hidn bend
      have HA6 := hidn hA6
      clear bend hA6 D5 q5 r5 r6
      go_upto_region 9 with fail
      go_region
      all_goals
        go_wp2
        refine bodyPost_ret (v := .tuple #[.slice (some ⟨g4, 0, none⟩) 2 cap4, .agg #[.int .u32 x.page, .int .i64 0, .slice none 0 0, .int .u32 (nextF f'.sh), .slice a2 f'.sh.slots.length c2], .int .i64 0]) (by simp [results, Tryz.results34, go_sem, y0, y1, y2, y3, y4]) rfl ?_
        exact ⟨⟨D, x, f', a2, c2, _, Hxd.out, hD, Hf'.out, rfl, ownsRow_drew HRW.out, HA6.out.belowF ((Below.refl _ _).drew)⟩, HBE.out.drew⟩
end

end Go.Proofs.YtpllidadpcahbaaGreat
