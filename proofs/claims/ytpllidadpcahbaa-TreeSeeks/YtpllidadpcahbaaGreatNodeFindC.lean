/-
  The walk of node.Find.
-/
import Derived.Test.YtpllidadpcahbaaGreatNodeOpsC
import Derived.Test.YtpllidadpcahbaaGreatKeyCmpC
namespace Go.Proofs.YtpllidadpcahbaaGreat
open Go.RowKit Go.Sort
set_option linter.unusedVariables false
set_option linter.unusedSimpArgs false

/-- Are two entries the same? -/
def eqE (a b : EntV) : Bool := decide (a.key.toList = b.key.toList) && decide ((a.page : Int) = b.page) && decide (a.slot = b.slot)

theorem eqE_iff (a b : EntV) : eqE a b = true ↔ a = b := by
  unfold eqE
  simp only [Bool.and_eq_true, decide_eq_true_eq]
  refine ⟨fun h => EntV.ext' ?_ (by omega) h.2, fun h => by subst h; simp⟩
  have := h.1.1
  rw [ByteArray.toList_eq, ByteArray.toList_eq] at this
  exact Go.WideShapes.bytes_inj this

/-- Which of two entries stands first. -/
def cmpE (a b : EntV) : Int := or3 (scmpF a.key b.key) (kcmpF a.page b.page) (kcmpF a.slot b.slot)
def gtE (a b : EntV) : Bool := decide (0 < cmpE a b)

/-- A box with an entry. -/
structure EBox (w : World) (B : Nat) (e : EntV) : Prop where
  c0 : w.cell? ⟨B, 0, none⟩ = some (.string e.key)
  c1 : w.cell? ⟨B, 1, none⟩ = some (.int .u32 e.page)
  c2 : w.cell? ⟨B, 2, none⟩ = some (.int .i64 e.slot)
  lt : B < w.heap.size

theorem EBox.below {w w' : World} {B C : Nat} {e : EntV} (h : EBox w B e) (k : Below C w w') (hB : B < C) : EBox w' B e :=
  ⟨(k.cell (p := ⟨B, 0, none⟩) hB).trans h.c0, (k.cell (p := ⟨B, 1, none⟩) hB).trans h.c1, (k.cell (p := ⟨B, 2, none⟩) hB).trans h.c2, Nat.lt_of_lt_of_le h.lt k.size⟩

theorem EBox.new (w : World) (e : EntV) : EBox (w.alloc (.cells #[.string e.key, .int .u32 e.page, .int .i64 e.slot] 28)) w.heap.size e := ⟨by simp, by simp, by simp, by simp⟩

set_option maxHeartbeats 1600000 in
set_option maxRecDepth 60000 in
theorem find1_any (x : ItemV) (e : EntV) (B : Nat) (w : World) (h : EBox w B e) :
    Calls Tryz.prog 66 #[x.val, .pointer (some ⟨B, 0, none⟩)] w fun r w' => r = .returned (.bool (eqE x.e e)) ∧ Below w.heap.size w w' := by
  obtain ⟨h0, h1, h2, hB⟩ := h
  simp only [ItemV.val]
  go_enter Tryz.func66, Tryz.ntmps66
  go_wp2
  all_goals
    go_ret
    refine ⟨nret_bool ?_, (Below.refl _ _).alloc (Nat.le_refl _) _⟩
    simp [eqE, *]

set_option maxHeartbeats 1600000 in
set_option maxRecDepth 60000 in
theorem find2_any (x : ItemV) (e : EntV) (B : Nat) (w : World) (h : EBox w B e) :
    Calls Tryz.prog 67 #[x.val, .pointer (some ⟨B, 0, none⟩)] w fun r w' => r = .returned (.bool (gtE x.e e)) ∧ Below w.heap.size w w' := by
  obtain ⟨h0, h1, h2, hB⟩ := h
  have HE : Hid (∀ wx, Calls Tryz.prog 32 #[.agg #[.string x.e.key, .int .u32 x.e.page, .int .i64 x.e.slot], .agg #[.string e.key, .int .u32 e.page, .int .i64 e.slot]] wx fun r w' => r = .returned (.int .i64 (cmpE x.e e)) ∧ Below wx.heap.size wx w') := fun wx => entries_any _ _ _ _ _ _ wx
  simp only [ItemV.val]
  unfold gtE
  generalize cmpE x.e e = C at *
  have bW : Below w.heap.size w (w.alloc (.cells #[.string x.e.key, .int .u32 x.e.page, .int .i64 x.e.slot, .bool x.live] 42)) := (Below.refl _ _).alloc (Nat.le_refl _) _
  go_enter Tryz.func67, Tryz.ntmps67
  go_wp2_with fail
  refine (HE.out _).mono ?_
  rintro r w1 ⟨rfl, b1⟩
  go_wp2
  go_ret
  exact ⟨nret_bool (by first | rfl | simp), below_chain bW b1⟩

/-- The first place at which p says yes, or -1. -/
def idxF {α : Type} (p : α → Bool) (L : List α) : Int := if L.findIdx p < L.length then ((L.findIdx p : Nat) : Int) else -1

theorem idxF_hit {α : Type} {p : α → Bool} {L : List α} {k : Nat} (hk : k < L.length) (hp : p L[k] = true) (hn : ∀ j (hj : j < L.length), j < k → p L[j] = false) : idxF p L = k := by
  have : L.findIdx p = k := by
    rw [List.findIdx_eq hk]
    exact ⟨hp, fun j hj => hn j (by omega) hj⟩
  unfold idxF
  rw [this, if_pos hk]

theorem idxF_miss {α : Type} {p : α → Bool} {L : List α} (hn : ∀ j (hj : j < L.length), p L[j] = false) : idxF p L = -1 := by
  unfold idxF
  rw [if_neg]
  rw [List.findIdx_lt_length]
  rintro ⟨x, hx, hp⟩
  obtain ⟨j, hj, rfl⟩ := List.mem_iff_getElem.1 hx
  rw [hn j hj] at hp; exact absurd hp (by simp)

set_option maxHeartbeats 1600000 in
set_option maxRecDepth 60000 in
theorem index1 (a : Option Addr) (c : Nat) (L : List ItemV) (e : EntV) (B : Nat) (w : World) (hm : ItemsAt w a L) (hl : L.length ≤ 9223372036854775807) (hB : EBox w B e) :
    Calls Tryz.prog 59 #[.slice a L.length c, .func (.func 66) #[] #[.pointer (some ⟨B, 0, none⟩)]] w fun r w' => r = .returned (.int .i64 (idxF (fun x => eqE x.e e) L)) ∧ Below w.heap.size w w' := by
  obtain ⟨R, HR⟩ : ∃ R, Hid (idxF (fun x => eqE x.e e) L = R) := ⟨_, rfl⟩
  rw [HR.out]
  go_enter Tryz.func59, Tryz.ntmps59
  go_wp2_with fail
  go_loopw [8] (fun i wr => ∃ k : Nat, k ≤ L.length ∧ i = .int .i64 k ∧ Hid (Below w.heap.size w wr) ∧ Hid (∀ j (hj : j < L.length), j < k → eqE L[j].e e = false)) (fun i _ => L.length - (intOf i).toNat)
  case atStart => exact ⟨0, by omega, rfl, Below.refl _ _, fun j hj h => by omega⟩
  case round =>
    obtain ⟨k, hk, rfl, HB, HN⟩ := hrel
    by_cases hlt : k < L.length
    · obtain ⟨bb, o, rfl, hb, c0, c1, c2, c3⟩ := (hm.below HB.out).item hlt
      have HC := hidn (find1_any L[k] e B wr (hB.below HB.out hB.lt))
      simp only [ItemV.val] at HC
      have HH : Hid (eqE L[k].e e = true → R = k) := fun h => by rw [← HR.out]; exact idxF_hit hlt h HN.out
      have HF : Hid (eqE L[k].e e = false → ∀ j (hj : j < L.length), j < k + 1 → eqE L[j].e e = false) := fun h j hj hjk => by
        by_cases e1 : j = k
        · subst e1; exact h
        · exact HN.out j hj (by omega)
      generalize L[k] = x at *
      have hi0 : (0 : Int) ≤ (k : Int) := by omega
      have hi1 : (k : Int) < (L.length : Int) := by omega
      cases hq : eqE x.e e with
      | true =>
        rw [hq] at HC
        have hR := hidn (HH.out hq)
        go_wp2_with fail
        refine HC.out.mono ?_
        rintro r w1 ⟨rfl, b1⟩
        go_wp2
        go_ret
        exact ⟨nret_int hR.out.symm, below_chain HB.out b1⟩
      | false =>
        rw [hq] at HC
        go_wp2_with fail
        refine HC.out.mono ?_
        rintro r w1 ⟨rfl, b1⟩
        go_wp2
        go_roundw
        case rel => exact ⟨k + 1, by omega, by go_num, below_chain HB.out b1, HF.out hq⟩
        case measure => simp [intOf]; omega
    · obtain rfl : k = L.length := by omega
      have hR := hidn (idxF_miss (p := fun x => eqE x.e e) fun j hj => HN.out j hj hj)
      go_wp2
      go_ret
      exact ⟨nret_int (by rw [← HR.out]; exact hR.out.symm), HB.out⟩

set_option maxHeartbeats 1600000 in
set_option maxRecDepth 60000 in
theorem index2 (a : Option Addr) (c : Nat) (L : List ItemV) (e : EntV) (B : Nat) (w : World) (hm : ItemsAt w a L) (hl : L.length ≤ 9223372036854775807) (hB : EBox w B e) :
    Calls Tryz.prog 59 #[.slice a L.length c, .func (.func 67) #[] #[.pointer (some ⟨B, 0, none⟩)]] w fun r w' => r = .returned (.int .i64 (idxF (fun x => gtE x.e e) L)) ∧ Below w.heap.size w w' := by
  obtain ⟨R, HR⟩ : ∃ R, Hid (idxF (fun x => gtE x.e e) L = R) := ⟨_, rfl⟩
  rw [HR.out]
  go_enter Tryz.func59, Tryz.ntmps59
  go_wp2_with fail
  go_loopw [8] (fun i wr => ∃ k : Nat, k ≤ L.length ∧ i = .int .i64 k ∧ Hid (Below w.heap.size w wr) ∧ Hid (∀ j (hj : j < L.length), j < k → gtE L[j].e e = false)) (fun i _ => L.length - (intOf i).toNat)
  case atStart => exact ⟨0, by omega, rfl, Below.refl _ _, fun j hj h => by omega⟩
  case round =>
    obtain ⟨k, hk, rfl, HB, HN⟩ := hrel
    by_cases hlt : k < L.length
    · obtain ⟨bb, o, rfl, hb, c0, c1, c2, c3⟩ := (hm.below HB.out).item hlt
      have HC := hidn (find2_any L[k] e B wr (hB.below HB.out hB.lt))
      simp only [ItemV.val] at HC
      have HH : Hid (gtE L[k].e e = true → R = k) := fun h => by rw [← HR.out]; exact idxF_hit hlt h HN.out
      have HF : Hid (gtE L[k].e e = false → ∀ j (hj : j < L.length), j < k + 1 → gtE L[j].e e = false) := fun h j hj hjk => by
        by_cases e1 : j = k
        · subst e1; exact h
        · exact HN.out j hj (by omega)
      generalize L[k] = x at *
      have hi0 : (0 : Int) ≤ (k : Int) := by omega
      have hi1 : (k : Int) < (L.length : Int) := by omega
      cases hq : gtE x.e e with
      | true =>
        rw [hq] at HC
        have hR := hidn (HH.out hq)
        go_wp2_with fail
        refine HC.out.mono ?_
        rintro r w1 ⟨rfl, b1⟩
        go_wp2
        go_ret
        exact ⟨nret_int hR.out.symm, below_chain HB.out b1⟩
      | false =>
        rw [hq] at HC
        go_wp2_with fail
        refine HC.out.mono ?_
        rintro r w1 ⟨rfl, b1⟩
        go_wp2
        go_roundw
        case rel => exact ⟨k + 1, by omega, by go_num, below_chain HB.out b1, HF.out hq⟩
        case measure => simp [intOf]; omega
    · obtain rfl : k = L.length := by omega
      have hR := hidn (idxF_miss (p := fun x => gtE x.e e) fun j hj => HN.out j hj hj)
      go_wp2
      go_ret
      exact ⟨nret_int (by rw [← HR.out]; exact hR.out.symm), HB.out⟩

/-- What Find finds. -/
def findF (L : List ItemV) (e : EntV) : Int × Bool :=
  if 0 ≤ idxF (fun x => eqE x.e e) L then (idxF (fun x => eqE x.e e) L, true) else if 0 ≤ idxF (fun x => gtE x.e e) L then (idxF (fun x => gtE x.e e) L, false) else (L.length, false)

set_option maxHeartbeats 1600000 in
set_option maxRecDepth 60000 in
theorem find_any (a : Option Addr) (c : Nat) (L : List ItemV) (e : EntV) (w : World) (hm : ItemsAt w a L) (hl : L.length ≤ 9223372036854775807) :
    Calls Tryz.prog 35 #[.slice a L.length c, e.val] w fun r w' => r = .returned (.tuple #[.int .i64 (findF L e).1, .bool (findF L e).2]) ∧ Below w.heap.size w w' := by
  obtain ⟨W, HW⟩ : ∃ W, Hid (W = w.alloc (.cells #[.string e.key, .int .u32 e.page, .int .i64 e.slot] 28)) := ⟨_, rfl⟩
  have eW : EBox W w.heap.size e := by rw [HW.out]; exact EBox.new _ _
  have bW : Below w.heap.size w W := by rw [HW.out]; exact (Below.refl _ _).alloc (Nat.le_refl _) _
  have H1 := hidn (index1 a c L e w.heap.size W (hm.below bW) hl eW)
  have H2 : Hid (∀ wx, Below W.heap.size W wx → Calls Tryz.prog 59 #[.slice a L.length c, .func (.func 67) #[] #[.pointer (some ⟨w.heap.size, 0, none⟩)]] wx fun r w' => r = .returned (.int .i64 (idxF (fun x => gtE x.e e) L)) ∧ Below wx.heap.size wx w') := fun wx hb => index2 a c L e w.heap.size wx ((hm.below bW).below hb) hl (eW.below hb eW.lt)
  unfold findF
  generalize idxF (fun x => eqE x.e e) L = I1 at *
  generalize idxF (fun x => gtE x.e e) L = I2 at *
  clear hm eW
  simp only [EntV.val]
  by_cases h1 : 0 ≤ I1
  · rw [if_pos h1]
    go_enter Tryz.func35, Tryz.ntmps35
    go_wp2_with fail
    rw [← HW.out]
    refine H1.out.mono ?_
    rintro r w1 ⟨rfl, b1⟩
    go_wp2
    go_ret2
    exact ⟨rfl, below_chain bW b1⟩
  · rw [if_neg h1]
    by_cases h2 : 0 ≤ I2
    · rw [if_pos h2]
      go_enter Tryz.func35, Tryz.ntmps35
      go_wp2_with fail
      rw [← HW.out]
      refine H1.out.mono ?_
      rintro r w1 ⟨rfl, b1⟩
      go_wp2_with fail
      refine (H2.out _ b1).mono ?_
      rintro r w2 ⟨rfl, b2⟩
      go_wp2
      go_ret2
      exact ⟨rfl, below_chain (below_chain bW b1) b2⟩
    · rw [if_neg h2]
      go_enter Tryz.func35, Tryz.ntmps35
      go_wp2_with fail
      rw [← HW.out]
      refine H1.out.mono ?_
      rintro r w1 ⟨rfl, b1⟩
      go_wp2_with fail
      refine (H2.out _ b1).mono ?_
      rintro r w2 ⟨rfl, b2⟩
      go_wp2
      go_ret2
      exact ⟨rfl, below_chain (below_chain bW b1) b2⟩

end Go.Proofs.YtpllidadpcahbaaGreat
