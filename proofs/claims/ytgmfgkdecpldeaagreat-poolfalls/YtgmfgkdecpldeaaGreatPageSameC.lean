/-
  The walks of page.Same, girderref03.Same, girderlaw03.ref, girderlaw03.same, page.Kind, girderref03.Turned.
-/
import Derived.Test.YtgmfgkdecpldeaaGreatPageDecode2C
import Derived.Test.YtgmfgkdecpldeaaGreatBase2C
import Derived.Shelf.Slices.Empties2
import Derived.Lib.QuietBelow
namespace Go.Proofs.YtgmfgkdecpldeaaGreat
open Go.RowKit Go.Sort
set_option linter.unusedVariables false

theorem mixed : Tryz.prog.follows .mixedOrders = true := by kernel_rfl

theorem equal_any (a1 a2 : Option Addr) (c d : Nat) (L M : List ByteArray) (w : World) (hL : StrsAt w a1 L) (hM : StrsAt w a2 M) (h1 : L.length ≤ 9223372036854775807) (h2 : M.length ≤ 9223372036854775807) :
    Calls Tryz.prog 70 #[.slice a1 L.length c, .slice a2 M.length d] w fun e w' => e = .returned (.bool (decide (L = M))) ∧ ∃ q, w' = w.drewN q := by
  by_cases hl : L.length = M.length
  · by_cases h0 : L = []
    · subst h0
      have hm0 : M.length = 0 := by simpa using hl.symm
      refine (Any.slices_Equal_string_empty equalLays a1 a2 c M.length d w h2).mono ?_
      rintro e w' ⟨rfl, rfl⟩
      refine ⟨?_, 0, rfl⟩
      have : M = [] := List.eq_nil_of_length_eq_zero hm0
      subst this; rfl
    · have h0' : M ≠ [] := fun e => h0 (List.eq_nil_of_length_eq_zero (by rw [hl, e]; rfl))
      rcases hL with hL | ⟨b1, o1, rfl, _, hc1⟩
      · exact absurd hL h0
      rcases hM with hM | ⟨b2, o2, rfl, _, hc2⟩
      · exact absurd hM h0'
      refine (Any.slices_Equal_string equalLays b1 o1 L.length c b2 o2 M.length d L M w (Nat.le_refl _) (Nat.le_refl _) h1 h2 (fun j hj => ?_) (fun j hj => ?_)).mono ?_
      · rw [hc1 j hj, List.getD_eq_getElem?_getD, List.getElem?_eq_getElem hj]; rfl
      · rw [hc2 j hj, List.getD_eq_getElem?_getD, List.getElem?_eq_getElem hj]; rfl
      · rintro e w' ⟨rfl, q, rfl⟩
        exact ⟨by rw [List.take_length, List.take_length], q, rfl⟩
  · refine (Any.slices_Equal_string_lens equalLays a1 a2 L.length c M.length d w hl).mono ?_
    rintro e w' ⟨rfl, rfl⟩
    refine ⟨?_, 0, rfl⟩
    have : ¬ L = M := fun e => hl (by rw [e])
    simp [this]

/-- Are two pages the same but for the LSN? -/
def sameB (p q : SheetV) : Bool := decide (p.num = q.num ∧ p.kind = q.kind ∧ p.head = q.head ∧ p.slots = q.slots)

set_option maxHeartbeats 1600000 in
set_option maxRecDepth 60000 in
theorem same_any (p q : SheetV) (a1 a2 : Option Addr) (c d : Nat) (w : World) (hp : p.Ok w a1) (hq : q.Ok w a2) :
    Calls Tryz.prog 35 #[p.val a1 c, q.val a2 d] w fun e w' => e = .returned (.bool (sameB p q)) ∧ Below w.heap.size w w' := by
  have hE : Hid (∀ wx, Below w.heap.size w wx → Calls Tryz.prog 70 #[.slice a1 p.slots.length c, .slice a2 q.slots.length d] wx fun e w' => e = .returned (.bool (decide (p.slots = q.slots))) ∧ ∃ q, w' = wx.drewN q) :=
    fun wx hb => equal_any a1 a2 c d p.slots q.slots wx (hp.mem.below hb) (hq.mem.below hb) (by have := hp.len; omega) (by have := hq.len; omega)
  have hn1 := hp.num
  have hn2 := hq.num
  have HS : Hid (sameB p q = decide (p.num = q.num ∧ p.kind = q.kind ∧ p.head = q.head ∧ p.slots = q.slots)) := rfl
  generalize sameB p q = R at *
  clear hp hq
  obtain ⟨n1, l1, k1, h1, L⟩ := p
  obtain ⟨n2, l2, k2, h2, M⟩ := q
  simp only [SheetV.val] at *
  by_cases e1 : n1 = n2
  · by_cases e2 : k1 = k2
    · by_cases e3 : h1 = h2
      · have HR : Hid (R = decide (L = M)) := by show _ = _; rw [HS.out]; simp [e1, e2, e3]
        clear HS
        subst e1 e2 e3
        go_enter Tryz.func35, Tryz.ntmps35
        go_wp2_with fail
        refine (hE.out _ (((Below.refl _ _).alloc (Nat.le_refl _) _).alloc (by simp) _)).mono ?_
        rintro e w1 ⟨rfl, nq, rfl⟩
        go_wp2
        go_ret
        exact ⟨by rw [HR.out]; rfl, below_drewN (((Below.refl _ _).alloc (Nat.le_refl _) _).alloc (by simp) _) nq⟩
      · have HR : Hid (R = false) := by show _ = _; rw [HS.out]; simp [e3]
        have e3' := str_ne e3
        clear HS
        subst e1 e2
        go_enter Tryz.func35, Tryz.ntmps35
        go_wp2
        go_ret
        exact ⟨by rw [HR.out]; rfl, ((Below.refl _ _).alloc (Nat.le_refl _) _).alloc (by simp) _⟩
    · have HR : Hid (R = false) := by show _ = _; rw [HS.out]; simp [e2]
      have e2' : (k1 == k2) = false := by rw [beq_eq_false_iff_ne]; exact e2
      clear HS
      subst e1
      go_enter Tryz.func35, Tryz.ntmps35
      go_wp2
      go_ret
      exact ⟨by rw [HR.out]; rfl, ((Below.refl _ _).alloc (Nat.le_refl _) _).alloc (by simp) _⟩
  · have HR : Hid (R = false) := by show _ = _; rw [HS.out]; simp [e1]
    have e1' : ((n1 : Int) == (n2 : Int)) = false := by rw [beq_eq_false_iff_ne]; omega
    clear HS
    go_enter Tryz.func35, Tryz.ntmps35
    go_wp2
    go_ret
    exact ⟨by rw [HR.out]; rfl, ((Below.refl _ _).alloc (Nat.le_refl _) _).alloc (by simp) _⟩

end Go.Proofs.YtgmfgkdecpldeaaGreat
