/-
  girderlaw13.awake and the walk of TreeWrong.
-/
import Derived.Test.YtpllidadpcahbaaGreatTreeLaidC
import Derived.Test.YtpllidadpcahbaaGreatBase15C
namespace Go.Proofs.YtpllidadpcahbaaGreat
open Go.RowKit Go.Sort
set_option linter.unusedVariables false
set_option linter.unusedSimpArgs false

def keyA : EntV := ⟨⟨#[97]⟩, 0, 0⟩
def keyB : EntV := ⟨⟨#[98]⟩, 0, 0⟩
def keyC : EntV := ⟨⟨#[99]⟩, 0, 0⟩
def keyBB : EntV := ⟨⟨#[98, 98]⟩, 0, 0⟩
def l3 : List EntV := [keyA, keyB, keyC]

theorem ltE_key {a b : EntV} (h : Go.Op.bytesLess a.key.data.toList b.key.data.toList = true) : ltE a b = true := (ltE_iff _ _).2 (.inl (by rw [ByteArray.toList_eq, ByteArray.toList_eq]; exact h))

theorem lt_AB : ltE keyA keyB = true := ltE_key (by rfl)
theorem lt_AC : ltE keyA keyC = true := ltE_key (by rfl)
theorem lt_BC : ltE keyB keyC = true := ltE_key (by rfl)
theorem lt_AD : ltE keyA keyBB = true := ltE_key (by rfl)
theorem lt_BD : ltE keyB keyBB = true := ltE_key (by rfl)
theorem lt_DC : ltE keyBB keyC = true := ltE_key (by rfl)

theorem l3_sorted : SortedE l3 := by
  refine ⟨.cons (fun y hy => ?_) (.cons (fun y hy => ?_) (.cons (fun y hy => by cases hy) .nil)), by decide, fun x hx => ?_⟩
  · rcases List.mem_cons.1 hy with rfl | hy
    · exact lt_AB
    · have : y = keyC := by simpa using hy
      rw [this]; exact lt_AC
  · have : y = keyC := by simpa using hy
    rw [this]; exact lt_BC
  · have : x = keyA ∨ x = keyB ∨ x = keyC := by simpa [l3] using hx
    rcases this with rfl | rfl | rfl <;> exact ⟨⟨by decide, by decide, by decide⟩, by decide⟩

theorem from3 : fromL (fun i => live (lvs l3 2 2 0 i)) 0 2 = live l3 := by rfl

theorem find3 : (live l3).find? (fun x => !ltE x.e keyBB) = some ⟨keyC, true⟩ := by
  have h3 : ltE keyC keyBB = false := (ltE_asymm lt_DC).1
  simp [live, l3, lt_AD, lt_BD, h3]

theorem down3 {D : Nat} (h : DownIs (kids l3 2 2 0 false) keyBB D) : D = 0 := by
  refine h.unique ⟨.inl rfl, fun j hj h0 => ?_⟩
  have hj2 : j < 2 := by rw [kids_length] at hj; exact hj
  obtain rfl : j = 1 := by omega
  rw [gtE_iff]
  exact lt_DC

theorem cnt3 {N : Nat} (h : IsCnt 3 2 N) : N = 2 := by
  rcases h with h | ⟨h1, h2, h3, h4⟩ <;> omega

theorem sp3 : spB l3 2 2 0 = false := by unfold spB; simp

set_option maxHeartbeats 3200000 in
set_option maxRecDepth 20000 in
theorem tawake_any (w : World) : Calls Tryz.prog 7 #[] w fun r w' => r = .returned (.bool true) ∧ Below w.heap.size w w' := by
  obtain ⟨W, HW⟩ : ∃ W, Hid (W = w.alloc (.cells #[.string ⟨#[97]⟩, .int .u32 0, .int .i64 0, .string ⟨#[98]⟩, .int .u32 0, .int .i64 0, .string ⟨#[99]⟩, .int .u32 0, .int .i64 0] 28)) := ⟨_, rfl⟩
  have bW : Below w.heap.size w W := by rw [HW.out]; exact (Below.refl _ _).alloc (Nat.le_refl _) _
  have kW : Blk W w.heap.size #[.string ⟨#[97]⟩, .int .u32 0, .int .i64 0, .string ⟨#[98]⟩, .int .u32 0, .int .i64 0, .string ⟨#[99]⟩, .int .u32 0, .int .i64 0] 28 := by rw [HW.out]; exact Blk.made _ _ _
  have hE : EntsAt W (some ⟨w.heap.size, 0, none⟩) l3 := .inr ⟨w.heap.size, 0, rfl, kW.lt, fun i hi j v hv => by
    have hi3 : i < 3 := hi
    rw [kW.cell]
    rcases (show i = 0 ∨ i = 1 ∨ i = 2 by omega) with rfl | rfl | rfl <;>
      (rcases j with _ | _ | _ | j <;> first | exact hv | (simp [l3, EntV.enc] at hv))⟩
  have HLD := hidn (laid_any l3 l3_sorted 2 0 (by omega) (by omega) (by omega) w.heap.size 0 3 W hE kW.lt (by decide))
  have e3 : l3.length = 3 := rfl
  rw [e3] at HLD
  go_enter Tryz.func7, Tryz.ntmps7
  go_wp2_with fail
  rw [← HW.out]
  clear HW
  refine HLD.out.mono ?_
  rintro r w2 ⟨⟨p, A, P, l, d, N, sp, hc, hsp, rfl, hS, hA, h3, h4⟩, b2⟩
  obtain rfl := cnt3 hc
  rw [sp3] at hsp
  subst hsp
  have hT := tree13 l3_sorted (by omega) (by omega) hc sp3.symm rfl h3 h4
  have HSK := hidn (seek_any hT hS keyBB)
  have HCK := hidn (fun wx (b : Below w2.heap.size w2 wx) => check13 l3_sorted (k := 2) (by omega) (by omega) hc (by omega) sp3.symm (hS.below b) h3 h4)
  have B2 := hidn (below_chain bW b2)
  clear HLD hE kW hT h3 h4 hS hA hc b2 bW e3
  simp only [EntV.val, keyBB] at HSK
  go_wp2_with fail
  refine HSK.out.mono ?_
  rintro r w3 ⟨⟨D, y, fd, hD, rfl, hsp⟩, b3⟩
  obtain rfl := down3 hD
  rw [from3, show (⟨⟨#[98, 98]⟩, 0, 0⟩ : EntV) = keyBB from rfl, find3] at hsp
  have hy : y = ⟨keyC, true⟩ ∧ fd = true := by
    rcases hsp with q | ⟨q1, q2⟩
    · cases q.1
    · exact ⟨(Option.some.inj q1).symm, q2⟩
  obtain ⟨rfl, rfl⟩ := hy
  clear hsp hD HSK
  simp only [ItemV.val, keyC]
  obtain ⟨W4, HW4⟩ : ∃ W, Hid (W = w3.alloc (.cells #[.string ⟨#[99]⟩, .int .u32 0, .int .i64 0, .bool true] 42)) := ⟨_, rfl⟩
  have b4 : Below w3.heap.size w3 W4 := by rw [HW4.out]; exact (Below.refl _ _).alloc (Nat.le_refl _) _
  have k4 : Blk W4 w3.heap.size #[.string ⟨#[99]⟩, .int .u32 0, .int .i64 0, .bool true] 42 := by rw [HW4.out]; exact Blk.made _ _ _
  have HC4 := hidn (HCK.out W4 (below_chain b3 b4))
  have B4 := hidn (below_chain B2.out (below_chain b3 b4))
  clear HCK b3 b4
  go_upto_region 5 with fail
  rw [← HW4.out]
  clear HW4
  go_wp2_with fail
  refine HC4.out.mono ?_
  intro r w5 hck
  obtain ⟨v, rfl, hv⟩ := hck.yes rfl
  have k5 := k4.same (hck.bel.block _ k4.lt)
  have c0 : w5.cell? ⟨w3.heap.size, 0, none⟩ = some (.string ⟨#[99]⟩) := k5.cell 0
  have B5 := hidn (below_chain B4.out hck.bel)
  clear hck hv HC4 k4 k5
  go_wp2
  go_ret
  exact ⟨by first | rfl | simp, B5.out⟩

theorem and8 (x : Int) : bits .and .i64 x 7 = x % 8 := and_mask x 3 (by omega)

end Go.Proofs.YtpllidadpcahbaaGreat
