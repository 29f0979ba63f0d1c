/-
  page.change of an OpFormat; page.Apply of one.
-/
import Derived.Test.YtkknglcckjhngaaSpaceMathC
import Derived.Test.YtkknglcckjhngaaSpaceFreshC
import Derived.Test.YtkknglcckjhngaaBase5C
import Derived.StillTailTactics
namespace Go.Proofs.Ytkknglcckjhngaa
open Go.RowKit Go.Sort
set_option linter.unusedVariables false

/-- The page that an OpFormat leaves. -/
def fmtQ (p : SheetV) (o : OpV) : SheetV := ⟨p.num, 0, o.at', o.S, []⟩

set_option maxHeartbeats 1600000 in
set_option maxRecDepth 60000 in
theorem change_fmt {p : SheetV} {o : OpV} (ho : o.Ok) (hk : o.kind = 1) : ChangeDoes p o 0 (fmtQ p o) := by
  intro B w b bs h
  have hb1 := h.b1
  have hlt := h.lt
  obtain ⟨K, A, S, T⟩ := o
  simp only at hk ⊢
  subst hk
  unfold fmtQ
  simp only [OpV.val]
  obtain ⟨W, HW⟩ : ∃ W, Hid (W = w.alloc (.cells #[.int .i64 1, .int .i64 A, .string S, .string T] 41)) := ⟨_, rfl⟩
  have bW : Below w.heap.size w W := by rw [HW.out]; exact (Below.refl _ _).alloc (Nat.le_refl _) _
  have h1 := h.below bW
  have r1 : RowV W w.heap.size 4 (four (.int .i64 1) (.int .i64 A) (.string S) (.string T)) := by rw [HW.out]; exact RowV.four_new w _ _ _ _ _
  obtain ⟨x0, x1, x2, x3, x4⟩ := h1.row.cells5
  obtain ⟨g0, g1, g2, g3, g4⟩ := h1.row.open5
  obtain ⟨y0, y1, y2, y3⟩ := r1.cells4
  have bB : Below B w W := bW.mono (by omega)
  have hbo : b ≠ w.heap.size := by omega
  go_enter Try.func26, Try.ntmps26
  go_wp2_with fail
  rw [← HW.out]
  clear HW
  go_still_tail 11, (by kernel_rfl)
  change wpList _ _ _ _ _ W.drew
  have h2 : SheetAt B W.drew b bs p := h1.below ((Below.refl _ _).drew)
  have B2 : Below B w W.drew := bB.drew
  obtain ⟨V, HV⟩ : ∃ V, Hid (V = W.drew) := ⟨_, rfl⟩
  rw [← HV.out] at h2 B2 ⊢
  clear HV h1 x0 x1 x2 x3 x4 g0 g1 g2 g3 g4 y0 y1 y2 y3 r1 bB bW
  obtain ⟨x0, x1, x2, x3, x4⟩ := h2.row.cells5
  obtain ⟨g0, g1, g2, g3, g4⟩ := h2.row.open5
  go_wp2
  go_ret
  refine ⟨rfl, below_set5 B2 hb1 _ _ _ _ _, fun _ => ⟨none, 0, h2.row.set5 _ _ _ _ _, .inl rfl⟩⟩

/-- The change that begins a map's page. -/
def opF : OpV := ⟨1, 1, ⟨#[]⟩, ⟨#[]⟩⟩

theorem opF_ok : opF.Ok := ⟨by show (-9223372036854775808 : Int) ≤ 1 ∧ (1 : Int) ≤ _; omega, by show (-9223372036854775808 : Int) ≤ 1 ∧ (1 : Int) ≤ _; omega, by show (0 : Nat) ≤ _; omega, by show (0 : Nat) ≤ _; omega⟩

theorem opF_chk : chkB opF = true := by decide

/-- A page that is a map with the slot s. -/
def mapV (l : Nat) (s : ByteArray) : SheetV := ⟨1, l, 1, ⟨#[]⟩, [s]⟩

theorem mapV_fits (l : Nat) (s : ByteArray) (hl : l < 18446744073709551616) (hs : s.size = 256) : (mapV l s).Fits := by
  refine ⟨by show 1 < _; omega, hl, by show (0 : Int) ≤ 1; omega, by show (1 : Int) ≤ 255; omega, by show (0 : Nat) ≤ 32; omega, by show 1 ≤ 64; omega, ?_⟩
  show 0 + slotSum [s] ≤ 485
  simp only [slotSum]; omega

theorem mapV_is (l : Nat) (s : ByteArray) (hs : s.size = 256) : isB (mapV l s) = true := by
  unfold isB
  rw [decide_eq_true_eq]
  exact ⟨rfl, rfl, hs⟩

theorem mapV_slot (l : Nat) (s : ByteArray) : slot0 (mapV l s) = s := rfl

theorem Fits.lies {p : SheetV} {w : World} {a : Option Addr} (f : p.Fits) (h : StrsAt w a p.slots) : p.Lies w a := by
  refine ⟨by have := f.len; omega, fun s hs => ?_, h⟩
  obtain ⟨j, hj, rfl⟩ := List.mem_iff_getElem.1 hs
  have := slotSum_at p.slots j hj
  have := f.fits
  omega

/-- page.Apply of a change that turns a bit of a map over. -/
theorem apply_turn {l : Nat} {s : ByteArray} {w : World} {a : Option Addr} {c : Nat} (l' n : Nat) (hl : l < 18446744073709551616) (hs : s.size = 256) (hn : n ≤ 2048) (h : StrsAt w a [s]) :
    Calls Try.prog 12 #[(mapV l s).val a c, turnV s n, .int .u64 l'] w fun e w' => ∃ a' c', e = .returned (.tuple #[(mapV l' (flipS s n)).val a' c', .int .i64 0]) ∧ Below w.heap.size w w' ∧ StrsFrom w.heap.size w' a' [flipS s n] := by
  have f := mapV_fits l s hl hs
  have hd := turnO_do (p := mapV l s) (n := n) rfl hs hn
  have := does f (turnO_ok s n hn) (turnO_chk s n hn) (turnO_kind s n)
  rw [hd.1, hd.2] at this
  refine (apply_of l' (SheetV.Fits.ok f h) f (turnO_ok s n hn) (turnO_chk s n hn) this).mono ?_
  rintro e w' ⟨X, rfl, b, hX, _⟩
  obtain ⟨a', c', rfl, hq⟩ := hX rfl
  exact ⟨a', c', rfl, b, hq⟩

/-- The blank page 1, and behind an OpFormat. -/
def page0 : SheetV := ⟨1, 0, 0, ⟨#[]⟩, []⟩
def page1 : SheetV := ⟨1, 1, 1, ⟨#[]⟩, []⟩

theorem page0_fits : page0.Fits := ⟨by decide, by decide, by decide, by decide, by decide, by decide, by decide⟩
theorem page1_fits : page1.Fits := ⟨by decide, by decide, by decide, by decide, by decide, by decide, by decide⟩

theorem apply_fmt {w : World} {a : Option Addr} {c : Nat} :
    Calls Try.prog 12 #[page0.val a c, opF.val, .int .u64 1] w fun e w' => ∃ a' c', e = .returned (.tuple #[page1.val a' c', .int .i64 0]) ∧ Below w.heap.size w w' ∧ StrsFrom w.heap.size w' a' page1.slots := by
  refine (apply_of 1 (SheetV.Fits.ok page0_fits (.inl rfl)) page0_fits opF_ok opF_chk (change_fmt opF_ok rfl)).mono ?_
  rintro e w' ⟨X, rfl, b, hX, _⟩
  obtain ⟨a', c', rfl, hq⟩ := hX rfl
  exact ⟨a', c', rfl, b, hq⟩

theorem apply_slot {w : World} {a : Option Addr} {c : Nat} (s : ByteArray) (hs : s.size = 256) :
    Calls Try.prog 12 #[page1.val a c, (opIns 0 s).val, .int .u64 1] w fun e w' => ∃ a' c', e = .returned (.tuple #[(mapV 1 s).val a' c', .int .i64 0]) ∧ Below w.heap.size w w' ∧ StrsFrom w.heap.size w' a' (mapV 1 s).slots := by
  have hE : insE page1 (opIns 0 s) = 0 := by
    unfold insE
    rw [if_neg (by show ¬ ((0 : Nat) : Int) < ((0 : Nat) : Int); omega), if_neg (by show ¬ 64 ≤ 0; omega), if_neg (by show ¬ 485 < 0 + 0 + (2 + s.size); omega)]
  refine (apply_ins 1 0 s (SheetV.Fits.ok page1_fits (.inl rfl)) page1_fits (by omega) (by omega)).mono ?_
  rintro e w' ⟨X, rfl, b, hX, _⟩
  obtain ⟨a', c', rfl, hq⟩ := hX hE
  exact ⟨a', c', by rw [hE]; rfl, b, hq⟩

end Go.Proofs.Ytkknglcckjhngaa
