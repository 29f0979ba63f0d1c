/-
  What RedoOnes needs besides: the changes of a page, a page put, the arguments.
-/
import Derived.ChangeOld
import Derived.ChangeSame
import Derived.Deep.Slices
import Derived.Lib.SmallJoins
import Derived.OpenShut
import Derived.ProofKit
import Derived.Shelf.Slices.Cells
import Derived.Shelf.Slices.Delete
import Derived.Shelf.Spec.SlicesInsertGrow
import Derived.ShutString
import Derived.SizedLaws
import Derived.SliceStrings
import Derived.StillTailTactics
import Derived.Test.YtgkfdakieebnmaaGreatCrcJ
import Derived.Test.YtgkfdakieebnmaaGreatPutWalksC
import Derived.Test.YtgkfdakieebnmaaGreatCloneJ
import Derived.Test.YtgkfdakieebnmaaGreatPageMemJ
import Derived.Test.YtgkfdakieebnmaaGreatWriterWalksJ
import Derived.Test.YtgkfdakieebnmaaGreatReaderTakesC
import Derived.Test.YtgkfdakieebnmaaGreatWriterSafeC
import Derived.Test.YtgkfdakieebnmaaGreatReaderMoreC
import Derived.Test.YtgkfdakieebnmaaGreatCrcWalksJ
import Derived.Test.YtgkfdakieebnmaaGreatPageDecodeJ
import Derived.Test.YtgkfdakieebnmaaGreatShEqualJ
import Derived.Test.YtgkfdakieebnmaaGreatPageOpsC
import Derived.Test.YtgkfdakieebnmaaGreatPageCopyJ
import Derived.Test.YtgkfdakieebnmaaGreatShInsertJ
import Derived.Test.YtgkfdakieebnmaaGreatPageApplyJ
import Derived.Test.YtgkfdakieebnmaaGreatRepeatJ
import Derived.Test.YtgkfdakieebnmaaGreatWalFrameJ
import Derived.Test.YtgkfdakieebnmaaGreatPoolCopyC
import Derived.Test.YtgkfdakieebnmaaGreatRowOpsJ
import Derived.Test.YtgkfdakieebnmaaGreatPoolReadJ
import Derived.Test.YtgkfdakieebnmaaGreatRecMemC
import Derived.Test.YtgkfdakieebnmaaGreatRecValC
import Derived.Test.YtgkfdakieebnmaaGreatRecHasJ
import Derived.Test.YtgkfdakieebnmaaGreatRecNamedC
import Derived.Test.YtgkfdakieebnmaaGreatRecCheck0J
import Derived.Test.YtgkfdakieebnmaaGreatRecPutsJ
import Derived.Test.YtgkfdakieebnmaaGreatRecDec0J
import Derived.Test.YtgkfdakieebnmaaGreatRecDecodeC
import Derived.Test.YtgkfdakieebnmaaGreatRecReadJ
import Derived.Test.YtgkfdakieebnmaaGreatWalRecsJ
import Derived.Test.YtgkfdakieebnmaaGreatWalP1C
import Derived.Test.YtgkfdakieebnmaaGreatTornScanJ
import Derived.Test.YtgkfdakieebnmaaGreatWalP2C
import Derived.Test.YtgkfdakieebnmaaGreatAnMJ
import Derived.Test.YtgkfdakieebnmaaGreatAnSortC
import Derived.Test.YtgkfdakieebnmaaGreatAnNextC
import Derived.Test.YtgkfdakieebnmaaGreatAnKnownC
import Derived.Test.YtgkfdakieebnmaaGreatAnCheckC
import Derived.Test.YtgkfdakieebnmaaGreatAnHearC
import Derived.Test.YtgkfdakieebnmaaGreatAnMinC
import Derived.Test.YtgkfdakieebnmaaGreatAnFoundC
import Derived.Test.YtgkfdakieebnmaaGreatAnRunC
import Derived.Test.YtgkfdakieebnmaaGreatAnLogC
import Derived.Test.YtgkfdakieebnmaaGreatRecReadXJ
import Derived.Test.YtgkfdakieebnmaaGreatRecDecBad2C
import Derived.Test.YtgkfdakieebnmaaGreatNilMathJ
import Derived.Test.YtgkfdakieebnmaaGreatRdPageC
import Derived.Test.YtgkfdakieebnmaaGreatRdOneC
import Derived.Test.YtgkfdakieebnmaaGreatRdChgC
import Derived.Test.YtgkfdakieebnmaaGreatRdForeJ
import Derived.Test.YtgkfdakieebnmaaGreatRdSeeC
import Derived.Test.YtgkfdakieebnmaaGreatRdDueC
import Derived.Test.YtgkfdakieebnmaaGreatRdAllJ
namespace Go.Proofs.YtgkfdakieebnmaaGreat
open Go.RowKit Go.Sort
set_option linter.unusedVariables false



/-- 'string([]byte{byte(k)}) + h'. -/
def kindS (k : Int) (h : ByteArray) : ByteArray := ⟨#[UInt8.ofNat (k % 256).toNat]⟩ ++ h

theorem one_byteI {P : Program} (w : World) (k : Int) (src dst el : TypeId) (hs : P.underlying src = some (.slice el)) (he : P.underlying el = some (.int .u8)) (hd : P.underlying dst = some .string) :
    (convert src dst (.slice (some ⟨w.heap.size, 0, none⟩) 1 1)).run P (w.alloc (.cells #[.int .u8 (k % 256)] el)) = .ok (.string ⟨#[UInt8.ofNat (k % 256).toNat]⟩) (w.alloc (.cells #[.int .u8 (k % 256)] el)) := by
  refine RowU.toString (N := 1) (f := fun _ => k % 256) (fun j hj => ?_) [UInt8.ofNat (k % 256).toNat] rfl (fun j hj => ?_) src dst el hs he hd
  · obtain rfl : j = 0 := by omega
    exact ⟨by simp, by simp⟩
  · obtain rfl : j = 0 := by simpa using hj
    simp; omega

set_option maxHeartbeats 400000 in
theorem kind_any (k : Int) (h : ByteArray) (w : World) (hh : h.size ≤ 140737488351232) :
    Calls Tryz.prog 169 #[.int .i64 k, .string h] w fun e w' => e = .returned (.string (kindS k h)) ∧ Below w.heap.size w w' := by
  have hcv := one_byteI (P := Tryz.prog) w k 90 9 5 Tryz.underlying90 Tryz.underlying5 Tryz.underlying9
  have hl1 : (ByteArray.mk #[UInt8.ofNat (k % 256).toNat]).size = 1 := rfl
  go_enter Tryz.func169, Tryz.ntmps169
  go_wp2
  go_ret
  exact ⟨rfl, (Below.refl _ _).alloc (Nat.le_refl _) _⟩





end Go.Proofs.YtgkfdakieebnmaaGreat

namespace Go.Proofs.YtgkfdakieebnmaaGreat
open Go.RowKit Go.Sort
set_option linter.unusedVariables false

set_option maxHeartbeats 3200000 in
set_option maxRecDepth 8000 in
/-- A page that can't be laid: what laying tells. -/
theorem poolPut_bad {w : World} {p : Nat} (X : SheetV) (a : Option Addr) (c : Nat) (hX : X.Ok w a) (h1 : 1 ≤ X.num) (h2 : X.num ≤ 2048) (hE : encE X ≠ 0) :
    Calls Tryz.prog 18 #[.pointer (some ⟨p, 0, none⟩), X.val a c] w fun e w' => e = .returned (.int .i64 (encE X)) ∧ Below w.heap.size w w' := by
  have HEN : Hid (∀ W, Below w.heap.size w W → Calls Tryz.prog 49 #[X.val a c] W fun e w' => e = .returned (.tuple #[.string (encS X), .int .i64 (encE X)]) ∧ Below W.heap.size W w') := fun W hb => encode_any X a c W (hX.below hb)
  have HMB : Hid (∀ W, Calls Tryz.prog 43 #[.int .u32 X.num] W fun x w' => x = .returned (.bool true) ∧ w' = W) := fun W => by
    have := pmayBe_any X.num W (by omega)
    rw [decide_eq_true (by omega)] at this
    exact this
  have HV : Hid (X.val a c = .agg #[.int .u32 X.num, .int .u64 X.lsn, .int .i64 X.kind, .string X.head, .slice a X.slots.length c]) := rfl
  generalize encS X = ES at *
  generalize encE X = EE at *
  obtain ⟨W0, HW0⟩ : ∃ W0, Hid (W0 = w.alloc (.cells #[.int .u32 X.num, .int .u64 X.lsn, .int .i64 X.kind, .string X.head, .slice a X.slots.length c] 52)) := ⟨_, rfl⟩
  have b0 : Below w.heap.size w W0 := by rw [HW0.out]; exact (Below.refl _ _).alloc (Nat.le_refl _) _
  have kx : Blk W0 w.heap.size (X.arr a c) 52 := by rw [HW0.out]; exact Blk.made w _ _
  have x0 : W0.cell? ⟨w.heap.size, 0, none⟩ = some (.int .u32 X.num) := kx.cell 0
  have x1 : W0.cell? ⟨w.heap.size, 1, none⟩ = some (.int .u64 X.lsn) := kx.cell 1
  have x2 : W0.cell? ⟨w.heap.size, 2, none⟩ = some (.int .i64 X.kind) := kx.cell 2
  have x3 : W0.cell? ⟨w.heap.size, 3, none⟩ = some (.string X.head) := kx.cell 3
  have x4 : W0.cell? ⟨w.heap.size, 4, none⟩ = some (.slice a X.slots.length c) := kx.cell 4
  have hne : (EE == 0) = false := beq_eq_false_iff_ne.2 hE
  rw [HV.out] at HEN ⊢
  clear hE hX
  go_enter Tryz.func18, Tryz.ntmps18
  go_wp2_with fail
  rw [← HW0.out]
  refine (HMB.out _).mono ?_
  rintro x w1 ⟨rfl, rfl⟩
  go_wp2_with fail
  refine (HEN.out _ b0).mono ?_
  rintro x w1 ⟨rfl, b1⟩
  have bel1 := below_chain b0 b1
  clear x0 x1 x2 x3 x4 kx b0 b1 HW0 HEN HMB
  go_wp2_with fail
  go_ret
  exact ⟨rfl, bel1⟩

end Go.Proofs.YtgkfdakieebnmaaGreat

namespace Go.Proofs.YtgkfdakieebnmaaGreat
open Go.RowKit Go.Sort
set_option linter.unusedVariables false

set_option maxHeartbeats 3200000 in
set_option maxRecDepth 8000 in
theorem poolPut_gen {w : World} {p : Nat} {A : Nat → Prop} {P P1 : PG} {l l1 : LG} {d d1 : DG} (hS : Sys w p A P l d) (X : SheetV) (a : Option Addr) (c : Nat) (hX : X.Ok w a) (hoff : X.slots ≠ [] → ∀ b o, a = some ⟨b, o, none⟩ → ¬ A b) (h1 : 1 ≤ X.num) (h2 : X.num ≤ 2048) (hE : encE X = 0)
    (hR : P.F X.num = none → RoomTo p P l d P1 l1 d1 ∧ P1.F X.num = none) (hR' : P.F X.num ≠ none → P1 = P ∧ l1 = l ∧ d1 = d) (hz : P1.z ≤ 1000000) :
    Calls Tryz.prog 18 #[.pointer (some ⟨p, 0, none⟩), X.val a c] w fun e w' => e = .returned (.int .i64 0) ∧ ∃ A', Sys w' p A' (putP P1 X) l1 d1 ∧ Moves A A' w w' := by
  have hFit : X.Fits := (encE_fits hX).1 hE
  have HEN : Hid (∀ W, Below w.heap.size w W → Calls Tryz.prog 49 #[X.val a c] W fun e w' => e = .returned (.tuple #[.string (encS X), .int .i64 0]) ∧ Below W.heap.size W w') := fun W hb => by
    have := encode_any X a c W (hX.below hb)
    rw [hE] at this
    exact this
  have HMB : Hid (∀ W, Calls Tryz.prog 43 #[.int .u32 X.num] W fun x w' => x = .returned (.bool true) ∧ w' = W) := fun W => by
    have := pmayBe_any X.num W (by omega)
    rw [decide_eq_true (by omega)] at this
    exact this
  have HV : Hid (X.val a c = .agg #[.int .u32 X.num, .int .u64 X.lsn, .int .i64 X.kind, .string X.head, .slice a X.slots.length c]) := rfl
  generalize encS X = ES at *
  obtain ⟨W0, HW0⟩ : ∃ W0, Hid (W0 = w.alloc (.cells #[.int .u32 X.num, .int .u64 X.lsn, .int .i64 X.kind, .string X.head, .slice a X.slots.length c] 52)) := ⟨_, rfl⟩
  have b0 : Below w.heap.size w W0 := by rw [HW0.out]; exact (Below.refl _ _).alloc (Nat.le_refl _) _
  have kx : Blk W0 w.heap.size (X.arr a c) 52 := by rw [HW0.out]; exact Blk.made w _ _
  have x0 : W0.cell? ⟨w.heap.size, 0, none⟩ = some (.int .u32 X.num) := kx.cell 0
  have x1 : W0.cell? ⟨w.heap.size, 1, none⟩ = some (.int .u64 X.lsn) := kx.cell 1
  have x2 : W0.cell? ⟨w.heap.size, 2, none⟩ = some (.int .i64 X.kind) := kx.cell 2
  have x3 : W0.cell? ⟨w.heap.size, 3, none⟩ = some (.string X.head) := kx.cell 3
  have x4 : W0.cell? ⟨w.heap.size, 4, none⟩ = some (.slice a X.slots.length c) := kx.cell 4
  rw [HV.out] at HEN ⊢
  go_enter Tryz.func18, Tryz.ntmps18
  go_wp2_with fail
  rw [← HW0.out]
  refine (HMB.out _).mono ?_
  rintro x w1 ⟨rfl, rfl⟩
  go_wp2_with fail
  refine (HEN.out _ b0).mono ?_
  rintro x w1 ⟨rfl, b1⟩
  have kx1 := kx.same (b1.block _ kx.lt)
  have hS1 := (hS.below b0).below b1
  have bel1 := below_chain b0 b1
  have z1 : w.heap.size < w1.heap.size := Nat.lt_of_lt_of_le kx.lt b1.size
  clear x0 x1 x2 x3 x4 kx b0 b1 HW0 HEN HMB
  obtain ⟨⟨S, L, DD, ⟨fb, pv, M, hP⟩, hRR⟩, hld, hlt⟩ := id hS1
  obtain ⟨g, ga, gc, hlook, hold, hg64, hyes⟩ := hP.looks (n := X.num) (by omega)
  have x0 : w1.cell? ⟨w.heap.size, 0, none⟩ = some (.int .u32 X.num) := kx1.cell 0
  have c3 := hP.cells.c3
  have hpl : p < w1.heap.size := hP.lt p hP.sp
  have k1 := hlook w1.drew (Below.refl _ _).drew
  have k2 := hlook (w1.alloc (.cells #[.int .u32 0, .int .u64 0, .int .i64 0, .string ⟨#[]⟩, .slice none 0 0, .int .u64 0] 121)).drew ((Below.refl _ _).alloc (Nat.le_refl _) _).drew
  have HYS := hid hyes
  clear hlook hyes
  have HHE : Hid ((P.F X.num).isSome = true ∨ (P.F X.num).isSome = false) := by show _ ∨ _; cases (P.F X.num).isSome <;> simp
  obtain ⟨here, hhere⟩ : ∃ here, here = (P.F X.num).isSome := ⟨_, rfl⟩
  rw [← hhere] at k1 k2
  have HH := hid hhere
  clear hhere HHE
  have HOLD := hid hold
  have H64 := hid hg64
  clear hold hg64
  have nA1 : ∀ k, w.heap.size ≤ k → ¬ A k := fun k hk hA => by have := hS.lt k hA; omega
  have hxs : StrsIn (fun b => ¬ A b) w1 a X.slots := by
    by_cases hsl : X.slots = []
    · exact .inl hsl
    · rcases hX.mem with e | ⟨b, o, e, g2, g3⟩
      · exact .inl e
      · exact .inr ⟨b, o, e, hoff hsl b o e, Nat.lt_of_lt_of_le g2 bel1.size, fun i hi => (bel1.cell (p := ⟨b, o + i, none⟩) g2).trans (g3 i hi)⟩
  go_upto_region 6 with fail
  go_cut [7, 8] from 26 to 35 (fun np hv wx => np = .pointer (some ⟨w1.heap.size, 0, none⟩) ∧ hv = .bool here ∧ Hid (Blk wx w1.heap.size (frArr g ga gc) 121 ∧ Below w1.heap.size w1 wx))
  case first =>
    go_region
    all_goals
      go_wp2_with fail
      go_meet
      case rel => exact ⟨rfl, rfl, ⟨Blk.made w1 _ _, ((Below.refl _ _).alloc (Nat.le_refl _) _).drew⟩⟩
  case rest =>
    obtain ⟨rfl, rfl, HB⟩ := hcut
    have HP : PuAt w wc p A A P l d X a c w1.heap.size (frArr g ga gc) := ⟨hS1.below HB.out.2, kx1.same (HB.out.2.block _ z1), HB.out.1, z1, HB.out.1.lt, nA1 _ (Nat.le_refl _), nA1 _ (by omega), Moves.of_kept (Kept.of_below (below_chain bel1 HB.out.2))⟩
    have HBB := HB.out.2
    clear HB
    have HC : Hid (∀ (W : World), StrsAt W a X.slots → Calls Tryz.prog 44 #[X.val a c] W fun e w' => ∃ b, e = .returned (X.val (some ⟨b, 0, none⟩) X.slots.length) ∧ W.heap.size < b ∧ b < w'.heap.size ∧ RowV w' b X.slots.length (fun j => .string (X.slots.getD j ByteArray.empty)) ∧ Below W.heap.size W w') := fun W hm => pcopyOf_any X a c W (hFit.ok hm)
    rw [HV.out] at HC
    have HXS : Hid (StrsIn (fun b => ¬ A b) wc a X.slots) := hxs.moved (Moves.of_kept (Kept.of_below HBB))
    have HPP := hid HP
    have HR0 : Hid ((P.F X.num).isSome = false → RoomTo p P l d P1 l1 d1 ∧ P1.F X.num = none) := fun e => hR (by simpa using e)
    have HR1 : Hid ((P.F X.num).isSome = true → P1 = P ∧ l1 = l ∧ d1 = d) := fun e => hR' (by intro h; rw [h] at e; cases e)
    generalize hq : w1.heap.size = q at *
    clear hxs HP kx1 hS1 bel1 z1 hP hR hRR hlt hpl c3 x0 k1 k2 hR' HYS hld hX hoff hS hq
    go_upto_if 37 with fail
    go_cut [] from 37 to 42 (fun wx => Hid (∃ A1, PuAt w wx p A A1 P1 l1 d1 X a c q (frArr g ga gc) ∧ StrsIn (fun b => ¬ A1 b) wx a X.slots))
    case first =>
      cases here
      · obtain ⟨hroom, _⟩ := HR0.out HH.out.symm
        go_wp2_with fail
        refine (hroom wc A HPP.out.sys).mono ?_
        rintro e w2 ⟨rfl, h2⟩
        have H2 := hid h2
        clear h2
        go_wp2_with fail
        go_meet
        case rel =>
          obtain ⟨A1, hs2, hm2⟩ := H2.out
          exact ⟨A1, HPP.out.moved hs2 hm2, HXS.out.moved hm2⟩
      · obtain ⟨rfl, rfl, rfl⟩ := HR1.out HH.out.symm
        go_wp2_with fail
        go_meet
        case rel => exact ⟨A, HPP.out, HXS.out⟩
    case rest =>
      rename_i wd
      obtain ⟨A1, H1, hx1⟩ := hcut.out
      clear hcut HPP HXS
      obtain ⟨x0, x1, x2, x3, x4, y0, y1, y2, y3, y4, y5, f0, f1, f2, f3, f4, f5⟩ := H1.cells
      have hmvs := H1.mv.1.size
      have hq1 := H1.l1
      go_wp2_with fail
      refine (HC.out _ hx1.at).mono ?_
      rintro e w4 ⟨b, rfl, hb1, hb2, hrow, b4⟩
      have H4 := H1.below b4
      have hnb : ¬ A1 b := fun hA => by have := H1.sys.lt b hA; omega
      have hst : ∀ j (hj : j < X.slots.length), w4.cell? ⟨b, 0 + j, none⟩ = some (.string X.slots[j]) := fun j hj => by
        rw [Nat.zero_add, (hrow j hj).1]
        show some (Value.string (X.slots.getD j ByteArray.empty)) = _
        rw [List.getD_eq_getElem?_getD, List.getElem?_eq_getElem hj]
        rfl
      have HXV2 : Hid (X.val (some ⟨b, 0, none⟩) X.slots.length = .agg #[.int .u32 X.num, .int .u64 X.lsn, .int .i64 X.kind, .string X.head, .slice (some ⟨b, 0, none⟩) X.slots.length X.slots.length]) := rfl
      rw [HXV2.out]
      clear x0 x1 x2 x3 x4 y0 y1 y2 y3 y4 y5 f0 f1 f2 f3 f4 f5 hrow
      have hqb : q ≠ b := by have := H1.l2; omega
      have hql := H4.l2
      clear H1 hx1 b4
      obtain ⟨x0, x1, x2, x3, x4, y0, y1, y2, y3, y4, y5, f0, f1, f2, f3, f4, f5⟩ := H4.cells
      obtain ⟨W5, HW5⟩ : ∃ W5, Hid (W5 = store5 w4 q (.int .u32 X.num) (.int .u64 X.lsn) (.int .i64 X.kind) (.string X.head) (.slice (some ⟨b, 0, none⟩) X.slots.length X.slots.length)) := ⟨_, rfl⟩
      have H5 : PuAt w W5 p A A1 P1 l1 d1 X a c q (frArr ⟨X, g.since⟩ (some ⟨b, 0, none⟩) X.slots.length) := by rw [HW5.out]; exact H4.copied b _
      have hst5 : StrsFrom w.heap.size W5 (some ⟨b, 0, none⟩) X.slots := by
        rw [HW5.out]
        exact .inr ⟨b, 0, rfl, by omega, by rw [store5_size]; exact hb2, fun j hj => (World.cell?_of_block (w := w4) (a := ⟨b, 0 + j, none⟩) (store5_other _ _ _ _ _ _ _ _ (Ne.symm hqb))).trans (hst j hj)⟩
      have HPT : Hid (∀ SN, SN = sinceF g.since X.lsn → putP P1 X = { P1 with F := setFr P1.F X.num ⟨X, SN⟩, z := if (P1.F X.num).isSome = true then P1.z else P1.z + 1 }) := fun SN e => by
        have ho : oldS P1 X.num = g.since := by
          cases here with
          | false =>
            have h3 := (HR0.out HH.out.symm).2
            have h4 := HOLD.out
            have h5 := HH.out
            unfold oldS at h4 ⊢
            rw [h3]
            cases e6 : P.F X.num with
            | none => rw [e6] at h4; exact h4.symm
            | some f => rw [e6] at h5; cases h5
          | true =>
            obtain ⟨rfl, _, _⟩ := HR1.out HH.out.symm
            exact HOLD.out.symm
        unfold putP
        rw [ho, ← e]
      have hb5 : b < W5.heap.size := by rw [HW5.out, store5_size]; exact hb2
      by_cases hsn : g.since = 0
      · have hsi : (g.since : Int) = 0 := by omega
        have hmx : max (X.lsn : Int) 1 = ((max X.lsn 1 : Nat) : Int) := by omega
        go_upto_region 14 with fail
        rw [show (((((w4.setCell ⟨q, 0, none⟩ (.int .u32 X.num)).setCell ⟨q, 1, none⟩ (.int .u64 X.lsn)).setCell ⟨q, 2, none⟩ (.int .i64 X.kind)).setCell ⟨q, 3, none⟩ (.string X.head)).setCell ⟨q, 4, none⟩ (.slice (some ⟨b, 0, none⟩) X.slots.length X.slots.length)) = W5 from HW5.out.symm]
        obtain ⟨SN, hSNe⟩ : ∃ SN, SN = max X.lsn 1 := ⟨_, rfl⟩
        have hput : putP P1 X = { P1 with F := setFr P1.F X.num ⟨X, SN⟩, z := if (P1.F X.num).isSome = true then P1.z else P1.z + 1 } := HPT.out _ (by unfold sinceF; rw [if_pos hsn, hSNe])
        have hSN : SN < 18446744073709551616 := by have := hFit.lsn; omega
        rw [← hSNe]
        obtain ⟨W6, HW6⟩ : ∃ W6, Hid (W6 = W5.setCell ⟨q, 5, none⟩ (.int .u64 SN)) := ⟨_, rfl⟩
        have H6 : PuAt w W6 p A A1 P1 l1 d1 X a c q (frArr ⟨X, SN⟩ (some ⟨b, 0, none⟩) X.slots.length) := by rw [HW6.out]; exact H5.sinced SN
        have hst6 : StrsFrom w.heap.size W6 (some ⟨b, 0, none⟩) X.slots := by
          rw [HW6.out]
          rcases hst5 with e | ⟨b', o', e, g1, g2, g3⟩
          · exact .inl e
          · cases e
            exact .inr ⟨b, 0, rfl, g1, by simpa using g2, fun j hj => (World.cell?_of_block (w := W5) (a := ⟨b, 0 + j, none⟩) (Below.heap_setCell _ _ _ _ (by show b ≠ q; omega))).trans (g3 j hj)⟩
        have hb6 : b < W6.heap.size := by rw [HW6.out]; simpa using hb5
        rw [← HW6.out]
        clear hSNe hmx
        obtain ⟨fb', u, hc3, hrun, HF⟩ := H6.done (b := b) (k := X.slots.length) (by omega) hnb hst6 hb6 hFit h1 h2 hz SN hSN
        have HFF := hid HF
        obtain ⟨x0, x1, x2, x3, x4, y0, y1, y2, y3, y4, y5, f0, f1, f2, f3, f4, f5⟩ := H6.cells
        unfold frArr at hrun
        simp only at hrun y0 y1 y2 y3 y4 y5
        clear H5 H6 HF
        go_region
        all_goals
          go_wp2
          go_ret
          obtain ⟨A', hA1, hA2⟩ := HFF.out
          exact ⟨rfl, A', by rw [hput]; exact hA1, hA2⟩
      · go_upto_region 14 with fail
        rw [show (((((w4.setCell ⟨q, 0, none⟩ (.int .u32 X.num)).setCell ⟨q, 1, none⟩ (.int .u64 X.lsn)).setCell ⟨q, 2, none⟩ (.int .i64 X.kind)).setCell ⟨q, 3, none⟩ (.string X.head)).setCell ⟨q, 4, none⟩ (.slice (some ⟨b, 0, none⟩) X.slots.length X.slots.length)) = W5 from HW5.out.symm]
        have hput : putP P1 X = { P1 with F := setFr P1.F X.num ⟨X, g.since⟩, z := if (P1.F X.num).isSome = true then P1.z else P1.z + 1 } := HPT.out _ (by unfold sinceF; rw [if_neg hsn])
        obtain ⟨SN, hSNe⟩ : ∃ SN, SN = g.since := ⟨_, rfl⟩
        have hSN : SN < 18446744073709551616 := by rw [hSNe]; exact H64.out
        rw [← hSNe] at H5 hput
        clear hSNe
        obtain ⟨fb', u, hc3, hrun, HF⟩ := H5.done (b := b) (k := X.slots.length) (by omega) hnb hst5 hb5 hFit h1 h2 hz SN hSN
        have HFF := hid HF
        obtain ⟨x0, x1, x2, x3, x4, y0, y1, y2, y3, y4, y5, f0, f1, f2, f3, f4, f5⟩ := H5.cells
        unfold frArr at hrun
        simp only at hrun y0 y1 y2 y3 y4 y5
        clear H5 HF
        go_region
        all_goals
          go_wp2
          go_ret
          obtain ⟨A', hA1, hA2⟩ := HFF.out
          exact ⟨rfl, A', by rw [hput]; exact hA1, hA2⟩

end Go.Proofs.YtgkfdakieebnmaaGreat

namespace Go.Proofs.YtgkfdakieebnmaaGreat
open Go.RowKit Go.Sort Go.Shelf
set_option linter.unusedVariables false

theorem insL_sum (L : List ByteArray) (i : Nat) (s : ByteArray) : slotSum (insL L i s) = slotSum L + (2 + s.size) := by
  unfold insL
  rw [slotSum_append]
  conv => rhs; rw [← List.take_append_drop i L, slotSum_append]
  simp only [slotSum]; omega

end Go.Proofs.YtgkfdakieebnmaaGreat

namespace Go.Proofs.YtgkfdakieebnmaaGreat
open Go.RowKit Go.Sort
set_option linter.unusedVariables false

section
variable {w : World} {p q : SheetV} {o : OpV} {a : Option Addr} {c : Nat} {E : Int}

set_option maxHeartbeats 1600000 in
theorem apply_bad (lsn : Nat) (h : p.Ok w a) (ho : o.Ok) (hc : chkB o = false) :
    Calls Tryz.prog 20 #[p.val a c, o.val, .int .u64 lsn] w fun e w' => e = .returned (.tuple #[sheet0.val none 0, .int .i64 33]) ∧ Below w.heap.size w w' := by
  have HCK : Hid (∀ wx, Calls Tryz.prog 52 #[o.val] wx fun e w' => e = .returned (.int .i64 33) ∧ Below wx.heap.size wx w') := fun wx => by
    have := check_any o wx ho
    rw [show chkE o = 33 from by unfold chkE; rw [hc]; rfl] at this
    exact this
  simp only [SheetV.val, OpV.val] at *
  obtain ⟨W, HW⟩ : ∃ W, Hid (W = ((w.alloc (.cells #[.int .u32 p.num, .int .u64 p.lsn, .int .i64 p.kind, .string p.head, .slice a p.slots.length c] 52)).alloc (.cells #[.int .i64 o.kind, .int .i64 o.at', .string o.S, .string o.old] 58)).alloc (.cells #[.int .u32 0, .int .u64 0, .int .i64 0, .string ⟨#[]⟩, .slice none 0 0] 52)) := ⟨_, rfl⟩
  have hA : ApplyAt w W p o a c := by
    rw [HW.out]
    refine ⟨((RowV.five_new w _ _ _ _ _ _).below ((Below.refl _ _).alloc (Nat.le_refl _) _) (by simp)).below ((Below.refl _ _).alloc (Nat.le_refl _) _) (by simp; omega), ?_, ?_, (((Below.refl _ _).alloc (Nat.le_refl _) _).alloc (by simp) _).alloc (by simp; omega) _, by simp⟩
    · have := (RowV.four_new (w.alloc (.cells #[.int .u32 p.num, .int .u64 p.lsn, .int .i64 p.kind, .string p.head, .slice a p.slots.length c] 52)) (.int .i64 o.kind) (.int .i64 o.at') (.string o.S) (.string o.old) 58).below ((Below.refl _ _).alloc (Nat.le_refl _) (.cells #[.int .u32 0, .int .u64 0, .int .i64 0, .string ⟨#[]⟩, .slice none 0 0] 52)) (by simp)
      simpa using this
    · have := RowV.five_new ((w.alloc (.cells #[.int .u32 p.num, .int .u64 p.lsn, .int .i64 p.kind, .string p.head, .slice a p.slots.length c] 52)).alloc (.cells #[.int .i64 o.kind, .int .i64 o.at', .string o.S, .string o.old] 58)) (.int .u32 0) (.int .u64 0) (.int .i64 0) (.string ⟨#[]⟩) (.slice none 0 0) 52
      simpa using this
  go_enter Tryz.func20, Tryz.ntmps20
  go_wp2_with fail
  rw [← HW.out]
  clear HW
  refine (HCK.out _).mono ?_
  rintro e w1 ⟨rfl, b1⟩
  have h1 := hA.below b1 hA.lt
  obtain ⟨y0, y1, y2, y3, y4⟩ := h1.res.cells5
  obtain ⟨g0, g1, g2, g3, g4⟩ := h1.res.open5
  go_wp2
  have hq := h1.res.set5 (.int .u32 0) (.int .u64 0) (.int .i64 0) (.string ⟨#[]⟩) (.slice none 0 0)
  have bq := below_set5 h1.bel (b := w.heap.size + 2) (by omega) (.int .u32 0) (.int .u64 0) (.int .i64 0) (.string ⟨#[]⟩) (.slice none 0 0)
  obtain ⟨WX, HWX⟩ : ∃ WX, Hid (WX = store5 w1 (w.heap.size + 2) (.int .u32 0) (.int .u64 0) (.int .i64 0) (.string ⟨#[]⟩) (.slice none 0 0)) := ⟨_, rfl⟩
  rw [← HWX.out] at hq bq
  obtain ⟨r0, r1, r2, r3, r4⟩ := hq.cells5
  rw [show (((((w1.setCell ⟨w.heap.size + 2, 0, none⟩ (.int .u32 0)).setCell ⟨w.heap.size + 2, 1, none⟩ (.int .u64 0)).setCell ⟨w.heap.size + 2, 2, none⟩ (.int .i64 0)).setCell ⟨w.heap.size + 2, 3, none⟩ (.string ⟨#[]⟩)).setCell ⟨w.heap.size + 2, 4, none⟩ (.slice none 0 0)) = WX from HWX.out.symm]
  refine bodyPost_ret (v := .tuple #[.agg #[.int .u32 0, .int .u64 0, .int .i64 0, .string ⟨#[]⟩, .slice none 0 0], .int .i64 33]) (by simp [results, Tryz.results20, go_sem, r0, r1, r2, r3, r4]) rfl ?_
  exact ⟨rfl, bq⟩

end
end Go.Proofs.YtgkfdakieebnmaaGreat

namespace Go.Proofs.YtgkfdakieebnmaaGreat
open Go.RowKit Go.Sort
set_option linter.unusedVariables false

/-- The error of an OpHead. -/
def headE (p : SheetV) (o : OpV) : Int := if p.head ≠ o.old then 31 else if 485 < o.S.size + slotSum p.slots then 30 else 0

section
variable {B : Nat} {w : World} {b bs : Nat} {p : SheetV} {o : OpV}

set_option maxHeartbeats 1600000 in
theorem setHead_any (h : SheetAt B w b bs p) (f : p.Fits) (ho : o.Ok) :
    Calls Tryz.prog 118 #[.pointer (some ⟨b, 0, none⟩), o.val] w fun e w' => e = .returned (.int .i64 (headE p o)) ∧ Below B w w' ∧
      (headE p o = 0 → SheetAt B w' b bs { p with head := o.S }) := by
  have hb1 := h.b1
  have hlt := h.lt
  have hoS := ho.S
  have hoT := ho.old
  have hf := f.fits
  have hn64 := f.len
  clear ho
  obtain ⟨K, A, S, T⟩ := o
  simp only at hoS hoT ⊢
  unfold OpV.val
  simp only
  obtain ⟨W, HW⟩ : ∃ W, Hid (W = w.alloc (.cells #[.int .i64 K, .int .i64 A, .string S, .string T] 58)) := ⟨_, rfl⟩
  have bW : Below w.heap.size w W := by rw [HW.out]; exact (Below.refl _ _).alloc (Nat.le_refl _) _
  have zW : w.heap.size < W.heap.size := by rw [HW.out]; simp
  have h1 := h.below bW
  have r1 : RowV W w.heap.size 4 (four (.int .i64 K) (.int .i64 A) (.string S) (.string T)) := by rw [HW.out]; exact RowV.four_new w _ _ _ _ _
  obtain ⟨x0, x1, x2, x3, x4⟩ := h1.row.cells5
  obtain ⟨y0, y1, y2, y3⟩ := r1.cells4
  have bB : Below B w W := bW.mono (by omega)
  by_cases c1 : p.head = T
  · have hwr : IntKind.i64.wrap ((S.size : Int) - (T.size : Int)) = (S.size : Int) - (T.size : Int) := wrap_small (by omega) (by omega)
    have c1' := str_eq c1
    have hTs : T.size = p.head.size := by rw [c1]
    have c1h : Hid (p.head = T) := c1
    by_cases c3 : 485 < S.size + slotSum p.slots
    · have hE : headE p ⟨K, A, S, T⟩ = 30 := by unfold headE; rw [if_neg (by simpa using c1), if_pos c3]
      rw [hE]
      have hc : decide (485 - (p.head.size : Int) - (slotSum p.slots : Int) < (S.size : Int) - (T.size : Int)) = true := by simp; omega
      clear c1 hTs
      go_enter Tryz.func118, Tryz.ntmps118
      go_wp2_with fail
      rw [← HW.out]
      go_quiet (fail)
      have r2 : RowV (W.drewN nq) w.heap.size 4 (four (.int .i64 K) (.int .i64 A) (.string S) (.string T)) := r1.below (below_drewN (Below.refl W.heap.size W) nq) zW
      have h2 : SheetAt B (W.drewN nq) b bs p := h1.below (below_drewN (Below.refl W.heap.size W) nq)
      have bB2 := below_drewN bB nq
      have zW2 : w.heap.size < (W.drewN nq).heap.size := zW
      obtain ⟨W2, HW2⟩ : ∃ W2, Hid (W2 = W.drewN nq) := ⟨_, rfl⟩
      rw [← HW2.out] at r2 h2 bB2 zW2 ⊢
      clear HW2 HW r1 h1 bB bW x0 x1 x2 x3 x4 y0 y1 y2 y3
      obtain ⟨x0, x1, x2, x3, x4⟩ := h2.row.cells5
      obtain ⟨y0, y1, y2, y3⟩ := r2.cells4
      go_wp2_with fail
      have gx0 := cell_regrown x0
      have gx1 := cell_regrown x1
      have gx2 := cell_regrown x2
      have gx3 := cell_regrown x3
      have gx4 := cell_regrown x4
      have gy2 := cell_regrown y2
      have gy3 := cell_regrown y3
      have cR : ∀ dd os, Calls Tryz.prog 105 #[.agg #[.int .u32 p.num, .int .u64 p.lsn, .int .i64 p.kind, .string p.head, .slice (some ⟨bs, 0, none⟩) p.slots.length p.slots.length]] (grow (redrawn W2 dd) os) fun e w'' => e = .returned (.int .i64 (485 - (p.head.size : Int) - (slotSum p.slots : Int))) ∧ ∃ p : Regrown, w'' = grow (redrawn W2 p.d) p.os := fun dd os => Calls.regrown_of (by
        have hk := (h2.below (below_regrown W2 dd os)).ok f
        have := hk.room p.slots.length
        rw [roomF_eq hk (by omega)] at this
        exact this)
      refine wp_region_quiet_below mixed (by kernel_rfl) ?_
      repeat (quiet_step (first | (go_at_call 105; exact cR _ _)))
      refine wpQuiet_nil ?_
      intro _ hw'
      obtain ⟨⟨dq, osq⟩, hw''⟩ := hw'
      subst hw''
      clear gx0 gx1 gx2 gx3 gx4 gy2 gy3 cR
      go_wp2
      go_ret
      exact ⟨rfl, bB2.trans ((below_regrown W2 dq osq).mono (by omega)), fun h => by cases h⟩
    · have hE : headE p ⟨K, A, S, T⟩ = 0 := by unfold headE; rw [if_neg (by simpa using c1), if_neg c3]
      rw [hE]
      have hc : decide (485 - (p.head.size : Int) - (slotSum p.slots : Int) < (S.size : Int) - (T.size : Int)) = false := by simp; omega
      clear c1 hTs
      go_enter Tryz.func118, Tryz.ntmps118
      go_wp2_with fail
      rw [← HW.out]
      go_quiet (fail)
      have r2 : RowV (W.drewN nq) w.heap.size 4 (four (.int .i64 K) (.int .i64 A) (.string S) (.string T)) := r1.below (below_drewN (Below.refl W.heap.size W) nq) zW
      have h2 : SheetAt B (W.drewN nq) b bs p := h1.below (below_drewN (Below.refl W.heap.size W) nq)
      have bB2 := below_drewN bB nq
      have zW2 : w.heap.size < (W.drewN nq).heap.size := zW
      obtain ⟨W2, HW2⟩ : ∃ W2, Hid (W2 = W.drewN nq) := ⟨_, rfl⟩
      rw [← HW2.out] at r2 h2 bB2 zW2 ⊢
      clear HW2 HW r1 h1 bB bW x0 x1 x2 x3 x4 y0 y1 y2 y3
      obtain ⟨x0, x1, x2, x3, x4⟩ := h2.row.cells5
      obtain ⟨y0, y1, y2, y3⟩ := r2.cells4
      go_wp2_with fail
      have gx0 := cell_regrown x0
      have gx1 := cell_regrown x1
      have gx2 := cell_regrown x2
      have gx3 := cell_regrown x3
      have gx4 := cell_regrown x4
      have gy2 := cell_regrown y2
      have gy3 := cell_regrown y3
      have cR : ∀ dd os, Calls Tryz.prog 105 #[.agg #[.int .u32 p.num, .int .u64 p.lsn, .int .i64 p.kind, .string p.head, .slice (some ⟨bs, 0, none⟩) p.slots.length p.slots.length]] (grow (redrawn W2 dd) os) fun e w'' => e = .returned (.int .i64 (485 - (p.head.size : Int) - (slotSum p.slots : Int))) ∧ ∃ p : Regrown, w'' = grow (redrawn W2 p.d) p.os := fun dd os => Calls.regrown_of (by
        have hk := (h2.below (below_regrown W2 dd os)).ok f
        have := hk.room p.slots.length
        rw [roomF_eq hk (by omega)] at this
        exact this)
      refine wp_region_quiet_below mixed (by kernel_rfl) ?_
      repeat (quiet_step (first | (go_at_call 105; exact cR _ _)))
      refine wpQuiet_nil ?_
      intro _ hw'
      obtain ⟨⟨dq, osq⟩, hw''⟩ := hw'
      subst hw''
      clear gx0 gx1 gx2 gx3 gx4 gy2 gy3 cR
      have bG := below_regrown W2 dq osq
      have h3 := h2.below bG
      have r3 := r2.below bG zW2
      have bB3 := bB2.trans (bG.mono (by omega))
      have zW3 := Nat.lt_of_lt_of_le zW2 bG.size
      obtain ⟨W3, HW3⟩ : ∃ W3, Hid (W3 = grow (redrawn W2 dq) osq) := ⟨_, rfl⟩
      rw [← HW3.out] at h3 r3 bB3 zW3 ⊢
      clear HW3 bG h2 r2 bB2 x0 x1 x2 x3 x4 y0 y1 y2 y3
      obtain ⟨x0, x1, x2, x3, x4⟩ := h3.row.cells5
      obtain ⟨f0, f1, f2, f3, f4⟩ := h3.row.open5
      obtain ⟨y0, y1, y2, y3⟩ := r3.cells4
      go_wp2
      go_ret
      exact ⟨rfl, bB3.setCell (p := ⟨b, 3, none⟩) hb1 _, fun _ => ⟨h3.row.set3 _, h3.str.set_other (fun q => h3.ne q.symm) _, h3.b1, by simpa using h3.lt, h3.bs1, by simpa using h3.bslt, h3.ne⟩⟩
  · have hE : headE p ⟨K, A, S, T⟩ = 31 := by unfold headE; rw [if_pos c1]
    rw [hE]
    have c1' := str_ne c1
    go_enter Tryz.func118, Tryz.ntmps118
    go_wp2_with fail
    rw [← HW.out]
    go_quiet (fail)
    go_wp2
    go_ret
    exact ⟨rfl, below_drewN bB nq, fun h => by cases h⟩

end
end Go.Proofs.YtgkfdakieebnmaaGreat

namespace Go.Proofs.YtgkfdakieebnmaaGreat
open Go.RowKit Go.Sort
set_option linter.unusedVariables false

/-- The error of 'stands': is there a slot at, and is it Old? -/
def standE (p : SheetV) (o : OpV) : Int := if (p.slots.length : Int) ≤ o.at' then 1 else if p.slots.getD o.at'.toNat ByteArray.empty ≠ o.old then 31 else 0

theorem getD_at {L : List ByteArray} {i : Nat} (h : i < L.length) : L.getD i ByteArray.empty = L[i] := by
  rw [List.getD_eq_getElem?_getD, List.getElem?_eq_getElem h]; rfl

section
variable {B : Nat} {w : World} {b bs : Nat} {p : SheetV} {o : OpV}

set_option maxHeartbeats 1600000 in
theorem stands_any (h : SheetAt B w b bs p) (f : p.Fits) (ho : o.Ok) (ha : 0 ≤ o.at') :
    Calls Tryz.prog 167 #[.pointer (some ⟨b, 0, none⟩), o.val] w fun e w' => e = .returned (.int .i64 (standE p o)) ∧ Below w.heap.size w w' := by
  have hb1 := h.b1
  have hlt := h.lt
  have hoS := ho.S
  have hoT := ho.old
  have hf := f.fits
  have hn64 := f.len
  clear ho
  obtain ⟨K, A, S, T⟩ := o
  simp only at hoS hoT ha ⊢
  obtain ⟨i, rfl⟩ := Int.eq_ofNat_of_zero_le ha
  try rw [Int.toNat_natCast]
  unfold OpV.val
  simp only
  obtain ⟨W, HW⟩ : ∃ W, Hid (W = w.alloc (.cells #[.int .i64 K, .int .i64 i, .string S, .string T] 58)) := ⟨_, rfl⟩
  have bW : Below w.heap.size w W := by rw [HW.out]; exact (Below.refl _ _).alloc (Nat.le_refl _) _
  have zW : w.heap.size < W.heap.size := by rw [HW.out]; simp
  have h1 := h.below bW
  have r1 : RowV W w.heap.size 4 (four (.int .i64 K) (.int .i64 i) (.string S) (.string T)) := by rw [HW.out]; exact RowV.four_new w _ _ _ _ _
  obtain ⟨x0, x1, x2, x3, x4⟩ := h1.row.cells5
  obtain ⟨y0, y1, y2, y3⟩ := r1.cells4
  have bB : Below B w W := bW.mono (by omega)
  by_cases c1 : (p.slots.length : Int) ≤ (i : Int)
  · have hE : standE p ⟨K, i, S, T⟩ = 1 := by unfold standE; rw [if_pos c1]
    rw [hE]
    go_enter Tryz.func167, Tryz.ntmps167
    go_wp2_with fail
    rw [← HW.out]
    go_quiet (fail)
    go_wp2
    go_ret
    exact ⟨rfl, below_drewN bW nq⟩
  · have hin : i < p.slots.length := by omega
    have hgd := getD_at hin
    by_cases c2 : p.slots[i] = T
    · have hE : standE p ⟨K, i, S, T⟩ = 0 := by unfold standE; rw [if_neg c1]; simp only [Int.toNat_natCast]; exact if_neg (by rw [hgd]; simpa using c2)
      rw [hE]
      have hcc := str_eq c2
      clear hgd c2
      go_enter Tryz.func167, Tryz.ntmps167
      go_wp2_with fail
      rw [← HW.out]
      go_quiet (fail)
      have r2 : RowV (W.drewN nq) w.heap.size 4 (four (.int .i64 K) (.int .i64 i) (.string S) (.string T)) := r1.below (below_drewN (Below.refl W.heap.size W) nq) zW
      have h2 : SheetAt B (W.drewN nq) b bs p := h1.below (below_drewN (Below.refl W.heap.size W) nq)
      have bW2 := below_drewN bW nq
      obtain ⟨W2, HW2⟩ : ∃ W2, Hid (W2 = W.drewN nq) := ⟨_, rfl⟩
      rw [← HW2.out] at r2 h2 bW2 ⊢
      clear HW2 HW r1 h1 bB bW x0 x1 x2 x3 x4 y0 y1 y2 y3
      obtain ⟨x0, x1, x2, x3, x4⟩ := h2.row.cells5
      obtain ⟨y0, y1, y2, y3⟩ := r2.cells4
      have hsc := h2.str.cell hin
      obtain ⟨Q, hQ⟩ : ∃ Q, p.slots[i] = Q := ⟨_, rfl⟩
      rw [hQ] at hsc hcc
      clear hQ
      have hi0 : (0 : Int) ≤ (i : Int) := by omega
      have hi1 : (i : Int) < (p.slots.length : Int) := by omega
      go_wp2_with fail
      go_quiet (fail)
      go_wp2
      go_ret
      exact ⟨rfl, below_drewN bW2 nq⟩
    · have hE : standE p ⟨K, i, S, T⟩ = 31 := by unfold standE; rw [if_neg c1]; simp only [Int.toNat_natCast]; exact if_pos (by rw [hgd]; exact c2)
      rw [hE]
      have hcc := str_ne c2
      clear hgd c2
      go_enter Tryz.func167, Tryz.ntmps167
      go_wp2_with fail
      rw [← HW.out]
      go_quiet (fail)
      have r2 : RowV (W.drewN nq) w.heap.size 4 (four (.int .i64 K) (.int .i64 i) (.string S) (.string T)) := r1.below (below_drewN (Below.refl W.heap.size W) nq) zW
      have h2 : SheetAt B (W.drewN nq) b bs p := h1.below (below_drewN (Below.refl W.heap.size W) nq)
      have bW2 := below_drewN bW nq
      obtain ⟨W2, HW2⟩ : ∃ W2, Hid (W2 = W.drewN nq) := ⟨_, rfl⟩
      rw [← HW2.out] at r2 h2 bW2 ⊢
      clear HW2 HW r1 h1 bB bW x0 x1 x2 x3 x4 y0 y1 y2 y3
      obtain ⟨x0, x1, x2, x3, x4⟩ := h2.row.cells5
      obtain ⟨y0, y1, y2, y3⟩ := r2.cells4
      have hsc := h2.str.cell hin
      obtain ⟨Q, hQ⟩ : ∃ Q, p.slots[i] = Q := ⟨_, rfl⟩
      rw [hQ] at hsc hcc
      clear hQ
      have hi0 : (0 : Int) ≤ (i : Int) := by omega
      have hi1 : (i : Int) < (p.slots.length : Int) := by omega
      go_wp2_with fail
      go_quiet (fail)
      go_wp2
      go_ret
      exact ⟨rfl, below_drewN bW2 nq⟩

/-- The error of an OpSet. -/
def setE (p : SheetV) (o : OpV) : Int := if standE p o ≠ 0 then standE p o else if 485 + o.old.size < p.head.size + slotSum p.slots + o.S.size then 30 else 0

theorem standE_zero {p : SheetV} {o : OpV} (h : standE p o = 0) : o.at' < p.slots.length ∧ p.slots.getD o.at'.toNat ByteArray.empty = o.old := by
  unfold standE at h
  split at h
  · cases h
  split at h
  · cases h
  · rename_i h1 h2; exact ⟨by omega, by simpa using h2⟩

theorem StrRow.setAt {w : World} {b : Nat} {L : List ByteArray} (h : StrRow w b L) {i : Nat} (hi : i < L.length) (s : ByteArray) : StrRow (w.setCell ⟨b, i, none⟩ (.string s)) b (L.set i s) := by
  have := h.set hi (.string s)
  refine StrRow.of fun j hj => ?_
  rw [List.length_set] at hj
  have q := this j hj
  refine ⟨?_, q.2⟩
  rw [q.1]
  by_cases e : j = i
  · subst e; simp
  · simp only [if_neg e]
    rw [getD_at hj, List.getElem_set_ne (fun q => e q.symm)]

set_option maxHeartbeats 1600000 in
theorem set_any (h : SheetAt B w b bs p) (f : p.Fits) (ho : o.Ok) (ha : 0 ≤ o.at') :
    Calls Tryz.prog 117 #[.pointer (some ⟨b, 0, none⟩), o.val] w fun e w' => e = .returned (.int .i64 (setE p o)) ∧ Below B w w' ∧
      (setE p o = 0 → SheetAt B w' b bs { p with slots := p.slots.set o.at'.toNat o.S }) := by
  have hb1 := h.b1
  have hlt := h.lt
  have hoS := ho.S
  have hoT := ho.old
  have hf := f.fits
  have hn64 := f.len
  have HST : Hid (∀ wx, SheetAt B wx b bs p → Calls Tryz.prog 167 #[.pointer (some ⟨b, 0, none⟩), o.val] wx fun e w' => e = .returned (.int .i64 (standE p o)) ∧ Below wx.heap.size wx w') := fun wx hx => stands_any hx f ho ha
  clear ho
  obtain ⟨K, A, S, T⟩ := o
  simp only at hoS hoT ha HST ⊢
  obtain ⟨i, rfl⟩ := Int.eq_ofNat_of_zero_le ha
  simp only [Int.toNat_natCast]
  unfold OpV.val at HST ⊢
  simp only at HST ⊢
  obtain ⟨W, HW⟩ : ∃ W, Hid (W = w.alloc (.cells #[.int .i64 K, .int .i64 i, .string S, .string T] 58)) := ⟨_, rfl⟩
  have bW : Below w.heap.size w W := by rw [HW.out]; exact (Below.refl _ _).alloc (Nat.le_refl _) _
  have zW : w.heap.size < W.heap.size := by rw [HW.out]; simp
  have h1 := h.below bW
  have r1 : RowV W w.heap.size 4 (four (.int .i64 K) (.int .i64 i) (.string S) (.string T)) := by rw [HW.out]; exact RowV.four_new w _ _ _ _ _
  obtain ⟨x0, x1, x2, x3, x4⟩ := h1.row.cells5
  obtain ⟨y0, y1, y2, y3⟩ := r1.cells4
  have bB : Below B w W := bW.mono (by omega)
  have HSZ : Hid (standE p ⟨K, i, S, T⟩ = 0 → i < p.slots.length) := fun q => by have := (standE_zero q).1; simp only at this; omega
  have HSE : Hid (setE p ⟨K, i, S, T⟩ = if standE p ⟨K, i, S, T⟩ ≠ 0 then standE p ⟨K, i, S, T⟩ else if 485 + T.size < p.head.size + slotSum p.slots + S.size then 30 else 0) := rfl
  generalize setE p ⟨K, i, S, T⟩ = EE at *
  generalize standE p ⟨K, i, S, T⟩ = E at *
  by_cases c1 : E = 0
  · have hin := HSZ.out c1
    subst c1
    have hwr : IntKind.i64.wrap ((S.size : Int) - (T.size : Int)) = (S.size : Int) - (T.size : Int) := wrap_small (by omega) (by omega)
    by_cases c3 : 485 + T.size < p.head.size + slotSum p.slots + S.size
    · have hE : EE = 30 := by rw [HSE.out, if_neg (by simp), if_pos c3]
      clear HSE
      subst hE
      have hc : decide (485 - (p.head.size : Int) - (slotSum p.slots : Int) < (S.size : Int) - (T.size : Int)) = true := by simp; omega
      go_enter Tryz.func117, Tryz.ntmps117
      go_wp2_with fail
      rw [← HW.out]
      refine (HST.out _ h1).mono ?_
      rintro e W2 ⟨rfl, b2⟩
      have h2 := h1.below b2
      have r2 := r1.below b2 zW
      have bB2 := bB.trans (b2.mono (by have := bW.size; omega))
      have zW2 := Nat.lt_of_lt_of_le zW b2.size
      clear HW r1 h1 bB bW x0 x1 x2 x3 x4 y0 y1 y2 y3 b2
      obtain ⟨x0, x1, x2, x3, x4⟩ := h2.row.cells5
      obtain ⟨y0, y1, y2, y3⟩ := r2.cells4
      go_wp2_with fail
      have gx0 := cell_regrown x0
      have gx1 := cell_regrown x1
      have gx2 := cell_regrown x2
      have gx3 := cell_regrown x3
      have gx4 := cell_regrown x4
      have gy2 := cell_regrown y2
      have gy3 := cell_regrown y3
      have cR : ∀ dd os, Calls Tryz.prog 105 #[.agg #[.int .u32 p.num, .int .u64 p.lsn, .int .i64 p.kind, .string p.head, .slice (some ⟨bs, 0, none⟩) p.slots.length p.slots.length]] (grow (redrawn W2 dd) os) fun e w'' => e = .returned (.int .i64 (485 - (p.head.size : Int) - (slotSum p.slots : Int))) ∧ ∃ p : Regrown, w'' = grow (redrawn W2 p.d) p.os := fun dd os => Calls.regrown_of (by
        have hk := (h2.below (below_regrown W2 dd os)).ok f
        have := hk.room p.slots.length
        rw [roomF_eq hk (by omega)] at this
        exact this)
      refine wp_region_quiet_below mixed (by kernel_rfl) ?_
      repeat (quiet_step (first | (go_at_call 105; exact cR _ _)))
      refine wpQuiet_nil ?_
      intro _ hw'
      obtain ⟨⟨dq, osq⟩, hw''⟩ := hw'
      subst hw''
      clear gx0 gx1 gx2 gx3 gx4 gy2 gy3 cR
      go_wp2
      go_ret
      exact ⟨rfl, bB2.trans ((below_regrown W2 dq osq).mono (by omega)), fun h => by cases h⟩
    · have hE : EE = 0 := by rw [HSE.out, if_neg (by simp), if_neg c3]
      clear HSE
      subst hE
      have hc : decide (485 - (p.head.size : Int) - (slotSum p.slots : Int) < (S.size : Int) - (T.size : Int)) = false := by simp; omega
      go_enter Tryz.func117, Tryz.ntmps117
      go_wp2_with fail
      rw [← HW.out]
      refine (HST.out _ h1).mono ?_
      rintro e W2 ⟨rfl, b2⟩
      have h2 := h1.below b2
      have r2 := r1.below b2 zW
      have bB2 := bB.trans (b2.mono (by have := bW.size; omega))
      have zW2 := Nat.lt_of_lt_of_le zW b2.size
      clear HW r1 h1 bB bW x0 x1 x2 x3 x4 y0 y1 y2 y3 b2
      obtain ⟨x0, x1, x2, x3, x4⟩ := h2.row.cells5
      obtain ⟨y0, y1, y2, y3⟩ := r2.cells4
      go_wp2_with fail
      have gx0 := cell_regrown x0
      have gx1 := cell_regrown x1
      have gx2 := cell_regrown x2
      have gx3 := cell_regrown x3
      have gx4 := cell_regrown x4
      have gy2 := cell_regrown y2
      have gy3 := cell_regrown y3
      have cR : ∀ dd os, Calls Tryz.prog 105 #[.agg #[.int .u32 p.num, .int .u64 p.lsn, .int .i64 p.kind, .string p.head, .slice (some ⟨bs, 0, none⟩) p.slots.length p.slots.length]] (grow (redrawn W2 dd) os) fun e w'' => e = .returned (.int .i64 (485 - (p.head.size : Int) - (slotSum p.slots : Int))) ∧ ∃ p : Regrown, w'' = grow (redrawn W2 p.d) p.os := fun dd os => Calls.regrown_of (by
        have hk := (h2.below (below_regrown W2 dd os)).ok f
        have := hk.room p.slots.length
        rw [roomF_eq hk (by omega)] at this
        exact this)
      refine wp_region_quiet_below mixed (by kernel_rfl) ?_
      repeat (quiet_step (first | (go_at_call 105; exact cR _ _)))
      refine wpQuiet_nil ?_
      intro _ hw'
      obtain ⟨⟨dq, osq⟩, hw''⟩ := hw'
      subst hw''
      clear gx0 gx1 gx2 gx3 gx4 gy2 gy3 cR
      have bG := below_regrown W2 dq osq
      have h3 := h2.below bG
      have r3 := r2.below bG zW2
      have bB3 := bB2.trans (bG.mono (by omega))
      have zW3 := Nat.lt_of_lt_of_le zW2 bG.size
      obtain ⟨W3, HW3⟩ : ∃ W3, Hid (W3 = grow (redrawn W2 dq) osq) := ⟨_, rfl⟩
      rw [← HW3.out] at h3 r3 bB3 zW3 ⊢
      clear HW3 bG h2 r2 bB2 x0 x1 x2 x3 x4 y0 y1 y2 y3
      obtain ⟨x0, x1, x2, x3, x4⟩ := h3.row.cells5
      obtain ⟨f0, f1, f2, f3, f4⟩ := h3.row.open5
      obtain ⟨y0, y1, y2, y3⟩ := r3.cells4
      have hi0 : (0 : Int) ≤ (i : Int) := by omega
      have hi1 : (i : Int) < (p.slots.length : Int) := by omega
      have hsc := (h3.str i hin).1
      have hsf := (h3.str i hin).2
      have hn1 := h3.ne
      have hn2 := h3.lt
      have hn3 := h3.bslt
      have hbo : bs ≠ w.heap.size := by have := h.bslt; omega
      go_wp2_with fail
      go_region_held3 (fun w' => w'.cell? ⟨b, 4, none⟩ = some (.slice (some ⟨bs, 0, none⟩) p.slots.length p.slots.length) ∧ w'.cell? ⟨w.heap.size, 1, none⟩ = some (.int .i64 i) ∧ w'.cell? ⟨w.heap.size, 2, none⟩ = some (.string S)) (first | go_keep | (refine ⟨?_, ?_, ?_⟩ <;> (rw [World.cell?_setCell_other _ _ _ _ (by intro q; have := congrArg Addr.block q; simp only at this; omega)]; assumption))) (fail)
      go_wp2
      go_ret
      refine ⟨rfl, (bB3.setCell (p := ⟨bs, i, none⟩) h3.bs1 _).drew, fun _ => ?_⟩
      have hrow := (h3.row.set_other (b' := bs) (k := i) h3.ne (.string S))
      have hstr := h3.str.setAt hin S
      refine SheetAt.below ⟨?_, hstr, h3.b1, by simpa using h3.lt, h3.bs1, by simpa using h3.bslt, h3.ne⟩ ((Below.refl _ _).drew)
      simp only [List.length_set]
      exact hrow
  · have hE : EE = E := by rw [HSE.out, if_pos c1]
    clear HSE
    subst hE
    have c1' : (EE != 0) = true := by rw [bne_iff_ne]; exact c1
    go_enter Tryz.func117, Tryz.ntmps117
    go_wp2_with fail
    rw [← HW.out]
    refine (HST.out _ h1).mono ?_
    rintro e W2 ⟨rfl, b2⟩
    have h2 := h1.below b2
    have r2 := r1.below b2 zW
    have bB2 := bB.trans (b2.mono (by have := bW.size; omega))
    have zW2 := Nat.lt_of_lt_of_le zW b2.size
    clear HW r1 h1 bB bW x0 x1 x2 x3 x4 y0 y1 y2 y3 b2
    obtain ⟨x0, x1, x2, x3, x4⟩ := h2.row.cells5
    obtain ⟨y0, y1, y2, y3⟩ := r2.cells4
    go_wp2
    go_ret
    exact ⟨rfl, bB2, fun h => absurd h c1⟩

end
end Go.Proofs.YtgkfdakieebnmaaGreat

namespace Go.Proofs.YtgkfdakieebnmaaGreat
open Go.RowKit Go.Sort
set_option linter.unusedVariables false

/-- The error of an OpTurn. -/
def turnE (p : SheetV) (o : OpV) : Int := if 0 < p.slots.length then 1 else if kindS p.kind p.head ≠ o.old then 31 else 0

section
variable {B : Nat} {w : World} {b bs : Nat} {p : SheetV} {o : OpV}

set_option maxHeartbeats 1600000 in
theorem turn_any (h : SheetAt B w b bs p) (f : p.Fits) (ho : o.Ok) (h1S : 1 ≤ o.S.size) :
    Calls Tryz.prog 120 #[.pointer (some ⟨b, 0, none⟩), o.val] w fun e w' => e = .returned (.int .i64 (turnE p o)) ∧ Below B w w' ∧
      (turnE p o = 0 → SheetAt B w' b bs { p with kind := ((o.S.data.toList.getD 0 0).toNat : Int), head := o.S.extract 1 o.S.size }) := by
  have HKD : Hid (∀ wx, Calls Tryz.prog 169 #[.int .i64 p.kind, .string p.head] wx fun e w' => e = .returned (.string (kindS p.kind p.head)) ∧ Below wx.heap.size wx w') := fun wx => kind_any _ _ wx (by have := f.head; omega)
  have HTE : Hid (turnE p o = if 0 < p.slots.length then 1 else if kindS p.kind p.head ≠ o.old then 31 else 0) := rfl
  have hb1 := h.b1
  have hlt := h.lt
  have hoS := ho.S
  have hoT := ho.old
  have hf := f.fits
  have hn64 := f.len
  clear ho
  obtain ⟨K, A, S, T⟩ := o
  simp only at hoS hoT h1S HTE ⊢
  unfold OpV.val
  simp only
  obtain ⟨W, HW⟩ : ∃ W, Hid (W = w.alloc (.cells #[.int .i64 K, .int .i64 A, .string S, .string T] 58)) := ⟨_, rfl⟩
  have bW : Below w.heap.size w W := by rw [HW.out]; exact (Below.refl _ _).alloc (Nat.le_refl _) _
  have zW : w.heap.size < W.heap.size := by rw [HW.out]; simp
  have h1 := h.below bW
  have r1 : RowV W w.heap.size 4 (four (.int .i64 K) (.int .i64 A) (.string S) (.string T)) := by rw [HW.out]; exact RowV.four_new w _ _ _ _ _
  obtain ⟨x0, x1, x2, x3, x4⟩ := h1.row.cells5
  obtain ⟨y0, y1, y2, y3⟩ := r1.cells4
  have bB : Below B w W := bW.mono (by omega)
  generalize turnE p ⟨K, A, S, T⟩ = EE at *
  obtain ⟨KS, HKS⟩ : ∃ KS, Hid (kindS p.kind p.head = KS) := ⟨_, rfl⟩
  rw [HKS.out] at HKD
  have x4' := x4
  rw [HW.out] at x4'
  by_cases c1 : 0 < p.slots.length
  · have hE : EE = 1 := by rw [HTE.out, if_pos c1]
    clear HTE
    subst hE
    go_enter Tryz.func120, Tryz.ntmps120
    go_wp2
    rw [← HW.out]
    go_ret
    exact ⟨rfl, bB, fun h => by cases h⟩
  · by_cases c2 : KS = T
    · have hE : EE = 0 := by rw [HTE.out, if_neg c1, if_neg (by rw [HKS.out]; simpa using c2)]
      have c2' := str_eq c2
      clear HTE c2
      subst hE
      go_enter Tryz.func120, Tryz.ntmps120
      go_wp2_with fail
      rw [← HW.out]
      clear HW x4'
      have gx2 := cell_regrown x2
      have gx3 := cell_regrown x3
      have gy2 := cell_regrown y2
      have gy3 := cell_regrown y3
      have cK : ∀ dd os, Calls Tryz.prog 169 #[.int .i64 p.kind, .string p.head] (grow (redrawn W dd) os) fun e w'' => e = .returned (.string KS) ∧ ∃ p : Regrown, w'' = grow (redrawn W p.d) p.os := fun dd os => Calls.regrown_of (HKD.out _)
      refine wp_region_quiet_below mixed (by kernel_rfl) ?_
      repeat (quiet_step (first | (go_at_call 169; exact cK _ _)))
      refine wpQuiet_nil ?_
      intro _ hw'
      obtain ⟨⟨dq, osq⟩, hw''⟩ := hw'
      subst hw''
      clear gx2 gx3 gy2 gy3 cK
      have bG := below_regrown W dq osq
      have h3 := h1.below bG
      have r3 := r1.below bG zW
      have bB3 := bB.trans (bG.mono (by have := bW.size; omega))
      obtain ⟨W3, HW3⟩ : ∃ W3, Hid (W3 = grow (redrawn W dq) osq) := ⟨_, rfl⟩
      rw [← HW3.out] at h3 r3 bB3 ⊢
      clear HW3 bG r1 h1 bB bW x0 x1 x2 x3 x4 y0 y1 y2 y3
      obtain ⟨x0, x1, x2, x3, x4⟩ := h3.row.cells5
      obtain ⟨f0, f1, f2, f3, f4⟩ := h3.row.open5
      obtain ⟨y0, y1, y2, y3⟩ := r3.cells4
      have q0 : 0 < S.size := h1S
      have q1 : (1 : Int) ≤ ↑S.size := by omega
      have hg0 : S.data.toList.getD 0 0 = S[0] := by
        rw [List.getD_eq_getElem?_getD, List.getElem?_eq_getElem (by simpa using q0)]; rfl
      have hwr : IntKind.i64.wrap ↑S[0].toNat = ↑S[0].toNat := by have := S[0].toNat_lt; exact wrap_small (by omega) (by omega)
      have hbo : b ≠ w.heap.size := by omega
      go_wp2_with fail
      go_region_held3 (fun w' => w'.cell? ⟨w.heap.size, 2, none⟩ = some (.string S)) (first | go_keep | (rw [World.cell?_setCell_other _ _ _ _ (by intro q; have := congrArg Addr.block q; simp only at this; omega)]; assumption)) (fail)
      go_wp2
      go_ret
      try rw [hwr]
      refine ⟨rfl, ((bB3.setCell (p := ⟨b, 2, none⟩) hb1 _).setCell (p := ⟨b, 3, none⟩) hb1 _).drew, fun _ => ?_⟩
      rw [hg0]
      exact SheetAt.below ⟨(h3.row.set2 _).set3 _, (h3.str.set_other (fun q => h3.ne q.symm) _).set_other (fun q => h3.ne q.symm) _, h3.b1, by simpa using h3.lt, h3.bs1, by simpa using h3.bslt, h3.ne⟩ ((Below.refl _ _).drew)
    · have hE : EE = 31 := by rw [HTE.out, if_neg c1, if_pos (by rw [HKS.out]; exact c2)]
      have c2' := str_ne c2
      clear HTE c2
      subst hE
      go_enter Tryz.func120, Tryz.ntmps120
      go_wp2_with fail
      rw [← HW.out]
      clear HW x4'
      have gx2 := cell_regrown x2
      have gx3 := cell_regrown x3
      have gy2 := cell_regrown y2
      have gy3 := cell_regrown y3
      have cK : ∀ dd os, Calls Tryz.prog 169 #[.int .i64 p.kind, .string p.head] (grow (redrawn W dd) os) fun e w'' => e = .returned (.string KS) ∧ ∃ p : Regrown, w'' = grow (redrawn W p.d) p.os := fun dd os => Calls.regrown_of (HKD.out _)
      refine wp_region_quiet_below mixed (by kernel_rfl) ?_
      repeat (quiet_step (first | (go_at_call 169; exact cK _ _)))
      refine wpQuiet_nil ?_
      intro _ hw'
      obtain ⟨⟨dq, osq⟩, hw''⟩ := hw'
      subst hw''
      clear gx2 gx3 gy2 gy3 cK
      go_wp2
      go_ret
      exact ⟨rfl, bB.trans ((below_regrown W dq osq).mono (by have := bW.size; omega)), fun h => by cases h⟩

end
end Go.Proofs.YtgkfdakieebnmaaGreat

namespace Go.Proofs.YtgkfdakieebnmaaGreat
open Go.RowKit Go.Sort
set_option linter.unusedVariables false

theorem StrRow.toNot {w : World} {B b bs : Nat} {q : SheetV} (h : SheetAt B w b bs q) : StrsNot B b w (some ⟨bs, 0, none⟩) q.slots := h.str.not (fun e => h.ne e) h.bs1 h.bslt

set_option maxHeartbeats 1600000 in
theorem change_set {p : SheetV} {o : OpV} (f : p.Fits) (ho : o.Ok) (hk : o.kind = 4) (ha : 0 ≤ o.at') : ChangeDoes p o (setE p o) { p with slots := p.slots.set o.at'.toNat o.S } := by
  intro B w b bs h
  have hb1 := h.b1
  have hlt := h.lt
  have HI : Hid (∀ wx, SheetAt B wx b bs p → Calls Tryz.prog 117 #[.pointer (some ⟨b, 0, none⟩), o.val] wx fun e w' => e = .returned (.int .i64 (setE p o)) ∧ Below B wx w' ∧
      (setE p o = 0 → SheetAt B w' b bs { p with slots := p.slots.set o.at'.toNat o.S })) := fun wx hx => set_any hx f ho ha
  generalize setE p o = E at *
  generalize { p with slots := p.slots.set o.at'.toNat o.S } = q at *
  obtain ⟨K, A, S, T⟩ := o
  simp only at hk HI ⊢
  subst hk
  simp only [OpV.val] at HI ⊢
  obtain ⟨W, HW⟩ : ∃ W, Hid (W = w.alloc (.cells #[.int .i64 4, .int .i64 A, .string S, .string T] 58)) := ⟨_, rfl⟩
  have bW : Below w.heap.size w W := by rw [HW.out]; exact (Below.refl _ _).alloc (Nat.le_refl _) _
  have h1 := h.below bW
  go_enter Tryz.func54, Tryz.ntmps54
  go_wp2_with fail
  rw [← HW.out]
  clear HW
  refine (HI.out _ h1).mono ?_
  rintro e w1 ⟨rfl, b1, hz⟩
  go_wp2
  go_ret
  refine ⟨rfl, (bW.mono (by omega)).trans b1, fun hE => ?_⟩
  have hq := hz hE
  exact ⟨some ⟨bs, 0, none⟩, q.slots.length, hq.row, StrRow.toNot hq⟩

set_option maxHeartbeats 1600000 in
theorem change_head {p : SheetV} {o : OpV} (f : p.Fits) (ho : o.Ok) (hk : o.kind = 5) : ChangeDoes p o (headE p o) { p with head := o.S } := by
  intro B w b bs h
  have hb1 := h.b1
  have hlt := h.lt
  have HI : Hid (∀ wx, SheetAt B wx b bs p → Calls Tryz.prog 118 #[.pointer (some ⟨b, 0, none⟩), o.val] wx fun e w' => e = .returned (.int .i64 (headE p o)) ∧ Below B wx w' ∧
      (headE p o = 0 → SheetAt B w' b bs { p with head := o.S })) := fun wx hx => setHead_any hx f ho
  generalize headE p o = E at *
  generalize { p with head := o.S } = q at *
  obtain ⟨K, A, S, T⟩ := o
  simp only at hk HI ⊢
  subst hk
  simp only [OpV.val] at HI ⊢
  obtain ⟨W, HW⟩ : ∃ W, Hid (W = w.alloc (.cells #[.int .i64 5, .int .i64 A, .string S, .string T] 58)) := ⟨_, rfl⟩
  have bW : Below w.heap.size w W := by rw [HW.out]; exact (Below.refl _ _).alloc (Nat.le_refl _) _
  have h1 := h.below bW
  go_enter Tryz.func54, Tryz.ntmps54
  go_wp2_with fail
  rw [← HW.out]
  clear HW
  refine (HI.out _ h1).mono ?_
  rintro e w1 ⟨rfl, b1, hz⟩
  go_wp2
  go_ret
  refine ⟨rfl, (bW.mono (by omega)).trans b1, fun hE => ?_⟩
  have hq := hz hE
  exact ⟨some ⟨bs, 0, none⟩, q.slots.length, hq.row, StrRow.toNot hq⟩

set_option maxHeartbeats 1600000 in
theorem change_turn {p : SheetV} {o : OpV} (f : p.Fits) (ho : o.Ok) (hk : o.kind = 7) (h1S : 1 ≤ o.S.size) : ChangeDoes p o (turnE p o) { p with kind := ((o.S.data.toList.getD 0 0).toNat : Int), head := o.S.extract 1 o.S.size } := by
  intro B w b bs h
  have hb1 := h.b1
  have hlt := h.lt
  have HI : Hid (∀ wx, SheetAt B wx b bs p → Calls Tryz.prog 120 #[.pointer (some ⟨b, 0, none⟩), o.val] wx fun e w' => e = .returned (.int .i64 (turnE p o)) ∧ Below B wx w' ∧
      (turnE p o = 0 → SheetAt B w' b bs { p with kind := ((o.S.data.toList.getD 0 0).toNat : Int), head := o.S.extract 1 o.S.size })) := fun wx hx => turn_any hx f ho h1S
  generalize turnE p o = E at *
  generalize { p with kind := ((o.S.data.toList.getD 0 0).toNat : Int), head := o.S.extract 1 o.S.size } = q at *
  obtain ⟨K, A, S, T⟩ := o
  simp only at hk HI ⊢
  subst hk
  simp only [OpV.val] at HI ⊢
  obtain ⟨W, HW⟩ : ∃ W, Hid (W = w.alloc (.cells #[.int .i64 7, .int .i64 A, .string S, .string T] 58)) := ⟨_, rfl⟩
  have bW : Below w.heap.size w W := by rw [HW.out]; exact (Below.refl _ _).alloc (Nat.le_refl _) _
  have h1 := h.below bW
  go_enter Tryz.func54, Tryz.ntmps54
  go_wp2_with fail
  rw [← HW.out]
  clear HW
  refine (HI.out _ h1).mono ?_
  rintro e w1 ⟨rfl, b1, hz⟩
  go_wp2
  go_ret
  refine ⟨rfl, (bW.mono (by omega)).trans b1, fun hE => ?_⟩
  have hq := hz hE
  exact ⟨some ⟨bs, 0, none⟩, q.slots.length, hq.row, StrRow.toNot hq⟩

end Go.Proofs.YtgkfdakieebnmaaGreat

namespace Go.Proofs.YtgkfdakieebnmaaGreat
open Go.Shelf

def deleteLays_ren : Go.Shelf.Ren := ⟨fun | 24 => 168 | n => n, fun | 24 => 50 | 9 => 9 | 3 => 3 | 4 => 4 | 0 => 0 | n => n, fun | n => n⟩
theorem deleteLays : Go.Proofs.Lays2.n24 Tryz.prog deleteLays_ren := {
  mixed := by kernel_rfl
  f24 := Tryz.func168.trans (congrArg some (by kernel_rfl))
  t0 := Tryz.underlying0
  a0 := Tryz.isAgg0
  z0 := Tryz.sizeOf0
  v0 := Tryz.zeroValue0
  t3 := Tryz.underlying3
  a3 := Tryz.isAgg3
  z3 := Tryz.sizeOf3
  v3 := Tryz.zeroValue3
  t4 := Tryz.underlying4
  a4 := Tryz.isAgg4
  z4 := Tryz.sizeOf4
  v4 := Tryz.zeroValue4
  t9 := Tryz.underlying9
  a9 := Tryz.isAgg9
  z9 := Tryz.sizeOf9
  v9 := Tryz.zeroValue9
  t24 := Tryz.underlying50
  a24 := Tryz.isAgg50
  z24 := Tryz.sizeOf50
  v24 := Tryz.zeroValue50
  i9 := by kernel_rfl }

end Go.Proofs.YtgkfdakieebnmaaGreat

namespace Go.Proofs.YtgkfdakieebnmaaGreat
open Go.RowKit Go.Sort
set_option linter.unusedVariables false

theorem delete_call (L : List ByteArray) (bs i : Nat) (w : World) (h : StrRow w bs L) (hi : i < L.length) (hn : L.length ≤ 64) :
    Calls Tryz.prog 168 #[.slice (some ⟨bs, 0, none⟩) L.length L.length, .int .i64 i, .int .i64 ((i : Int) + 1)] w fun e w' =>
      e = .returned (.slice (some ⟨bs, 0, none⟩) (L.length - 1) L.length) ∧ StrRow w' bs (L.eraseIdx i) ∧ ∃ q vs, w' = (w.drewN q).setCells bs 0 vs := by
  have hc := Any.slices_Delete_string_cells deleteLays bs 0 L.length L.length i (i + 1) (fun j => L.getD j ByteArray.empty) w (Nat.le_refl _) (by omega) (by omega) (by omega)
    (fun j hj => by rw [Nat.zero_add]; exact (h j hj).1) (fun j hj => by rw [Nat.zero_add]; exact (h j hj).2)
  rw [Int.natCast_add] at hc
  refine Calls.mono hc ?_
  rintro e w' ⟨rfl, q, rfl⟩
  refine ⟨by rw [Nat.add_sub_cancel_left], ?_, q, _, rfl⟩
  intro j hj
  have hj' : j < L.length - 1 := by rw [List.length_eraseIdx_of_lt hi] at hj; exact hj
  refine ⟨?_, by rw [World.frozen?_setCells]; exact (h j (by omega)).2⟩
  have hin := World.cell?_setCells_in bs (((Lib.strsOf (fun j => L.getD j ByteArray.empty) L.length).take i ++ (Lib.strsOf (fun j => L.getD j ByteArray.empty) L.length).drop (i + 1) ++ List.replicate (i + 1 - i) []).map encStr) 0 (w.drewN q)
    (fun k hk => by
      rw [Nat.zero_add]
      have : k < L.length := by simp [Lib.strsOf_length] at hk; omega
      show (w.cell? _).isSome = true
      rw [(h k this).1]; rfl) j (by simp [Lib.strsOf_length]; omega)
  rw [Nat.zero_add] at hin
  rw [hin]
  congr 1
  rw [List.getElem_map, List.getElem_append_left (by simp [Lib.strsOf_length]; omega)]
  have e0 : (L.eraseIdx i).getD j ByteArray.empty = (L.eraseIdx i)[j] := by rw [List.getD_eq_getElem?_getD, List.getElem?_eq_getElem hj, Option.getD_some]
  show _ = Value.string ((L.eraseIdx i).getD j ByteArray.empty)
  rw [e0, List.getElem_eraseIdx]
  by_cases c : j < i
  · rw [List.getElem_append_left (by simp [Lib.strsOf_length]; omega), dif_pos c, List.getElem_take]
    simp only [Lib.strsOf, List.getElem_map, List.getElem_range]
    rw [List.getD_eq_getElem?_getD, List.getElem?_eq_getElem (by omega), Option.getD_some]
  · rw [List.getElem_append_right (by simp [Lib.strsOf_length]; omega), dif_neg c, List.getElem_drop]
    simp only [Lib.strsOf, List.getElem_map, List.getElem_range]
    have e1 : i + 1 + (j - (List.take i (Lib.strsOf (fun j => L.getD j ByteArray.empty) L.length)).length) = j + 1 := by simp [Lib.strsOf_length]; omega
    simp only [Lib.strsOf] at e1
    rw [e1, List.getD_eq_getElem?_getD, List.getElem?_eq_getElem (by omega), Option.getD_some]

theorem RowV.setCells_other {w : World} {b N : Nat} {f : Nat → Value} (h : RowV w b N f) {b' : Nat} (hk : b' ≠ b) (vs : List Value) (o : Nat) : RowV (w.setCells b' o vs) b N f := fun j hj =>
  ⟨by rw [World.cell?_setCells_out b' vs o w _ (fun e _ => absurd e.symm hk)]; exact (h j hj).1, by rw [World.frozen?_setCells]; exact (h j hj).2⟩

end Go.Proofs.YtgkfdakieebnmaaGreat

namespace Go.Proofs.YtgkfdakieebnmaaGreat
open Go.RowKit Go.Sort
set_option linter.unusedVariables false

section
variable {B : Nat} {w : World} {b bs : Nat} {p : SheetV} {o : OpV}

set_option maxHeartbeats 1600000 in
theorem remove_any (h : SheetAt B w b bs p) (f : p.Fits) (ho : o.Ok) (ha : 0 ≤ o.at') :
    Calls Tryz.prog 116 #[.pointer (some ⟨b, 0, none⟩), o.val] w fun e w' => e = .returned (.int .i64 (standE p o)) ∧ Below B w w' ∧
      (standE p o = 0 → RowV w' b 5 (five (.int .u32 p.num) (.int .u64 p.lsn) (.int .i64 p.kind) (.string p.head) (.slice (some ⟨bs, 0, none⟩) (p.slots.length - 1) p.slots.length)) ∧ StrRow w' bs (p.slots.eraseIdx o.at'.toNat)) := by
  have hb1 := h.b1
  have hlt := h.lt
  have hoS := ho.S
  have hoT := ho.old
  have hf := f.fits
  have hn64 := f.len
  have HST : Hid (∀ wx, SheetAt B wx b bs p → Calls Tryz.prog 167 #[.pointer (some ⟨b, 0, none⟩), o.val] wx fun e w' => e = .returned (.int .i64 (standE p o)) ∧ Below wx.heap.size wx w') := fun wx hx => stands_any hx f ho ha
  clear ho
  obtain ⟨K, A, S, T⟩ := o
  simp only at hoS hoT ha HST ⊢
  obtain ⟨i, rfl⟩ := Int.eq_ofNat_of_zero_le ha
  simp only [Int.toNat_natCast]
  unfold OpV.val at HST ⊢
  simp only at HST ⊢
  obtain ⟨W, HW⟩ : ∃ W, Hid (W = w.alloc (.cells #[.int .i64 K, .int .i64 i, .string S, .string T] 58)) := ⟨_, rfl⟩
  have bW : Below w.heap.size w W := by rw [HW.out]; exact (Below.refl _ _).alloc (Nat.le_refl _) _
  have zW : w.heap.size < W.heap.size := by rw [HW.out]; simp
  have h1 := h.below bW
  have r1 : RowV W w.heap.size 4 (four (.int .i64 K) (.int .i64 i) (.string S) (.string T)) := by rw [HW.out]; exact RowV.four_new w _ _ _ _ _
  obtain ⟨x0, x1, x2, x3, x4⟩ := h1.row.cells5
  obtain ⟨y0, y1, y2, y3⟩ := r1.cells4
  have bB : Below B w W := bW.mono (by omega)
  have HSZ : Hid (standE p ⟨K, i, S, T⟩ = 0 → i < p.slots.length) := fun q => by have := (standE_zero q).1; simp only at this; omega
  generalize standE p ⟨K, i, S, T⟩ = E at *
  by_cases c1 : E = 0
  · have hin := HSZ.out c1
    subst c1
    have hwr : IntKind.i64.wrap ((i : Int) + 1) = (i : Int) + 1 := wrap_small (by omega) (by omega)
    go_enter Tryz.func116, Tryz.ntmps116
    go_wp2_with fail
    rw [← HW.out]
    refine (HST.out _ h1).mono ?_
    rintro e W2 ⟨rfl, b2⟩
    have h2 := h1.below b2
    have r2 := r1.below b2 zW
    have bB2 := bB.trans (b2.mono (by have := bW.size; omega))
    have zW2 := Nat.lt_of_lt_of_le zW b2.size
    clear HW r1 h1 bB bW x0 x1 x2 x3 x4 y0 y1 y2 y3 b2
    obtain ⟨x0, x1, x2, x3, x4⟩ := h2.row.cells5
    obtain ⟨y0, y1, y2, y3⟩ := r2.cells4
    obtain ⟨f0, f1, f2, f3, f4⟩ := h2.row.open5
    go_wp2_with fail
    have HD : Hid (∀ X, SheetAt B X b bs p → Below B w X → Calls Tryz.prog 168 #[.slice (some ⟨bs, 0, none⟩) p.slots.length p.slots.length, .int .i64 i, .int .i64 ((i : Int) + 1)] X fun e w' =>
        e = .returned (.slice (some ⟨bs, 0, none⟩) (p.slots.length - 1) p.slots.length) ∧ StrRow w' bs (p.slots.eraseIdx i) ∧ RowV w' b 5 (five (.int .u32 p.num) (.int .u64 p.lsn) (.int .i64 p.kind) (.string p.head) (.slice (some ⟨bs, 0, none⟩) p.slots.length p.slots.length)) ∧ Below B w w') := fun X h3 hB => by
      refine (delete_call p.slots bs i _ h3.str hin hn64).mono ?_
      rintro e w' ⟨rfl, q1, q, vs, rfl⟩
      exact ⟨rfl, q1, (h3.row.below (below_drewN (Below.refl _ _) q) h3.lt).setCells_other h3.ne vs 0, below_setCells bs h3.bs1 vs 0 _ (below_drewN hB q)⟩
    have hne := h2.ne
    have h2d : SheetAt B W2.drew b bs p := h2.below ((Below.refl W2.heap.size W2).drew)
    have bBd : Below B w W2.drew := bB2.drew
    go_region_with (first | (go_at_call 168; refine (HD.out _ h2d bBd).mono ?_; rintro e w4 ⟨rfl, q1, q4, q5⟩; obtain ⟨k0, k1, k2, k3, k4⟩ := q4.cells5; obtain ⟨l0, l1, l2, l3, l4⟩ := q4.open5))
    all_goals
      go_wp2
      go_ret
      exact ⟨rfl, q5.setCell (p := ⟨b, 4, none⟩) hb1 _, fun _ => ⟨q4.set4 _, q1.set_other (fun q => hne q.symm) _⟩⟩
  · have c1' : (E != 0) = true := by rw [bne_iff_ne]; exact c1
    go_enter Tryz.func116, Tryz.ntmps116
    go_wp2_with fail
    rw [← HW.out]
    refine (HST.out _ h1).mono ?_
    rintro e W2 ⟨rfl, b2⟩
    have h2 := h1.below b2
    have r2 := r1.below b2 zW
    have bB2 := bB.trans (b2.mono (by have := bW.size; omega))
    have zW2 := Nat.lt_of_lt_of_le zW b2.size
    clear HW r1 h1 bB bW x0 x1 x2 x3 x4 y0 y1 y2 y3 b2
    obtain ⟨x0, x1, x2, x3, x4⟩ := h2.row.cells5
    obtain ⟨y0, y1, y2, y3⟩ := r2.cells4
    go_wp2
    go_ret
    exact ⟨rfl, bB2, fun h => absurd h c1⟩

end
end Go.Proofs.YtgkfdakieebnmaaGreat

namespace Go.Proofs.YtgkfdakieebnmaaGreat
open Go.RowKit Go.Sort
set_option linter.unusedVariables false

set_option maxHeartbeats 1600000 in
theorem change_rem {p : SheetV} {o : OpV} (f : p.Fits) (ho : o.Ok) (hk : o.kind = 3) (ha : 0 ≤ o.at') : ChangeDoes p o (standE p o) { p with slots := p.slots.eraseIdx o.at'.toNat } := by
  intro B w b bs h
  have hb1 := h.b1
  have hlt := h.lt
  have HI : Hid (∀ wx, SheetAt B wx b bs p → Calls Tryz.prog 116 #[.pointer (some ⟨b, 0, none⟩), o.val] wx fun e w' => e = .returned (.int .i64 (standE p o)) ∧ Below B wx w' ∧
      (standE p o = 0 → RowV w' b 5 (five (.int .u32 p.num) (.int .u64 p.lsn) (.int .i64 p.kind) (.string p.head) (.slice (some ⟨bs, 0, none⟩) (p.slots.length - 1) p.slots.length)) ∧ StrRow w' bs (p.slots.eraseIdx o.at'.toNat))) := fun wx hx => remove_any hx f ho ha
  have HZ : Hid (standE p o = 0 → o.at'.toNat < p.slots.length) := fun q => by have := (standE_zero q).1; omega
  generalize standE p o = E at *
  obtain ⟨K, A, S, T⟩ := o
  simp only at hk ha HI HZ ⊢
  subst hk
  generalize A.toNat = i at *
  simp only [OpV.val] at HI ⊢
  obtain ⟨W, HW⟩ : ∃ W, Hid (W = w.alloc (.cells #[.int .i64 3, .int .i64 A, .string S, .string T] 58)) := ⟨_, rfl⟩
  have bW : Below w.heap.size w W := by rw [HW.out]; exact (Below.refl _ _).alloc (Nat.le_refl _) _
  have h1 := h.below bW
  go_enter Tryz.func54, Tryz.ntmps54
  go_wp2_with fail
  rw [← HW.out]
  clear HW
  refine (HI.out _ h1).mono ?_
  rintro e w1 ⟨rfl, b1, hz⟩
  go_wp2
  go_ret
  refine ⟨rfl, (bW.mono (by omega)).trans b1, fun hE => ?_⟩
  obtain ⟨q1, q2⟩ := hz hE
  have hl := h1.bslt
  exact ⟨some ⟨bs, 0, none⟩, p.slots.length, by simp only [List.length_eraseIdx_of_lt (HZ.out hE)]; exact q1, q2.not h.ne h.bs1 (Nat.lt_of_lt_of_le hl b1.size)⟩

end Go.Proofs.YtgkfdakieebnmaaGreat

namespace Go.Proofs.YtgkfdakieebnmaaGreat
open Go.RowKit Go.Sort
set_option linter.unusedVariables false

/-- The error of an OpPut. -/
def putE (p : SheetV) (o : OpV) : Int := if p.slots.length = 0 ∨ (p.slots.getD 0 ByteArray.empty).size < o.at'.toNat + o.S.size then 1 else if (p.slots.getD 0 ByteArray.empty).extract o.at'.toNat (o.at'.toNat + o.S.size) ≠ o.old then 31 else 0

/-- The slot that an OpPut leaves. -/
def putS (s : ByteArray) (i : Nat) (S : ByteArray) : ByteArray := s.extract 0 i ++ S ++ s.extract (i + S.size) s.size

section
variable {B : Nat} {w : World} {b bs : Nat} {p : SheetV} {o : OpV}

set_option maxHeartbeats 1600000 in
theorem putOp_any (h : SheetAt B w b bs p) (f : p.Fits) (ho : o.Ok) (ha : 0 ≤ o.at') (hi5 : o.at' ≤ 511) :
    Calls Tryz.prog 119 #[.pointer (some ⟨b, 0, none⟩), o.val] w fun e w' => e = .returned (.int .i64 (putE p o)) ∧ Below B w w' ∧
      (putE p o = 0 → SheetAt B w' b bs { p with slots := p.slots.set 0 (putS (p.slots.getD 0 ByteArray.empty) o.at'.toNat o.S) }) := by
  have hb1 := h.b1
  have hlt := h.lt
  have hoS := ho.S
  have hoT := ho.old
  have hf := f.fits
  have hn64 := f.len
  clear ho
  obtain ⟨K, A, S, T⟩ := o
  simp only at hoS hoT ha hi5 ⊢
  obtain ⟨i, rfl⟩ := Int.eq_ofNat_of_zero_le ha
  simp only [Int.toNat_natCast]
  unfold OpV.val
  simp only
  obtain ⟨W, HW⟩ : ∃ W, Hid (W = w.alloc (.cells #[.int .i64 K, .int .i64 i, .string S, .string T] 58)) := ⟨_, rfl⟩
  have bW : Below w.heap.size w W := by rw [HW.out]; exact (Below.refl _ _).alloc (Nat.le_refl _) _
  have zW : w.heap.size < W.heap.size := by rw [HW.out]; simp
  have h1 := h.below bW
  have r1 : RowV W w.heap.size 4 (four (.int .i64 K) (.int .i64 i) (.string S) (.string T)) := by rw [HW.out]; exact RowV.four_new w _ _ _ _ _
  obtain ⟨x0, x1, x2, x3, x4⟩ := h1.row.cells5
  obtain ⟨y0, y1, y2, y3⟩ := r1.cells4
  have bB : Below B w W := bW.mono (by omega)
  have HPE : Hid (putE p ⟨K, i, S, T⟩ = if p.slots.length = 0 ∨ (p.slots.getD 0 ByteArray.empty).size < i + S.size then 1 else if (p.slots.getD 0 ByteArray.empty).extract i (i + S.size) ≠ T then 31 else 0) := rfl
  generalize putE p ⟨K, i, S, T⟩ = EE at *
  obtain ⟨e, he⟩ : ∃ e, Hid (i + S.size = e) := ⟨_, rfl⟩
  have hie : i ≤ e := by rw [← he.out]; omega
  have hwr : IntKind.i64.wrap ((i : Int) + (S.size : Int)) = (e : Int) := by rw [← he.out, Int.natCast_add]; exact wrap_small (by omega) (by omega)
  rw [he.out] at HPE
  have x4' := x4
  have y1' := y1
  have y2' := y2
  rw [HW.out] at x4' y1' y2'
  by_cases c0 : p.slots.length = 0
  · have hE : EE = 1 := by rw [HPE.out, if_pos (.inl c0)]
    subst hE
    clear HPE
    rw [c0] at x4' x4
    go_enter Tryz.func119, Tryz.ntmps119
    go_wp2
    rw [← HW.out]
    go_ret
    exact ⟨rfl, bB, fun h => by cases h⟩
  · have hz := (h1.str 0 (by omega))
    have hz1 := hz.1
    have hz2 := hz.2
    simp only at hz1
    clear hz
    have hs5 : (p.slots.getD 0 ByteArray.empty).size ≤ 140737488351232 := by
      have hm := slotSum_at p.slots 0 (by omega)
      rw [List.getD_eq_getElem?_getD, List.getElem?_eq_getElem (by omega), Option.getD_some]
      omega
    generalize p.slots.getD 0 ByteArray.empty = s at *
    have hz1' := hz1
    rw [HW.out] at hz1'
    have hl0 : ((p.slots.length : Int) == 0) = false := by rw [beq_eq_false_iff_ne]; omega
    have hl1 : (0 : Int) < (p.slots.length : Int) := by omega
    have hl2 : 0 < p.slots.length := by omega
    by_cases c1 : s.size < e
    · have hE : EE = 1 := by rw [HPE.out, if_pos (.inr c1)]
      subst hE
      clear HPE
      have hc1 : decide ((s.size : Int) < (e : Int)) = true := by simp; omega
      go_enter Tryz.func119, Tryz.ntmps119
      go_wp2
      rw [← HW.out]
      go_ret
      exact ⟨rfl, bB, fun h => by cases h⟩
    · have hc1 : decide ((s.size : Int) < (e : Int)) = false := by simp; omega
      have hb3 : (0 : Int) ≤ (i : Int) := by omega
      have hb4 : (i : Int) ≤ (e : Int) := by omega
      have hb5 : (e : Int) ≤ (s.size : Int) := by omega
      have hb6 : (i : Int) ≤ (s.size : Int) := by omega
      by_cases c2 : s.extract i e = T
      · have hE : EE = 0 := by rw [HPE.out, if_neg (by omega), if_neg (by simpa using c2)]
        subst hE
        clear HPE
        have c2' := str_eq c2
        go_enter Tryz.func119, Tryz.ntmps119
        go_wp2_with fail
        rw [← HW.out]
        clear HW x4' y1' y2' hz1'
        go_quiet (fail)
        have h3 : SheetAt B (W.drewN nq) b bs p := h1.below (below_drewN (Below.refl W.heap.size W) nq)
        have r3 : RowV (W.drewN nq) w.heap.size 4 (four (.int .i64 K) (.int .i64 i) (.string S) (.string T)) := r1.below (below_drewN (Below.refl W.heap.size W) nq) zW
        have bB3 := below_drewN bB nq
        have hz3 : (W.drewN nq).cell? ⟨bs, 0, none⟩ = some (.string s) := hz1
        have hf3 : (W.drewN nq).frozen? ⟨bs, 0, none⟩ = false := hz2
        obtain ⟨W3, HW3⟩ : ∃ W3, Hid (W3 = W.drewN nq) := ⟨_, rfl⟩
        rw [← HW3.out] at h3 r3 bB3 hz3 hf3 ⊢
        clear HW3 r1 h1 bB bW x0 x1 x2 x3 x4 y0 y1 y2 y3 hz1 hz2
        obtain ⟨x0, x1, x2, x3, x4⟩ := h3.row.cells5
        obtain ⟨y0, y1, y2, y3⟩ := r3.cells4
        have hn1 := h3.ne
        have hbo : bs ≠ w.heap.size := by have := h.bslt; omega
        have hss : s.size ≤ 140737488351232 := hs5
        obtain ⟨sa, hsa⟩ : ∃ sa, s.extract 0 i = sa := ⟨_, rfl⟩
        obtain ⟨sb, hsb⟩ : ∃ sb, s.extract e s.size = sb := ⟨_, rfl⟩
        obtain ⟨sc, hsc⟩ : ∃ sc, sa ++ S = sc := ⟨_, rfl⟩
        have la : sa.size ≤ s.size := by rw [← hsa, ByteArray.size_extract]; omega
        have lb : sb.size ≤ s.size := by rw [← hsb, ByteArray.size_extract]; omega
        have lc : sc.size = sa.size + S.size := by rw [← hsc, ByteArray.size_append]
        have hA : ¬ ((9223372036854775807 : Int) < (sa.size : Int) + (S.size : Int)) := by omega
        have hB : ¬ ((9223372036854775807 : Int) < (sc.size : Int) + (sb.size : Int)) := by omega
        have hA2 : (sa.size : Int) + (S.size : Int) ≤ 9223372036854775807 := by omega
        have hB2 : (sc.size : Int) + (sb.size : Int) ≤ 9223372036854775807 := by omega
        have hA3 : ∀ (P : Program) (wx : World), (Op.stringOp .add sa S).run P wx = .ok (.string sc) wx := fun P wx => by rw [run_string_add_sum wx sa S (by omega), hsc]
        have hB3 : ∀ (P : Program) (wx : World), (Op.stringOp .add sc sb).run P wx = .ok (.string (sc ++ sb)) wx := fun P wx => run_string_add_sum wx sc sb (by omega)
        have HR : Hid (putS s i S = sc ++ sb) := by show _ = _; unfold putS; rw [he.out, hsa, hsb, hsc]
        clear la lb lc
        go_wp2_with fail
        go_region_held3 (fun w' => w'.cell? ⟨b, 4, none⟩ = some (.slice (some ⟨bs, 0, none⟩) p.slots.length p.slots.length) ∧ w'.cell? ⟨w.heap.size, 1, none⟩ = some (.int .i64 i) ∧ w'.cell? ⟨w.heap.size, 2, none⟩ = some (.string S)) (first | go_keep | (refine ⟨?_, ?_, ?_⟩ <;> (rw [World.cell?_setCell_other _ _ _ _ (by intro q; have := congrArg Addr.block q; simp only at this; omega)]; assumption))) (fail)
        go_wp2
        go_ret
        refine ⟨rfl, (bB3.setCell (p := ⟨bs, 0, none⟩) h3.bs1 _).drew, fun _ => ?_⟩
        have hrow := (h3.row.set_other (b' := bs) (k := 0) h3.ne (.string (sc ++ sb)))
        have hstr := h3.str.setAt (i := 0) (by omega) (sc ++ sb)
        rw [HR.out]
        refine SheetAt.below ⟨?_, hstr, h3.b1, by simpa using h3.lt, h3.bs1, by simpa using h3.bslt, h3.ne⟩ ((Below.refl _ _).drew)
        simp only [List.length_set]
        exact hrow
      · have hE : EE = 31 := by rw [HPE.out, if_neg (by omega), if_pos c2]
        subst hE
        clear HPE
        have c2' := str_ne c2
        go_enter Tryz.func119, Tryz.ntmps119
        go_wp2_with fail
        rw [← HW.out]
        clear HW x4' y1' y2' hz1'
        go_quiet (fail)
        go_wp2
        go_ret
        exact ⟨rfl, below_drewN bB nq, fun h => by cases h⟩

end
end Go.Proofs.YtgkfdakieebnmaaGreat

namespace Go.Proofs.YtgkfdakieebnmaaGreat
open Go.RowKit Go.Sort
set_option linter.unusedVariables false

set_option maxHeartbeats 1600000 in
theorem change_put {p : SheetV} {o : OpV} (f : p.Fits) (ho : o.Ok) (hk : o.kind = 6) (ha : 0 ≤ o.at') (hi5 : o.at' ≤ 511) : ChangeDoes p o (putE p o) { p with slots := p.slots.set 0 (putS (p.slots.getD 0 ByteArray.empty) o.at'.toNat o.S) } := by
  intro B w b bs h
  have hb1 := h.b1
  have hlt := h.lt
  have HI : Hid (∀ wx, SheetAt B wx b bs p → Calls Tryz.prog 119 #[.pointer (some ⟨b, 0, none⟩), o.val] wx fun e w' => e = .returned (.int .i64 (putE p o)) ∧ Below B wx w' ∧
      (putE p o = 0 → SheetAt B w' b bs { p with slots := p.slots.set 0 (putS (p.slots.getD 0 ByteArray.empty) o.at'.toNat o.S) })) := fun wx hx => putOp_any hx f ho ha hi5
  generalize putE p o = E at *
  generalize { p with slots := p.slots.set 0 (putS (p.slots.getD 0 ByteArray.empty) o.at'.toNat o.S) } = q at *
  obtain ⟨K, A, S, T⟩ := o
  simp only at hk HI ⊢
  subst hk
  simp only [OpV.val] at HI ⊢
  obtain ⟨W, HW⟩ : ∃ W, Hid (W = w.alloc (.cells #[.int .i64 6, .int .i64 A, .string S, .string T] 58)) := ⟨_, rfl⟩
  have bW : Below w.heap.size w W := by rw [HW.out]; exact (Below.refl _ _).alloc (Nat.le_refl _) _
  have h1 := h.below bW
  go_enter Tryz.func54, Tryz.ntmps54
  go_wp2_with fail
  rw [← HW.out]
  clear HW
  refine (HI.out _ h1).mono ?_
  rintro e w1 ⟨rfl, b1, hz⟩
  go_wp2
  go_ret
  refine ⟨rfl, (bW.mono (by omega)).trans b1, fun hE => ?_⟩
  have hq := hz hE
  exact ⟨some ⟨bs, 0, none⟩, q.slots.length, hq.row, StrRow.toNot hq⟩

end Go.Proofs.YtgkfdakieebnmaaGreat

namespace Go.Proofs.YtgkfdakieebnmaaGreat
open Go.RowKit Go.Sort
set_option linter.unusedVariables false
set_option linter.unusedSimpArgs false

theorem ChangeDoes.ownE {p q : SheetV} {o : OpV} {E : Int} (h : ChangeDoes p o E q) (hE : E ≠ 0) : ChangeDoesO p o E q := by
  intro B w b bs hs
  refine (h B w b bs hs).mono ?_
  rintro e w' ⟨rfl, b1, hz⟩
  exact ⟨rfl, b1, fun e => absurd e hE⟩

def ofmtQ (p : SheetV) (o : OpV) : SheetV := ⟨p.num, 0, o.at', o.S, []⟩

set_option maxHeartbeats 1600000 in
set_option maxRecDepth 20000 in
theorem change_fmtO {p : SheetV} {o : OpV} (ho : o.Ok) (hk : o.kind = 1) : ChangeDoesO p o 0 (ofmtQ p o) := by
  intro B w b bs h
  have hb1 := h.b1
  have hlt := h.lt
  obtain ⟨K, A, S, T⟩ := o
  simp only at hk ⊢
  subst hk
  unfold ofmtQ
  simp only [OpV.val]
  obtain ⟨W, HW⟩ : ∃ W, Hid (W = w.alloc (.cells #[.int .i64 1, .int .i64 A, .string S, .string T] 58)) := ⟨_, rfl⟩
  have bW : Below w.heap.size w W := by rw [HW.out]; exact (Below.refl _ _).alloc (Nat.le_refl _) _
  have h1 := h.below bW
  have r1 : RowV W w.heap.size 4 (four (.int .i64 1) (.int .i64 A) (.string S) (.string T)) := by rw [HW.out]; exact RowV.four_new w _ _ _ _ _
  obtain ⟨x0, x1, x2, x3, x4⟩ := h1.row.cells5
  obtain ⟨g0, g1, g2, g3, g4⟩ := h1.row.open5
  obtain ⟨y0, y1, y2, y3⟩ := r1.cells4
  have bB : Below B w W := bW.mono (by omega)
  have hbo : b ≠ w.heap.size := by omega
  go_enter Tryz.func54, Tryz.ntmps54
  go_wp2_with fail
  rw [← HW.out]
  clear HW
  go_still_tail 11, (by kernel_rfl)
  change wpList _ _ _ _ _ W.drew
  have h2 : SheetAt B W.drew b bs p := h1.below ((Below.refl _ _).drew)
  have B2 : Below B w W.drew := bB.drew
  obtain ⟨V, HV⟩ : ∃ V, Hid (V = W.drew) := ⟨_, rfl⟩
  rw [← HV.out] at h2 B2 ⊢
  clear HV h1 x0 x1 x2 x3 x4 g0 g1 g2 g3 g4 y0 y1 y2 y3 r1 bB bW
  obtain ⟨x0, x1, x2, x3, x4⟩ := h2.row.cells5
  obtain ⟨g0, g1, g2, g3, g4⟩ := h2.row.open5
  go_wp2
  go_ret
  refine ⟨rfl, below_set5 B2 hb1 _ _ _ _ _, fun _ => ⟨none, 0, h2.row.set5 _ _ _ _ _, .inl rfl, fun g k e => by cases e⟩⟩

set_option maxHeartbeats 1600000 in
theorem change_remO {p : SheetV} {o : OpV} (f : p.Fits) (ho : o.Ok) (hk : o.kind = 3) (ha : 0 ≤ o.at') : ChangeDoesO p o (standE p o) { p with slots := p.slots.eraseIdx o.at'.toNat } := by
  intro B w b bs h
  have hb1 := h.b1
  have hlt := h.lt
  have HI : Hid (∀ wx, SheetAt B wx b bs p → Calls Tryz.prog 116 #[.pointer (some ⟨b, 0, none⟩), o.val] wx fun e w' => e = .returned (.int .i64 (standE p o)) ∧ Below B wx w' ∧
      (standE p o = 0 → RowV w' b 5 (five (.int .u32 p.num) (.int .u64 p.lsn) (.int .i64 p.kind) (.string p.head) (.slice (some ⟨bs, 0, none⟩) (p.slots.length - 1) p.slots.length)) ∧ StrRow w' bs (p.slots.eraseIdx o.at'.toNat))) := fun wx hx => remove_any hx f ho ha
  have HZ : Hid (standE p o = 0 → o.at'.toNat < p.slots.length) := fun q => by have := (standE_zero q).1; omega
  generalize standE p o = E at *
  obtain ⟨K, A, S, T⟩ := o
  simp only at hk ha HI HZ ⊢
  subst hk
  generalize A.toNat = i at *
  simp only [OpV.val] at HI ⊢
  obtain ⟨W, HW⟩ : ∃ W, Hid (W = w.alloc (.cells #[.int .i64 3, .int .i64 A, .string S, .string T] 58)) := ⟨_, rfl⟩
  have bW : Below w.heap.size w W := by rw [HW.out]; exact (Below.refl _ _).alloc (Nat.le_refl _) _
  have h1 := h.below bW
  go_enter Tryz.func54, Tryz.ntmps54
  go_wp2_with fail
  rw [← HW.out]
  clear HW
  refine (HI.out _ h1).mono ?_
  rintro e w1 ⟨rfl, b1, hz⟩
  go_wp2
  go_ret
  refine ⟨rfl, (bW.mono (by omega)).trans b1, fun hE => ?_⟩
  obtain ⟨q1, q2⟩ := hz hE
  have hl := h1.bslt
  exact ⟨some ⟨bs, 0, none⟩, p.slots.length, by simp only [List.length_eraseIdx_of_lt (HZ.out hE)]; exact q1, q2.not h.ne h.bs1 (Nat.lt_of_lt_of_le hl b1.size), fun g k e => by simp only [Option.some.injEq, Addr.mk.injEq, and_true] at e; rw [← e.1]; exact ⟨h.bs1, Nat.lt_of_lt_of_le hl b1.size, h.ne⟩⟩

set_option maxHeartbeats 1600000 in
theorem change_headO {p : SheetV} {o : OpV} (f : p.Fits) (ho : o.Ok) (hk : o.kind = 5) : ChangeDoesO p o (headE p o) { p with head := o.S } := by
  intro B w b bs h
  have hb1 := h.b1
  have hlt := h.lt
  have HI : Hid (∀ wx, SheetAt B wx b bs p → Calls Tryz.prog 118 #[.pointer (some ⟨b, 0, none⟩), o.val] wx fun e w' => e = .returned (.int .i64 (headE p o)) ∧ Below B wx w' ∧
      (headE p o = 0 → SheetAt B w' b bs { p with head := o.S })) := fun wx hx => setHead_any hx f ho
  generalize headE p o = E at *
  generalize { p with head := o.S } = q at *
  obtain ⟨K, A, S, T⟩ := o
  simp only at hk HI ⊢
  subst hk
  simp only [OpV.val] at HI ⊢
  obtain ⟨W, HW⟩ : ∃ W, Hid (W = w.alloc (.cells #[.int .i64 5, .int .i64 A, .string S, .string T] 58)) := ⟨_, rfl⟩
  have bW : Below w.heap.size w W := by rw [HW.out]; exact (Below.refl _ _).alloc (Nat.le_refl _) _
  have h1 := h.below bW
  go_enter Tryz.func54, Tryz.ntmps54
  go_wp2_with fail
  rw [← HW.out]
  clear HW
  refine (HI.out _ h1).mono ?_
  rintro e w1 ⟨rfl, b1, hz⟩
  go_wp2
  go_ret
  refine ⟨rfl, (bW.mono (by omega)).trans b1, fun hE => ?_⟩
  have hq := hz hE
  exact ⟨some ⟨bs, 0, none⟩, q.slots.length, hq.row, StrRow.toNot hq, fun g k e => by simp only [Option.some.injEq, Addr.mk.injEq, and_true] at e; rw [← e.1]; exact ⟨hq.bs1, hq.bslt, hq.ne⟩⟩

set_option maxHeartbeats 1600000 in
theorem change_turnO {p : SheetV} {o : OpV} (f : p.Fits) (ho : o.Ok) (hk : o.kind = 7) (h1S : 1 ≤ o.S.size) : ChangeDoesO p o (turnE p o) { p with kind := ((o.S.data.toList.getD 0 0).toNat : Int), head := o.S.extract 1 o.S.size } := by
  intro B w b bs h
  have hb1 := h.b1
  have hlt := h.lt
  have HI : Hid (∀ wx, SheetAt B wx b bs p → Calls Tryz.prog 120 #[.pointer (some ⟨b, 0, none⟩), o.val] wx fun e w' => e = .returned (.int .i64 (turnE p o)) ∧ Below B wx w' ∧
      (turnE p o = 0 → SheetAt B w' b bs { p with kind := ((o.S.data.toList.getD 0 0).toNat : Int), head := o.S.extract 1 o.S.size })) := fun wx hx => turn_any hx f ho h1S
  generalize turnE p o = E at *
  generalize { p with kind := ((o.S.data.toList.getD 0 0).toNat : Int), head := o.S.extract 1 o.S.size } = q at *
  obtain ⟨K, A, S, T⟩ := o
  simp only at hk HI ⊢
  subst hk
  simp only [OpV.val] at HI ⊢
  obtain ⟨W, HW⟩ : ∃ W, Hid (W = w.alloc (.cells #[.int .i64 7, .int .i64 A, .string S, .string T] 58)) := ⟨_, rfl⟩
  have bW : Below w.heap.size w W := by rw [HW.out]; exact (Below.refl _ _).alloc (Nat.le_refl _) _
  have h1 := h.below bW
  go_enter Tryz.func54, Tryz.ntmps54
  go_wp2_with fail
  rw [← HW.out]
  clear HW
  refine (HI.out _ h1).mono ?_
  rintro e w1 ⟨rfl, b1, hz⟩
  go_wp2
  go_ret
  refine ⟨rfl, (bW.mono (by omega)).trans b1, fun hE => ?_⟩
  have hq := hz hE
  exact ⟨some ⟨bs, 0, none⟩, q.slots.length, hq.row, StrRow.toNot hq, fun g k e => by simp only [Option.some.injEq, Addr.mk.injEq, and_true] at e; rw [← e.1]; exact ⟨hq.bs1, hq.bslt, hq.ne⟩⟩

section
variable {w : World} {p q : SheetV} {o : OpV} {a : Option Addr} {c : Nat} {E : Int}

end

end Go.Proofs.YtgkfdakieebnmaaGreat

namespace Go.Proofs.YtgkfdakieebnmaaGreat
open Go.RowKit Go.Sort
set_option linter.unusedVariables false

/-- The error of a change other than OpFormat. -/
def doE (p : SheetV) (o : OpV) : Int :=
  if o.kind = 2 then insE p o else if o.kind = 3 then standE p o else if o.kind = 4 then setE p o else if o.kind = 5 then headE p o else if o.kind = 6 then putE p o else turnE p o

/-- The page behind it. -/
def doQ (p : SheetV) (o : OpV) : SheetV :=
  if o.kind = 2 then { p with slots := insL p.slots o.at'.toNat o.S } else
  if o.kind = 3 then { p with slots := p.slots.eraseIdx o.at'.toNat } else
  if o.kind = 4 then { p with slots := p.slots.set o.at'.toNat o.S } else
  if o.kind = 5 then { p with head := o.S } else
  if o.kind = 6 then { p with slots := p.slots.set 0 (putS (p.slots.getD 0 ByteArray.empty) o.at'.toNat o.S) } else
  { p with kind := ((o.S.data.toList.getD 0 0).toNat : Int), head := o.S.extract 1 o.S.size }

/-- The inverse of a change. -/
def invO (o : OpV) : OpV :=
  if o.kind = 1 then ⟨1, 0, ⟨#[]⟩, ⟨#[]⟩⟩ else
  if o.kind = 2 then ⟨3, o.at', ⟨#[]⟩, o.S⟩ else
  if o.kind = 3 then ⟨2, o.at', o.old, ⟨#[]⟩⟩ else
  if 4 ≤ o.kind ∧ o.kind ≤ 7 then ⟨o.kind, o.at', o.old, o.S⟩ else o

theorem chk_parts {o : OpV} (h : chkB o = true) : o.S.size ≤ 512 ∧ o.old.size ≤ 512 ∧ mayP o := by
  unfold chkB at h
  simp only [Bool.and_eq_true, decide_eq_true_eq] at h
  exact ⟨h.1.1, h.1.2, (mayB_iff o).1 h.2⟩

/-- The kinds of a change that may be. -/
theorem may_kinds {o : OpV} (h : mayP o) (h1 : o.kind ≠ 1) : o.kind = 2 ∨ o.kind = 3 ∨ o.kind = 4 ∨ o.kind = 5 ∨ o.kind = 6 ∨ o.kind = 7 := by
  unfold mayP at h
  rw [if_neg h1] at h
  by_cases k2 : o.kind = 2
  · exact .inl k2
  by_cases k3 : o.kind = 3
  · exact .inr (.inl k3)
  by_cases k4 : o.kind = 4
  · exact .inr (.inr (.inl k4))
  by_cases k5 : o.kind = 5
  · exact .inr (.inr (.inr (.inl k5)))
  by_cases k6 : o.kind = 6
  · exact .inr (.inr (.inr (.inr (.inl k6))))
  by_cases k7 : o.kind = 7
  · exact .inr (.inr (.inr (.inr (.inr k7))))
  rw [if_neg k2, if_neg k3, if_neg k4, if_neg k5, if_neg k6, if_neg k7] at h
  exact h.elim

theorem may2 {o : OpV} (h : mayP o) (k : o.kind = 2) : (0 ≤ o.at' ∧ o.at' ≤ 63) ∧ o.old.size = 0 := by simpa [mayP, k] using h
theorem may3 {o : OpV} (h : mayP o) (k : o.kind = 3) : (0 ≤ o.at' ∧ o.at' ≤ 63) ∧ o.S.size = 0 := by simpa [mayP, k] using h
theorem may4 {o : OpV} (h : mayP o) (k : o.kind = 4) : (0 ≤ o.at' ∧ o.at' ≤ 63) := by simpa [mayP, k] using h
theorem may5 {o : OpV} (h : mayP o) (k : o.kind = 5) : o.at' = 0 ∧ o.S.size ≤ 32 ∧ o.old.size ≤ 32 := by simpa [mayP, k] using h
theorem may6 {o : OpV} (h : mayP o) (k : o.kind = 6) : (0 ≤ o.at' ∧ o.at' ≤ 511) ∧ o.S.size = o.old.size ∧ 0 < o.S.size := by simpa [mayP, k] using h
theorem may7 {o : OpV} (h : mayP o) (k : o.kind = 7) : o.at' = 0 ∧ (1 ≤ o.S.size ∧ o.S.size ≤ 33) ∧ (1 ≤ o.old.size ∧ o.old.size ≤ 33) := by simpa [mayP, k] using h

theorem invO2 {o : OpV} (k : o.kind = 2) : invO o = ⟨3, o.at', ⟨#[]⟩, o.S⟩ := by simp [invO, k]
theorem invO3 {o : OpV} (k : o.kind = 3) : invO o = ⟨2, o.at', o.old, ⟨#[]⟩⟩ := by simp [invO, k]
theorem invO4 {o : OpV} (k : 4 ≤ o.kind ∧ o.kind ≤ 7) : invO o = ⟨o.kind, o.at', o.old, o.S⟩ := by
  unfold invO
  rw [if_neg (by omega), if_neg (by omega), if_neg (by omega), if_pos k]

theorem does {p : SheetV} {o : OpV} (f : p.Fits) (ho : o.Ok) (hc : chkB o = true) (h1 : o.kind ≠ 1) : ChangeDoes p o (doE p o) (doQ p o) := by
  obtain ⟨hS, hT, hm⟩ := chk_parts hc
  rcases may_kinds hm h1 with k | k | k | k | k | k
  · have := may2 hm k
    have h := change_ins f ho k this.1.1
    simpa [doE, doQ, k] using h
  · have := may3 hm k
    have h := change_rem f ho k this.1.1
    simpa [doE, doQ, k] using h
  · have := may4 hm k
    have h := change_set f ho k this.1
    simpa [doE, doQ, k] using h
  · have h := change_head f ho k
    simpa [doE, doQ, k] using h
  · have := may6 hm k
    have h := change_put f ho k this.1.1 this.1.2
    simpa [doE, doQ, k] using h
  · have := may7 hm k
    have h := change_turn f ho k this.2.1.1
    simpa [doE, doQ, k] using h

theorem insL_erase (L : List ByteArray) (i : Nat) (s : ByteArray) (hi : i ≤ L.length) : (insL L i s).eraseIdx i = L := by
  unfold insL
  have hl : (L.take i).length = i := by simp; omega
  rw [List.eraseIdx_append_of_length_le (by omega), hl, Nat.sub_self]
  simp

theorem insL_getD (L : List ByteArray) (i : Nat) (s : ByteArray) (hi : i ≤ L.length) : (insL L i s).getD i ByteArray.empty = s := by
  unfold insL
  have hl : (L.take i).length = i := by simp; omega
  rw [List.getD_eq_getElem?_getD, List.getElem?_append_right (by omega), hl, Nat.sub_self]
  rfl

theorem erase_ins (L : List ByteArray) (i : Nat) (hi : i < L.length) : insL (L.eraseIdx i) i (L.getD i ByteArray.empty) = L := by
  rw [getD_at hi, List.eraseIdx_eq_take_drop_succ]
  unfold insL
  have hl : (L.take i).length = i := by simp; omega
  rw [List.take_append_of_le_length (by omega), List.take_take, Nat.min_self, List.drop_append_of_le_length (by omega), List.drop_of_length_le (by omega), List.nil_append]
  rw [← List.drop_eq_getElem_cons hi, List.take_append_drop]

theorem slotSum_erase (L : List ByteArray) (i : Nat) (hi : i < L.length) : slotSum (L.eraseIdx i) + (2 + (L.getD i ByteArray.empty).size) = slotSum L := by
  have h := insL_sum (L.eraseIdx i) i (L.getD i ByteArray.empty)
  rw [erase_ins L i hi] at h
  omega

theorem set_as_ins (L : List ByteArray) (i : Nat) (s : ByteArray) (hi : i < L.length) : L.set i s = insL (L.eraseIdx i) i s := by
  rw [List.eraseIdx_eq_take_drop_succ]
  unfold insL
  have hl : (L.take i).length = i := by simp; omega
  rw [List.take_append_of_le_length (by omega), List.take_take, Nat.min_self, List.drop_append_of_le_length (by omega), List.drop_of_length_le (by omega), List.nil_append]
  rw [List.set_eq_take_append_cons_drop, if_pos hi]

theorem slotSum_set (L : List ByteArray) (i : Nat) (s : ByteArray) (hi : i < L.length) : slotSum (L.set i s) + (L.getD i ByteArray.empty).size = slotSum L + s.size := by
  have h := insL_sum (L.eraseIdx i) i s
  rw [← set_as_ins L i s hi] at h
  have h2 := slotSum_erase L i hi
  omega

theorem set_getD (L : List ByteArray) (i : Nat) (s : ByteArray) (hi : i < L.length) : (L.set i s).getD i ByteArray.empty = s := by
  rw [getD_at (by simpa using hi)]; simp

theorem set_back (L : List ByteArray) (i : Nat) (s : ByteArray) (hi : i < L.length) : (L.set i s).set i (L.getD i ByteArray.empty) = L := by
  rw [List.set_set, getD_at hi, List.set_getElem_self]

theorem putS_parts {s S : ByteArray} {i : Nat} (h : i + S.size ≤ s.size) : ∃ A M Z : List UInt8, A.length = i ∧ M.length = S.size ∧ s.data.toList = A ++ (M ++ Z) ∧ s.extract i (i + S.size) = ⟨M.toArray⟩ ∧ putS s i S = ⟨(A ++ (S.data.toList ++ Z)).toArray⟩ := by
  have hs : s.data.toList.length = s.size := by simp
  refine ⟨s.data.toList.take i, (s.data.toList.drop i).take S.size, s.data.toList.drop (i + S.size), by rw [List.length_take, hs]; omega, by rw [List.length_take, List.length_drop, hs]; omega, ?_, ?_, ?_⟩
  · rw [← List.drop_drop, List.take_append_drop, List.take_append_drop]
  · apply ByteArray.ext
    simp [ByteArray.data_extract]
    apply Array.ext'
    simp [List.extract_eq_take_drop]
  · unfold putS
    apply ByteArray.ext
    apply Array.ext'
    simp [ByteArray.data_append, ByteArray.data_extract, List.extract_eq_take_drop]
    exact List.take_of_length_le (by rw [List.length_drop, hs]; exact Nat.le_refl _)

theorem put_back {s S T : ByteArray} {i : Nat} (h : i + S.size ≤ s.size) (hl : S.size = T.size) (ht : s.extract i (i + S.size) = T) :
    (putS s i S).size = s.size ∧ (putS s i S).extract i (i + T.size) = S ∧ putS (putS s i S) i T = s := by
  obtain ⟨A, M, Z, hA, hM, hd, he, hp⟩ := putS_parts h
  have hSl : S.data.toList.length = S.size := by simp
  have hsz : (putS s i S).size = s.size := by
    rw [hp, bytes_size]
    have : s.data.toList.length = s.size := by simp
    rw [← this, hd]
    simp only [List.length_append]
    omega
  obtain ⟨A', M', Z', hA', hM', hd', he', hp'⟩ := putS_parts (s := putS s i S) (S := T) (i := i) (by omega)
  rw [hp] at hd'
  have hd2 : A ++ (S.data.toList ++ Z) = A' ++ (M' ++ Z') := by simpa using hd'
  obtain ⟨rfl, h2⟩ := List.append_inj hd2 (by omega)
  obtain ⟨h3, rfl⟩ := List.append_inj h2 (by omega)
  refine ⟨hsz, ?_, ?_⟩
  · rw [he', ← h3]
  · rw [hp', ← ht, he]
    show ByteArray.mk (A ++ (M.toArray.toList ++ Z)).toArray = s
    rw [List.toList_toArray, ← hd]

theorem turn_there (S : ByteArray) (h : 1 ≤ S.size) : kindS ((S.data.toList.getD 0 0).toNat : Int) (S.extract 1 S.size) = S := by
  obtain ⟨⟨L⟩⟩ := S
  cases L with
  | nil => exact absurd h (by simp [ByteArray.size])
  | cons x L =>
    unfold kindS
    apply ByteArray.ext
    apply Array.ext'
    have hx : x.toNat < 256 := x.toNat_lt
    have e : (((x.toNat : Int) % 256)).toNat = x.toNat := by omega
    simp [ByteArray.data_append, ByteArray.data_extract, List.extract_eq_take_drop, e, ByteArray.size]

theorem turn_back (k : Int) (h : ByteArray) (h0 : 0 ≤ k) (h1 : k ≤ 255) : (((kindS k h).data.toList.getD 0 0).toNat : Int) = k ∧ (kindS k h).extract 1 (kindS k h).size = h := by
  have e : (k % 256).toNat = k.toNat := by omega
  have e2 : (UInt8.ofNat k.toNat).toNat = k.toNat := by rw [UInt8.toNat_ofNat']; omega
  constructor
  · unfold kindS
    simp only [ByteArray.data_append, Array.toList_append, e]
    show ((UInt8.ofNat k.toNat).toNat : Int) = k
    rw [e2]; omega
  · unfold kindS
    apply ByteArray.ext
    apply Array.ext'
    simp [ByteArray.data_append, ByteArray.data_extract, List.extract_eq_take_drop, ByteArray.size_append]
    exact List.take_of_length_le (by rw [show h.data.toList.length = h.size from by simp]; show _ ≤ 1 + h.size - 1; omega)

/-- A change that is done leaves a page that fits, and its inverse leads back. -/
theorem do_back {p : SheetV} {o : OpV} (f : p.Fits) (hc : chkB o = true) (h1 : o.kind ≠ 1) (he : doE p o = 0) :
    (doQ p o).Fits ∧ doE (doQ p o) (invO o) = 0 ∧ doQ (doQ p o) (invO o) = p := by
  obtain ⟨hS, hT, hm⟩ := chk_parts hc
  have f1 := f.len
  have f2 := f.fits
  rcases may_kinds hm h1 with k | k | k | k | k | k
  · have m := may2 hm k
    have hE : insE p o = 0 := by simpa [doE, k] using he
    obtain ⟨z1, z2, z3⟩ := insE_zero hE
    have hi : o.at'.toNat ≤ p.slots.length := by omega
    have hq : doQ p o = { p with slots := insL p.slots o.at'.toNat o.S } := by simp [doQ, k]
    have hl := insL_length p.slots o.at'.toNat o.S hi
    have hs := insL_sum p.slots o.at'.toNat o.S
    rw [hq, invO2 k]
    refine ⟨⟨f.num, f.lsn, f.kind0, f.kind1, f.head, by show (insL _ _ _).length ≤ 64; omega, by show p.head.size + slotSum (insL _ _ _) ≤ 485; omega⟩, ?_, ?_⟩
    · show standE _ _ = 0
      unfold standE
      simp only [hl]
      rw [if_neg (by omega), if_neg (by rw [insL_getD _ _ _ hi]; simp)]
    · show ({ p with slots := (insL p.slots o.at'.toNat o.S).eraseIdx o.at'.toNat } : SheetV) = p
      rw [insL_erase _ _ _ hi]
  · have m := may3 hm k
    have hE : standE p o = 0 := by simpa [doE, k] using he
    obtain ⟨z1, z2⟩ := standE_zero hE
    have hi : o.at'.toNat < p.slots.length := by omega
    have hq : doQ p o = { p with slots := p.slots.eraseIdx o.at'.toNat } := by simp [doQ, k]
    have hl := List.length_eraseIdx_of_lt hi
    have hs := slotSum_erase p.slots o.at'.toNat hi
    rw [z2] at hs
    rw [hq, invO3 k]
    refine ⟨⟨f.num, f.lsn, f.kind0, f.kind1, f.head, by show (p.slots.eraseIdx _).length ≤ 64; omega, by show p.head.size + slotSum (p.slots.eraseIdx _) ≤ 485; omega⟩, ?_, ?_⟩
    · show insE _ _ = 0
      unfold insE
      simp only [hl]
      rw [if_neg (by omega), if_neg (by omega), if_neg (by omega)]
    · show ({ p with slots := insL (p.slots.eraseIdx o.at'.toNat) o.at'.toNat o.old } : SheetV) = p
      rw [← z2, erase_ins _ _ hi]
  · have m := may4 hm k
    have hE : setE p o = 0 := by simpa [doE, k] using he
    unfold setE at hE
    split at hE
    · rename_i hx; exact absurd hE hx
    rename_i hx
    split at hE
    · cases hE
    rename_i hy
    obtain ⟨z1, z2⟩ := standE_zero (Decidable.not_not.1 hx)
    have hi : o.at'.toNat < p.slots.length := by omega
    have hq : doQ p o = { p with slots := p.slots.set o.at'.toNat o.S } := by simp [doQ, k]
    have hs := slotSum_set p.slots o.at'.toNat o.S hi
    rw [z2] at hs
    rw [hq, invO4 (by omega)]
    refine ⟨⟨f.num, f.lsn, f.kind0, f.kind1, f.head, by show (p.slots.set _ _).length ≤ 64; simpa using f1, by show p.head.size + slotSum (p.slots.set _ _) ≤ 485; omega⟩, ?_, ?_⟩
    · have : standE { p with slots := p.slots.set o.at'.toNat o.S } ⟨o.kind, o.at', o.old, o.S⟩ = 0 := by
        unfold standE
        simp only [List.length_set]
        rw [if_neg (by omega), if_neg (by rw [set_getD _ _ _ hi]; simp)]
      simp only [doE, k]
      rw [if_neg (by decide), if_neg (by decide), if_pos trivial]
      rw [k] at this
      unfold setE
      rw [this, if_neg (by simp), if_neg]
      simp only
      omega
    · simp only [doQ, k]
      rw [if_neg (by decide), if_neg (by decide), if_pos trivial, ← z2, set_back _ _ _ hi]
  · have m := may5 hm k
    have hE : headE p o = 0 := by simpa [doE, k] using he
    unfold headE at hE
    split at hE
    · cases hE
    rename_i hx
    split at hE
    · cases hE
    rename_i hy
    have hx' : p.head = o.old := Decidable.not_not.1 hx
    have hq : doQ p o = { p with head := o.S } := by simp [doQ, k]
    rw [hq, invO4 (by omega)]
    refine ⟨⟨f.num, f.lsn, f.kind0, f.kind1, m.2.1, f.len, by show o.S.size + slotSum p.slots ≤ 485; omega⟩, ?_, ?_⟩
    · simp only [doE, k]
      rw [if_neg (by decide), if_neg (by decide), if_neg (by decide), if_pos trivial]
      unfold headE
      rw [if_neg (by simp), if_neg]
      simp only
      rw [← hx']
      omega
    · simp only [doQ, k]
      rw [if_neg (by decide), if_neg (by decide), if_neg (by decide), if_pos trivial, ← hx']
  · have m := may6 hm k
    have hE : putE p o = 0 := by simpa [doE, k] using he
    unfold putE at hE
    split at hE
    · cases hE
    rename_i hx
    split at hE
    · cases hE
    rename_i hy
    have hx1 : 0 < p.slots.length := by omega
    have hx2 : o.at'.toNat + o.S.size ≤ (p.slots.getD 0 ByteArray.empty).size := by omega
    have hy' := Decidable.not_not.1 hy
    obtain ⟨b1, b2, b3⟩ := put_back hx2 m.2.1 hy'
    have hq : doQ p o = { p with slots := p.slots.set 0 (putS (p.slots.getD 0 ByteArray.empty) o.at'.toNat o.S) } := by simp [doQ, k]
    have hs := slotSum_set p.slots 0 (putS (p.slots.getD 0 ByteArray.empty) o.at'.toNat o.S) hx1
    rw [hq, invO4 (by omega)]
    refine ⟨⟨f.num, f.lsn, f.kind0, f.kind1, f.head, by show (p.slots.set _ _).length ≤ 64; simpa using f1, by show p.head.size + slotSum (p.slots.set _ _) ≤ 485; omega⟩, ?_, ?_⟩
    · simp only [doE, k]
      rw [if_neg (by decide), if_neg (by decide), if_neg (by decide), if_neg (by decide), if_pos trivial]
      unfold putE
      simp only
      rw [set_getD _ _ _ hx1, List.length_set, if_neg (by omega), if_neg (by rw [b2]; simp)]
    · simp only [doQ, k]
      rw [if_neg (by decide), if_neg (by decide), if_neg (by decide), if_neg (by decide), if_pos trivial]
      rw [set_getD _ _ _ hx1, b3, set_back _ _ _ hx1]
  · have m := may7 hm k
    have hE : turnE p o = 0 := by simpa [doE, k] using he
    unfold turnE at hE
    split at hE
    · cases hE
    rename_i hx
    split at hE
    · cases hE
    rename_i hy
    have hx0 : p.slots = [] := by cases hp : p.slots with
      | nil => rfl
      | cons a b => rw [hp] at hx; simp at hx
    have hy' : kindS p.kind p.head = o.old := Decidable.not_not.1 hy
    have hq : doQ p o = { p with kind := ((o.S.data.toList.getD 0 0).toNat : Int), head := o.S.extract 1 o.S.size } := by simp [doQ, k]
    have hxs : (o.S.extract 1 o.S.size).size = o.S.size - 1 := by simp [ByteArray.size_extract]
    have hx2 : (o.S.data.toList.getD 0 0).toNat < 256 := (o.S.data.toList.getD 0 0).toNat_lt
    obtain ⟨t1, t2⟩ := turn_back p.kind p.head f.kind0 f.kind1
    rw [hq, invO4 (by omega)]
    refine ⟨⟨f.num, f.lsn, by show (0 : Int) ≤ ((o.S.data.toList.getD 0 0).toNat : Int); omega, by show ((o.S.data.toList.getD 0 0).toNat : Int) ≤ 255; omega, by show (o.S.extract 1 o.S.size).size ≤ 32; omega, f.len, by show (o.S.extract 1 o.S.size).size + slotSum p.slots ≤ 485; rw [hx0]; simp only [slotSum]; omega⟩, ?_, ?_⟩
    · simp only [doE, k]
      rw [if_neg (by decide), if_neg (by decide), if_neg (by decide), if_neg (by decide), if_neg (by decide)]
      unfold turnE
      simp only
      rw [if_neg hx, if_neg (by rw [turn_there _ m.2.1.1]; simp)]
    · simp only [doQ, k]
      rw [if_neg (by decide), if_neg (by decide), if_neg (by decide), if_neg (by decide), if_neg (by decide), ← hy', t1, t2]

end Go.Proofs.YtgkfdakieebnmaaGreat

namespace Go.Proofs.YtgkfdakieebnmaaGreat
open Go.RowKit Go.Sort
set_option linter.unusedVariables false
set_option linter.unusedSimpArgs false

theorem ofmtQ_fits {p : SheetV} {o : OpV} (f : p.Fits) (hc : chkB o = true) (hk : o.kind = 1) : (ofmtQ p o).Fits := by
  obtain ⟨_, _, h⟩ := chk_parts hc
  have h1 : (0 ≤ o.at' ∧ o.at' ≤ 255) ∧ o.S.size ≤ 32 ∧ o.old.size = 0 := by simpa [mayP, hk] using h
  exact ⟨f.num, by show (0 : Nat) < _; omega, h1.1.1, h1.1.2, h1.2.1, by show [].length ≤ 64; simp, by show o.S.size + slotSum [] ≤ 485; have : slotSum [] = 0 := rfl; omega⟩

theorem ne_of_len {α : Type} {l : List α} (h : 0 < l.length) : l ≠ [] := fun e => by rw [e] at h; simp at h

theorem does_own {p : SheetV} {o : OpV} (f : p.Fits) (ho : o.Ok) (hc : chkB o = true) : ∃ E q, ChangeDoesO p o E q ∧ (E = 0 → q.Fits ∧ q.num = p.num) := by
  by_cases k1 : o.kind = 1
  · exact ⟨0, _, change_fmtO ho k1, fun _ => ⟨ofmtQ_fits f hc k1, rfl⟩⟩
  have hd := does f ho hc k1
  obtain ⟨hS, hT, hmay⟩ := chk_parts hc
  have hfit : doE p o = 0 → (doQ p o).Fits ∧ (doQ p o).num = p.num := fun he => ⟨(do_back f hc k1 he).1, by
    unfold doQ
    split
    · rfl
    split
    · rfl
    split
    · rfl
    split
    · rfl
    split
    · rfl
    · rfl⟩
  by_cases hE0 : doE p o ≠ 0
  · exact ⟨_, _, hd.ownE hE0, fun e => absurd e hE0⟩
  have hE : doE p o = 0 := by omega
  clear hE0
  rcases may_kinds hmay k1 with k | k | k | k | k | k
  · refine ⟨_, _, hd.own ?_, hfit⟩
    have : doQ p o = { p with slots := insL p.slots o.at'.toNat o.S } := by simp [doQ, k]
    rw [this]
    unfold insL
    exact ne_of_len (by simp; omega)
  · have e1 : doE p o = standE p o := by simp [doE, k]
    have e2 : doQ p o = { p with slots := p.slots.eraseIdx o.at'.toNat } := by simp [doQ, k]
    refine ⟨_, _, ?_, hfit⟩
    rw [e1, e2]
    exact change_remO f ho k (may3 hmay k).1.1
  · refine ⟨_, _, hd.own ?_, hfit⟩
    have e1 : doE p o = setE p o := by simp [doE, k]
    have e2 : doQ p o = { p with slots := p.slots.set o.at'.toNat o.S } := by simp [doQ, k]
    rw [e1] at hE
    rw [e2]
    have hs : standE p o = 0 := by
      unfold setE at hE
      split at hE
      · exact absurd hE (by assumption)
      · omega
    have := (standE_zero hs).1
    have h0 := (may4 hmay k).1
    exact ne_of_len (by simp; omega)
  · have e1 : doE p o = headE p o := by simp [doE, k]
    have e2 : doQ p o = { p with head := o.S } := by simp [doQ, k]
    refine ⟨_, _, ?_, hfit⟩
    rw [e1, e2]
    exact change_headO f ho k
  · refine ⟨_, _, hd.own ?_, hfit⟩
    have e1 : doE p o = putE p o := by simp [doE, k]
    have e2 : doQ p o = { p with slots := p.slots.set 0 (putS (p.slots.getD 0 ByteArray.empty) o.at'.toNat o.S) } := by simp [doQ, k]
    rw [e1] at hE
    rw [e2]
    have : p.slots.length ≠ 0 := fun e => by
      unfold putE at hE
      rw [if_pos (.inl e)] at hE
      cases hE
    exact ne_of_len (by simp; omega)
  · have e1 : doE p o = turnE p o := by simp [doE, k]
    have e2 : doQ p o = { p with kind := ((o.S.data.toList.getD 0 0).toNat : Int), head := o.S.extract 1 o.S.size } := by simp [doQ, k]
    refine ⟨_, _, ?_, hfit⟩
    rw [e1, e2]
    exact change_turnO f ho k (may7 hmay k).2.1.1

end Go.Proofs.YtgkfdakieebnmaaGreat

namespace Go.Proofs.YtgkfdakieebnmaaGreat
open Go.RowKit Go.Sort Go.Shelf Go.Lib
set_option linter.unusedVariables false
set_option linter.unusedSimpArgs false

theorem apply_is {x : SheetV} {o : OpV} (f : x.Fits) (ho : o.Ok) : ∃ E y, ApplyIs x o E y := by
  cases hc : chkB o with
  | true =>
    obtain ⟨E, y, hd, hf⟩ := does_own f ho hc
    exact ⟨E, y, hf, fun lsn w a c hx => apply_ofO (c := c) lsn hx f ho hc hd⟩
  | false =>
    refine ⟨33, x, fun h => absurd h (by decide), fun lsn w a c hx => ?_⟩
    refine (apply_bad (c := c) lsn hx ho hc).mono ?_
    rintro e w' ⟨rfl, b⟩
    exact ⟨_, rfl, b, fun h => absurd h (by decide), fun _ => rfl⟩

end Go.Proofs.YtgkfdakieebnmaaGreat

namespace Go.Proofs.YtgkfdakieebnmaaGreat
open Go.RowKit Go.Sort
set_option linter.unusedVariables false

section
variable {w V W W' : World} {p q pp : Nat} {A A' S S' : Nat → Prop} {l : LG} {d : DG} {rs : List ByteArray} {sure j : Nat} {P P' : PG}

theorem RdS.early (h : RdS V W p q A l d rs sure j) (b : Below w.heap.size w V) : RdS w W p q A l d rs sure j :=
  ⟨below_chain b h.bel, h.ex, fun k x => Nat.le_trans b.size (h.lo k x), h.bare⟩
theorem PoAt.early (h : PoAt V W A p q pp S P) (b : Below w.heap.size w V) : PoAt w W A p q pp S P :=
  ⟨h.pool, h.dp, h.lp, h.off, fun k x => Nat.le_trans b.size (h.lo k x)⟩

theorem rd_putG (h : RdS w W p q A l d rs sure j) (hp : PoAt w W A p q pp S P) (X : SheetV) (a : Option Addr) (c : Nat) (hX : X.Fits) (hst : StrsAt W a X.slots) (hoff : X.slots ≠ [] → ∀ b o, a = some ⟨b, o, none⟩ → ¬ (S b ∨ A b)) (h1 : 1 ≤ X.num) (h2 : X.num ≤ 64) (hz : P.F X.num = none → P.z < P.most) (hzz : P.z ≤ 1000) (hm : P.most ≤ 256) :
    Calls Tryz.prog 18 #[.pointer (some ⟨pp, 0, none⟩), X.val a c] W fun e w' => e = .returned (.int .i64 0) ∧ Stp w W w' p q pp A S l d rs sure j (putP P X) := by
  have hs := h.sys hp
  have hok := hX.ok hst
  refine (poolPut_gen (P1 := P) (l1 := l) (d1 := d) hs X a c hok hoff h1 (by omega) ((encE_fits hok).2 hX) (fun hn => ⟨room_roomy (hz hn) (by omega), hn⟩) (fun _ => ⟨rfl, rfl, rfl⟩) (by omega)).mono ?_
  rintro e w' ⟨rfl, A', hS', hm'⟩
  exact ⟨rfl, h.back hp hS' hm' rfl rfl⟩

/-- Where it stands. -/
structure OnS (w W : World) (p q pp : Nat) (A S : Nat → Prop) (l : LG) (d : DG) (P : PG) (xc rc : Array Value) (x : SheetV) (a : Option Addr) : Prop where
  rd : RdS w W p q A l d [] 0 0
  pa : PoAt w W A p q pp S P
  bx : BlkR W w.heap.size xc 52
  br : BlkR W (w.heap.size + 1) rc 64
  nx : ¬ (S w.heap.size ∨ A w.heap.size)
  nr : ¬ (S (w.heap.size + 1) ∨ A (w.heap.size + 1))
  st : x.slots ≠ [] → ∀ b o, a = some ⟨b, o, none⟩ → ¬ (S b ∨ A b)
  mem : StrsAt w a x.slots

theorem OnS.at {xc rc : Array Value} {x : SheetV} {a : Option Addr} (h : OnS w W p q pp A S l d P xc rc x a) : StrsAt W a x.slots := h.mem.below h.rd.bel

theorem OnS.below {xc rc : Array Value} {x : SheetV} {a : Option Addr} (h : OnS w W p q pp A S l d P xc rc x a) (b : Below W.heap.size W W') : OnS w W' p q pp A S l d P xc rc x a :=
  ⟨h.rd.below b, h.pa.below b, (b.block _ h.bx.lt).trans h.bx, (b.block _ h.br.lt).trans h.br, h.nx, h.nr, h.st, h.mem⟩

theorem OnS.stp {xc rc : Array Value} {x : SheetV} {a : Option Addr} (h : OnS w W p q pp A S l d P xc rc x a) (s : Stp w W W' p q pp A S l d [] 0 0 P') : ∃ A' S', OnS w W' p q pp A' S' l d P' xc rc x a := by
  obtain ⟨A', S', h1, h2, m⟩ := s
  have kx := m.off h.bx.lt h.nx
  have kr := m.off h.br.lt h.nr
  refine ⟨A', S', h1, h2, kx.1.trans h.bx, kr.1.trans h.br, kx.2, kr.2, fun hn b o e => ?_, h.mem⟩
  have hb : b < W.heap.size := by
    rcases h.at with e1 | ⟨b', o', e1, hb, _⟩
    · exact absurd e1 hn
    · rw [e] at e1; cases e1; exact hb
  exact (m.off hb (h.st hn b o e)).2

theorem OnS.setR {xc rc : Array Value} {x : SheetV} {a : Option Addr} (h : OnS w W p q pp A S l d P xc rc x a) (i : Nat) (v : Value) : OnS w (W.setCell ⟨w.heap.size + 1, i, none⟩ v) p q pp A S l d P xc (rc.setIfInBounds i v) x a := by
  have k : ∀ b, b ≠ w.heap.size + 1 → (W.setCell ⟨w.heap.size + 1, i, none⟩ v).heap[b]? = W.heap[b]? := fun b hb => Below.heap_setCell _ _ _ _ hb
  have hs : W.heap.size ≤ (W.setCell ⟨w.heap.size + 1, i, none⟩ v).heap.size := by simp
  have h1 := h.rd
  have h2 := h.pa
  obtain ⟨S0, D, hw, hA⟩ := h1.ex
  have nS : ∀ b, S0 b → b ≠ w.heap.size + 1 := fun b hb e => h.nr (.inr ((hA _).2 (.inl (e ▸ hb))))
  have nD : ∀ b, D b → b ≠ w.heap.size + 1 := fun b hb e => h.nr (.inr ((hA _).2 (.inr (e ▸ hb))))
  have hb : Below w.heap.size w (W.setCell ⟨w.heap.size + 1, i, none⟩ v) := h1.bel.setCell (p := ⟨w.heap.size + 1, i, none⟩) (Nat.le_succ _) v
  exact ⟨⟨hb, ⟨S0, D, ⟨hw.log.same (fun b x => k b (nS b x)) hs, hw.disk.same (fun b x => k b (nD b x)) hs, hw.dp, hw.off, hw.bytes, hw.recs, hw.half, hw.keeps, hw.fits, hw.sz, hw.cnt, hw.su, hw.fl, hw.dlog, hw.dead, hw.plan, hw.calls, hw.ok, hw.loose, hw.sl, hw.nS, hw.mrk, hw.sm, hw.mkp, hw.mz⟩, hA⟩, h1.lo, h1.bare⟩,
    ⟨h2.pool.same (fun b x => k b fun e => h.nr (.inl (e ▸ x))) hs, h2.dp, h2.lp, h2.off, h2.lo⟩, (k _ (by omega)).trans h.bx, h.br.set i v, h.nx, h.nr, h.st, h.mem⟩

end

theorem shOf_put (P : PG) (x : SheetV) : shOf (putP P x) x.num = x := by
  show (match (setFr P.F x.num ⟨x, _⟩) x.num with | some f => f.sh | none => bareV x.num) = x
  unfold setFr
  rw [if_pos rfl]

theorem ofG_put (P : PG) (x : SheetV) : ofG (putP P x) x.num = putP P x := by
  have : (putP P x).F x.num = some ⟨x, sinceF (oldS P x.num) x.lsn⟩ := by
    show setFr P.F x.num ⟨x, _⟩ x.num = _
    unfold setFr
    rw [if_pos rfl]
  unfold ofG
  rw [this]

theorem sameB_self (x : SheetV) : sameB x x = true := by unfold sameB; exact decide_eq_true ⟨rfl, rfl, rfl, rfl⟩

end Go.Proofs.YtgkfdakieebnmaaGreat

namespace Go.Proofs.YtgkfdakieebnmaaGreat
open Go.ChangeShapes Go.WideShapes Go.ChangeAt Go.RowKit
set_option linter.unusedVariables false

theorem cellsSheet : Tryz.prog.cellsOf 52 = 5 := by kernel_rfl
theorem cellsPage : Tryz.prog.cellsOf 49 = 1 := by kernel_rfl
theorem cellsLSN : Tryz.prog.cellsOf 41 = 1 := by kernel_rfl
theorem cellsInt : Tryz.prog.cellsOf 3 = 1 := by kernel_rfl
theorem cellsString : Tryz.prog.cellsOf 9 = 1 := by kernel_rfl
theorem cellsStrings : Tryz.prog.cellsOf 50 = 1 := by kernel_rfl
theorem bytesString : Tryz.prog.bytesOf 9 = 16 := by kernel_rfl

theorem trod_struct5 {H : Type} {enc : TypeId × Value → H} {P : Program} {w : World} {base : Nat} {spare : Nat → Bool} {held : Bool} {t : TypeId} {f0 f1 f2 f3 f4 : Field} {fuel : Nat} {cs : List Value} {x : DataW H × List MemPlace} (ht : P.underlying t = some (.struct #[f0, f1, f2, f3, f4])) (h : DataW.trod enc P w base spare held fuel t cs = some x) :
    ∃ y0 y1 y2 y3 y4 n, x = (.agg [y0.1, y1.1, y2.1, y3.1, y4.1], y0.2 ++ (y1.2 ++ (y2.2 ++ (y3.2 ++ y4.2)))) ∧ cs.length = P.cellsOf t ∧ DataW.trod enc P w base spare held n f0.type ((cs.drop f0.offset).take (P.cellsOf f0.type)) = some y0 ∧
      DataW.trod enc P w base spare held n f1.type ((cs.drop f1.offset).take (P.cellsOf f1.type)) = some y1 ∧ DataW.trod enc P w base spare held n f2.type ((cs.drop f2.offset).take (P.cellsOf f2.type)) = some y2 ∧
      DataW.trod enc P w base spare held n f3.type ((cs.drop f3.offset).take (P.cellsOf f3.type)) = some y3 ∧ DataW.trod enc P w base spare held n f4.type ((cs.drop f4.offset).take (P.cellsOf f4.type)) = some y4 := by
  obtain ⟨xs, n, _, rfl, hl, hlen, hf⟩ := DataW.trod_struct ht h
  match xs, hlen with
  | [y0, y1, y2, y3, y4], _ => exact ⟨y0, y1, y2, y3, y4, n, by simp, hl, by simpa using hf 0 f0 rfl, by simpa using hf 1 f1 rfl, by simpa using hf 2 f2 rfl, by simpa using hf 3 f3 rfl, by simpa using hf 4 f4 rfl⟩

theorem weights_strs {H : Type} (ss : List ByteArray) {s : ByteArray} (hs : s ∈ ss) : s.size ∈ DataW.weightsAll (H := H) Tryz.prog 9 (strs ss) := by
  induction ss with
  | nil => cases hs
  | cons x ss ih =>
    simp only [strs, List.map_cons, DataW.weightsAll, List.mem_append]
    rcases List.mem_cons.1 hs with rfl | hs
    · left; simp [DataW.weights]
    · right; exact ih hs

theorem bounds_u32 {n : Int} (h : Lit.wf (.int .u32 n) = true) : 0 ≤ n ∧ n ≤ 4294967295 := by
  have e1 : IntKind.u32.min = 0 := by decide
  have e2 : IntKind.u32.max = 4294967295 := by decide
  simpa [Lit.wf, e1, e2] using h
theorem bounds_u64' {n : Int} (h : Lit.wf (.int .u64 n) = true) : 0 ≤ n ∧ n ≤ 18446744073709551615 := by
  have e1 : IntKind.u64.min = 0 := by decide
  have e2 : IntKind.u64.max = 18446744073709551615 := by decide
  simpa [Lit.wf, e1, e2] using h
theorem bounds_i64' {n : Int} (h : Lit.wf (.int .i64 n) = true) : -9223372036854775808 ≤ n ∧ n ≤ 9223372036854775807 := by
  have e1 : IntKind.i64.min = -9223372036854775808 := by decide
  have e2 : IntKind.i64.max = 9223372036854775807 := by decide
  simpa [Lit.wf, e1, e2] using h

set_option maxHeartbeats 800000 in
set_option maxRecDepth 100000 in
theorem open_sheet {H : Type} {enc : TypeId × Value → H} {w : World} {base b0 : Nat} {r : Reach} {spare : Nat → Bool} {held : Bool} {v : Value} {d : DataW H} {pl : List MemPlace}
    (hv : Value.okWide Tryz.prog w r b0 52 v) (h : DataW.Trod enc Tryz.prog w base spare held 52 v d pl) (hw : ∀ n ∈ d.weights Tryz.prog 52, n ≤ reachBytes) :
    ∃ (p : SheetV) (a : Option Addr) (c : Nat), v = p.val a c ∧ p.Ok w a := by
  obtain ⟨fuel, hf⟩ := h
  obtain ⟨cs, rfl, hsz⟩ := okWide_struct Tryz.underlying52 hv
  rw [cellsSheet] at hsz
  obtain ⟨l⟩ := cs
  obtain ⟨v0, v1, v2, v3, v4, rfl⟩ : ∃ v0 v1 v2 v3 v4, l = [v0, v1, v2, v3, v4] := by
    match l, hsz with
    | [v0, v1, v2, v3, v4], _ => exact ⟨_, _, _, _, _, rfl⟩
  simp only [Value.cells] at hf
  obtain ⟨y0, y1, y2, y3, y4, n, hx, _, g0, g1, g2, g3, g4⟩ := trod_struct5 Tryz.underlying52 hf
  simp only [cellsPage, cellsLSN, cellsInt, cellsString, cellsStrings] at g0 g1 g2 g3 g4
  obtain ⟨x0, e0, rfl, w0⟩ := DataW.trod_int Tryz.underlying49 g0
  obtain ⟨x1, e1, rfl, w1⟩ := DataW.trod_int Tryz.underlying41 g1
  obtain ⟨x2, e2, rfl, w2⟩ := DataW.trod_int Tryz.underlying3 g2
  obtain ⟨x3, e3, rfl, w3⟩ := DataW.trod_string Tryz.underlying9 g3
  simp at e0 e1 e2 e3
  subst e0 e1 e2 e3
  obtain ⟨k0, k1⟩ := bounds_u32 w0
  obtain ⟨k2, k3⟩ := bounds_u64' w1
  obtain ⟨n0, rfl⟩ := Int.eq_ofNat_of_zero_le k0
  obtain ⟨n1, rfl⟩ := Int.eq_ofNat_of_zero_le k2
  have k4 := bounds_i64' w2
  simp only [Prod.mk.injEq] at hx
  obtain ⟨rfl, _⟩ := hx
  have hw3 : x3.data.toList.length ≤ reachBytes := hw _ (by simp [DataW.weights, Tryz.underlying52, DataW.weightsEach])
  have hw3' : x3.size ≤ 140737488351232 := by simpa [reachBytes] using hw3
  rcases Go.ChangeShapes.open_strings Tryz.underlying50 Tryz.underlying9 cellsString g4 with ⟨hcs, rfl⟩ | ⟨a', len', cap', ss, hcs, _, hl, hm, hss, rfl, hc, hz⟩
  · simp at hcs
    subst hcs
    exact ⟨⟨n0, n1, x2, x3, []⟩, none, 0, rfl, ⟨by show n0 < _; omega, by show n1 < _; omega, k4, hw3', by simp, by simp, .inl rfl⟩⟩
  · simp at hcs
    subst hcs
    have hlm : len' ≤ ss.length := by rw [hss]; split <;> omega
    have hmem : ∀ s ∈ ss.take len', s.size ≤ 140737488351232 := fun s hs => by
      have := hw s.size (by
        simp only [DataW.weights, Tryz.underlying52, DataW.weightsEach, Tryz.underlying50, List.map_cons, List.map_nil, List.mem_append, List.mem_cons]
        simp [weights_strs _ hs])
      simpa [reachBytes] using this
    have hlen : len' * 16 ≤ 140737488351232 := by
      have := hw ((strs (H := H) (ss.take len')).length + (strs (H := H) (ss.drop len')).length |> (· * 16)) (by
        simp [DataW.weights, Tryz.underlying52, DataW.weightsEach, Tryz.underlying50, bytesString])
      have e : (strs (H := H) (ss.take len')).length = len' := by simp [strs]; omega
      rw [e] at this
      have : (len' + (strs (H := H) (ss.drop len')).length) * 16 ≤ 140737488351232 := by simpa [reachBytes] using this
      omega
    have htl : (ss.take len').length = len' := by simp; omega
    refine ⟨⟨n0, n1, x2, x3, ss.take len'⟩, some a', cap', by simp [SheetV.val, htl], ⟨by show n0 < _; omega, by show n1 < _; omega, k4, hw3', by show (ss.take len').length ≤ _; omega, hmem, ?_⟩⟩
    by_cases h0 : len' = 0
    · left; simp [h0]
    · right
      have hc0 := hc 0 (by omega)
      obtain ⟨b, o, sp⟩ := a'
      cases sp with
      | some z => simp [Addr.add, World.cell?] at hc0; split at hc0 <;> simp_all
      | none =>
        refine ⟨b, o, rfl, World.block_lt_of_cell? w _ hc0, fun i hi => ?_⟩
        have hi' : i < len' := by simpa [htl] using hi
        have := hc i (by omega)
        rw [Addr.add_lit] at this
        rw [this, List.getD_eq_getElem?_getD, List.getElem?_eq_getElem (by omega)]
        simp

end Go.Proofs.YtgkfdakieebnmaaGreat

namespace Go.Proofs.YtgkfdakieebnmaaGreat
open Go.ChangeShapes Go.WideShapes Go.ChangeAt Go.RowKit Go.Deep
set_option linter.unusedVariables false

theorem cellsRec : Tryz.prog.cellsOf 64 = 17 := by kernel_rfl
theorem cellsOp' : Tryz.prog.cellsOf 58 = 4 := by kernel_rfl
theorem cellsEntry : Tryz.prog.cellsOf 62 = 3 := by kernel_rfl
theorem cellsRID : Tryz.prog.cellsOf 60 = 2 := by kernel_rfl
theorem cellsBool : Tryz.prog.cellsOf 4 = 1 := by kernel_rfl
theorem cellsTxs : Tryz.prog.cellsOf 39 = 1 := by kernel_rfl
theorem cellsDis : Tryz.prog.cellsOf 40 = 1 := by kernel_rfl
theorem cellsTx : Tryz.prog.cellsOf 161 = 4 := by kernel_rfl
theorem cellsDi : Tryz.prog.cellsOf 166 = 2 := by kernel_rfl
theorem bytesTx : Tryz.prog.bytesOf 161 = 32 := by kernel_rfl
theorem bytesDi : Tryz.prog.bytesOf 166 = 16 := by kernel_rfl

theorem rcellsInt : Tryz.prog.cellsOf 3 = 1 := by kernel_rfl
theorem rcellsLSN : Tryz.prog.cellsOf 41 = 1 := by kernel_rfl
theorem rcellsPage : Tryz.prog.cellsOf 49 = 1 := by kernel_rfl
theorem rcellsString : Tryz.prog.cellsOf 9 = 1 := by kernel_rfl

theorem radd_off (b o i : Nat) : (⟨b, o, none⟩ : Addr).add i = ⟨b, o + i, none⟩ := by
  by_cases h0 : i = 0
  · subst h0; simp [Addr.add]
  · simp [Addr.add, h0]

theorem rlist4 {α : Type} {cs : List α} (h : cs.length = 4) : ∃ c0 c1 c2 c3, cs = [c0, c1, c2, c3] := by
  match cs, h with
  | [c0, c1, c2, c3], _ => exact ⟨c0, c1, c2, c3, rfl⟩
theorem rlist2 {α : Type} {cs : List α} (h : cs.length = 2) : ∃ c0 c1, cs = [c0, c1] := by
  match cs, h with
  | [c0, c1], _ => exact ⟨c0, c1, rfl⟩

theorem open_tx {H : Type} {enc : TypeId × Value → H} {w : World} {base : Nat} {spare : Nat → Bool} {held : Bool} {fuel i b o : Nat} {cs : List Value} {D : DataW H} {Pl : List MemPlace}
    (h1 : w.cells? base ((⟨b, o, none⟩ : Addr).add (i * 4)) 4 = some cs) (h2 : DataW.trod enc Tryz.prog w base spare held fuel 161 cs = some (D, Pl)) :
    ∃ v : TxV, b < w.heap.size ∧ TxAt w b (o + i * 4) v ∧ v.2.2.1 < 18446744073709551616 ∧ v.2.2.2 < 18446744073709551616 := by
  obtain ⟨_, hlen, hcell⟩ := World.cells?_some h1
  obtain ⟨y0, y1, y2, y3, n, hx, _, g0, g1, g2, g3⟩ := Joins.trod_struct4 Tryz.underlying161 h2
  obtain ⟨v0, v1, v2, v3, rfl⟩ := rlist4 hlen
  simp only [rcellsInt, rcellsLSN] at g0 g1 g2 g3
  obtain ⟨a0, e0, rfl, w0⟩ := DataW.trod_int Tryz.underlying3 g0
  obtain ⟨a1, e1, rfl, w1⟩ := DataW.trod_int Tryz.underlying3 g1
  obtain ⟨a2, e2, rfl, w2⟩ := DataW.trod_int Tryz.underlying41 g2
  obtain ⟨a3, e3, rfl, w3⟩ := DataW.trod_int Tryz.underlying41 g3
  simp at e0 e1 e2 e3
  subst e0 e1 e2 e3
  obtain ⟨l2, u2⟩ := bounds_u64' w2
  obtain ⟨l3, u3⟩ := bounds_u64' w3
  obtain ⟨n2, rfl⟩ := Int.eq_ofNat_of_zero_le l2
  obtain ⟨n3, rfl⟩ := Int.eq_ofNat_of_zero_le l3
  have k0 := hcell 0 (by omega)
  have k1 := hcell 1 (by omega)
  have k2 := hcell 2 (by omega)
  have k3 := hcell 3 (by omega)
  simp only [radd_off, List.getElem?_cons_zero, List.getElem?_cons_succ] at k0 k1 k2 k3
  exact ⟨(a0, a1, n2, n3), World.block_lt_of_cell? _ _ k0, ⟨k0, k1, k2, k3⟩, by show n2 < _; omega, by show n3 < _; omega⟩

theorem open_di {H : Type} {enc : TypeId × Value → H} {w : World} {base : Nat} {spare : Nat → Bool} {held : Bool} {fuel i b o : Nat} {cs : List Value} {D : DataW H} {Pl : List MemPlace}
    (h1 : w.cells? base ((⟨b, o, none⟩ : Addr).add (i * 2)) 2 = some cs) (h2 : DataW.trod enc Tryz.prog w base spare held fuel 166 cs = some (D, Pl)) :
    ∃ v : DiV, b < w.heap.size ∧ DiAt w b (o + i * 2) v ∧ v.1 < 4294967296 ∧ v.2 < 18446744073709551616 := by
  obtain ⟨_, hlen, hcell⟩ := World.cells?_some h1
  obtain ⟨y0, y1, n, hx, _, g0, g1⟩ := Go.ChangeShapes.trod_struct2 Tryz.underlying166 h2
  obtain ⟨v0, v1, rfl⟩ := rlist2 hlen
  simp only [rcellsPage, rcellsLSN] at g0 g1
  obtain ⟨a0, e0, rfl, w0⟩ := DataW.trod_int Tryz.underlying49 g0
  obtain ⟨a1, e1, rfl, w1⟩ := DataW.trod_int Tryz.underlying41 g1
  simp at e0 e1
  subst e0 e1
  obtain ⟨l0, u0⟩ := bounds_u32 w0
  obtain ⟨l1, u1⟩ := bounds_u64' w1
  obtain ⟨n0, rfl⟩ := Int.eq_ofNat_of_zero_le l0
  obtain ⟨n1, rfl⟩ := Int.eq_ofNat_of_zero_le l1
  have k0 := hcell 0 (by omega)
  have k1 := hcell 1 (by omega)
  simp only [radd_off, List.getElem?_cons_zero, List.getElem?_cons_succ] at k0 k1
  exact ⟨(n0, n1), World.block_lt_of_cell? _ _ k0, ⟨k0, k1⟩, by show n0 < _; omega, by show n1 < _; omega⟩

theorem open_txs {H : Type} {enc : TypeId × Value → H} {w : World} {base fuel : Nat} {spare : Nat → Bool} {held : Bool} {v : Value} {x : DataW H × List MemPlace}
    (hf : DataW.trod enc Tryz.prog w base spare held fuel 39 [v] = some x) (hw : ∀ n ∈ x.1.weights Tryz.prog 39, n ≤ reachBytes) :
    ∃ (a : Option Addr) (L : List TxV) (c : Nat), v = .slice a L.length c ∧ TxsAt w a L ∧ L.length * 32 ≤ 140737488351232 ∧ ∀ i (hi : i < L.length), L[i].2.2.1 < 18446744073709551616 ∧ L[i].2.2.2 < 18446744073709551616 := by
  rcases open_slice Tryz.underlying39 hf with ⟨hcs, hx⟩ | ⟨a', len, cap, m, n, D, Pl, hcs, _, hl, hm, hmm, hx, hel⟩
  · simp at hcs
    subst hcs
    exact ⟨none, [], 0, rfl, .inl rfl, by simp, fun i hi => absurd hi (Nat.not_lt_zero _)⟩
  · simp at hcs
    subst hcs
    have hlm : len ≤ m := by rw [hmm]; split <;> omega
    rw [cellsTx] at hel
    have hlen : len * 32 ≤ 140737488351232 := by
      subst hx
      have := hw ((((List.range len).map D).length + ((List.range (m - len)).map fun j => D (len + j)).length) * 32) (by
        simp only [DataW.weights, Tryz.underlying39, bytesTx]
        simp)
      simp only [List.length_map, List.length_range] at this
      have : (len + (m - len)) * 32 ≤ 140737488351232 := by simpa [reachBytes] using this
      omega
    by_cases h0 : len = 0
    · subst h0
      exact ⟨some a', [], cap, rfl, .inl rfl, by simp, fun i hi => absurd hi (Nat.not_lt_zero _)⟩
    · obtain ⟨cs0, q0, _⟩ := hel 0 (by omega)
      obtain ⟨_, hlen0, hc0⟩ := World.cells?_some q0
      have hc00 := hc0 0 (by omega)
      obtain ⟨v0, v1, v2, v3, rfl⟩ := rlist4 hlen0
      have hsp : a'.spot = none := World.cell?_spot (show w.cell? a' = some v0 by simpa [Addr.add] using hc00)
      obtain ⟨b, o, sp⟩ := a'
      simp only at hsp
      subst hsp
      obtain ⟨A, hA⟩ := @choose_lt TxV ⟨(0, 0, 0, 0)⟩ len (fun i v => b < w.heap.size ∧ TxAt w b (o + i * 4) v ∧ v.2.2.1 < 18446744073709551616 ∧ v.2.2.2 < 18446744073709551616) (fun i hi => by
        obtain ⟨cs, q1, q2⟩ := hel i (by omega)
        exact open_tx q1 q2)
      refine ⟨some ⟨b, o, none⟩, (List.range len).map A, cap, by simp, .inr ⟨b, o, rfl, (hA 0 (by omega)).1, fun i hi => ?_⟩, by simpa using hlen, fun i hi => ?_⟩
      · have hi' : i < len := by simpa using hi
        have := (hA i hi').2.1
        simpa using this
      · have hi' : i < len := by simpa using hi
        have := (hA i hi').2.2
        simpa using this

theorem open_dis {H : Type} {enc : TypeId × Value → H} {w : World} {base fuel : Nat} {spare : Nat → Bool} {held : Bool} {v : Value} {x : DataW H × List MemPlace}
    (hf : DataW.trod enc Tryz.prog w base spare held fuel 40 [v] = some x) (hw : ∀ n ∈ x.1.weights Tryz.prog 40, n ≤ reachBytes) :
    ∃ (a : Option Addr) (L : List DiV) (c : Nat), v = .slice a L.length c ∧ DisAt w a L ∧ L.length * 16 ≤ 140737488351232 ∧ ∀ i (hi : i < L.length), L[i].1 < 4294967296 ∧ L[i].2 < 18446744073709551616 := by
  rcases open_slice Tryz.underlying40 hf with ⟨hcs, hx⟩ | ⟨a', len, cap, m, n, D, Pl, hcs, _, hl, hm, hmm, hx, hel⟩
  · simp at hcs
    subst hcs
    exact ⟨none, [], 0, rfl, .inl rfl, by simp, fun i hi => absurd hi (Nat.not_lt_zero _)⟩
  · simp at hcs
    subst hcs
    have hlm : len ≤ m := by rw [hmm]; split <;> omega
    rw [cellsDi] at hel
    have hlen : len * 16 ≤ 140737488351232 := by
      subst hx
      have := hw ((((List.range len).map D).length + ((List.range (m - len)).map fun j => D (len + j)).length) * 16) (by
        simp only [DataW.weights, Tryz.underlying40, bytesDi]
        simp)
      simp only [List.length_map, List.length_range] at this
      have : (len + (m - len)) * 16 ≤ 140737488351232 := by simpa [reachBytes] using this
      omega
    by_cases h0 : len = 0
    · subst h0
      exact ⟨some a', [], cap, rfl, .inl rfl, by simp, fun i hi => absurd hi (Nat.not_lt_zero _)⟩
    · obtain ⟨cs0, q0, _⟩ := hel 0 (by omega)
      obtain ⟨_, hlen0, hc0⟩ := World.cells?_some q0
      have hc00 := hc0 0 (by omega)
      obtain ⟨v0, v1, rfl⟩ := rlist2 hlen0
      have hsp : a'.spot = none := World.cell?_spot (show w.cell? a' = some v0 by simpa [Addr.add] using hc00)
      obtain ⟨b, o, sp⟩ := a'
      simp only at hsp
      subst hsp
      obtain ⟨A, hA⟩ := @choose_lt DiV ⟨(0, 0)⟩ len (fun i v => b < w.heap.size ∧ DiAt w b (o + i * 2) v ∧ v.1 < 4294967296 ∧ v.2 < 18446744073709551616) (fun i hi => by
        obtain ⟨cs, q1, q2⟩ := hel i (by omega)
        exact open_di q1 q2)
      refine ⟨some ⟨b, o, none⟩, (List.range len).map A, cap, by simp, .inr ⟨b, o, rfl, (hA 0 (by omega)).1, fun i hi => ?_⟩, by simpa using hlen, fun i hi => ?_⟩
      · have hi' : i < len := by simpa using hi
        have := (hA i hi').2.1
        simpa using this
      · have hi' : i < len := by simpa using hi
        have := (hA i hi').2.2
        simpa using this

end Go.Proofs.YtgkfdakieebnmaaGreat

namespace Go.Proofs.YtgkfdakieebnmaaGreat
open Go.ChangeShapes Go.WideShapes Go.ChangeAt Go.RowKit Go.Deep
set_option linter.unusedVariables false

theorem trod_struct12 {H : Type} {enc : TypeId × Value → H} {P : Program} {w : World} {base : Nat} {spare : Nat → Bool} {held : Bool} {t : TypeId} {f0 f1 f2 f3 f4 f5 f6 f7 f8 f9 f10 f11 : Field} {fuel : Nat} {cs : List Value} {x : DataW H × List MemPlace}
    (ht : P.underlying t = some (.struct #[f0, f1, f2, f3, f4, f5, f6, f7, f8, f9, f10, f11])) (h : DataW.trod enc P w base spare held fuel t cs = some x) :
    ∃ y0 y1 y2 y3 y4 y5 y6 y7 y8 y9 y10 y11 n, x.1 = .agg [y0.1, y1.1, y2.1, y3.1, y4.1, y5.1, y6.1, y7.1, y8.1, y9.1, y10.1, y11.1] ∧
      DataW.trod enc P w base spare held n f0.type ((cs.drop f0.offset).take (P.cellsOf f0.type)) = some y0 ∧ DataW.trod enc P w base spare held n f1.type ((cs.drop f1.offset).take (P.cellsOf f1.type)) = some y1 ∧
      DataW.trod enc P w base spare held n f2.type ((cs.drop f2.offset).take (P.cellsOf f2.type)) = some y2 ∧ DataW.trod enc P w base spare held n f3.type ((cs.drop f3.offset).take (P.cellsOf f3.type)) = some y3 ∧
      DataW.trod enc P w base spare held n f4.type ((cs.drop f4.offset).take (P.cellsOf f4.type)) = some y4 ∧ DataW.trod enc P w base spare held n f5.type ((cs.drop f5.offset).take (P.cellsOf f5.type)) = some y5 ∧
      DataW.trod enc P w base spare held n f6.type ((cs.drop f6.offset).take (P.cellsOf f6.type)) = some y6 ∧ DataW.trod enc P w base spare held n f7.type ((cs.drop f7.offset).take (P.cellsOf f7.type)) = some y7 ∧
      DataW.trod enc P w base spare held n f8.type ((cs.drop f8.offset).take (P.cellsOf f8.type)) = some y8 ∧ DataW.trod enc P w base spare held n f9.type ((cs.drop f9.offset).take (P.cellsOf f9.type)) = some y9 ∧
      DataW.trod enc P w base spare held n f10.type ((cs.drop f10.offset).take (P.cellsOf f10.type)) = some y10 ∧ DataW.trod enc P w base spare held n f11.type ((cs.drop f11.offset).take (P.cellsOf f11.type)) = some y11 := by
  obtain ⟨xs, n, _, rfl, hl, hlen, hf⟩ := DataW.trod_struct ht h
  match xs, hlen with
  | [y0, y1, y2, y3, y4, y5, y6, y7, y8, y9, y10, y11], _ => exact ⟨y0, y1, y2, y3, y4, y5, y6, y7, y8, y9, y10, y11, n, by simp, by simpa using hf 0 f0 rfl, by simpa using hf 1 f1 rfl, by simpa using hf 2 f2 rfl, by simpa using hf 3 f3 rfl, by simpa using hf 4 f4 rfl, by simpa using hf 5 f5 rfl, by simpa using hf 6 f6 rfl, by simpa using hf 7 f7 rfl, by simpa using hf 8 f8 rfl, by simpa using hf 9 f9 rfl, by simpa using hf 10 f10 rfl, by simpa using hf 11 f11 rfl⟩

set_option maxHeartbeats 800000 in
set_option maxRecDepth 100000 in
theorem open_recW {H : Type} {enc : TypeId × Value → H} {w : World} {base b0 : Nat} {r : Reach} {spare : Nat → Bool} {held : Bool} {v : Value} {d : DataW H} {pl : List MemPlace}
    (hv : Value.okWide Tryz.prog w r b0 64 v) (h : DataW.Trod enc Tryz.prog w base spare held 64 v d pl) (hw : ∀ n ∈ d.weights Tryz.prog 64, n ≤ reachBytes) :
    ∃ (p : RecV) (ta da : Option Addr) (tc dc : Nat), v = .agg (p.cells ta da tc dc) ∧ p.Ok w ta da ∧ (∀ i (hi : i < p.txs.length), p.txs[i].2.2.1 < 18446744073709551616 ∧ p.txs[i].2.2.2 < 18446744073709551616) ∧ (∀ i (hi : i < p.dirty.length), p.dirty[i].1 < 4294967296 ∧ p.dirty[i].2 < 18446744073709551616) := by
  obtain ⟨fuel, hf⟩ := h
  obtain ⟨cs, rfl, hsz⟩ := okWide_struct Tryz.underlying64 hv
  rw [cellsRec] at hsz
  obtain ⟨l⟩ := cs
  obtain ⟨v0, v1, v2, v3, v4, v5, v6, v7, v8, v9, v10, v11, v12, v13, v14, v15, v16, rfl⟩ : ∃ v0 v1 v2 v3 v4 v5 v6 v7 v8 v9 v10 v11 v12 v13 v14 v15 v16, l = [v0, v1, v2, v3, v4, v5, v6, v7, v8, v9, v10, v11, v12, v13, v14, v15, v16] := by
    match l, hsz with
    | [v0, v1, v2, v3, v4, v5, v6, v7, v8, v9, v10, v11, v12, v13, v14, v15, v16], _ => exact ⟨_, _, _, _, _, _, _, _, _, _, _, _, _, _, _, _, _, rfl⟩
  simp only [Value.cells] at hf
  obtain ⟨y0, y1, y2, y3, y4, y5, y6, y7, y8, y9, y10, y11, n, hx, g0, g1, g2, g3, g4, g5, g6, g7, g8, g9, g10, g11⟩ := trod_struct12 Tryz.underlying64 hf
  simp only [rcellsInt, rcellsLSN, rcellsPage, cellsOp', cellsEntry, cellsBool, cellsTxs, cellsDis] at g0 g1 g2 g3 g4 g5 g6 g7 g8 g9 g10 g11
  obtain ⟨x0, e0, rfl, w0⟩ := DataW.trod_int Tryz.underlying3 g0
  obtain ⟨x1, e1, rfl, w1⟩ := DataW.trod_int Tryz.underlying3 g1
  obtain ⟨x2, e2, rfl, w2⟩ := DataW.trod_int Tryz.underlying41 g2
  obtain ⟨x3, e3, rfl, w3⟩ := DataW.trod_int Tryz.underlying41 g3
  obtain ⟨x4, e4, rfl, w4⟩ := DataW.trod_int Tryz.underlying49 g4
  obtain ⟨x6, e6, rfl, w6⟩ := DataW.trod_int Tryz.underlying3 g6
  obtain ⟨x7, e7, rfl, w7⟩ := DataW.trod_int Tryz.underlying3 g7
  obtain ⟨x9, e9, rfl⟩ := DataW.trod_bool Tryz.underlying4 g9
  obtain ⟨z0, z1, z2, z3, n5, hx5, _, o0, o1, o2, o3⟩ := Joins.trod_struct4 Tryz.underlying58 g5
  simp only [rcellsInt, rcellsString] at o0 o1 o2 o3
  obtain ⟨q0, f0, rfl, u0⟩ := DataW.trod_int Tryz.underlying3 o0
  obtain ⟨q1, f1, rfl, u1⟩ := DataW.trod_int Tryz.underlying3 o1
  obtain ⟨q2, f2, rfl, u2⟩ := DataW.trod_string Tryz.underlying9 o2
  obtain ⟨q3, f3, rfl, u3⟩ := DataW.trod_string Tryz.underlying9 o3
  obtain ⟨s0, s1, n8, hx8, _, p0, p1⟩ := Go.ChangeShapes.trod_struct2 Tryz.underlying62 g8
  simp only [rcellsString, cellsRID] at p0 p1
  obtain ⟨t0, h0, rfl, m0⟩ := DataW.trod_string Tryz.underlying9 p0
  obtain ⟨s2, s3, n9, hx9, _, p2, p3⟩ := Go.ChangeShapes.trod_struct2 Tryz.underlying60 p1
  simp only [rcellsPage, rcellsInt] at p2 p3
  obtain ⟨t1, h1, rfl, m1⟩ := DataW.trod_int Tryz.underlying49 p2
  obtain ⟨t2, h2, rfl, m2⟩ := DataW.trod_int Tryz.underlying3 p3
  simp at e0 e1 e2 e3 e4 e6 e7 e9 f0 f1 f2 f3 h0 h1 h2
  subst e0 e1 e2 e3 e4 e6 e7 e9 f0 f1 f2 f3 h0 h1 h2
  simp only at hx
  subst hx
  simp at g10 g11
  obtain ⟨ta, L, tc, rfl, hT, hTl, hTw⟩ := open_txs g10 (fun n hn => hw n (by simp [DataW.weights, Tryz.underlying64, DataW.weightsEach, hn]))
  obtain ⟨da, M, dc, rfl, hD, hDl, hDw⟩ := open_dis g11 (fun n hn => hw n (by simp [DataW.weights, Tryz.underlying64, DataW.weightsEach, hn]))
  have hS : q2.size ≤ 140737488351232 := by
    have := hw q2.data.toList.length (by rw [hx5]; simp [DataW.weights, Tryz.underlying64, Tryz.underlying58, DataW.weightsEach])
    simpa [reachBytes] using this
  have hO : q3.size ≤ 140737488351232 := by
    have := hw q3.data.toList.length (by rw [hx5]; simp [DataW.weights, Tryz.underlying64, Tryz.underlying58, DataW.weightsEach])
    simpa [reachBytes] using this
  have hK : t0.size ≤ 140737488351232 := by
    have := hw t0.data.toList.length (by rw [hx8]; simp [DataW.weights, Tryz.underlying64, Tryz.underlying62, DataW.weightsEach])
    simpa [reachBytes] using this
  obtain ⟨k2, k2'⟩ := bounds_u64' w2
  obtain ⟨k3, k3'⟩ := bounds_u64' w3
  obtain ⟨k4, k4'⟩ := bounds_u32 w4
  obtain ⟨k5, k5'⟩ := bounds_u32 m1
  obtain ⟨n2, rfl⟩ := Int.eq_ofNat_of_zero_le k2
  obtain ⟨n3, rfl⟩ := Int.eq_ofNat_of_zero_le k3
  obtain ⟨n4, rfl⟩ := Int.eq_ofNat_of_zero_le k4
  obtain ⟨n6, rfl⟩ := Int.eq_ofNat_of_zero_le k5
  exact ⟨⟨x0, x1, n2, n3, n4, ⟨q0, q1, q2, q3⟩, x6, x7, t0, n6, t2, x9, L, M⟩, ta, da, tc, dc, rfl,
    ⟨bounds_i64' w0, bounds_i64' w1, by show n2 < _; omega, by show n3 < _; omega, by show n4 < _; omega, ⟨bounds_i64' u0, bounds_i64' u1, hS, hO⟩, bounds_i64' w6, bounds_i64' w7, hK, by show n6 < _; omega, bounds_i64' m2, hTl, hDl, hT, hD⟩, hTw, hDw⟩

end Go.Proofs.YtgkfdakieebnmaaGreat
