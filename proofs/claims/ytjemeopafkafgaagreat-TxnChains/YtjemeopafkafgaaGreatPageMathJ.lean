/-
  Plain mathematics: what Decode finds in the bytes that Encode makes.
  A page that fits may be handed in.
  The walk of page.Encode, of a page that fits.
  The walks of page.Same, girderref03.Same, girderlaw03.ref, girderlaw03.same, page.Kind, girderref03.Turned.
  Encode and Decode whole; girderlaw03.awake.
-/
import Derived.Test.YtjemeopafkafgaaGreatPageDecodeC
import Derived.Test.YtjemeopafkafgaaGreatCrcWalksJ
import Derived.Test.YtjemeopafkafgaaGreatProg
import Derived.Shelf.Slices.Equal
import Derived.Shelf.Slices.Empties2
import Derived.Lib.QuietBelow
namespace Go.Proofs.YtjemeopafkafgaaGreat
open Go.RowKit
set_option linter.unusedVariables false

theorem part_at {s : ByteArray} {pre mid post : List UInt8} (h : s.data.toList = pre ++ (mid ++ post)) {a n : Nat} (ha : a = pre.length) (hn : n = mid.length) : part s a n = mid := by
  subst ha hn; unfold part; rw [h]; simp

/-- A page that Encode takes. -/
structure SheetV.Fits (p : SheetV) : Prop where
  num : p.num < 4294967296
  lsn : p.lsn < 18446744073709551616
  kind0 : 0 ≤ p.kind
  kind1 : p.kind ≤ 255
  head : p.head.size ≤ 32
  len : p.slots.length ≤ 64
  fits : p.head.size + slotSum p.slots ≤ 485

section
variable (p : SheetV)

end

end Go.Proofs.YtjemeopafkafgaaGreat

namespace Go.Proofs.YtjemeopafkafgaaGreat
open Go.RowKit
set_option linter.unusedVariables false

theorem fits_slot {L : List ByteArray} {s : ByteArray} (h : s ∈ L) : s.size ≤ slotSum L := by
  induction L with
  | nil => cases h
  | cons x L ih =>
    simp only [slotSum]
    rcases List.mem_cons.1 h with rfl | h
    · omega
    · have := ih h; omega

theorem SheetV.Fits.ok {p : SheetV} (h : p.Fits) {w : World} {a : Option Addr} (hm : StrsAt w a p.slots) : p.Ok w a := by
  have h1 := h.kind0
  have h2 := h.kind1
  have h3 := h.head
  have h4 := h.len
  have h5 := h.fits
  exact ⟨h.num, h.lsn, by omega, by omega, by omega, fun s hs => by have := fits_slot hs; omega, hm⟩

end Go.Proofs.YtjemeopafkafgaaGreat

namespace Go.Proofs.YtjemeopafkafgaaGreat
open Go.RowKit
set_option linter.unusedVariables false

set_option maxHeartbeats 1600000 in
set_option maxRecDepth 60000 in
theorem encode_ok (p : SheetV) (a : Option Addr) (c : Nat) (w : World) (h : p.Ok w a) (k1 : 0 ≤ p.kind) (k2 : p.kind ≤ 255) (k3 : p.head.size ≤ 32) (k4 : p.slots.length ≤ 64) (hf : p.head.size + slotSum p.slots ≤ 485) :
    Calls Tryz.prog 89 #[p.val a c] w fun e w' => e = .returned (.tuple #[.string ⟨(encL p).toArray⟩, .int .i64 0]) ∧ Below w.heap.size w w' := by
  have hr := roomF_eq h k4
  have hmem := h.mem
  have hnum := h.num
  have hlsn := h.lsn
  have h' := h.below ((Below.refl w.heap.size w).alloc (Nat.le_refl _) (.cells #[.int .u32 p.num, .int .u64 p.lsn, .int .i64 p.kind, .string p.head, .slice a p.slots.length c] 100))
  have HR : Hid (∀ d, Calls Tryz.prog 134 #[p.val a d] (w.alloc (.cells #[.int .u32 p.num, .int .u64 p.lsn, .int .i64 p.kind, .string p.head, .slice a p.slots.length c] 100)) fun e w' => e = .returned (.int .i64 (485 - (p.head.size : Int) - (slotSum p.slots : Int))) ∧ Below (w.heap.size + 1) (w.alloc (.cells #[.int .u32 p.num, .int .u64 p.lsn, .int .i64 p.kind, .string p.head, .slice a p.slots.length c] 100)) w') := fun d => by
    have := h'.room d
    rw [hr] at this
    simpa using this
  have HE : Hid (encL p = putL (crcSum 0 (restL p)) 4 ++ restL p) := rfl
  have HRL : Hid (restL p = bodyL p ++ List.replicate (485 - p.head.size - slotSum p.slots) 0 ++ putL p.lsn 8) := rfl
  have HB : Hid (bodyL p = putL p.lsn 8 ++ putL p.num 4 ++ putL p.kind.toNat 1 ++ putL p.head.size 1 ++ p.head.data.toList ++ putL p.slots.length 1 ++ slotLens p.slots ++ slotBytes p.slots) := rfl
  have hrl := restL_length p hf
  have hsl := slot_lengths p.slots
  clear h' h hr
  generalize encL p = E at *
  generalize restL p = R at *
  generalize bodyL p = B at *
  obtain ⟨num, lsn, kind, head, L⟩ := p
  unfold SheetV.val at *
  simp only at *
  have hhl : head.data.toList.length = head.size := by simp
  obtain ⟨kn, rfl⟩ := Int.eq_ofNat_of_zero_le k1
  go_enter Tryz.func89, Tryz.ntmps89
  go_wp2_with fail
  refine (HR.out c).mono ?_
  rintro e w1 ⟨rfl, b1⟩
  have z1 : w.heap.size + 1 ≤ w1.heap.size := by have := b1.size; simpa using this
  go_wp2_with fail
  refine (new_writer w1).mono ?_
  rintro e w2 ⟨rfl, h2, b2⟩
  have g2 := b1.trans (b2.mono z1)
  clear b1 b2
  obtain ⟨d0, d1, d2, d3, d4⟩ := box5 g2
  go_wp2_with fail
  refine (wnumber_is h2 lsn 8 hlsn (by omega) (by simp)).mono ?_
  rintro e w3 ⟨rfl, ⟨a3, c3, h3⟩, b3⟩
  have g3 := g2.trans (b3.mono z1)
  clear h2 b3 d0 d1 d2 d3 d4
  obtain ⟨d0, d1, d2, d3, d4⟩ := box5 g3
  go_wp2_with fail
  refine (wnumber_is h3 num 4 (by omega) (by omega) (by simp [putL_length])).mono ?_
  rintro e w4 ⟨rfl, ⟨a4, c4, h4⟩, b4⟩
  have g4 := g3.trans (b4.mono z1)
  clear h3 b4 d0 d1 d2 d3 d4
  obtain ⟨d0, d1, d2, d3, d4⟩ := box5 g4
  go_wp2_with fail
  refine (wnumber_is h4 kn 1 (by omega) (by omega) (by simp [putL_length])).mono ?_
  rintro e w5 ⟨rfl, ⟨a5, c5, h5⟩, b5⟩
  have g5 := g4.trans (b5.mono z1)
  clear h4 b5 d0 d1 d2 d3 d4
  obtain ⟨d0, d1, d2, d3, d4⟩ := box5 g5
  go_wp2_with fail
  refine (wnumber_is h5 head.size 1 (by omega) (by omega) (by simp [putL_length])).mono ?_
  rintro e w6 ⟨rfl, ⟨a6, c6, h6⟩, b6⟩
  have g6 := g5.trans (b6.mono z1)
  clear h5 b6 d0 d1 d2 d3 d4
  obtain ⟨d0, d1, d2, d3, d4⟩ := box5 g6
  go_wp2_with fail
  refine (wbytes_any h6 head (by simp [putL_length]; omega)).mono ?_
  rintro e w7 ⟨rfl, ⟨a7, c7, h7⟩, b7⟩
  have g7 := g6.trans (b7.mono z1)
  clear h6 b7 d0 d1 d2 d3 d4
  obtain ⟨d0, d1, d2, d3, d4⟩ := box5 g7
  go_wp2_with fail
  refine (putSlots_any h7 a c L hmem (((Below.refl w.heap.size w).alloc (Nat.le_refl _) _).trans (g7.mono (by omega))) (by omega) (by simp [putL_length]; omega)).mono ?_
  rintro e w8 ⟨rfl, ⟨a8, c8, h8⟩, b8⟩
  have g8 := g7.trans (b8.mono z1)
  clear h7 b8 d0 d1 d2 d3 d4
  have hroom : (485 - (head.size : Int) - (slotSum L : Int)) = ((485 - head.size - slotSum L : Nat) : Int) := by omega
  obtain ⟨Z, HZe⟩ : ∃ Z : ByteArray, Hid (Z = ⟨(List.replicate (485 - head.size - slotSum L) 0).toArray⟩) := ⟨_, rfl⟩
  have hzs : Z.size ≤ 485 := by rw [HZe.out, bytes_size, List.length_replicate]; omega
  have hzd : Hid (Z.data.toList = List.replicate (485 - head.size - slotSum L) 0) := by show _ = _; rw [HZe.out]
  have HZ : Hid (∀ wx, Calls Tryz.prog 137 #[.string ⟨#[0]⟩, .int .i64 (485 - (head.size : Int) - (slotSum L : Int))] wx fun e w' => e = .returned (.string Z) ∧ Below wx.heap.size wx w') := fun wx => by
    rw [hroom, HZe.out]; exact zeros_made _ wx (by omega)
  clear hroom
  obtain ⟨d0, d1, d2, d3, d4⟩ := box5 g8
  go_wp2_with fail
  refine (HZ.out _).mono ?_
  rintro e w9 ⟨rfl, b9⟩
  have h9 := h8.below b9
  have z8 := h8.lt
  have g9 := g8.trans (b9.mono (by omega))
  clear h8 b9 d0 d1 d2 d3 d4
  obtain ⟨d0, d1, d2, d3, d4⟩ := box5 g9
  go_wp2_with fail
  refine (wbytes_any h9 Z (by simp [putL_length]; omega)).mono ?_
  rintro e w10 ⟨rfl, ⟨a10, c10, h10⟩, b10⟩
  have g10 := g9.trans (b10.mono z1)
  clear h9 b10 d0 d1 d2 d3 d4
  obtain ⟨d0, d1, d2, d3, d4⟩ := box5 g10
  go_wp2_with fail
  refine (wnumber_is h10 lsn 8 hlsn (by omega) (by simp [putL_length]; omega)).mono ?_
  rintro e w11 ⟨rfl, ⟨a11, c11, h11⟩, b11⟩
  have g11 := g10.trans (b11.mono z1)
  clear h10 b11 d0 d1 d2 d3 d4
  have h12 : IsWriter w11 w1.heap.size R a11 c11 := by rw [HRL.out, HB.out, ← hzd.out]; simpa using h11
  clear h11
  go_wp2_with fail
  refine (wall_any h12).mono ?_
  rintro e w12 ⟨rfl, rfl⟩
  have hs2 : (ByteArray.mk R.toArray).size = 508 := by rw [bytes_size]; exact hrl
  have hs1 : (ByteArray.mk (putL (crcSum 0 R) 4).toArray).size = 4 := by rw [bytes_size]; simp [putL_length]
  have HSUM : Hid (∀ wx, Calls Tryz.prog 139 #[.string ⟨R.toArray⟩] wx fun e w' => e = .returned (.int .u32 (crcSum 0 R)) ∧ w' = wx) := fun wx => by
    have := sum_any ⟨R.toArray⟩ wx (by rw [hs2]; unfold maxLen; omega)
    simpa using this
  have hcs : crcSum 0 R < 4294967296 := crcSum_lt _ _
  go_wp2_with fail
  refine (HSUM.out _).mono ?_
  rintro e w13 ⟨rfl, rfl⟩
  go_wp2_with fail
  refine (put_any (crcSum 0 R) 4 _ (by omega)).mono ?_
  rintro e w14 ⟨rfl, b14⟩
  rw [show longOf 4 = 4 from rfl]
  have z14 := h12.lt
  have g14 := g11.trans (b14.mono (by omega))
  go_wp2
  go_ret2
  refine ⟨?_, ((Below.refl _ _).alloc (Nat.le_refl _) _).trans (g14.mono (by omega))⟩
  rw [HE.out, ← bytes_add]; rfl

end Go.Proofs.YtjemeopafkafgaaGreat

namespace Go.Proofs.YtjemeopafkafgaaGreat
open Go.RowKit Go.Sort
set_option linter.unusedVariables false

theorem mixed : Tryz.prog.follows .mixedOrders = true := by kernel_rfl

end Go.Proofs.YtjemeopafkafgaaGreat

namespace Go.Proofs.YtjemeopafkafgaaGreat
open Go.RowKit Go.Sort
set_option linter.unusedVariables false

/-- The bytes of Encode. -/
def encS (p : SheetV) : ByteArray := if encE p = 0 then ⟨(encL p).toArray⟩ else ⟨#[]⟩

theorem encE_fits {p : SheetV} {w : World} {a : Option Addr} (h : p.Ok w a) : encE p = 0 ↔ p.Fits := by
  unfold encE
  constructor
  · intro e
    split at e
    · cases e
    · split at e
      · cases e
      · rename_i h1 h2
        exact ⟨h.num, h.lsn, by omega, by omega, by omega, by omega, by omega⟩
  · intro f
    have := f.kind0; have := f.kind1; have := f.head; have := f.len; have := f.fits
    rw [if_neg (by omega), if_neg (by omega)]

theorem encode_any (p : SheetV) (a : Option Addr) (c : Nat) (w : World) (h : p.Ok w a) :
    Calls Tryz.prog 89 #[p.val a c] w fun e w' => e = .returned (.tuple #[.string (encS p), .int .i64 (encE p)]) ∧ Below w.heap.size w w' := by
  by_cases h1 : p.kind < 0 ∨ 255 < p.kind ∨ 32 < p.head.size ∨ 64 < p.slots.length
  · have hE : encE p = 1 := by unfold encE; rw [if_pos h1]
    have hS : encS p = ⟨#[]⟩ := by unfold encS; rw [hE]; rfl
    rw [hE, hS]
    exact encode_arg p a c w h h1
  · by_cases h2 : 485 < p.head.size + slotSum p.slots
    · have hE : encE p = 30 := by unfold encE; rw [if_neg h1, if_pos h2]
      have hS : encS p = ⟨#[]⟩ := by unfold encS; rw [hE]; rfl
      rw [hE, hS]
      exact encode_full p a c w h (by omega) (by omega) (by omega) (by omega) h2
    · have hE : encE p = 0 := by unfold encE; rw [if_neg h1, if_neg h2]
      have hS : encS p = ⟨(encL p).toArray⟩ := by unfold encS; rw [if_pos hE]
      rw [hE, hS]
      exact encode_ok p a c w h (by omega) (by omega) (by omega) (by omega) (by omega)

end Go.Proofs.YtjemeopafkafgaaGreat
