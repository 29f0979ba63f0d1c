/-
  The laying of a contract of the library's shelf at this program's numbers (plain text by the library's own command).
-/
import Derived.Test.YtgkfdakieebnmaaGreatProg
import Derived.Shelf.Slices.Equal
import Derived.Test.YtgkfdakieebnmaaGreatPageDecodeJ
import Derived.Test.YtgkfdakieebnmaaGreatCrcWalksJ
import Derived.Shelf.Slices.Empties2
import Derived.Lib.QuietBelow
set_option linter.unusedVariables false
set_option linter.unusedSimpArgs false
namespace Go.Proofs.YtgkfdakieebnmaaGreat
open Go.Shelf

def equalLays_ren : Go.Shelf.Ren := ⟨fun | 193 => 47 | n => n, fun | 31 => 50 | 9 => 9 | 4 => 4 | 3 => 3 | 0 => 0 | n => n, fun | n => n⟩
theorem equalLays : Go.Proofs.Lays.n193 Tryz.prog equalLays_ren := {
  mixed := by kernel_rfl
  f193 := Tryz.func47.trans (congrArg some (by kernel_rfl))
  t0 := Tryz.underlying0
  a0 := Tryz.isAgg0
  z0 := Tryz.sizeOf0
  v0 := Tryz.zeroValue0
  t3 := Tryz.underlying3
  a3 := Tryz.isAgg3
  z3 := Tryz.sizeOf3
  v3 := Tryz.zeroValue3
  t4 := Tryz.underlying4
  a4 := Tryz.isAgg4
  z4 := Tryz.sizeOf4
  v4 := Tryz.zeroValue4
  t9 := Tryz.underlying9
  a9 := Tryz.isAgg9
  z9 := Tryz.sizeOf9
  v9 := Tryz.zeroValue9
  t31 := Tryz.underlying50
  a31 := Tryz.isAgg50
  z31 := Tryz.sizeOf50
  v31 := Tryz.zeroValue50 }

end Go.Proofs.YtgkfdakieebnmaaGreat

namespace Go.Proofs.YtgkfdakieebnmaaGreat
open Go.RowKit

theorem part_at {s : ByteArray} {pre mid post : List UInt8} (h : s.data.toList = pre ++ (mid ++ post)) {a n : Nat} (ha : a = pre.length) (hn : n = mid.length) : part s a n = mid := by
  subst ha hn; unfold part; rw [h]; simp

structure SheetV.Fits (p : SheetV) : Prop where
  num : p.num < 4294967296
  lsn : p.lsn < 18446744073709551616
  kind0 : 0 ≤ p.kind
  kind1 : p.kind ≤ 255
  head : p.head.size ≤ 32
  len : p.slots.length ≤ 64
  fits : p.head.size + slotSum p.slots ≤ 485

section
variable (p : SheetV)

def midL : List UInt8 := bodyL p ++ List.replicate (485 - p.head.size - slotSum p.slots) 0

end

end Go.Proofs.YtgkfdakieebnmaaGreat

namespace Go.Proofs.YtgkfdakieebnmaaGreat
open Go.RowKit

theorem fits_slot {L : List ByteArray} {s : ByteArray} (h : s ∈ L) : s.size ≤ slotSum L := by
  induction L with
  | nil => cases h
  | cons x L ih =>
    simp only [slotSum]
    rcases List.mem_cons.1 h with rfl | h
    · omega
    · have := ih h; omega

theorem SheetV.Fits.ok {p : SheetV} (h : p.Fits) {w : World} {a : Option Addr} (hm : StrsAt w a p.slots) : p.Ok w a := by
  have h1 := h.kind0
  have h2 := h.kind1
  have h3 := h.head
  have h4 := h.len
  have h5 := h.fits
  exact ⟨h.num, h.lsn, by omega, by omega, by omega, fun s hs => by have := fits_slot hs; omega, hm⟩

end Go.Proofs.YtgkfdakieebnmaaGreat

namespace Go.Proofs.YtgkfdakieebnmaaGreat
open Go.RowKit

set_option maxHeartbeats 1600000 in
set_option maxRecDepth 60000 in
theorem encode_ok (p : SheetV) (a : Option Addr) (c : Nat) (w : World) (h : p.Ok w a) (k1 : 0 ≤ p.kind) (k2 : p.kind ≤ 255) (k3 : p.head.size ≤ 32) (k4 : p.slots.length ≤ 64) (hf : p.head.size + slotSum p.slots ≤ 485) :
    Calls Tryz.prog 49 #[p.val a c] w fun e w' => e = .returned (.tuple #[.string ⟨(encL p).toArray⟩, .int .i64 0]) ∧ Below w.heap.size w w' := by
  have hr := roomF_eq h k4
  have hmem := h.mem
  have hnum := h.num
  have hlsn := h.lsn
  have h' := h.below ((Below.refl w.heap.size w).alloc (Nat.le_refl _) (.cells #[.int .u32 p.num, .int .u64 p.lsn, .int .i64 p.kind, .string p.head, .slice a p.slots.length c] 52))
  have HR : Hid (∀ d, Calls Tryz.prog 105 #[p.val a d] (w.alloc (.cells #[.int .u32 p.num, .int .u64 p.lsn, .int .i64 p.kind, .string p.head, .slice a p.slots.length c] 52)) fun e w' => e = .returned (.int .i64 (485 - (p.head.size : Int) - (slotSum p.slots : Int))) ∧ Below (w.heap.size + 1) (w.alloc (.cells #[.int .u32 p.num, .int .u64 p.lsn, .int .i64 p.kind, .string p.head, .slice a p.slots.length c] 52)) w') := fun d => by
    have := h'.room d
    rw [hr] at this
    simpa using this
  have HE : Hid (encL p = putL (crcSum 0 (restL p)) 4 ++ restL p) := rfl
  have HRL : Hid (restL p = bodyL p ++ List.replicate (485 - p.head.size - slotSum p.slots) 0 ++ putL p.lsn 8) := rfl
  have HB : Hid (bodyL p = putL p.lsn 8 ++ putL p.num 4 ++ putL p.kind.toNat 1 ++ putL p.head.size 1 ++ p.head.data.toList ++ putL p.slots.length 1 ++ slotLens p.slots ++ slotBytes p.slots) := rfl
  have hrl := restL_length p hf
  have hsl := slot_lengths p.slots
  clear h' h hr
  generalize encL p = E at *
  generalize restL p = R at *
  generalize bodyL p = B at *
  obtain ⟨num, lsn, kind, head, L⟩ := p
  unfold SheetV.val at *
  simp only at *
  have hhl : head.data.toList.length = head.size := by simp
  obtain ⟨kn, rfl⟩ := Int.eq_ofNat_of_zero_le k1
  go_enter Tryz.func49, Tryz.ntmps49
  go_wp2_with fail
  refine (HR.out c).mono ?_
  rintro e w1 ⟨rfl, b1⟩
  have z1 : w.heap.size + 1 ≤ w1.heap.size := by have := b1.size; simpa using this
  go_wp2_with fail
  refine (new_writer w1).mono ?_
  rintro e w2 ⟨rfl, h2, b2⟩
  have g2 := b1.trans (b2.mono z1)
  clear b1 b2
  obtain ⟨d0, d1, d2, d3, d4⟩ := box5 g2
  go_wp2_with fail
  refine (wnumber_is h2 lsn 8 hlsn (by omega) (by simp)).mono ?_
  rintro e w3 ⟨rfl, ⟨a3, c3, h3⟩, b3⟩
  have g3 := g2.trans (b3.mono z1)
  clear h2 b3 d0 d1 d2 d3 d4
  obtain ⟨d0, d1, d2, d3, d4⟩ := box5 g3
  go_wp2_with fail
  refine (wnumber_is h3 num 4 (by omega) (by omega) (by simp [putL_length])).mono ?_
  rintro e w4 ⟨rfl, ⟨a4, c4, h4⟩, b4⟩
  have g4 := g3.trans (b4.mono z1)
  clear h3 b4 d0 d1 d2 d3 d4
  obtain ⟨d0, d1, d2, d3, d4⟩ := box5 g4
  go_wp2_with fail
  refine (wnumber_is h4 kn 1 (by omega) (by omega) (by simp [putL_length])).mono ?_
  rintro e w5 ⟨rfl, ⟨a5, c5, h5⟩, b5⟩
  have g5 := g4.trans (b5.mono z1)
  clear h4 b5 d0 d1 d2 d3 d4
  obtain ⟨d0, d1, d2, d3, d4⟩ := box5 g5
  go_wp2_with fail
  refine (wnumber_is h5 head.size 1 (by omega) (by omega) (by simp [putL_length])).mono ?_
  rintro e w6 ⟨rfl, ⟨a6, c6, h6⟩, b6⟩
  have g6 := g5.trans (b6.mono z1)
  clear h5 b6 d0 d1 d2 d3 d4
  obtain ⟨d0, d1, d2, d3, d4⟩ := box5 g6
  go_wp2_with fail
  refine (wbytes_any h6 head (by simp [putL_length]; omega)).mono ?_
  rintro e w7 ⟨rfl, ⟨a7, c7, h7⟩, b7⟩
  have g7 := g6.trans (b7.mono z1)
  clear h6 b7 d0 d1 d2 d3 d4
  obtain ⟨d0, d1, d2, d3, d4⟩ := box5 g7
  go_wp2_with fail
  refine (putSlots_any h7 a c L hmem (((Below.refl w.heap.size w).alloc (Nat.le_refl _) _).trans (g7.mono (by omega))) (by omega) (by simp [putL_length]; omega)).mono ?_
  rintro e w8 ⟨rfl, ⟨a8, c8, h8⟩, b8⟩
  have g8 := g7.trans (b8.mono z1)
  clear h7 b8 d0 d1 d2 d3 d4
  have hroom : (485 - (head.size : Int) - (slotSum L : Int)) = ((485 - head.size - slotSum L : Nat) : Int) := by omega
  obtain ⟨Z, HZe⟩ : ∃ Z : ByteArray, Hid (Z = ⟨(List.replicate (485 - head.size - slotSum L) 0).toArray⟩) := ⟨_, rfl⟩
  have hzs : Z.size ≤ 485 := by rw [HZe.out, bytes_size, List.length_replicate]; omega
  have hzd : Hid (Z.data.toList = List.replicate (485 - head.size - slotSum L) 0) := by show _ = _; rw [HZe.out]
  have HZ : Hid (∀ wx, Calls Tryz.prog 110 #[.string ⟨#[0]⟩, .int .i64 (485 - (head.size : Int) - (slotSum L : Int))] wx fun e w' => e = .returned (.string Z) ∧ Below wx.heap.size wx w') := fun wx => by
    rw [hroom, HZe.out]; exact zeros_made _ wx (by omega)
  clear hroom
  obtain ⟨d0, d1, d2, d3, d4⟩ := box5 g8
  go_wp2_with fail
  refine (HZ.out _).mono ?_
  rintro e w9 ⟨rfl, b9⟩
  have h9 := h8.below b9
  have z8 := h8.lt
  have g9 := g8.trans (b9.mono (by omega))
  clear h8 b9 d0 d1 d2 d3 d4
  obtain ⟨d0, d1, d2, d3, d4⟩ := box5 g9
  go_wp2_with fail
  refine (wbytes_any h9 Z (by simp [putL_length]; omega)).mono ?_
  rintro e w10 ⟨rfl, ⟨a10, c10, h10⟩, b10⟩
  have g10 := g9.trans (b10.mono z1)
  clear h9 b10 d0 d1 d2 d3 d4
  obtain ⟨d0, d1, d2, d3, d4⟩ := box5 g10
  go_wp2_with fail
  refine (wnumber_is h10 lsn 8 hlsn (by omega) (by simp [putL_length]; omega)).mono ?_
  rintro e w11 ⟨rfl, ⟨a11, c11, h11⟩, b11⟩
  have g11 := g10.trans (b11.mono z1)
  clear h10 b11 d0 d1 d2 d3 d4
  have h12 : IsWriter w11 w1.heap.size R a11 c11 := by rw [HRL.out, HB.out, ← hzd.out]; simpa using h11
  clear h11
  go_wp2_with fail
  refine (wall_any h12).mono ?_
  rintro e w12 ⟨rfl, rfl⟩
  have hs2 : (ByteArray.mk R.toArray).size = 508 := by rw [bytes_size]; exact hrl
  have hs1 : (ByteArray.mk (putL (crcSum 0 R) 4).toArray).size = 4 := by rw [bytes_size]; simp [putL_length]
  have HSUM : Hid (∀ wx, Calls Tryz.prog 113 #[.string ⟨R.toArray⟩] wx fun e w' => e = .returned (.int .u32 (crcSum 0 R)) ∧ w' = wx) := fun wx => by
    have := sum_any ⟨R.toArray⟩ wx (by rw [hs2]; unfold maxLen; omega)
    simpa using this
  have hcs : crcSum 0 R < 4294967296 := crcSum_lt _ _
  go_wp2_with fail
  refine (HSUM.out _).mono ?_
  rintro e w13 ⟨rfl, rfl⟩
  go_wp2_with fail
  refine (put_any (crcSum 0 R) 4 _ (by omega)).mono ?_
  rintro e w14 ⟨rfl, b14⟩
  rw [show longOf 4 = 4 from rfl]
  have z14 := h12.lt
  have g14 := g11.trans (b14.mono (by omega))
  go_wp2
  go_ret2
  refine ⟨?_, ((Below.refl _ _).alloc (Nat.le_refl _) _).trans (g14.mono (by omega))⟩
  rw [HE.out, ← bytes_add]; rfl

end Go.Proofs.YtgkfdakieebnmaaGreat

namespace Go.Proofs.YtgkfdakieebnmaaGreat
open Go.RowKit Go.Sort

theorem mixed : Tryz.prog.follows .mixedOrders = true := by kernel_rfl

theorem equal_any (a1 a2 : Option Addr) (c d : Nat) (L M : List ByteArray) (w : World) (hL : StrsAt w a1 L) (hM : StrsAt w a2 M) (h1 : L.length ≤ 9223372036854775807) (h2 : M.length ≤ 9223372036854775807) :
    Calls Tryz.prog 47 #[.slice a1 L.length c, .slice a2 M.length d] w fun e w' => e = .returned (.bool (decide (L = M))) ∧ ∃ q, w' = w.drewN q := by
  by_cases hl : L.length = M.length
  · by_cases h0 : L = []
    · subst h0
      have hm0 : M.length = 0 := by simpa using hl.symm
      refine (Any.slices_Equal_string_empty equalLays a1 a2 c M.length d w h2).mono ?_
      rintro e w' ⟨rfl, rfl⟩
      refine ⟨?_, 0, rfl⟩
      have : M = [] := List.eq_nil_of_length_eq_zero hm0
      subst this; rfl
    · have h0' : M ≠ [] := fun e => h0 (List.eq_nil_of_length_eq_zero (by rw [hl, e]; rfl))
      rcases hL with hL | ⟨b1, o1, rfl, _, hc1⟩
      · exact absurd hL h0
      rcases hM with hM | ⟨b2, o2, rfl, _, hc2⟩
      · exact absurd hM h0'
      refine (Any.slices_Equal_string equalLays b1 o1 L.length c b2 o2 M.length d L M w (Nat.le_refl _) (Nat.le_refl _) h1 h2 (fun j hj => ?_) (fun j hj => ?_)).mono ?_
      · rw [hc1 j hj, List.getD_eq_getElem?_getD, List.getElem?_eq_getElem hj]; rfl
      · rw [hc2 j hj, List.getD_eq_getElem?_getD, List.getElem?_eq_getElem hj]; rfl
      · rintro e w' ⟨rfl, q, rfl⟩
        exact ⟨by rw [List.take_length, List.take_length], q, rfl⟩
  · refine (Any.slices_Equal_string_lens equalLays a1 a2 L.length c M.length d w hl).mono ?_
    rintro e w' ⟨rfl, rfl⟩
    refine ⟨?_, 0, rfl⟩
    have : ¬ L = M := fun e => hl (by rw [e])
    simp [this]

def sameB (p q : SheetV) : Bool := decide (p.num = q.num ∧ p.kind = q.kind ∧ p.head = q.head ∧ p.slots = q.slots)

set_option maxHeartbeats 1600000 in
set_option maxRecDepth 60000 in
theorem same_any (p q : SheetV) (a1 a2 : Option Addr) (c d : Nat) (w : World) (hp : p.Ok w a1) (hq : q.Ok w a2) :
    Calls Tryz.prog 16 #[p.val a1 c, q.val a2 d] w fun e w' => e = .returned (.bool (sameB p q)) ∧ Below w.heap.size w w' := by
  have hE : Hid (∀ wx, Below w.heap.size w wx → Calls Tryz.prog 47 #[.slice a1 p.slots.length c, .slice a2 q.slots.length d] wx fun e w' => e = .returned (.bool (decide (p.slots = q.slots))) ∧ ∃ q, w' = wx.drewN q) :=
    fun wx hb => equal_any a1 a2 c d p.slots q.slots wx (hp.mem.below hb) (hq.mem.below hb) (by have := hp.len; omega) (by have := hq.len; omega)
  have hn1 := hp.num
  have hn2 := hq.num
  have HS : Hid (sameB p q = decide (p.num = q.num ∧ p.kind = q.kind ∧ p.head = q.head ∧ p.slots = q.slots)) := rfl
  generalize sameB p q = R at *
  clear hp hq
  obtain ⟨n1, l1, k1, h1, L⟩ := p
  obtain ⟨n2, l2, k2, h2, M⟩ := q
  simp only [SheetV.val] at *
  by_cases e1 : n1 = n2
  · by_cases e2 : k1 = k2
    · by_cases e3 : h1 = h2
      · have HR : Hid (R = decide (L = M)) := by show _ = _; rw [HS.out]; simp [e1, e2, e3]
        clear HS
        subst e1 e2 e3
        go_enter Tryz.func16, Tryz.ntmps16
        go_wp2_with fail
        refine (hE.out _ (((Below.refl _ _).alloc (Nat.le_refl _) _).alloc (by simp) _)).mono ?_
        rintro e w1 ⟨rfl, nq, rfl⟩
        go_wp2
        go_ret
        exact ⟨by rw [HR.out]; rfl, below_drewN (((Below.refl _ _).alloc (Nat.le_refl _) _).alloc (by simp) _) nq⟩
      · have HR : Hid (R = false) := by show _ = _; rw [HS.out]; simp [e3]
        have e3' := str_ne e3
        clear HS
        subst e1 e2
        go_enter Tryz.func16, Tryz.ntmps16
        go_wp2
        go_ret
        exact ⟨by rw [HR.out]; rfl, ((Below.refl _ _).alloc (Nat.le_refl _) _).alloc (by simp) _⟩
    · have HR : Hid (R = false) := by show _ = _; rw [HS.out]; simp [e2]
      have e2' : (k1 == k2) = false := by rw [beq_eq_false_iff_ne]; exact e2
      clear HS
      subst e1
      go_enter Tryz.func16, Tryz.ntmps16
      go_wp2
      go_ret
      exact ⟨by rw [HR.out]; rfl, ((Below.refl _ _).alloc (Nat.le_refl _) _).alloc (by simp) _⟩
  · have HR : Hid (R = false) := by show _ = _; rw [HS.out]; simp [e1]
    have e1' : ((n1 : Int) == (n2 : Int)) = false := by rw [beq_eq_false_iff_ne]; omega
    clear HS
    go_enter Tryz.func16, Tryz.ntmps16
    go_wp2
    go_ret
    exact ⟨by rw [HR.out]; rfl, ((Below.refl _ _).alloc (Nat.le_refl _) _).alloc (by simp) _⟩

end Go.Proofs.YtgkfdakieebnmaaGreat

namespace Go.Proofs.YtgkfdakieebnmaaGreat
open Go.RowKit Go.Sort

theorem decode_any (s : ByteArray) (w : World) (hm : s.size ≤ maxLen) :
    Calls Tryz.prog 200 #[.string s] w fun x w' => ∃ a c, x = .returned (.tuple #[(decP s).val a c, .int .i64 (decE s)]) ∧ StrsFrom w.heap.size w' a (decP s).slots ∧ Below w.heap.size w w' := by
  by_cases h1 : s.size < 512
  · have hE : decE s = 4 := by unfold decE; rw [if_pos h1]
    have hP : decP s = sheet0 := by unfold decP; rw [hE, if_neg (by simp)]
    rw [hE, hP]
    exact (dec_short s w h1).mono fun x w' h => ⟨none, 0, h.1, .inl rfl, h.2⟩
  by_cases h2 : 512 < s.size
  · have hE : decE s = 5 := by unfold decE; rw [if_neg h1, if_pos h2]
    have hP : decP s = sheet0 := by unfold decP; rw [hE, if_neg (by simp)]
    rw [hE, hP]
    exact (dec_long s w h2 hm).mono fun x w' h => ⟨none, 0, h.1, .inl rfl, h.2⟩
  have h3 : s.size = 512 := by omega
  by_cases hz : zerosB s.data.toList = true
  · have hE : decE s = 0 := by unfold decE; rw [if_neg h1, if_neg h2, if_pos hz]
    have hP : decP s = sheet0 := by unfold decP; rw [if_neg (by rw [hz]; simp)]
    rw [hE, hP]
    exact (dec_zero s w h3 hz).mono fun x w' h => ⟨none, 0, h.1, .inl rfl, h.2⟩
  by_cases ht : s.extract 504 512 = s.extract 4 12
  · by_cases hs : s.extract 0 4 = ⟨(putL (crcSum 0 (s.extract 4 512).data.toList) 4).toArray⟩
    · by_cases hp : parseOk (cutB s)
      · have hE : decE s = 0 := by unfold decE; rw [if_neg h1, if_neg h2, if_neg hz, if_neg (by simpa using ht), if_neg (by simpa using hs), if_pos ((parseB_iff _).2 hp)]
        have hP : decP s = parsed (cutB s) := by unfold decP; rw [if_pos ⟨hE, by simpa using hz⟩]
        rw [hE, hP]
        refine (dec_parse s w h3 (by simpa using hz) ht hs).mono ?_
        rintro x w' ⟨hb, hy, _⟩
        obtain ⟨a, c, e, hm⟩ := hy hp
        exact ⟨a, c, e, hm.mono (by omega), hb⟩
      · have hE : decE s = 6 := by unfold decE; rw [if_neg h1, if_neg h2, if_neg hz, if_neg (by simpa using ht), if_neg (by simpa using hs), if_neg (by rw [parseB_iff]; exact hp)]
        have hP : decP s = sheet0 := by unfold decP; rw [hE, if_neg (by simp)]
        rw [hE, hP]
        refine (dec_parse s w h3 (by simpa using hz) ht hs).mono ?_
        rintro x w' ⟨hb, _, hn⟩
        obtain ⟨a, c, e⟩ := hn hp
        exact ⟨a, c, e, .inl rfl, hb⟩
    · have hE : decE s = 32 := by unfold decE; rw [if_neg h1, if_neg h2, if_neg hz, if_neg (by simpa using ht), if_pos hs]
      have hP : decP s = sheet0 := by unfold decP; rw [hE, if_neg (by simp)]
      rw [hE, hP]
      exact (dec_sum s w h3 (by simpa using hz) ht hs).mono fun x w' h => ⟨none, 0, h.1, .inl rfl, h.2⟩
  · have hE : decE s = 34 := by unfold decE; rw [if_neg h1, if_neg h2, if_neg hz, if_pos ht]
    have hP : decP s = sheet0 := by unfold decP; rw [hE, if_neg (by simp)]
    rw [hE, hP]
    exact (dec_torn s w h3 (by simpa using hz) ht).mono fun x w' h => ⟨none, 0, h.1, .inl rfl, h.2⟩

def encS (p : SheetV) : ByteArray := if encE p = 0 then ⟨(encL p).toArray⟩ else ⟨#[]⟩

theorem encE_fits {p : SheetV} {w : World} {a : Option Addr} (h : p.Ok w a) : encE p = 0 ↔ p.Fits := by
  unfold encE
  constructor
  · intro e
    split at e
    · cases e
    · split at e
      · cases e
      · rename_i h1 h2
        exact ⟨h.num, h.lsn, by omega, by omega, by omega, by omega, by omega⟩
  · intro f
    have := f.kind0; have := f.kind1; have := f.head; have := f.len; have := f.fits
    rw [if_neg (by omega), if_neg (by omega)]

theorem encode_any (p : SheetV) (a : Option Addr) (c : Nat) (w : World) (h : p.Ok w a) :
    Calls Tryz.prog 49 #[p.val a c] w fun e w' => e = .returned (.tuple #[.string (encS p), .int .i64 (encE p)]) ∧ Below w.heap.size w w' := by
  by_cases h1 : p.kind < 0 ∨ 255 < p.kind ∨ 32 < p.head.size ∨ 64 < p.slots.length
  · have hE : encE p = 1 := by unfold encE; rw [if_pos h1]
    have hS : encS p = ⟨#[]⟩ := by unfold encS; rw [hE]; rfl
    rw [hE, hS]
    exact encode_arg p a c w h h1
  · by_cases h2 : 485 < p.head.size + slotSum p.slots
    · have hE : encE p = 30 := by unfold encE; rw [if_neg h1, if_pos h2]
      have hS : encS p = ⟨#[]⟩ := by unfold encS; rw [hE]; rfl
      rw [hE, hS]
      exact encode_full p a c w h (by omega) (by omega) (by omega) (by omega) h2
    · have hE : encE p = 0 := by unfold encE; rw [if_neg h1, if_neg h2]
      have hS : encS p = ⟨(encL p).toArray⟩ := by unfold encS; rw [if_pos hE]
      rw [hE, hS]
      exact encode_ok p a c w h (by omega) (by omega) (by omega) (by omega) (by omega)

end Go.Proofs.YtgkfdakieebnmaaGreat

namespace Go.Proofs.YtgkfdakieebnmaaGreat
open Go.RowKit

section
variable (p : SheetV)

end

theorem decE_zero {s : ByteArray} (h : decE s = 0) (hz : zerosB s.data.toList = false) :
    s.size = 512 ∧ s.data.toList.drop 504 = (s.data.toList.drop 4).take 8 ∧ s.data.toList.take 4 = putL (crcSum 0 (s.data.toList.drop 4)) 4 := by
  unfold decE at h
  split at h
  · cases h
  split at h
  · cases h
  have hs : s.size = 512 := by omega
  have hsl : s.data.toList.length = 512 := by simpa using hs
  split at h
  · rename_i q; rw [hz] at q; cases q
  split at h
  · cases h
  rename_i h1
  split at h
  · cases h
  rename_i h2
  have e1 : s.extract 504 512 = s.extract 4 12 := by simpa using h1
  have e2 := congrArg (fun b => b.data.toList) e1
  simp only [Lib.extract_data] at e2
  have e3 : s.extract 0 4 = ⟨(putL (crcSum 0 (s.extract 4 512).data.toList) 4).toArray⟩ := by simpa using h2
  have e4 := congrArg (fun b => b.data.toList) e3
  simp only [Lib.extract_data] at e4
  refine ⟨hs, ?_, ?_⟩
  · rw [List.take_of_length_le (by simp; omega)] at e2
    exact e2
  · rw [List.take_of_length_le (l := s.data.toList.drop 4) (by simp; omega)] at e4
    simpa using e4

end Go.Proofs.YtgkfdakieebnmaaGreat

namespace Go.Proofs.YtgkfdakieebnmaaGreat
open Go.RowKit

theorem putL_le (l : List UInt8) (n : Nat) (h : l.length = n) : putL (le l) n = l := by
  subst h
  refine le_inj (putL_length _ _) ?_
  rw [le_putL, Nat.mod_eq_of_lt (le_lt l)]

theorem part_add (s : ByteArray) (a m n : Nat) : part s a (m + n) = part s a m ++ part s (a + m) n := by
  unfold part
  rw [List.take_add, List.drop_drop]

theorem slotAt_size {s : ByteArray} {q n j : Nat} (h : offAt s q n j + longAt s q j ≤ s.size) : (slotAt s q n j).size = longAt s q j := by
  unfold slotAt; rw [bytes_size, part_length h]

section
variable {s : ByteArray} {q n : Nat}

theorem slotsAt_take (k : Nat) (hk : k < n) : (slotsAt s q n).take (k + 1) = (slotsAt s q n).take k ++ [slotAt s q n k] := by
  rw [List.take_succ_eq_append_getElem (by rw [slotsAt_length]; exact hk)]
  simp [slotsAt]

theorem lens_back (hq : q + 2 * n ≤ s.size) (hf : offAt s q n n ≤ s.size) (k : Nat) (hk : k ≤ n) : slotLens ((slotsAt s q n).take k) = part s q (2 * k) := by
  induction k with
  | zero => simp [slotLens, part]
  | succ k ih =>
    have h1 := offAt_mono s q n (show k + 1 ≤ n from hk)
    have h2 : offAt s q n (k + 1) = offAt s q n k + longAt s q k := rfl
    rw [slotsAt_take k (by omega), slotLens_append, ih (by omega), show 2 * (k + 1) = 2 * k + 2 from by omega, part_add]
    congr 1
    simp only [slotLens, List.append_nil]
    rw [slotAt_size (by omega)]
    exact putL_le _ 2 (part_length (by omega))

theorem bytes_back (hf : offAt s q n n ≤ s.size) (k : Nat) (hk : k ≤ n) : slotBytes ((slotsAt s q n).take k) = part s (q + 2 * n) (offAt s q n k - (q + 2 * n)) := by
  induction k with
  | zero => simp [slotBytes, part, offAt]
  | succ k ih =>
    have h0 : offAt s q n 0 = q + 2 * n := rfl
    have h1 := offAt_mono s q n (show 0 ≤ k by omega)
    have h2 : offAt s q n (k + 1) = offAt s q n k + longAt s q k := rfl
    rw [slotsAt_take k (by omega), slotBytes_append, ih (by omega), h2, show offAt s q n k + longAt s q k - (q + 2 * n) = (offAt s q n k - (q + 2 * n)) + longAt s q k from by omega, part_add]
    congr 1
    rw [show q + 2 * n + (offAt s q n k - (q + 2 * n)) = offAt s q n k from by omega]
    simp [slotBytes, slotAt]

theorem sum_back (hf : offAt s q n n ≤ s.size) (hq : q + 2 * n ≤ s.size) : q + slotSum (slotsAt s q n) = offAt s q n n := by
  have h1 := lens_back hq hf n (Nat.le_refl _)
  have h2 := bytes_back hf n (Nat.le_refl _)
  have h0 : offAt s q n 0 = q + 2 * n := rfl
  have h3 := offAt_mono s q n (show 0 ≤ n by omega)
  rw [List.take_of_length_le (by rw [slotsAt_length]; exact Nat.le_refl _)] at h1 h2
  have h4 := slot_lengths (slotsAt s q n)
  rw [h1, h2, part_length (by omega), part_length (by omega)] at h4
  omega
end

theorem parsed_fits {s : ByteArray} (hs : s.size = 500) (h : parseOk s) : (parsed s).Fits ∧ midL (parsed s) = s.data.toList := by
  obtain ⟨⟨h1, h2, h3⟩, hz⟩ := h
  have hq : 15 + pHn s + 2 * pN s ≤ s.size := by omega
  have hf : offAt s (15 + pHn s) (pN s) (pN s) ≤ s.size := by rw [hs]; exact h3
  have hsum := sum_back hf hq
  have hpo : pOff s = offAt s (15 + pHn s) (pN s) (pN s) := rfl
  have hhs : (parsed s).head.size = pHn s := by
    show (ByteArray.mk (part s 14 (pHn s)).toArray).size = _
    rw [bytes_size, part_length (by omega)]
  have hss : slotSum (parsed s).slots = slotSum (slotsAt s (15 + pHn s) (pN s)) := rfl
  have F : (parsed s).Fits := by
    refine ⟨?_, ?_, ?_, ?_, by omega, by show (slotsAt s _ _).length ≤ 64; rw [slotsAt_length]; exact h2, by omega⟩
    · exact le_lt_of (l := part s 8 4) (n := 4) (by rw [part_length (by omega)]; omega)
    · exact le_lt_of (l := part s 0 8) (n := 8) (by rw [part_length (by omega)]; omega)
    · show (0 : Int) ≤ ((le (part s 12 1) : Nat) : Int); omega
    · have := le_lt_of (l := part s 12 1) (n := 1) (by rw [part_length (by omega)]; omega)
      show ((le (part s 12 1) : Nat) : Int) ≤ 255; omega
  refine ⟨F, ?_⟩
  have hall : s.data.toList = part s 0 500 := by unfold part; rw [List.drop_zero, List.take_of_length_le (by simp; omega)]
  have l1 := lens_back hq hf (pN s) (Nat.le_refl _)
  have l2 := bytes_back hf (pN s) (Nat.le_refl _)
  rw [List.take_of_length_le (by rw [slotsAt_length]; exact Nat.le_refl _)] at l1 l2
  have hz' : List.replicate (485 - (parsed s).head.size - slotSum (parsed s).slots) 0 = part s (pOff s) (500 - pOff s) := by
    have := (zerosB_iff _).1 hz
    rw [part_length (by omega)] at this
    rw [this]
    congr 1; omega
  unfold midL bodyL
  rw [hz']
  show putL (le (part s 0 8)) 8 ++ putL (le (part s 8 4)) 4 ++ putL (((le (part s 12 1) : Nat) : Int)).toNat 1 ++ putL (parsed s).head.size 1 ++ (ByteArray.mk (part s 14 (pHn s)).toArray).data.toList ++ putL (slotsAt s (15 + pHn s) (pN s)).length 1 ++ slotLens (slotsAt s (15 + pHn s) (pN s)) ++ slotBytes (slotsAt s (15 + pHn s) (pN s)) ++ part s (pOff s) (500 - pOff s) = _
  rw [hhs, slotsAt_length, l1, l2, Int.toNat_natCast, putL_le _ 8 (part_length (by omega)), putL_le _ 4 (part_length (by omega)), putL_le _ 1 (part_length (by omega)),
    show putL (pHn s) 1 = part s 13 1 from putL_le _ 1 (part_length (by omega)), show putL (pN s) 1 = part s (14 + pHn s) 1 from putL_le _ 1 (part_length (by omega)), hall]
  simp only
  have h0 : offAt s (15 + pHn s) (pN s) 0 = 15 + pHn s + 2 * pN s := rfl
  have hm := offAt_mono s (15 + pHn s) (pN s) (show 0 ≤ pN s by omega)
  have e1 := part_add s 0 8 492
  have e2 := part_add s 8 4 488
  have e3 := part_add s 12 1 487
  have e4 := part_add s 13 1 486
  have e5 := part_add s 14 (pHn s) (486 - pHn s)
  have e6 := part_add s (14 + pHn s) 1 (485 - pHn s)
  have e7 := part_add s (15 + pHn s) (2 * pN s) (485 - pHn s - 2 * pN s)
  have e8 := part_add s (15 + pHn s + 2 * pN s) (offAt s (15 + pHn s) (pN s) (pN s) - (15 + pHn s + 2 * pN s)) (500 - pOff s)
  rw [show 14 + (pHn s) + 1 = 15 + pHn s from by omega] at e6
  rw [show pHn s + (486 - pHn s) = 486 from by omega] at e5
  rw [show 1 + (485 - pHn s) = 486 - pHn s from by omega] at e6
  rw [show 2 * pN s + (485 - pHn s - 2 * pN s) = 485 - pHn s from by omega] at e7
  rw [show offAt s (15 + pHn s) (pN s) (pN s) - (15 + pHn s + 2 * pN s) + (500 - pOff s) = 485 - pHn s - 2 * pN s from by omega,
    show 15 + pHn s + 2 * pN s + (offAt s (15 + pHn s) (pN s) (pN s) - (15 + pHn s + 2 * pN s)) = pOff s from by omega] at e8
  rw [show (500 : Nat) = 8 + 492 from rfl, e1, show 0 + 8 = 8 from rfl, show (492 : Nat) = 4 + 488 from rfl, e2, show (488 : Nat) = 1 + 487 from rfl, show 8 + 4 = 12 from rfl, e3, show (487 : Nat) = 1 + 486 from rfl, show 12 + 1 = 13 from rfl, e4, show 13 + 1 = 14 from rfl, e5, e6, e7, e8]
  simp only [List.append_assoc]

theorem enc_of_dec {s : ByteArray} (h0 : decE s = 0) (hz : zerosB s.data.toList = false) : (decP s).Fits ∧ s = ⟨(encL (decP s)).toArray⟩ := by
  obtain ⟨hs, ht, hc⟩ := decE_zero h0 hz
  have hok : parseOk (cutB s) := by
    unfold decE at h0
    rw [if_neg (by omega), if_neg (by omega), if_neg (by rw [hz]; simp)] at h0
    split at h0
    · cases h0
    split at h0
    · cases h0
    split at h0
    · rename_i q; exact (parseB_iff _).1 q
    · cases h0
  have hP : decP s = parsed (cutB s) := by unfold decP; rw [if_pos ⟨h0, hz⟩]
  have hcs : (cutB s).size = 500 := by unfold cutB; simp [ByteArray.size_extract, hs]
  obtain ⟨F, hm⟩ := parsed_fits hcs hok
  rw [hP]
  refine ⟨F, Go.WideShapes.bytes_inj ?_⟩
  show s.data.toList = encL (parsed (cutB s))
  have hcd : (cutB s).data.toList = (s.data.toList.drop 4).take 500 := by unfold cutB; rw [Lib.extract_data]
  have hl : s.data.toList.length = 512 := by simpa using hs
  have hlsn : putL (parsed (cutB s)).lsn 8 = s.data.toList.drop 504 := by
    show putL (le (part (cutB s) 0 8)) 8 = _
    rw [putL_le _ 8 (part_length (by omega)), ht]
    unfold part
    rw [hcd, List.drop_zero, List.take_take]
    rfl
  have hrest : restL (parsed (cutB s)) = s.data.toList.drop 4 := by
    have : restL (parsed (cutB s)) = midL (parsed (cutB s)) ++ putL (parsed (cutB s)).lsn 8 := rfl
    rw [this, hm, hcd, hlsn, show 504 = 4 + 500 from rfl, ← List.drop_drop, List.take_append_drop]
  unfold encL
  rw [hrest, ← hc, List.take_append_drop]

end Go.Proofs.YtgkfdakieebnmaaGreat
