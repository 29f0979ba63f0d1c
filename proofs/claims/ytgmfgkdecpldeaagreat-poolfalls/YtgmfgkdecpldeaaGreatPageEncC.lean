/-
  Plain mathematics of a page's bytes, and the walks of page.putSlots and page.zeros.
-/
import Derived.Test.YtgmfgkdecpldeaaGreatPageMemC
import Derived.Test.YtgmfgkdecpldeaaGreatWriterWalksC
import Derived.Test.YtgmfgkdecpldeaaGreatCrcWalksC
namespace Go.Proofs.YtgmfgkdecpldeaaGreat
open Go.RowKit
set_option linter.unusedVariables false

/-- The lengths of slots. -/
def slotLens : List ByteArray → List UInt8
  | [] => []
  | s :: L => putL s.size 2 ++ slotLens L

/-- The bytes of slots. -/
def slotBytes : List ByteArray → List UInt8
  | [] => []
  | s :: L => s.data.toList ++ slotBytes L

theorem slotLens_append (L M : List ByteArray) : slotLens (L ++ M) = slotLens L ++ slotLens M := by
  induction L with
  | nil => rfl
  | cons s L ih => simp only [List.cons_append, slotLens, ih, List.append_assoc]

theorem slotBytes_append (L M : List ByteArray) : slotBytes (L ++ M) = slotBytes L ++ slotBytes M := by
  induction L with
  | nil => rfl
  | cons s L ih => simp only [List.cons_append, slotBytes, ih, List.append_assoc]

theorem slotLens_snoc (L : List ByteArray) (k : Nat) (h : k < L.length) : slotLens (L.take (k + 1)) = slotLens (L.take k) ++ putL L[k].size 2 := by
  rw [List.take_succ_eq_append_getElem h, slotLens_append]; simp [slotLens]

theorem slotBytes_snoc (L : List ByteArray) (k : Nat) (h : k < L.length) : slotBytes (L.take (k + 1)) = slotBytes (L.take k) ++ L[k].data.toList := by
  rw [List.take_succ_eq_append_getElem h, slotBytes_append]; simp [slotBytes]

theorem slotLens_length (L : List ByteArray) : (slotLens L).length = 2 * L.length := by
  induction L with
  | nil => rfl
  | cons s L ih => simp only [slotLens, List.length_append, putL_length, ih, List.length_cons]; omega

theorem slot_lengths (L : List ByteArray) : (slotLens L).length + (slotBytes L).length = slotSum L := by
  induction L with
  | nil => rfl
  | cons s L ih =>
    have : s.data.toList.length = s.size := by simp
    simp only [slotLens, slotBytes, slotSum, List.length_append, putL_length]; omega

theorem slotSum_take (L : List ByteArray) (k : Nat) : slotSum (L.take k) ≤ slotSum L := by
  conv => rhs; rw [← List.take_append_drop k L, slotSum_append]
  omega

theorem slotSum_at (L : List ByteArray) (k : Nat) (h : k < L.length) : 2 + L[k].size ≤ slotSum L := by
  have := slotSum_snoc L k h
  have := slotSum_take L (k + 1)
  omega

theorem slotSum_len (L : List ByteArray) : 2 * L.length ≤ slotSum L := by
  have := slotLens_length L
  have := slot_lengths L
  omega

/-- A page's bytes without the zeros, from the LSN on. -/
def bodyL (p : SheetV) : List UInt8 :=
  putL p.lsn 8 ++ putL p.num 4 ++ putL p.kind.toNat 1 ++ putL p.head.size 1 ++ p.head.data.toList ++ putL p.slots.length 1 ++ slotLens p.slots ++ slotBytes p.slots

/-- All but the sum. -/
def restL (p : SheetV) : List UInt8 := bodyL p ++ List.replicate (485 - p.head.size - slotSum p.slots) 0 ++ putL p.lsn 8

/-- A page's bytes. -/
def encL (p : SheetV) : List UInt8 := putL (crcSum 0 (restL p)) 4 ++ restL p

theorem bodyL_length (p : SheetV) : (bodyL p).length = 15 + p.head.size + slotSum p.slots := by
  have := slot_lengths p.slots
  have : p.head.data.toList.length = p.head.size := by simp
  simp only [bodyL, List.length_append, putL_length]; omega

theorem restL_length (p : SheetV) (h : p.head.size + slotSum p.slots ≤ 485) : (restL p).length = 508 := by
  simp only [restL, List.length_append, bodyL_length, putL_length, List.length_replicate]; omega

theorem encL_length (p : SheetV) (h : p.head.size + slotSum p.slots ≤ 485) : (encL p).length = 512 := by
  simp only [encL, List.length_append, restL_length p h, putL_length]

/-- The error of Encode. -/
def encE (p : SheetV) : Int := if p.kind < 0 ∨ 255 < p.kind ∨ 32 < p.head.size ∨ 64 < p.slots.length then 1 else if 485 < p.head.size + slotSum p.slots then 30 else 0

section
variable {w0 w : World} {b : Nat} {l : List UInt8} {a : Option Addr} {c : Nat}

theorem StrsAt.reach {L : List ByteArray} {s : Option Addr} (hm : StrsAt w0 s L) (h0 : Below w0.heap.size w0 w) {k : Nat} (hk : k < L.length) :
    ∃ bs o, s = some ⟨bs, o, none⟩ ∧ w.cell? ⟨bs, o + k, none⟩ = some (.string L[k]) := by
  rcases hm with hm | ⟨bs, o, rfl, hb, hc⟩
  · subst hm; simp at hk
  · exact ⟨bs, o, rfl, (h0.cell (p := ⟨bs, o + k, none⟩) hb).trans (hc k hk)⟩

set_option maxHeartbeats 400000 in
set_option maxRecDepth 60000 in
theorem putSlots_any (h : IsWriter w b l a c) (s : Option Addr) (d : Nat) (L : List ByteArray) (hm : StrsAt w0 s L) (h0 : Below w0.heap.size w0 w) (hb : w0.heap.size ≤ b) (hl : l.length + slotSum L ≤ 1000000) :
    Calls Tryz.prog 79 #[.pointer (some ⟨b, 0, none⟩), .slice s L.length d] w fun e w' =>
      e = .returned (.tuple #[]) ∧ (∃ a' c', IsWriter w' b (l ++ (putL L.length 1 ++ slotLens L ++ slotBytes L)) a' c') ∧ Below b w w' := by
  have hlen := slotSum_len L
  have hlens := slotLens_length L
  go_enter Tryz.func79, Tryz.ntmps79
  go_wp2_with fail
  refine (wnumber_any h L.length 1 (by omega) (by omega)).mono ?_
  rintro e w1 ⟨rfl, ⟨a1, c1, h1⟩, b1⟩
  have hll : (l ++ putL L.length (longOf 1)).length = l.length + 1 := by simp [putL_length, longOf]
  obtain ⟨l1, HL1⟩ : ∃ l1, Hid (l ++ putL L.length 1 = l1) := ⟨_, rfl⟩
  rw [show longOf 1 = 1 from rfl, HL1.out] at hll h1
  go_wp2_with fail
  go_loopw [15] (fun i wr => ∃ (k : Nat) (a' : Option Addr) (c' : Nat), k ≤ L.length ∧ i = .int .i64 k ∧ IsWriter wr b (l1 ++ slotLens (L.take k)) a' c' ∧ Below b w wr) (fun i _ => L.length - (intOf i).toNat)
  case atStart => exact ⟨0, a1, c1, Nat.zero_le _, rfl, by simpa [slotLens] using h1, b1⟩
  case round =>
    obtain ⟨k, a', c', hk, rfl, hr, hbr⟩ := hrel
    have hlk := slotLens_length (L.take k)
    rw [List.length_take] at hlk
    by_cases hlt : k < L.length
    · obtain ⟨bs, o, rfl, hck⟩ := hm.reach (h0.trans (hbr.mono hb)) hlt
      have hsn : Hid (slotLens (L.take (k + 1)) = slotLens (L.take k) ++ putL L[k].size 2) := slotLens_snoc L k hlt
      have hsz := slotSum_at L k hlt
      obtain ⟨s, hs⟩ : ∃ s, L[k] = s := ⟨_, rfl⟩
      rw [hs] at hck hsn hsz
      clear hs
      go_wp2_with fail
      refine (wnumber_any hr s.size 2 (by omega) (by simp; omega)).mono ?_
      rintro e w2 ⟨rfl, ⟨a2, c2, h2⟩, b2⟩
      rw [show longOf 2 = 2 from rfl] at h2
      go_wp2
      go_roundw
      case rel => exact ⟨k + 1, a2, c2, by omega, by go_num, by rw [hsn.out, ← List.append_assoc]; exact h2, hbr.trans b2⟩
      case measure => simp [intOf]; omega
    · obtain rfl : k = L.length := by omega
      rw [List.take_length] at hr hlk
      obtain ⟨l2, HL2⟩ : ∃ l2, Hid (l1 ++ slotLens L = l2) := ⟨_, rfl⟩
      have hll2 : l2.length = l1.length + 2 * L.length := by rw [← HL2.out]; simp [hlens]
      rw [HL2.out] at hr
      go_wp2_with fail
      go_loopw [27] (fun i wr => ∃ (k : Nat) (a' : Option Addr) (c' : Nat), k ≤ L.length ∧ i = .int .i64 k ∧ IsWriter wr b (l2 ++ slotBytes (L.take k)) a' c' ∧ Below b w wr) (fun i _ => L.length - (intOf i).toNat)
      case atStart => exact ⟨0, a', c', Nat.zero_le _, rfl, by simpa [slotBytes] using hr, hbr⟩
      case round =>
        obtain ⟨k, a3, c3, hk3, rfl, hr3, hbr3⟩ := hrel
        by_cases hlt : k < L.length
        · obtain ⟨bs, o, rfl, hck⟩ := hm.reach (h0.trans (hbr3.mono hb)) hlt
          have hsn : Hid (slotBytes (L.take (k + 1)) = slotBytes (L.take k) ++ L[k].data.toList) := slotBytes_snoc L k hlt
          have hsz := slotSum_snoc L k hlt
          have hst := slotSum_take L (k + 1)
          have hsl := slot_lengths (L.take k)
          obtain ⟨s, hs⟩ : ∃ s, L[k] = s := ⟨_, rfl⟩
          rw [hs] at hck hsn hsz
          clear hs
          have hsl2 := slotLens_length (L.take k)
          rw [List.length_take] at hsl2
          go_wp2_with fail
          refine (wbytes_any hr3 s (by simp; omega)).mono ?_
          rintro e w2 ⟨rfl, ⟨a2, c2, h2⟩, b2⟩
          go_wp2
          go_roundw
          case rel => exact ⟨k + 1, a2, c2, by omega, by go_num, by rw [hsn.out, ← List.append_assoc]; exact h2, hbr3.trans b2⟩
          case measure => simp [intOf]; omega
        · obtain rfl : k = L.length := by omega
          rw [List.take_length] at hr3
          go_wp2
          go_end0
          refine ⟨rfl, ⟨a3, c3, ?_⟩, hbr3⟩
          rw [← HL2.out, ← HL1.out] at hr3
          simpa using hr3

end
end Go.Proofs.YtgmfgkdecpldeaaGreat
