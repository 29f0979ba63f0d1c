/-
  The walks of the sum: what raw.shiftByte, raw.More, raw.Sum and girderref01.More return, for every register and every text.
  The laying of a contract of the library's shelf at this program's numbers (plain text by the library's own command).
  Plain mathematics of a page's bytes, and the walks of page.putSlots and page.zeros.
  The walk of page.Encode.
  Rows of values that may be written; the walks of page.zeros and page.takeCount.
  The walk of page.takeSlots.
  The walk of page.parse.
-/
import Derived.Test.YtjemeopafkafgaaGreatProg
import Derived.Test.YtjemeopafkafgaaGreatCrcJ
import Derived.WalkKit
import Derived.WalkSpells
import Derived.WalkLawsBesides
import Derived.Shelf.Lays
import Derived.Shelf.Strings.Repeat
import Derived.Test.YtjemeopafkafgaaGreatPageMemC
import Derived.Test.YtjemeopafkafgaaGreatWriterWalksC
import Derived.Test.YtjemeopafkafgaaGreatReaderMoreC
import Derived.Test.YtjemeopafkafgaaGreatNewReaderC
namespace Go.Proofs.YtjemeopafkafgaaGreat
open Go.RowKit

set_option maxHeartbeats 400000 in
set_option maxRecDepth 60000 in
theorem shift_any (r b : Nat) (w : World) (hr : r < 4294967296) (hb : b < 256) :
    Calls Tryz.prog 200 #[.int .u32 r, .int .u8 b] w fun e w' => e = .returned (.int .u32 (crcB r b)) ∧ w' = w := by
  go_enter Tryz.func200, Tryz.ntmps200
  go_wp2
  go_loop [0, 10] (fun t i => ∃ k : Nat, k ≤ 8 ∧ i = .int .i64 k ∧ t = .int .u32 (crcN k (r ^^^ b))) (fun _ i => 8 - (intOf i).toNat)
  case atStart => exact ⟨0, by omega, rfl, by rw [u32_xor_nat _ _ hr (by omega)]; rfl⟩
  case round =>
    obtain ⟨k, hk, rfl, rfl⟩ := hrel
    have hx : crcN k (r ^^^ b) < 4294967296 := crcN_lt (Nat.xor_lt_two_pow (n := 32) (by omega) (by omega)) k
    have hs : Hid (crcN (k + 1) (r ^^^ b) = crc1 (crcN k (r ^^^ b))) := rfl
    by_cases hlt : k < 8
    · generalize crcN k (r ^^^ b) = x at *
      go_wp2
      · go_round
        case rel => exact ⟨k + 1, by omega, by go_num, by rw [hs.out, crc1_odd hx ‹_›]⟩
        case measure => simp [intOf]; omega
      · go_round
        case rel => exact ⟨k + 1, by omega, by go_num, by rw [hs.out, crc1_even hx ‹_›]⟩
        case measure => simp [intOf]; omega
    · obtain rfl : k = 8 := by omega
      go_wp2
      go_ret
      exact ⟨rfl, rfl⟩

theorem take_snoc (s : ByteArray) (k : Nat) (h : k < s.size) : s.data.toList.take (k + 1) = s.data.toList.take k ++ [s[k]] := by
  rw [List.take_succ_eq_append_getElem (by simpa using h)]; rfl

set_option maxHeartbeats 400000 in
set_option maxRecDepth 60000 in
theorem more_any (c : Nat) (s : ByteArray) (w : World) (hc : c < 4294967296) (hs : s.size ≤ maxLen) :
    Calls Tryz.prog 172 #[.int .u32 c, .string s] w fun e w' => e = .returned (.int .u32 (crcSum c s.data.toList)) ∧ w' = w := by
  unfold maxLen at hs
  go_enter Tryz.func172, Tryz.ntmps172
  go_wp2
  go_loop [5, 11] (fun t i => ∃ k : Nat, k ≤ s.size ∧ i = .int .i64 k ∧ t = .int .u32 (crcL (4294967295 - c) (s.data.toList.take k))) (fun _ i => s.size - (intOf i).toNat)
  case atStart => exact ⟨0, Nat.zero_le _, rfl, by rw [not32 hc]; rfl⟩
  case round =>
    obtain ⟨k, hk, rfl, rfl⟩ := hrel
    have hx : crcL (4294967295 - c) (s.data.toList.take k) < 4294967296 := crcL_lt _ (by omega)
    by_cases hlt : k < s.size
    · have hts : Hid (crcL (4294967295 - c) (s.data.toList.take (k + 1)) = crcB (crcL (4294967295 - c) (s.data.toList.take k)) s[k].toNat) := by rw [take_snoc s k hlt]; exact crcL_snoc _ _ _
      generalize crcL (4294967295 - c) (s.data.toList.take k) = x at *
      go_wp2_with (go_at_call 200; refine (shift_any x s[k].toNat _ hx s[k].toNat_lt).mono ?_; rintro e w' ⟨rfl, rfl⟩)
      go_round
      case rel => exact ⟨k + 1, by omega, by go_num, by rw [hts.out]⟩
      case measure => simp [intOf]; omega
    · obtain rfl : k = s.size := by omega
      have hfin : Hid (crcSum c s.data.toList = 4294967295 - crcL (4294967295 - c) (s.data.toList.take s.size)) := by
        rw [List.take_of_length_le (by simp)]; rfl
      generalize crcL (4294967295 - c) (s.data.toList.take s.size) = x at *
      go_wp2
      go_ret
      exact ⟨ret_int (by rw [hfin.out]; exact not32 hx), rfl⟩

set_option maxHeartbeats 400000 in
set_option maxRecDepth 60000 in
theorem sum_any (s : ByteArray) (w : World) (hs : s.size ≤ maxLen) :
    Calls Tryz.prog 139 #[.string s] w fun e w' => e = .returned (.int .u32 (crcSum 0 s.data.toList)) ∧ w' = w := by
  go_enter Tryz.func139, Tryz.ntmps139
  go_wp2_with (go_at_call 172; refine (more_any 0 s _ (by omega) hs).mono ?_; rintro e w' ⟨rfl, rfl⟩)
  go_ret
  exact ⟨rfl, rfl⟩


end Go.Proofs.YtjemeopafkafgaaGreat

namespace Go.Proofs.YtjemeopafkafgaaGreat
open Go.Shelf Go.RowKit

def repeatLays_ren : Go.Shelf.Ren := ⟨fun | 105 => 137 | 212 => 167 | 99 => 154 | 165 => 168 | 166 => 169 | 170 => 170 | 169 => 171 | 263 => 196 | 264 => 197 | 206 => 186 | 240 => 198 | 241 => 199 | 276 => 214 | 277 => 215 | n => n, fun | 9 => 9 | 3 => 3 | 4 => 4 | 20 => 20 | 0 => 0 | 46 => 199 | 109 => 239 | 5 => 5 | 72 => 243 | 76 => 246 | 51 => 45 | 146 => 268 | 53 => 27 | 148 => 270 | 70 => 241 | 37 => 109 | 75 => 245 | 127 => 272 | 164 => 290 | 80 => 190 | n => n, fun | n => n⟩
theorem repeatLays : Go.Proofs.Lays.n105 Tryz.prog repeatLays_ren := {
  mixed := by kernel_rfl
  f99 := Tryz.func154.trans (congrArg some (by kernel_rfl))
  f105 := Tryz.func137.trans (congrArg some (by kernel_rfl))
  f165 := Tryz.func168.trans (congrArg some (by kernel_rfl))
  f166 := Tryz.func169.trans (congrArg some (by kernel_rfl))
  f169 := Tryz.func171.trans (congrArg some (by kernel_rfl))
  f170 := Tryz.func170.trans (congrArg some (by kernel_rfl))
  f206 := Tryz.func186.trans (congrArg some (by kernel_rfl))
  f212 := Tryz.func167.trans (congrArg some (by kernel_rfl))
  f240 := Tryz.func198.trans (congrArg some (by kernel_rfl))
  f241 := Tryz.func199.trans (congrArg some (by kernel_rfl))
  f263 := Tryz.func196.trans (congrArg some (by kernel_rfl))
  f264 := Tryz.func197.trans (congrArg some (by kernel_rfl))
  f276 := Tryz.func214.trans (congrArg some (by kernel_rfl))
  f277 := Tryz.func215.trans (congrArg some (by kernel_rfl))
  t0 := Tryz.underlying0
  a0 := Tryz.isAgg0
  z0 := Tryz.sizeOf0
  v0 := Tryz.zeroValue0
  t3 := Tryz.underlying3
  a3 := Tryz.isAgg3
  z3 := Tryz.sizeOf3
  v3 := Tryz.zeroValue3
  t4 := Tryz.underlying4
  a4 := Tryz.isAgg4
  z4 := Tryz.sizeOf4
  v4 := Tryz.zeroValue4
  t5 := Tryz.underlying5
  a5 := Tryz.isAgg5
  z5 := Tryz.sizeOf5
  v5 := Tryz.zeroValue5
  t9 := Tryz.underlying9
  a9 := Tryz.isAgg9
  z9 := Tryz.sizeOf9
  v9 := Tryz.zeroValue9
  t20 := Tryz.underlying20
  a20 := Tryz.isAgg20
  z20 := Tryz.sizeOf20
  v20 := Tryz.zeroValue20
  t37 := Tryz.underlying109
  a37 := Tryz.isAgg109
  z37 := Tryz.sizeOf109
  v37 := Tryz.zeroValue109
  t46 := Tryz.underlying199
  a46 := Tryz.isAgg199
  z46 := Tryz.sizeOf199
  v46 := Tryz.zeroValue199
  t51 := Tryz.underlying45
  a51 := Tryz.isAgg45
  z51 := Tryz.sizeOf45
  v51 := Tryz.zeroValue45
  t53 := Tryz.underlying27
  a53 := Tryz.isAgg27
  z53 := Tryz.sizeOf27
  v53 := Tryz.zeroValue27
  t70 := Tryz.underlying241
  a70 := Tryz.isAgg241
  z70 := Tryz.sizeOf241
  v70 := Tryz.zeroValue241
  t72 := Tryz.underlying243
  a72 := Tryz.isAgg243
  z72 := Tryz.sizeOf243
  v72 := Tryz.zeroValue243
  t75 := Tryz.underlying245
  a75 := Tryz.isAgg245
  z75 := Tryz.sizeOf245
  v75 := Tryz.zeroValue245
  t76 := Tryz.underlying246
  a76 := Tryz.isAgg246
  z76 := Tryz.sizeOf246
  v76 := Tryz.zeroValue246
  t109 := Tryz.underlying239
  a109 := Tryz.isAgg239
  z109 := Tryz.sizeOf239
  v109 := Tryz.zeroValue239
  t127 := Tryz.underlying272
  a127 := Tryz.isAgg272
  z127 := Tryz.sizeOf272
  v127 := Tryz.zeroValue272
  t146 := Tryz.underlying268
  a146 := Tryz.isAgg268
  z146 := Tryz.sizeOf268
  v146 := Tryz.zeroValue268
  t148 := Tryz.underlying270
  a148 := Tryz.isAgg270
  z148 := Tryz.sizeOf270
  v148 := Tryz.zeroValue270
  t164 := Tryz.underlying290
  a164 := Tryz.isAgg290
  z164 := Tryz.sizeOf290
  v164 := Tryz.zeroValue290 }

theorem repeatExtra : Builder.Extra Tryz.prog repeatLays_ren := {
  sizeBuilder := by kernel_rfl
  liesBuilder := by kernel_rfl
  t5 := Tryz.underlying5
  a5 := Tryz.isAgg5
  z5 := Tryz.sizeOf5
  v5 := Tryz.zeroValue5
  infoByte := by kernel_rfl
  cellsByte := by kernel_rfl
  sizeByte := by kernel_rfl
  neB5 := by decide }

theorem repeatL_one_zero (n : Nat) : Lib.repeatL [0] n = List.replicate n (0 : UInt8) := by
  induction n with
  | zero => rfl
  | succ n ih => rw [List.replicate_succ, ← ih]; rfl

theorem zeros_made (n : Nat) (w : World) (hn : n ≤ 1000000) : Calls Tryz.prog 137 #[.string ⟨#[0]⟩, .int .i64 n] w fun e w' => e = .returned (.string ⟨(List.replicate n 0).toArray⟩) ∧ Below w.heap.size w w' := by
  have h := Any.strings_Repeat repeatLays repeatExtra ⟨#[0]⟩ n w (by omega) (by show 1 * n ≤ _; omega)
  have e : Lib.repeatL (ByteArray.mk #[0]).data.toList n = List.replicate n 0 := repeatL_one_zero n
  rw [e] at h
  exact h

end Go.Proofs.YtjemeopafkafgaaGreat

namespace Go.Proofs.YtjemeopafkafgaaGreat
open Go.RowKit
set_option linter.unusedVariables false

/-- The lengths of slots. -/
def slotLens : List ByteArray → List UInt8
  | [] => []
  | s :: L => putL s.size 2 ++ slotLens L

/-- The bytes of slots. -/
def slotBytes : List ByteArray → List UInt8
  | [] => []
  | s :: L => s.data.toList ++ slotBytes L

theorem slotLens_append (L M : List ByteArray) : slotLens (L ++ M) = slotLens L ++ slotLens M := by
  induction L with
  | nil => rfl
  | cons s L ih => simp only [List.cons_append, slotLens, ih, List.append_assoc]

theorem slotBytes_append (L M : List ByteArray) : slotBytes (L ++ M) = slotBytes L ++ slotBytes M := by
  induction L with
  | nil => rfl
  | cons s L ih => simp only [List.cons_append, slotBytes, ih, List.append_assoc]

theorem slotLens_snoc (L : List ByteArray) (k : Nat) (h : k < L.length) : slotLens (L.take (k + 1)) = slotLens (L.take k) ++ putL L[k].size 2 := by
  rw [List.take_succ_eq_append_getElem h, slotLens_append]; simp [slotLens]

theorem slotBytes_snoc (L : List ByteArray) (k : Nat) (h : k < L.length) : slotBytes (L.take (k + 1)) = slotBytes (L.take k) ++ L[k].data.toList := by
  rw [List.take_succ_eq_append_getElem h, slotBytes_append]; simp [slotBytes]

theorem slotLens_length (L : List ByteArray) : (slotLens L).length = 2 * L.length := by
  induction L with
  | nil => rfl
  | cons s L ih => simp only [slotLens, List.length_append, putL_length, ih, List.length_cons]; omega

theorem slot_lengths (L : List ByteArray) : (slotLens L).length + (slotBytes L).length = slotSum L := by
  induction L with
  | nil => rfl
  | cons s L ih =>
    have : s.data.toList.length = s.size := by simp
    simp only [slotLens, slotBytes, slotSum, List.length_append, putL_length]; omega

theorem slotSum_take (L : List ByteArray) (k : Nat) : slotSum (L.take k) ≤ slotSum L := by
  conv => rhs; rw [← List.take_append_drop k L, slotSum_append]
  omega

theorem slotSum_at (L : List ByteArray) (k : Nat) (h : k < L.length) : 2 + L[k].size ≤ slotSum L := by
  have := slotSum_snoc L k h
  have := slotSum_take L (k + 1)
  omega

theorem slotSum_len (L : List ByteArray) : 2 * L.length ≤ slotSum L := by
  have := slotLens_length L
  have := slot_lengths L
  omega

/-- A page's bytes without the zeros, from the LSN on. -/
def bodyL (p : SheetV) : List UInt8 :=
  putL p.lsn 8 ++ putL p.num 4 ++ putL p.kind.toNat 1 ++ putL p.head.size 1 ++ p.head.data.toList ++ putL p.slots.length 1 ++ slotLens p.slots ++ slotBytes p.slots

/-- All but the sum. -/
def restL (p : SheetV) : List UInt8 := bodyL p ++ List.replicate (485 - p.head.size - slotSum p.slots) 0 ++ putL p.lsn 8

/-- A page's bytes. -/
def encL (p : SheetV) : List UInt8 := putL (crcSum 0 (restL p)) 4 ++ restL p

theorem bodyL_length (p : SheetV) : (bodyL p).length = 15 + p.head.size + slotSum p.slots := by
  have := slot_lengths p.slots
  have : p.head.data.toList.length = p.head.size := by simp
  simp only [bodyL, List.length_append, putL_length]; omega

theorem restL_length (p : SheetV) (h : p.head.size + slotSum p.slots ≤ 485) : (restL p).length = 508 := by
  simp only [restL, List.length_append, bodyL_length, putL_length, List.length_replicate]; omega

/-- The error of Encode. -/
def encE (p : SheetV) : Int := if p.kind < 0 ∨ 255 < p.kind ∨ 32 < p.head.size ∨ 64 < p.slots.length then 1 else if 485 < p.head.size + slotSum p.slots then 30 else 0

section
variable {w0 w : World} {b : Nat} {l : List UInt8} {a : Option Addr} {c : Nat}

theorem StrsAt.reach {L : List ByteArray} {s : Option Addr} (hm : StrsAt w0 s L) (h0 : Below w0.heap.size w0 w) {k : Nat} (hk : k < L.length) :
    ∃ bs o, s = some ⟨bs, o, none⟩ ∧ w.cell? ⟨bs, o + k, none⟩ = some (.string L[k]) := by
  rcases hm with hm | ⟨bs, o, rfl, hb, hc⟩
  · subst hm; simp at hk
  · exact ⟨bs, o, rfl, (h0.cell (p := ⟨bs, o + k, none⟩) hb).trans (hc k hk)⟩

set_option maxHeartbeats 400000 in
set_option maxRecDepth 60000 in
theorem putSlots_any (h : IsWriter w b l a c) (s : Option Addr) (d : Nat) (L : List ByteArray) (hm : StrsAt w0 s L) (h0 : Below w0.heap.size w0 w) (hb : w0.heap.size ≤ b) (hl : l.length + slotSum L ≤ 1000000) :
    Calls Tryz.prog 136 #[.pointer (some ⟨b, 0, none⟩), .slice s L.length d] w fun e w' =>
      e = .returned (.tuple #[]) ∧ (∃ a' c', IsWriter w' b (l ++ (putL L.length 1 ++ slotLens L ++ slotBytes L)) a' c') ∧ Below b w w' := by
  have hlen := slotSum_len L
  have hlens := slotLens_length L
  go_enter Tryz.func136, Tryz.ntmps136
  go_wp2_with fail
  refine (wnumber_any h L.length 1 (by omega) (by omega)).mono ?_
  rintro e w1 ⟨rfl, ⟨a1, c1, h1⟩, b1⟩
  have hll : (l ++ putL L.length (longOf 1)).length = l.length + 1 := by simp [putL_length, longOf]
  obtain ⟨l1, HL1⟩ : ∃ l1, Hid (l ++ putL L.length 1 = l1) := ⟨_, rfl⟩
  rw [show longOf 1 = 1 from rfl, HL1.out] at hll h1
  go_wp2_with fail
  go_loopw [15] (fun i wr => ∃ (k : Nat) (a' : Option Addr) (c' : Nat), k ≤ L.length ∧ i = .int .i64 k ∧ IsWriter wr b (l1 ++ slotLens (L.take k)) a' c' ∧ Below b w wr) (fun i _ => L.length - (intOf i).toNat)
  case atStart => exact ⟨0, a1, c1, Nat.zero_le _, rfl, by simpa [slotLens] using h1, b1⟩
  case round =>
    obtain ⟨k, a', c', hk, rfl, hr, hbr⟩ := hrel
    have hlk := slotLens_length (L.take k)
    rw [List.length_take] at hlk
    by_cases hlt : k < L.length
    · obtain ⟨bs, o, rfl, hck⟩ := hm.reach (h0.trans (hbr.mono hb)) hlt
      have hsn : Hid (slotLens (L.take (k + 1)) = slotLens (L.take k) ++ putL L[k].size 2) := slotLens_snoc L k hlt
      have hsz := slotSum_at L k hlt
      obtain ⟨s, hs⟩ : ∃ s, L[k] = s := ⟨_, rfl⟩
      rw [hs] at hck hsn hsz
      clear hs
      go_wp2_with fail
      refine (wnumber_any hr s.size 2 (by omega) (by simp; omega)).mono ?_
      rintro e w2 ⟨rfl, ⟨a2, c2, h2⟩, b2⟩
      rw [show longOf 2 = 2 from rfl] at h2
      go_wp2
      go_roundw
      case rel => exact ⟨k + 1, a2, c2, by omega, by go_num, by rw [hsn.out, ← List.append_assoc]; exact h2, hbr.trans b2⟩
      case measure => simp [intOf]; omega
    · obtain rfl : k = L.length := by omega
      rw [List.take_length] at hr hlk
      obtain ⟨l2, HL2⟩ : ∃ l2, Hid (l1 ++ slotLens L = l2) := ⟨_, rfl⟩
      have hll2 : l2.length = l1.length + 2 * L.length := by rw [← HL2.out]; simp [hlens]
      rw [HL2.out] at hr
      go_wp2_with fail
      go_loopw [27] (fun i wr => ∃ (k : Nat) (a' : Option Addr) (c' : Nat), k ≤ L.length ∧ i = .int .i64 k ∧ IsWriter wr b (l2 ++ slotBytes (L.take k)) a' c' ∧ Below b w wr) (fun i _ => L.length - (intOf i).toNat)
      case atStart => exact ⟨0, a', c', Nat.zero_le _, rfl, by simpa [slotBytes] using hr, hbr⟩
      case round =>
        obtain ⟨k, a3, c3, hk3, rfl, hr3, hbr3⟩ := hrel
        by_cases hlt : k < L.length
        · obtain ⟨bs, o, rfl, hck⟩ := hm.reach (h0.trans (hbr3.mono hb)) hlt
          have hsn : Hid (slotBytes (L.take (k + 1)) = slotBytes (L.take k) ++ L[k].data.toList) := slotBytes_snoc L k hlt
          have hsz := slotSum_snoc L k hlt
          have hst := slotSum_take L (k + 1)
          have hsl := slot_lengths (L.take k)
          obtain ⟨s, hs⟩ : ∃ s, L[k] = s := ⟨_, rfl⟩
          rw [hs] at hck hsn hsz
          clear hs
          have hsl2 := slotLens_length (L.take k)
          rw [List.length_take] at hsl2
          go_wp2_with fail
          refine (wbytes_any hr3 s (by simp; omega)).mono ?_
          rintro e w2 ⟨rfl, ⟨a2, c2, h2⟩, b2⟩
          go_wp2
          go_roundw
          case rel => exact ⟨k + 1, a2, c2, by omega, by go_num, by rw [hsn.out, ← List.append_assoc]; exact h2, hbr3.trans b2⟩
          case measure => simp [intOf]; omega
        · obtain rfl : k = L.length := by omega
          rw [List.take_length] at hr3
          go_wp2
          go_end0
          refine ⟨rfl, ⟨a3, c3, ?_⟩, hbr3⟩
          rw [← HL2.out, ← HL1.out] at hr3
          simpa using hr3

end
end Go.Proofs.YtjemeopafkafgaaGreat

namespace Go.Proofs.YtjemeopafkafgaaGreat
open Go.RowKit
set_option linter.unusedVariables false

/-- What is known of a page that was handed in: its parts' sizes, its slots' place. -/
structure SheetV.Ok (p : SheetV) (w : World) (a : Option Addr) : Prop where
  num : p.num < 4294967296
  lsn : p.lsn < 18446744073709551616
  kind : -9223372036854775808 ≤ p.kind ∧ p.kind ≤ 9223372036854775807
  head : p.head.size ≤ 140737488351232
  len : p.slots.length ≤ 8796093021952
  slots : ∀ s ∈ p.slots, s.size ≤ 140737488351232
  mem : StrsAt w a p.slots

theorem SheetV.Ok.below {p : SheetV} {w w' : World} {a : Option Addr} (h : p.Ok w a) (k : Below w.heap.size w w') : p.Ok w' a :=
  ⟨h.num, h.lsn, h.kind, h.head, h.len, h.slots, h.mem.below k⟩

theorem SheetV.Ok.room {p : SheetV} {w : World} {a : Option Addr} (h : p.Ok w a) (c : Nat) :
    Calls Tryz.prog 134 #[p.val a c] w fun e w' => e = .returned (.int .i64 (roomF p)) ∧ Below w.heap.size w w' :=
  room_any p a c w (by have := h.len; unfold maxLen; omega) (fun s hs => by have := h.slots s hs; unfold maxLen; omega) (by have := h.head; unfold maxLen; omega) h.mem

theorem slotSum_le (L : List ByteArray) (hn : L.length ≤ 64) (hs : ∀ s ∈ L, s.size ≤ 140737488351232) : slotSum L ≤ 64 * 140737488351234 := by
  have : ∀ M : List ByteArray, (∀ s ∈ M, s.size ≤ 140737488351232) → slotSum M ≤ M.length * 140737488351234 := by
    intro M
    induction M with
    | nil => intro _; simp [slotSum]
    | cons s M ih =>
      intro h
      have h1 := h s (by simp)
      have h2 := ih (fun x hx => h x (by simp [hx]))
      simp only [slotSum, List.length_cons, Nat.add_mul]
      omega
  exact Nat.le_trans (this L hs) (Nat.mul_le_mul_right _ hn)

theorem roomF_eq {p : SheetV} {w : World} {a : Option Addr} (h : p.Ok w a) (hn : p.slots.length ≤ 64) : roomF p = 485 - (p.head.size : Int) - (slotSum p.slots : Int) := by
  have h1 := slotSum_le p.slots hn h.slots
  have h2 := h.head
  exact wrap_small (by omega) (by omega)

set_option maxHeartbeats 800000 in
set_option maxRecDepth 60000 in
theorem encode_arg (p : SheetV) (a : Option Addr) (c : Nat) (w : World) (h : p.Ok w a) (hk : p.kind < 0 ∨ 255 < p.kind ∨ 32 < p.head.size ∨ 64 < p.slots.length) :
    Calls Tryz.prog 89 #[p.val a c] w fun e w' => e = .returned (.tuple #[.string ⟨#[]⟩, .int .i64 1]) ∧ Below w.heap.size w w' := by
  have h1 := h.kind
  have h2 := h.head
  have h3 := h.len
  obtain ⟨num, lsn, kind, head, L⟩ := p
  unfold SheetV.val
  simp only at hk h1 h2 h3 ⊢
  by_cases k1 : kind < 0
  · go_enter Tryz.func89, Tryz.ntmps89
    go_wp2
    go_ret2
    exact ⟨rfl, (Below.refl _ _).alloc (Nat.le_refl _) _⟩
  by_cases k2 : 255 < kind
  · go_enter Tryz.func89, Tryz.ntmps89
    go_wp2
    go_ret2
    exact ⟨rfl, (Below.refl _ _).alloc (Nat.le_refl _) _⟩
  by_cases k3 : 32 < head.size
  · have k1' : 0 ≤ kind := by omega
    have k2' : kind ≤ 255 := by omega
    go_enter Tryz.func89, Tryz.ntmps89
    go_wp2
    go_ret2
    exact ⟨rfl, (Below.refl _ _).alloc (Nat.le_refl _) _⟩
  have k4 : 64 < L.length := by omega
  have k1' : 0 ≤ kind := by omega
  have k2' : kind ≤ 255 := by omega
  have k3' : head.size ≤ 32 := by omega
  go_enter Tryz.func89, Tryz.ntmps89
  go_wp2
  go_ret2
  exact ⟨rfl, (Below.refl _ _).alloc (Nat.le_refl _) _⟩

set_option maxHeartbeats 800000 in
set_option maxRecDepth 60000 in
theorem encode_full (p : SheetV) (a : Option Addr) (c : Nat) (w : World) (h : p.Ok w a) (k1 : 0 ≤ p.kind) (k2 : p.kind ≤ 255) (k3 : p.head.size ≤ 32) (k4 : p.slots.length ≤ 64) (hf : 485 < p.head.size + slotSum p.slots) :
    Calls Tryz.prog 89 #[p.val a c] w fun e w' => e = .returned (.tuple #[.string ⟨#[]⟩, .int .i64 30]) ∧ Below w.heap.size w w' := by
  have hr := roomF_eq h k4
  have h' := h.below ((Below.refl w.heap.size w).alloc (Nat.le_refl _) (.cells #[.int .u32 p.num, .int .u64 p.lsn, .int .i64 p.kind, .string p.head, .slice a p.slots.length c] 100))
  have HR : Hid (∀ d, Calls Tryz.prog 134 #[p.val a d] (w.alloc (.cells #[.int .u32 p.num, .int .u64 p.lsn, .int .i64 p.kind, .string p.head, .slice a p.slots.length c] 100)) fun e w' => e = .returned (.int .i64 (485 - (p.head.size : Int) - (slotSum p.slots : Int))) ∧ Below (w.heap.size + 1) (w.alloc (.cells #[.int .u32 p.num, .int .u64 p.lsn, .int .i64 p.kind, .string p.head, .slice a p.slots.length c] 100)) w') := fun d => by
    have := h'.room d
    rw [hr] at this
    simpa using this
  have HS : Hid (slotSum p.slots ≤ 64 * 140737488351234) := slotSum_le p.slots k4 h.slots
  clear h' h hr
  obtain ⟨num, lsn, kind, head, L⟩ := p
  unfold SheetV.val at *
  simp only at *
  generalize slotSum L = S at *
  have hS := HS.out
  go_enter Tryz.func89, Tryz.ntmps89
  go_wp2_with fail
  refine (HR.out c).mono ?_
  rintro e w1 ⟨rfl, b1⟩
  go_wp2
  go_ret2
  exact ⟨rfl, ((Below.refl _ _).alloc (Nat.le_refl _) _).trans (b1.mono (by omega))⟩

/-- A box of five cells is read as it was laid. -/
theorem box5 {w wX : World} {v0 v1 v2 v3 v4 : Value} {T : TypeId} (hb : Below (w.heap.size + 1) (w.alloc (.cells #[v0, v1, v2, v3, v4] T)) wX) :
    wX.cell? ⟨w.heap.size, 0, none⟩ = some v0 ∧ wX.cell? ⟨w.heap.size, 1, none⟩ = some v1 ∧ wX.cell? ⟨w.heap.size, 2, none⟩ = some v2 ∧ wX.cell? ⟨w.heap.size, 3, none⟩ = some v3 ∧ wX.cell? ⟨w.heap.size, 4, none⟩ = some v4 :=
  ⟨(hb.cell (p := ⟨w.heap.size, 0, none⟩) (by simp)).trans (by simp), (hb.cell (p := ⟨w.heap.size, 1, none⟩) (by simp)).trans (by simp), (hb.cell (p := ⟨w.heap.size, 2, none⟩) (by simp)).trans (by simp),
    (hb.cell (p := ⟨w.heap.size, 3, none⟩) (by simp)).trans (by simp), (hb.cell (p := ⟨w.heap.size, 4, none⟩) (by simp)).trans (by simp)⟩

theorem wnumber_is {w : World} {b : Nat} {l : List UInt8} {a : Option Addr} {c : Nat} (h : IsWriter w b l a c) (n k : Nat) (hn : n < 18446744073709551616) (hk : k ≤ 8) (hl : l.length + 8 ≤ 140737488355328) :
    Calls Tryz.prog 104 #[.pointer (some ⟨b, 0, none⟩), .int .u64 n, .int .i64 k] w fun y w' =>
      y = .returned (.tuple #[]) ∧ (∃ a' c', IsWriter w' b (l ++ putL n k) a' c') ∧ Below b w w' := by
  have := wnumber_any h n k hn hl
  rw [show longOf (k : Int) = k from by unfold longOf; omega] at this
  exact this

end Go.Proofs.YtjemeopafkafgaaGreat

namespace Go.Proofs.YtjemeopafkafgaaGreat
open Go.RowKit
set_option linter.unusedVariables false

/-- A row of N values that may be written: cell j holds f j. -/
def RowV (w : World) (b N : Nat) (f : Nat → Value) : Prop :=
  ∀ j, j < N → w.cell? ⟨b, j, none⟩ = some (f j) ∧ w.frozen? ⟨b, j, none⟩ = false

theorem RowV.congr {w : World} {b N : Nat} {f g : Nat → Value} (h : RowV w b N f) (e : ∀ j, j < N → f j = g j) : RowV w b N g :=
  fun j hj => by rw [← e j hj]; exact h j hj

theorem RowV.set {w : World} {b N : Nat} {f : Nat → Value} (h : RowV w b N f) {k : Nat} (hk : k < N) (v : Value) :
    RowV (w.setCell ⟨b, k, none⟩ v) b N (fun j => if j = k then v else f j) := by
  intro j hj
  refine ⟨?_, by rw [World.frozen?_setCell]; exact (h j hj).2⟩
  by_cases e : j = k
  · subst e; simp only [if_pos]; exact World.cell?_setCell_same _ _ _ (h j hj).1
  · simp only [if_neg e]; rw [World.cell?_setCell_other _ _ _ _ (by intro q; exact e (by simpa using q.symm))]; exact (h j hj).1

theorem RowV.set_other {w : World} {b N : Nat} {f : Nat → Value} (h : RowV w b N f) {b' k : Nat} (hk : b' ≠ b) (v : Value) : RowV (w.setCell ⟨b', k, none⟩ v) b N f := by
  intro j hj
  refine ⟨?_, by rw [World.frozen?_setCell]; exact (h j hj).2⟩
  rw [World.cell?_setCell_other _ _ _ _ (by intro q; exact hk (by simpa using congrArg Addr.block q))]; exact (h j hj).1

theorem RowV.made (w : World) (N : Nat) (z : Value) (hz : z.cells = #[z]) (t : TypeId) : RowV (w.alloc (.cells (madeCells #[z] N) t)) w.heap.size N (fun _ => z) := by
  intro j hj
  refine ⟨?_, by simp⟩
  rw [World.cell?_alloc_new]
  have h : (madeCells #[z] N).toList[j]? = some z := by
    rw [toList_madeCells_one]; simp [hj]
  simpa using h

theorem RowV.below {w w' : World} {b N : Nat} {f : Nat → Value} (h : RowV w b N f) {B : Nat} (k : Below B w w') (hb : b < B) : RowV w' b N f :=
  fun j hj => ⟨(k.cell (p := ⟨b, j, none⟩) hb).trans (h j hj).1, (k.frozen (p := ⟨b, j, none⟩) hb).trans (h j hj).2⟩

theorem Only.frozen {b : Nat} {w w' : World} (h : Only b w w') {p : Addr} (hp : p.block < w.heap.size) (hb : p.block ≠ b) : w'.frozen? p = w.frozen? p := World.frozen?_of_block (w := w) (h.block p.block hp hb)

theorem RowV.only {w w' : World} {b N : Nat} {f : Nat → Value} (h : RowV w b N f) {r : Nat} (k : Only r w w') (hb : b < w.heap.size) (hr : b ≠ r) : RowV w' b N f :=
  fun j hj => ⟨(k.cell (p := ⟨b, j, none⟩) hb hr).trans (h j hj).1, (k.frozen (p := ⟨b, j, none⟩) hb hr).trans (h j hj).2⟩

theorem Only.setNew {b : Nat} {w w' : World} (h : Only b w w') {k : Nat} (hk : w.heap.size ≤ k) (i : Nat) (v : Value) : Only b w (w'.setCell ⟨k, i, none⟩ v) :=
  ⟨h.os, h.tape, h.output, by simpa using h.size, fun j hj hb => (Below.heap_setCell _ _ _ _ (by simp; omega)).trans (h.block j hj hb)⟩

theorem IsReader.setOther {w : World} {b : Nat} {s : ByteArray} {p : Nat} {e : Int} (h : IsReader w b s p e) {k i : Nat} (hk : k ≠ b) (v : Value) : IsReader (w.setCell ⟨k, i, none⟩ v) b s p e := by
  have ne : ∀ o, (⟨k, i, none⟩ : Addr) ≠ ⟨b, o, none⟩ := fun o q => hk (congrArg Addr.block q)
  exact ⟨by rw [World.cell?_setCell_other _ _ _ _ (ne 0)]; exact h.c0, by rw [World.cell?_setCell_other _ _ _ _ (ne 1)]; exact h.c1, by rw [World.cell?_setCell_other _ _ _ _ (ne 2)]; exact h.c2,
    by rw [World.frozen?_setCell]; exact h.f1, by rw [World.frozen?_setCell]; exact h.f2, h.le, h.sz, by simpa using h.lt⟩

theorem infoInt : (Tryz.prog.info? 3).map (fun i => (i.zero, i.size, i.bytes)) = some (some (.int .i64 0), 1, 8) := by kernel_rfl
theorem infoStr : (Tryz.prog.info? 9).map (fun i => (i.zero, i.size, i.bytes)) = some (some (.string ⟨#[]⟩), 1, 16) := by kernel_rfl

/-- Are all bytes zeros? -/
def zerosB (l : List UInt8) : Bool := l.all fun x => x == 0

section
variable {w : World} {b : Nat} {s : ByteArray} {p : Nat} {e : Int}

end
end Go.Proofs.YtjemeopafkafgaaGreat

namespace Go.Proofs.YtjemeopafkafgaaGreat
open Go.RowKit
set_option linter.unusedVariables false

/-- The length of slot j, whose lengths stand at q. -/
def longAt (s : ByteArray) (q j : Nat) : Nat := le (part s (q + 2 * j) 2)

/-- Where slot k begins. -/
def offAt (s : ByteArray) (q n : Nat) : Nat → Nat
  | 0 => q + 2 * n
  | k + 1 => offAt s q n k + longAt s q k

/-- The slots. -/
def slotAt (s : ByteArray) (q n j : Nat) : ByteArray := ⟨(part s (offAt s q n j) (longAt s q j)).toArray⟩
def slotsAt (s : ByteArray) (q n : Nat) : List ByteArray := (List.range n).map (slotAt s q n)

section
variable {w : World} {b : Nat} {s : ByteArray} {p : Nat} {e : Int}

theorem IsReader.alloc {w : World} (h : IsReader w b s p e) (o : Obj) : IsReader (w.alloc o) b s p e := h.below ((Below.refl _ _).alloc (Nat.le_refl _) _)

end
end Go.Proofs.YtjemeopafkafgaaGreat

namespace Go.Proofs.YtjemeopafkafgaaGreat
open Go.RowKit
set_option linter.unusedVariables false

theorem RowV.strs {w : World} {b : Nat} {L : List ByteArray} (hb : b < w.heap.size) (h : RowV w b L.length (fun j => .string (L.getD j ByteArray.empty))) : StrsAt w (some ⟨b, 0, none⟩) L :=
  .inr ⟨b, 0, rfl, hb, fun i hi => by have := (h i hi).1; simp only [Nat.zero_add]; rw [this]; show some (Value.string (L.getD i ByteArray.empty)) = _; rw [List.getD_eq_getElem?_getD, List.getElem?_eq_getElem hi]; rfl⟩

/-- The same, in a block from B on. -/
def StrsFrom (B : Nat) (w : World) (a : Option Addr) (L : List ByteArray) : Prop :=
  L = [] ∨ ∃ b o, a = some ⟨b, o, none⟩ ∧ B ≤ b ∧ b < w.heap.size ∧ ∀ i (hi : i < L.length), w.cell? ⟨b, o + i, none⟩ = some (.string L[i])

theorem StrsFrom.at {B : Nat} {w : World} {a : Option Addr} {L : List ByteArray} (h : StrsFrom B w a L) : StrsAt w a L := by
  rcases h with h | ⟨b, o, e, _, hb, hc⟩
  · exact .inl h
  · exact .inr ⟨b, o, e, hb, hc⟩

theorem StrsFrom.setOther {B : Nat} {w : World} {a : Option Addr} {L : List ByteArray} (h : StrsFrom B w a L) {k i : Nat} (hk : k < B) (v : Value) : StrsFrom B (w.setCell ⟨k, i, none⟩ v) a L := by
  rcases h with h | ⟨b, o, e, h1, hb, hc⟩
  · exact .inl h
  · refine .inr ⟨b, o, e, h1, by simpa using hb, fun j hj => ?_⟩
    rw [World.cell?_setCell_other _ _ _ _ (by intro q; have := congrArg Addr.block q; simp only at this; omega)]
    exact hc j hj

theorem StrsFrom.mono {B C : Nat} {w : World} {a : Option Addr} {L : List ByteArray} (h : StrsFrom B w a L) (hC : C ≤ B) : StrsFrom C w a L := by
  rcases h with h | ⟨b, o, e, h1, hb, hc⟩
  · exact .inl h
  · exact .inr ⟨b, o, e, by omega, hb, hc⟩

theorem StrsFrom.store5 {B : Nat} {w : World} {a : Option Addr} {L : List ByteArray} (h : StrsFrom B w a L) {b : Nat} (hb : b < B) (v0 v1 v2 v3 v4 : Value) :
    StrsFrom B (((((w.setCell ⟨b, 0, none⟩ v0).setCell ⟨b, 1, none⟩ v1).setCell ⟨b, 2, none⟩ v2).setCell ⟨b, 3, none⟩ v3).setCell ⟨b, 4, none⟩ v4) a L :=
  ((((h.setOther hb v0).setOther hb v1).setOther hb v2).setOther hb v3).setOther hb v4

/-- Five values, by their places. -/
def five (v0 v1 v2 v3 v4 : Value) : Nat → Value
  | 0 => v0
  | 1 => v1
  | 2 => v2
  | 3 => v3
  | _ => v4

theorem RowV.five_new (w : World) (v0 v1 v2 v3 v4 : Value) (T : TypeId) : RowV (w.alloc (.cells #[v0, v1, v2, v3, v4] T)) w.heap.size 5 (five v0 v1 v2 v3 v4) := by
  intro j hj
  match j, hj with
  | 0, _ => exact ⟨by simp [five], by simp⟩
  | 1, _ => exact ⟨by simp [five], by simp⟩
  | 2, _ => exact ⟨by simp [five], by simp⟩
  | 3, _ => exact ⟨by simp [five], by simp⟩
  | 4, _ => exact ⟨by simp [five], by simp⟩

theorem RowV.set0 {w : World} {b : Nat} {v0 v1 v2 v3 v4 : Value} (h : RowV w b 5 (five v0 v1 v2 v3 v4)) (v : Value) : RowV (w.setCell ⟨b, 0, none⟩ v) b 5 (five v v1 v2 v3 v4) :=
  (h.set (k := 0) (by omega) v).congr fun j hj => by match j, hj with | 0, _ => rfl | 1, _ => rfl | 2, _ => rfl | 3, _ => rfl | 4, _ => rfl
theorem RowV.set1 {w : World} {b : Nat} {v0 v1 v2 v3 v4 : Value} (h : RowV w b 5 (five v0 v1 v2 v3 v4)) (v : Value) : RowV (w.setCell ⟨b, 1, none⟩ v) b 5 (five v0 v v2 v3 v4) :=
  (h.set (k := 1) (by omega) v).congr fun j hj => by match j, hj with | 0, _ => rfl | 1, _ => rfl | 2, _ => rfl | 3, _ => rfl | 4, _ => rfl
theorem RowV.set2 {w : World} {b : Nat} {v0 v1 v2 v3 v4 : Value} (h : RowV w b 5 (five v0 v1 v2 v3 v4)) (v : Value) : RowV (w.setCell ⟨b, 2, none⟩ v) b 5 (five v0 v1 v v3 v4) :=
  (h.set (k := 2) (by omega) v).congr fun j hj => by match j, hj with | 0, _ => rfl | 1, _ => rfl | 2, _ => rfl | 3, _ => rfl | 4, _ => rfl
theorem RowV.set3 {w : World} {b : Nat} {v0 v1 v2 v3 v4 : Value} (h : RowV w b 5 (five v0 v1 v2 v3 v4)) (v : Value) : RowV (w.setCell ⟨b, 3, none⟩ v) b 5 (five v0 v1 v2 v v4) :=
  (h.set (k := 3) (by omega) v).congr fun j hj => by match j, hj with | 0, _ => rfl | 1, _ => rfl | 2, _ => rfl | 3, _ => rfl | 4, _ => rfl
theorem RowV.set4 {w : World} {b : Nat} {v0 v1 v2 v3 v4 : Value} (h : RowV w b 5 (five v0 v1 v2 v3 v4)) (v : Value) : RowV (w.setCell ⟨b, 4, none⟩ v) b 5 (five v0 v1 v2 v3 v) :=
  (h.set (k := 4) (by omega) v).congr fun j hj => by match j, hj with | 0, _ => rfl | 1, _ => rfl | 2, _ => rfl | 3, _ => rfl | 4, _ => rfl

theorem RowV.cells5 {w : World} {b : Nat} {v0 v1 v2 v3 v4 : Value} (h : RowV w b 5 (five v0 v1 v2 v3 v4)) :
    w.cell? ⟨b, 0, none⟩ = some v0 ∧ w.cell? ⟨b, 1, none⟩ = some v1 ∧ w.cell? ⟨b, 2, none⟩ = some v2 ∧ w.cell? ⟨b, 3, none⟩ = some v3 ∧ w.cell? ⟨b, 4, none⟩ = some v4 :=
  ⟨(h 0 (by omega)).1, (h 1 (by omega)).1, (h 2 (by omega)).1, (h 3 (by omega)).1, (h 4 (by omega)).1⟩
theorem RowV.open5 {w : World} {b : Nat} {v0 v1 v2 v3 v4 : Value} (h : RowV w b 5 (five v0 v1 v2 v3 v4)) :
    w.frozen? ⟨b, 0, none⟩ = false ∧ w.frozen? ⟨b, 1, none⟩ = false ∧ w.frozen? ⟨b, 2, none⟩ = false ∧ w.frozen? ⟨b, 3, none⟩ = false ∧ w.frozen? ⟨b, 4, none⟩ = false :=
  ⟨(h 0 (by omega)).2, (h 1 (by omega)).2, (h 2 (by omega)).2, (h 3 (by omega)).2, (h 4 (by omega)).2⟩

/-- A whole page is stored into block b. -/
def store5 (w : World) (b : Nat) (v0 v1 v2 v3 v4 : Value) : World := ((((w.setCell ⟨b, 0, none⟩ v0).setCell ⟨b, 1, none⟩ v1).setCell ⟨b, 2, none⟩ v2).setCell ⟨b, 3, none⟩ v3).setCell ⟨b, 4, none⟩ v4

theorem RowV.set5 {w : World} {b : Nat} {u0 u1 u2 u3 u4 : Value} (h : RowV w b 5 (five u0 u1 u2 u3 u4)) (v0 v1 v2 v3 v4 : Value) : RowV (store5 w b v0 v1 v2 v3 v4) b 5 (five v0 v1 v2 v3 v4) :=
  ((((h.set0 v0).set1 v1).set2 v2).set3 v3).set4 v4

theorem RowV.set5_other {w : World} {b k N : Nat} {f : Nat → Value} (h : RowV w k N f) (hk : b ≠ k) (v0 v1 v2 v3 v4 : Value) : RowV (store5 w b v0 v1 v2 v3 v4) k N f :=
  ((((h.set_other hk v0).set_other hk v1).set_other hk v2).set_other hk v3).set_other hk v4

theorem below_set5 {B : Nat} {w w' : World} (h : Below B w w') {b : Nat} (hb : B ≤ b) (v0 v1 v2 v3 v4 : Value) : Below B w (store5 w' b v0 v1 v2 v3 v4) :=
  ((((h.setCell (p := ⟨b, 0, none⟩) hb v0).setCell (p := ⟨b, 1, none⟩) hb v1).setCell (p := ⟨b, 2, none⟩) hb v2).setCell (p := ⟨b, 3, none⟩) hb v3).setCell (p := ⟨b, 4, none⟩) hb v4

theorem store5_size (w : World) (b : Nat) (v0 v1 v2 v3 v4 : Value) : (store5 w b v0 v1 v2 v3 v4).heap.size = w.heap.size := by simp [store5]

end Go.Proofs.YtjemeopafkafgaaGreat
