/-
  The walks of the sum: what raw.shiftByte, raw.More, raw.Sum and girderref01.More return, for every register and every text.
-/
import Derived.Test.YtgkfdakieebnmaaGreatProg
import Derived.Test.YtgkfdakieebnmaaGreatCrcJ
import Derived.WalkKit
import Derived.WalkSpells
import Derived.WalkLawsBesides
import Derived.Shelf.Lays
import Derived.Shelf.Strings.Repeat
import Derived.Test.YtgkfdakieebnmaaGreatPageMemJ
import Derived.Test.YtgkfdakieebnmaaGreatWriterWalksJ
import Derived.Test.YtgkfdakieebnmaaGreatReaderMoreC
set_option linter.unusedVariables false
set_option linter.unusedSimpArgs false
namespace Go.Proofs.YtgkfdakieebnmaaGreat
open Go.RowKit

set_option maxHeartbeats 400000 in
set_option maxRecDepth 60000 in
theorem shift_any (r b : Nat) (w : World) (hr : r < 4294967296) (hb : b < 256) :
    Calls Tryz.prog 207 #[.int .u32 r, .int .u8 b] w fun e w' => e = .returned (.int .u32 (crcB r b)) ∧ w' = w := by
  go_enter Tryz.func207, Tryz.ntmps207
  go_wp2
  go_loop [0, 10] (fun t i => ∃ k : Nat, k ≤ 8 ∧ i = .int .i64 k ∧ t = .int .u32 (crcN k (r ^^^ b))) (fun _ i => 8 - (intOf i).toNat)
  case atStart => exact ⟨0, by omega, rfl, by rw [u32_xor_nat _ _ hr (by omega)]; rfl⟩
  case round =>
    obtain ⟨k, hk, rfl, rfl⟩ := hrel
    have hx : crcN k (r ^^^ b) < 4294967296 := crcN_lt (Nat.xor_lt_two_pow (n := 32) (by omega) (by omega)) k
    have hs : Hid (crcN (k + 1) (r ^^^ b) = crc1 (crcN k (r ^^^ b))) := rfl
    by_cases hlt : k < 8
    · generalize crcN k (r ^^^ b) = x at *
      go_wp2
      · go_round
        case rel => exact ⟨k + 1, by omega, by go_num, by rw [hs.out, crc1_odd hx ‹_›]⟩
        case measure => simp [intOf]; omega
      · go_round
        case rel => exact ⟨k + 1, by omega, by go_num, by rw [hs.out, crc1_even hx ‹_›]⟩
        case measure => simp [intOf]; omega
    · obtain rfl : k = 8 := by omega
      go_wp2
      go_ret
      exact ⟨rfl, rfl⟩

theorem take_snoc (s : ByteArray) (k : Nat) (h : k < s.size) : s.data.toList.take (k + 1) = s.data.toList.take k ++ [s[k]] := by
  rw [List.take_succ_eq_append_getElem (by simpa using h)]; rfl

set_option maxHeartbeats 400000 in
set_option maxRecDepth 60000 in
theorem more_any (c : Nat) (s : ByteArray) (w : World) (hc : c < 4294967296) (hs : s.size ≤ maxLen) :
    Calls Tryz.prog 164 #[.int .u32 c, .string s] w fun e w' => e = .returned (.int .u32 (crcSum c s.data.toList)) ∧ w' = w := by
  unfold maxLen at hs
  go_enter Tryz.func164, Tryz.ntmps164
  go_wp2
  go_loop [5, 11] (fun t i => ∃ k : Nat, k ≤ s.size ∧ i = .int .i64 k ∧ t = .int .u32 (crcL (4294967295 - c) (s.data.toList.take k))) (fun _ i => s.size - (intOf i).toNat)
  case atStart => exact ⟨0, Nat.zero_le _, rfl, by rw [not32 hc]; rfl⟩
  case round =>
    obtain ⟨k, hk, rfl, rfl⟩ := hrel
    have hx : crcL (4294967295 - c) (s.data.toList.take k) < 4294967296 := crcL_lt _ (by omega)
    by_cases hlt : k < s.size
    · have hts : Hid (crcL (4294967295 - c) (s.data.toList.take (k + 1)) = crcB (crcL (4294967295 - c) (s.data.toList.take k)) s[k].toNat) := by rw [take_snoc s k hlt]; exact crcL_snoc _ _ _
      generalize crcL (4294967295 - c) (s.data.toList.take k) = x at *
      go_wp2_with (go_at_call 207; refine (shift_any x s[k].toNat _ hx s[k].toNat_lt).mono ?_; rintro e w' ⟨rfl, rfl⟩)
      go_round
      case rel => exact ⟨k + 1, by omega, by go_num, by rw [hts.out]⟩
      case measure => simp [intOf]; omega
    · obtain rfl : k = s.size := by omega
      have hfin : Hid (crcSum c s.data.toList = 4294967295 - crcL (4294967295 - c) (s.data.toList.take s.size)) := by
        rw [List.take_of_length_le (by simp)]; rfl
      generalize crcL (4294967295 - c) (s.data.toList.take s.size) = x at *
      go_wp2
      go_ret
      exact ⟨ret_int (by rw [hfin.out]; exact not32 hx), rfl⟩

set_option maxHeartbeats 400000 in
set_option maxRecDepth 60000 in
theorem sum_any (s : ByteArray) (w : World) (hs : s.size ≤ maxLen) :
    Calls Tryz.prog 113 #[.string s] w fun e w' => e = .returned (.int .u32 (crcSum 0 s.data.toList)) ∧ w' = w := by
  go_enter Tryz.func113, Tryz.ntmps113
  go_wp2_with (go_at_call 164; refine (more_any 0 s _ (by omega) hs).mono ?_; rintro e w' ⟨rfl, rfl⟩)
  go_ret
  exact ⟨rfl, rfl⟩

end Go.Proofs.YtgkfdakieebnmaaGreat

namespace Go.Proofs.YtgkfdakieebnmaaGreat
open Go.Shelf Go.RowKit

def repeatLays_ren : Go.Shelf.Ren := ⟨fun | 105 => 110 | 212 => 159 | 99 => 138 | 165 => 160 | 166 => 161 | 170 => 162 | 169 => 163 | 263 => 203 | 264 => 204 | 206 => 175 | 240 => 205 | 241 => 206 | 276 => 223 | 277 => 224 | n => n, fun | 9 => 9 | 3 => 3 | 4 => 4 | 20 => 20 | 0 => 0 | 46 => 224 | 109 => 236 | 5 => 5 | 72 => 240 | 76 => 243 | 51 => 48 | 146 => 273 | 53 => 23 | 148 => 275 | 70 => 238 | 37 => 90 | 75 => 242 | 127 => 269 | 164 => 290 | 80 => 147 | n => n, fun | n => n⟩
theorem repeatLays : Go.Proofs.Lays.n105 Tryz.prog repeatLays_ren := {
  mixed := by kernel_rfl
  f99 := Tryz.func138.trans (congrArg some (by kernel_rfl))
  f105 := Tryz.func110.trans (congrArg some (by kernel_rfl))
  f165 := Tryz.func160.trans (congrArg some (by kernel_rfl))
  f166 := Tryz.func161.trans (congrArg some (by kernel_rfl))
  f169 := Tryz.func163.trans (congrArg some (by kernel_rfl))
  f170 := Tryz.func162.trans (congrArg some (by kernel_rfl))
  f206 := Tryz.func175.trans (congrArg some (by kernel_rfl))
  f212 := Tryz.func159.trans (congrArg some (by kernel_rfl))
  f240 := Tryz.func205.trans (congrArg some (by kernel_rfl))
  f241 := Tryz.func206.trans (congrArg some (by kernel_rfl))
  f263 := Tryz.func203.trans (congrArg some (by kernel_rfl))
  f264 := Tryz.func204.trans (congrArg some (by kernel_rfl))
  f276 := Tryz.func223.trans (congrArg some (by kernel_rfl))
  f277 := Tryz.func224.trans (congrArg some (by kernel_rfl))
  t0 := Tryz.underlying0
  a0 := Tryz.isAgg0
  z0 := Tryz.sizeOf0
  v0 := Tryz.zeroValue0
  t3 := Tryz.underlying3
  a3 := Tryz.isAgg3
  z3 := Tryz.sizeOf3
  v3 := Tryz.zeroValue3
  t4 := Tryz.underlying4
  a4 := Tryz.isAgg4
  z4 := Tryz.sizeOf4
  v4 := Tryz.zeroValue4
  t5 := Tryz.underlying5
  a5 := Tryz.isAgg5
  z5 := Tryz.sizeOf5
  v5 := Tryz.zeroValue5
  t9 := Tryz.underlying9
  a9 := Tryz.isAgg9
  z9 := Tryz.sizeOf9
  v9 := Tryz.zeroValue9
  t20 := Tryz.underlying20
  a20 := Tryz.isAgg20
  z20 := Tryz.sizeOf20
  v20 := Tryz.zeroValue20
  t37 := Tryz.underlying90
  a37 := Tryz.isAgg90
  z37 := Tryz.sizeOf90
  v37 := Tryz.zeroValue90
  t46 := Tryz.underlying224
  a46 := Tryz.isAgg224
  z46 := Tryz.sizeOf224
  v46 := Tryz.zeroValue224
  t51 := Tryz.underlying48
  a51 := Tryz.isAgg48
  z51 := Tryz.sizeOf48
  v51 := Tryz.zeroValue48
  t53 := Tryz.underlying23
  a53 := Tryz.isAgg23
  z53 := Tryz.sizeOf23
  v53 := Tryz.zeroValue23
  t70 := Tryz.underlying238
  a70 := Tryz.isAgg238
  z70 := Tryz.sizeOf238
  v70 := Tryz.zeroValue238
  t72 := Tryz.underlying240
  a72 := Tryz.isAgg240
  z72 := Tryz.sizeOf240
  v72 := Tryz.zeroValue240
  t75 := Tryz.underlying242
  a75 := Tryz.isAgg242
  z75 := Tryz.sizeOf242
  v75 := Tryz.zeroValue242
  t76 := Tryz.underlying243
  a76 := Tryz.isAgg243
  z76 := Tryz.sizeOf243
  v76 := Tryz.zeroValue243
  t109 := Tryz.underlying236
  a109 := Tryz.isAgg236
  z109 := Tryz.sizeOf236
  v109 := Tryz.zeroValue236
  t127 := Tryz.underlying269
  a127 := Tryz.isAgg269
  z127 := Tryz.sizeOf269
  v127 := Tryz.zeroValue269
  t146 := Tryz.underlying273
  a146 := Tryz.isAgg273
  z146 := Tryz.sizeOf273
  v146 := Tryz.zeroValue273
  t148 := Tryz.underlying275
  a148 := Tryz.isAgg275
  z148 := Tryz.sizeOf275
  v148 := Tryz.zeroValue275
  t164 := Tryz.underlying290
  a164 := Tryz.isAgg290
  z164 := Tryz.sizeOf290
  v164 := Tryz.zeroValue290 }

theorem repeatExtra : Builder.Extra Tryz.prog repeatLays_ren := {
  sizeBuilder := by kernel_rfl
  liesBuilder := by kernel_rfl
  t5 := Tryz.underlying5
  a5 := Tryz.isAgg5
  z5 := Tryz.sizeOf5
  v5 := Tryz.zeroValue5
  infoByte := by kernel_rfl
  cellsByte := by kernel_rfl
  sizeByte := by kernel_rfl
  neB5 := by decide }

theorem repeatL_one_zero (n : Nat) : Lib.repeatL [0] n = List.replicate n (0 : UInt8) := by
  induction n with
  | zero => rfl
  | succ n ih => rw [List.replicate_succ, ← ih]; rfl

theorem zeros_made (n : Nat) (w : World) (hn : n ≤ 1000000) : Calls Tryz.prog 110 #[.string ⟨#[0]⟩, .int .i64 n] w fun e w' => e = .returned (.string ⟨(List.replicate n 0).toArray⟩) ∧ Below w.heap.size w w' := by
  have h := Any.strings_Repeat repeatLays repeatExtra ⟨#[0]⟩ n w (by omega) (by show 1 * n ≤ _; omega)
  have e : Lib.repeatL (ByteArray.mk #[0]).data.toList n = List.replicate n 0 := repeatL_one_zero n
  rw [e] at h
  exact h

end Go.Proofs.YtgkfdakieebnmaaGreat

namespace Go.Proofs.YtgkfdakieebnmaaGreat
open Go.RowKit

def slotLens : List ByteArray → List UInt8
  | [] => []
  | s :: L => putL s.size 2 ++ slotLens L

def slotBytes : List ByteArray → List UInt8
  | [] => []
  | s :: L => s.data.toList ++ slotBytes L

theorem slotLens_append (L M : List ByteArray) : slotLens (L ++ M) = slotLens L ++ slotLens M := by
  induction L with
  | nil => rfl
  | cons s L ih => simp only [List.cons_append, slotLens, ih, List.append_assoc]

theorem slotBytes_append (L M : List ByteArray) : slotBytes (L ++ M) = slotBytes L ++ slotBytes M := by
  induction L with
  | nil => rfl
  | cons s L ih => simp only [List.cons_append, slotBytes, ih, List.append_assoc]

theorem slotLens_snoc (L : List ByteArray) (k : Nat) (h : k < L.length) : slotLens (L.take (k + 1)) = slotLens (L.take k) ++ putL L[k].size 2 := by
  rw [List.take_succ_eq_append_getElem h, slotLens_append]; simp [slotLens]

theorem slotBytes_snoc (L : List ByteArray) (k : Nat) (h : k < L.length) : slotBytes (L.take (k + 1)) = slotBytes (L.take k) ++ L[k].data.toList := by
  rw [List.take_succ_eq_append_getElem h, slotBytes_append]; simp [slotBytes]

theorem slotLens_length (L : List ByteArray) : (slotLens L).length = 2 * L.length := by
  induction L with
  | nil => rfl
  | cons s L ih => simp only [slotLens, List.length_append, putL_length, ih, List.length_cons]; omega

theorem slot_lengths (L : List ByteArray) : (slotLens L).length + (slotBytes L).length = slotSum L := by
  induction L with
  | nil => rfl
  | cons s L ih =>
    have : s.data.toList.length = s.size := by simp
    simp only [slotLens, slotBytes, slotSum, List.length_append, putL_length]; omega

theorem slotSum_take (L : List ByteArray) (k : Nat) : slotSum (L.take k) ≤ slotSum L := by
  conv => rhs; rw [← List.take_append_drop k L, slotSum_append]
  omega

theorem slotSum_at (L : List ByteArray) (k : Nat) (h : k < L.length) : 2 + L[k].size ≤ slotSum L := by
  have := slotSum_snoc L k h
  have := slotSum_take L (k + 1)
  omega

theorem slotSum_len (L : List ByteArray) : 2 * L.length ≤ slotSum L := by
  have := slotLens_length L
  have := slot_lengths L
  omega

def bodyL (p : SheetV) : List UInt8 :=
  putL p.lsn 8 ++ putL p.num 4 ++ putL p.kind.toNat 1 ++ putL p.head.size 1 ++ p.head.data.toList ++ putL p.slots.length 1 ++ slotLens p.slots ++ slotBytes p.slots

def restL (p : SheetV) : List UInt8 := bodyL p ++ List.replicate (485 - p.head.size - slotSum p.slots) 0 ++ putL p.lsn 8

def encL (p : SheetV) : List UInt8 := putL (crcSum 0 (restL p)) 4 ++ restL p

theorem bodyL_length (p : SheetV) : (bodyL p).length = 15 + p.head.size + slotSum p.slots := by
  have := slot_lengths p.slots
  have : p.head.data.toList.length = p.head.size := by simp
  simp only [bodyL, List.length_append, putL_length]; omega

theorem restL_length (p : SheetV) (h : p.head.size + slotSum p.slots ≤ 485) : (restL p).length = 508 := by
  simp only [restL, List.length_append, bodyL_length, putL_length, List.length_replicate]; omega

def encE (p : SheetV) : Int := if p.kind < 0 ∨ 255 < p.kind ∨ 32 < p.head.size ∨ 64 < p.slots.length then 1 else if 485 < p.head.size + slotSum p.slots then 30 else 0

section
variable {w0 w : World} {b : Nat} {l : List UInt8} {a : Option Addr} {c : Nat}

theorem StrsAt.reach {L : List ByteArray} {s : Option Addr} (hm : StrsAt w0 s L) (h0 : Below w0.heap.size w0 w) {k : Nat} (hk : k < L.length) :
    ∃ bs o, s = some ⟨bs, o, none⟩ ∧ w.cell? ⟨bs, o + k, none⟩ = some (.string L[k]) := by
  rcases hm with hm | ⟨bs, o, rfl, hb, hc⟩
  · subst hm; simp at hk
  · exact ⟨bs, o, rfl, (h0.cell (p := ⟨bs, o + k, none⟩) hb).trans (hc k hk)⟩

set_option maxHeartbeats 400000 in
set_option maxRecDepth 60000 in
theorem putSlots_any (h : IsWriter w b l a c) (s : Option Addr) (d : Nat) (L : List ByteArray) (hm : StrsAt w0 s L) (h0 : Below w0.heap.size w0 w) (hb : w0.heap.size ≤ b) (hl : l.length + slotSum L ≤ 1000000) :
    Calls Tryz.prog 109 #[.pointer (some ⟨b, 0, none⟩), .slice s L.length d] w fun e w' =>
      e = .returned (.tuple #[]) ∧ (∃ a' c', IsWriter w' b (l ++ (putL L.length 1 ++ slotLens L ++ slotBytes L)) a' c') ∧ Below b w w' := by
  have hlen := slotSum_len L
  have hlens := slotLens_length L
  go_enter Tryz.func109, Tryz.ntmps109
  go_wp2_with fail
  refine (wnumber_any h L.length 1 (by omega) (by omega)).mono ?_
  rintro e w1 ⟨rfl, ⟨a1, c1, h1⟩, b1⟩
  have hll : (l ++ putL L.length (longOf 1)).length = l.length + 1 := by simp [putL_length, longOf]
  obtain ⟨l1, HL1⟩ : ∃ l1, Hid (l ++ putL L.length 1 = l1) := ⟨_, rfl⟩
  rw [show longOf 1 = 1 from rfl, HL1.out] at hll h1
  go_wp2_with fail
  go_loopw [15] (fun i wr => ∃ (k : Nat) (a' : Option Addr) (c' : Nat), k ≤ L.length ∧ i = .int .i64 k ∧ IsWriter wr b (l1 ++ slotLens (L.take k)) a' c' ∧ Below b w wr) (fun i _ => L.length - (intOf i).toNat)
  case atStart => exact ⟨0, a1, c1, Nat.zero_le _, rfl, by simpa [slotLens] using h1, b1⟩
  case round =>
    obtain ⟨k, a', c', hk, rfl, hr, hbr⟩ := hrel
    have hlk := slotLens_length (L.take k)
    rw [List.length_take] at hlk
    by_cases hlt : k < L.length
    · obtain ⟨bs, o, rfl, hck⟩ := hm.reach (h0.trans (hbr.mono hb)) hlt
      have hsn : Hid (slotLens (L.take (k + 1)) = slotLens (L.take k) ++ putL L[k].size 2) := slotLens_snoc L k hlt
      have hsz := slotSum_at L k hlt
      obtain ⟨s, hs⟩ : ∃ s, L[k] = s := ⟨_, rfl⟩
      rw [hs] at hck hsn hsz
      clear hs
      go_wp2_with fail
      refine (wnumber_any hr s.size 2 (by omega) (by simp; omega)).mono ?_
      rintro e w2 ⟨rfl, ⟨a2, c2, h2⟩, b2⟩
      rw [show longOf 2 = 2 from rfl] at h2
      go_wp2
      go_roundw
      case rel => exact ⟨k + 1, a2, c2, by omega, by go_num, by rw [hsn.out, ← List.append_assoc]; exact h2, hbr.trans b2⟩
      case measure => simp [intOf]; omega
    · obtain rfl : k = L.length := by omega
      rw [List.take_length] at hr hlk
      obtain ⟨l2, HL2⟩ : ∃ l2, Hid (l1 ++ slotLens L = l2) := ⟨_, rfl⟩
      have hll2 : l2.length = l1.length + 2 * L.length := by rw [← HL2.out]; simp [hlens]
      rw [HL2.out] at hr
      go_wp2_with fail
      go_loopw [27] (fun i wr => ∃ (k : Nat) (a' : Option Addr) (c' : Nat), k ≤ L.length ∧ i = .int .i64 k ∧ IsWriter wr b (l2 ++ slotBytes (L.take k)) a' c' ∧ Below b w wr) (fun i _ => L.length - (intOf i).toNat)
      case atStart => exact ⟨0, a', c', Nat.zero_le _, rfl, by simpa [slotBytes] using hr, hbr⟩
      case round =>
        obtain ⟨k, a3, c3, hk3, rfl, hr3, hbr3⟩ := hrel
        by_cases hlt : k < L.length
        · obtain ⟨bs, o, rfl, hck⟩ := hm.reach (h0.trans (hbr3.mono hb)) hlt
          have hsn : Hid (slotBytes (L.take (k + 1)) = slotBytes (L.take k) ++ L[k].data.toList) := slotBytes_snoc L k hlt
          have hsz := slotSum_snoc L k hlt
          have hst := slotSum_take L (k + 1)
          have hsl := slot_lengths (L.take k)
          obtain ⟨s, hs⟩ : ∃ s, L[k] = s := ⟨_, rfl⟩
          rw [hs] at hck hsn hsz
          clear hs
          have hsl2 := slotLens_length (L.take k)
          rw [List.length_take] at hsl2
          go_wp2_with fail
          refine (wbytes_any hr3 s (by simp; omega)).mono ?_
          rintro e w2 ⟨rfl, ⟨a2, c2, h2⟩, b2⟩
          go_wp2
          go_roundw
          case rel => exact ⟨k + 1, a2, c2, by omega, by go_num, by rw [hsn.out, ← List.append_assoc]; exact h2, hbr3.trans b2⟩
          case measure => simp [intOf]; omega
        · obtain rfl : k = L.length := by omega
          rw [List.take_length] at hr3
          go_wp2
          go_end0
          refine ⟨rfl, ⟨a3, c3, ?_⟩, hbr3⟩
          rw [← HL2.out, ← HL1.out] at hr3
          simpa using hr3

end
end Go.Proofs.YtgkfdakieebnmaaGreat

namespace Go.Proofs.YtgkfdakieebnmaaGreat
open Go.RowKit

structure SheetV.Ok (p : SheetV) (w : World) (a : Option Addr) : Prop where
  num : p.num < 4294967296
  lsn : p.lsn < 18446744073709551616
  kind : -9223372036854775808 ≤ p.kind ∧ p.kind ≤ 9223372036854775807
  head : p.head.size ≤ 140737488351232
  len : p.slots.length ≤ 8796093021952
  slots : ∀ s ∈ p.slots, s.size ≤ 140737488351232
  mem : StrsAt w a p.slots

theorem SheetV.Ok.below {p : SheetV} {w w' : World} {a : Option Addr} (h : p.Ok w a) (k : Below w.heap.size w w') : p.Ok w' a :=
  ⟨h.num, h.lsn, h.kind, h.head, h.len, h.slots, h.mem.below k⟩

theorem SheetV.Ok.room {p : SheetV} {w : World} {a : Option Addr} (h : p.Ok w a) (c : Nat) :
    Calls Tryz.prog 105 #[p.val a c] w fun e w' => e = .returned (.int .i64 (roomF p)) ∧ Below w.heap.size w w' :=
  room_any p a c w (by have := h.len; unfold maxLen; omega) (fun s hs => by have := h.slots s hs; unfold maxLen; omega) (by have := h.head; unfold maxLen; omega) h.mem

theorem slotSum_le (L : List ByteArray) (hn : L.length ≤ 64) (hs : ∀ s ∈ L, s.size ≤ 140737488351232) : slotSum L ≤ 64 * 140737488351234 := by
  have : ∀ M : List ByteArray, (∀ s ∈ M, s.size ≤ 140737488351232) → slotSum M ≤ M.length * 140737488351234 := by
    intro M
    induction M with
    | nil => intro _; simp [slotSum]
    | cons s M ih =>
      intro h
      have h1 := h s (by simp)
      have h2 := ih (fun x hx => h x (by simp [hx]))
      simp only [slotSum, List.length_cons, Nat.add_mul]
      omega
  exact Nat.le_trans (this L hs) (Nat.mul_le_mul_right _ hn)

theorem roomF_eq {p : SheetV} {w : World} {a : Option Addr} (h : p.Ok w a) (hn : p.slots.length ≤ 64) : roomF p = 485 - (p.head.size : Int) - (slotSum p.slots : Int) := by
  have h1 := slotSum_le p.slots hn h.slots
  have h2 := h.head
  exact wrap_small (by omega) (by omega)

set_option maxHeartbeats 800000 in
set_option maxRecDepth 60000 in
theorem encode_arg (p : SheetV) (a : Option Addr) (c : Nat) (w : World) (h : p.Ok w a) (hk : p.kind < 0 ∨ 255 < p.kind ∨ 32 < p.head.size ∨ 64 < p.slots.length) :
    Calls Tryz.prog 49 #[p.val a c] w fun e w' => e = .returned (.tuple #[.string ⟨#[]⟩, .int .i64 1]) ∧ Below w.heap.size w w' := by
  have h1 := h.kind
  have h2 := h.head
  have h3 := h.len
  obtain ⟨num, lsn, kind, head, L⟩ := p
  unfold SheetV.val
  simp only at hk h1 h2 h3 ⊢
  by_cases k1 : kind < 0
  · go_enter Tryz.func49, Tryz.ntmps49
    go_wp2
    go_ret2
    exact ⟨rfl, (Below.refl _ _).alloc (Nat.le_refl _) _⟩
  by_cases k2 : 255 < kind
  · go_enter Tryz.func49, Tryz.ntmps49
    go_wp2
    go_ret2
    exact ⟨rfl, (Below.refl _ _).alloc (Nat.le_refl _) _⟩
  by_cases k3 : 32 < head.size
  · have k1' : 0 ≤ kind := by omega
    have k2' : kind ≤ 255 := by omega
    go_enter Tryz.func49, Tryz.ntmps49
    go_wp2
    go_ret2
    exact ⟨rfl, (Below.refl _ _).alloc (Nat.le_refl _) _⟩
  have k4 : 64 < L.length := by omega
  have k1' : 0 ≤ kind := by omega
  have k2' : kind ≤ 255 := by omega
  have k3' : head.size ≤ 32 := by omega
  go_enter Tryz.func49, Tryz.ntmps49
  go_wp2
  go_ret2
  exact ⟨rfl, (Below.refl _ _).alloc (Nat.le_refl _) _⟩

set_option maxHeartbeats 800000 in
set_option maxRecDepth 60000 in
theorem encode_full (p : SheetV) (a : Option Addr) (c : Nat) (w : World) (h : p.Ok w a) (k1 : 0 ≤ p.kind) (k2 : p.kind ≤ 255) (k3 : p.head.size ≤ 32) (k4 : p.slots.length ≤ 64) (hf : 485 < p.head.size + slotSum p.slots) :
    Calls Tryz.prog 49 #[p.val a c] w fun e w' => e = .returned (.tuple #[.string ⟨#[]⟩, .int .i64 30]) ∧ Below w.heap.size w w' := by
  have hr := roomF_eq h k4
  have h' := h.below ((Below.refl w.heap.size w).alloc (Nat.le_refl _) (.cells #[.int .u32 p.num, .int .u64 p.lsn, .int .i64 p.kind, .string p.head, .slice a p.slots.length c] 52))
  have HR : Hid (∀ d, Calls Tryz.prog 105 #[p.val a d] (w.alloc (.cells #[.int .u32 p.num, .int .u64 p.lsn, .int .i64 p.kind, .string p.head, .slice a p.slots.length c] 52)) fun e w' => e = .returned (.int .i64 (485 - (p.head.size : Int) - (slotSum p.slots : Int))) ∧ Below (w.heap.size + 1) (w.alloc (.cells #[.int .u32 p.num, .int .u64 p.lsn, .int .i64 p.kind, .string p.head, .slice a p.slots.length c] 52)) w') := fun d => by
    have := h'.room d
    rw [hr] at this
    simpa using this
  have HS : Hid (slotSum p.slots ≤ 64 * 140737488351234) := slotSum_le p.slots k4 h.slots
  clear h' h hr
  obtain ⟨num, lsn, kind, head, L⟩ := p
  unfold SheetV.val at *
  simp only at *
  generalize slotSum L = S at *
  have hS := HS.out
  go_enter Tryz.func49, Tryz.ntmps49
  go_wp2_with fail
  refine (HR.out c).mono ?_
  rintro e w1 ⟨rfl, b1⟩
  go_wp2
  go_ret2
  exact ⟨rfl, ((Below.refl _ _).alloc (Nat.le_refl _) _).trans (b1.mono (by omega))⟩

theorem box5 {w wX : World} {v0 v1 v2 v3 v4 : Value} {T : TypeId} (hb : Below (w.heap.size + 1) (w.alloc (.cells #[v0, v1, v2, v3, v4] T)) wX) :
    wX.cell? ⟨w.heap.size, 0, none⟩ = some v0 ∧ wX.cell? ⟨w.heap.size, 1, none⟩ = some v1 ∧ wX.cell? ⟨w.heap.size, 2, none⟩ = some v2 ∧ wX.cell? ⟨w.heap.size, 3, none⟩ = some v3 ∧ wX.cell? ⟨w.heap.size, 4, none⟩ = some v4 :=
  ⟨(hb.cell (p := ⟨w.heap.size, 0, none⟩) (by simp)).trans (by simp), (hb.cell (p := ⟨w.heap.size, 1, none⟩) (by simp)).trans (by simp), (hb.cell (p := ⟨w.heap.size, 2, none⟩) (by simp)).trans (by simp),
    (hb.cell (p := ⟨w.heap.size, 3, none⟩) (by simp)).trans (by simp), (hb.cell (p := ⟨w.heap.size, 4, none⟩) (by simp)).trans (by simp)⟩

theorem wnumber_is {w : World} {b : Nat} {l : List UInt8} {a : Option Addr} {c : Nat} (h : IsWriter w b l a c) (n k : Nat) (hn : n < 18446744073709551616) (hk : k ≤ 8) (hl : l.length + 8 ≤ 140737488355328) :
    Calls Tryz.prog 107 #[.pointer (some ⟨b, 0, none⟩), .int .u64 n, .int .i64 k] w fun y w' =>
      y = .returned (.tuple #[]) ∧ (∃ a' c', IsWriter w' b (l ++ putL n k) a' c') ∧ Below b w w' := by
  have := wnumber_any h n k hn hl
  rw [show longOf (k : Int) = k from by unfold longOf; omega] at this
  exact this

end Go.Proofs.YtgkfdakieebnmaaGreat

namespace Go.Proofs.YtgkfdakieebnmaaGreat
open Go.RowKit

def RowV (w : World) (b N : Nat) (f : Nat → Value) : Prop :=
  ∀ j, j < N → w.cell? ⟨b, j, none⟩ = some (f j) ∧ w.frozen? ⟨b, j, none⟩ = false

theorem RowV.congr {w : World} {b N : Nat} {f g : Nat → Value} (h : RowV w b N f) (e : ∀ j, j < N → f j = g j) : RowV w b N g :=
  fun j hj => by rw [← e j hj]; exact h j hj

theorem RowV.set {w : World} {b N : Nat} {f : Nat → Value} (h : RowV w b N f) {k : Nat} (hk : k < N) (v : Value) :
    RowV (w.setCell ⟨b, k, none⟩ v) b N (fun j => if j = k then v else f j) := by
  intro j hj
  refine ⟨?_, by rw [World.frozen?_setCell]; exact (h j hj).2⟩
  by_cases e : j = k
  · subst e; simp only [if_pos]; exact World.cell?_setCell_same _ _ _ (h j hj).1
  · simp only [if_neg e]; rw [World.cell?_setCell_other _ _ _ _ (by intro q; exact e (by simpa using q.symm))]; exact (h j hj).1

theorem RowV.set_other {w : World} {b N : Nat} {f : Nat → Value} (h : RowV w b N f) {b' k : Nat} (hk : b' ≠ b) (v : Value) : RowV (w.setCell ⟨b', k, none⟩ v) b N f := by
  intro j hj
  refine ⟨?_, by rw [World.frozen?_setCell]; exact (h j hj).2⟩
  rw [World.cell?_setCell_other _ _ _ _ (by intro q; exact hk (by simpa using congrArg Addr.block q))]; exact (h j hj).1

theorem RowV.made (w : World) (N : Nat) (z : Value) (hz : z.cells = #[z]) (t : TypeId) : RowV (w.alloc (.cells (madeCells #[z] N) t)) w.heap.size N (fun _ => z) := by
  intro j hj
  refine ⟨?_, by simp⟩
  rw [World.cell?_alloc_new]
  have h : (madeCells #[z] N).toList[j]? = some z := by
    rw [toList_madeCells_one]; simp [hj]
  simpa using h

theorem RowV.below {w w' : World} {b N : Nat} {f : Nat → Value} (h : RowV w b N f) {B : Nat} (k : Below B w w') (hb : b < B) : RowV w' b N f :=
  fun j hj => ⟨(k.cell (p := ⟨b, j, none⟩) hb).trans (h j hj).1, (k.frozen (p := ⟨b, j, none⟩) hb).trans (h j hj).2⟩

theorem Only.frozen {b : Nat} {w w' : World} (h : Only b w w') {p : Addr} (hp : p.block < w.heap.size) (hb : p.block ≠ b) : w'.frozen? p = w.frozen? p := World.frozen?_of_block (w := w) (h.block p.block hp hb)

theorem RowV.only {w w' : World} {b N : Nat} {f : Nat → Value} (h : RowV w b N f) {r : Nat} (k : Only r w w') (hb : b < w.heap.size) (hr : b ≠ r) : RowV w' b N f :=
  fun j hj => ⟨(k.cell (p := ⟨b, j, none⟩) hb hr).trans (h j hj).1, (k.frozen (p := ⟨b, j, none⟩) hb hr).trans (h j hj).2⟩

theorem Only.setNew {b : Nat} {w w' : World} (h : Only b w w') {k : Nat} (hk : w.heap.size ≤ k) (i : Nat) (v : Value) : Only b w (w'.setCell ⟨k, i, none⟩ v) :=
  ⟨h.os, h.tape, h.output, by simpa using h.size, fun j hj hb => (Below.heap_setCell _ _ _ _ (by simp; omega)).trans (h.block j hj hb)⟩

theorem IsReader.setOther {w : World} {b : Nat} {s : ByteArray} {p : Nat} {e : Int} (h : IsReader w b s p e) {k i : Nat} (hk : k ≠ b) (v : Value) : IsReader (w.setCell ⟨k, i, none⟩ v) b s p e := by
  have ne : ∀ o, (⟨k, i, none⟩ : Addr) ≠ ⟨b, o, none⟩ := fun o q => hk (congrArg Addr.block q)
  exact ⟨by rw [World.cell?_setCell_other _ _ _ _ (ne 0)]; exact h.c0, by rw [World.cell?_setCell_other _ _ _ _ (ne 1)]; exact h.c1, by rw [World.cell?_setCell_other _ _ _ _ (ne 2)]; exact h.c2,
    by rw [World.frozen?_setCell]; exact h.f1, by rw [World.frozen?_setCell]; exact h.f2, h.le, h.sz, by simpa using h.lt⟩

theorem infoInt : (Tryz.prog.info? 3).map (fun i => (i.zero, i.size, i.bytes)) = some (some (.int .i64 0), 1, 8) := by kernel_rfl
theorem infoStr : (Tryz.prog.info? 9).map (fun i => (i.zero, i.size, i.bytes)) = some (some (.string ⟨#[]⟩), 1, 16) := by kernel_rfl

def zerosB (l : List UInt8) : Bool := l.all fun x => x == 0

theorem zerosB_iff (l : List UInt8) : zerosB l = true ↔ l = List.replicate l.length 0 := by
  unfold zerosB
  induction l with
  | nil => simp
  | cons x l ih => simp only [List.all_cons, List.length_cons, List.replicate_succ, Bool.and_eq_true, beq_iff_eq, List.cons.injEq, ih]

set_option maxHeartbeats 400000 in
set_option maxRecDepth 60000 in
theorem zeros_any (s : ByteArray) (w : World) (hs : s.size ≤ maxLen) :
    Calls Tryz.prog 219 #[.string s] w fun e w' => e = .returned (.bool (zerosB s.data.toList)) ∧ w' = w := by
  unfold maxLen at hs
  go_enter Tryz.func219, Tryz.ntmps219
  go_wp2
  go_loop [6] (fun i => ∃ k : Nat, k ≤ s.size ∧ i = .int .i64 k ∧ zerosB (s.data.toList.take k) = true) (fun i => s.size - (intOf i).toNat)
  case atStart => exact ⟨0, Nat.zero_le _, rfl, rfl⟩
  case round =>
    obtain ⟨k, hk, rfl, hz⟩ := hrel
    have HZ : Hid (zerosB (s.data.toList.take k) = true) := hz
    clear hz
    by_cases hlt : k < s.size
    · have hts : Hid (zerosB (s.data.toList.take (k + 1)) = (zerosB (s.data.toList.take k) && (s[k] == 0))) := by
        show _ = _; rw [take_snoc s k hlt]; simp [zerosB]
      have hall : Hid (s[k] ≠ 0 → zerosB s.data.toList = false) := by
        intro h0
        unfold zerosB
        rw [List.all_eq_false]
        exact ⟨s[k], by simp [ByteArray.getElem_eq_getElem_data], by simpa using h0⟩
      by_cases h0 : s[k] = 0
      · have h0' : ((s[k].toNat : Nat) : Int) = 0 := by rw [h0]; rfl
        go_wp2
        go_round
        case rel => exact ⟨k + 1, by omega, by go_num, by rw [hts.out, HZ.out, h0]; rfl⟩
        case measure => simp [intOf]; omega
      · have h0' : ¬ ((s[k].toNat : Nat) : Int) = 0 := fun q => h0 (UInt8.toNat_inj.1 (by simpa using q))
        go_wp2
        go_ret
        exact ⟨by rw [hall.out h0]; rfl, rfl⟩
    · obtain rfl : k = s.size := by omega
      have hf : Hid (zerosB s.data.toList = true) := by
        have := HZ.out; rw [List.take_of_length_le (by simp)] at this; exact this
      go_wp2
      go_ret
      exact ⟨by rw [hf.out]; rfl, rfl⟩

section
variable {w : World} {b : Nat} {s : ByteArray} {p : Nat} {e : Int}

theorem number_err (h : IsReader w b s p e) (he : e ≠ 0) (n : Int) :
    Calls Tryz.prog 59 #[.pointer (some ⟨b, 0, none⟩), .int .i64 n] w fun x w' => x = .returned (.int .u64 0) ∧ IsReader w' b s p e ∧ Only b w w' := by
  have hn := number_any h n
  rw [numF_err he] at hn
  exact hn

theorem number_ok (h : IsReader w b s p 0) (n : Nat) (hn : n ≤ 8) (hc : p + n ≤ s.size) :
    Calls Tryz.prog 59 #[.pointer (some ⟨b, 0, none⟩), .int .i64 n] w fun x w' => x = .returned (.int .u64 (le (part s p n))) ∧ IsReader w' b s (p + n) 0 ∧ Only b w w' := by
  have hx := number_any h n
  rw [numF_ok n hn hc] at hx
  exact hx

theorem bytes_err (h : IsReader w b s p e) (he : e ≠ 0) (n : Nat) (hi : n ≤ 9223372036854775807) :
    Calls Tryz.prog 228 #[.pointer (some ⟨b, 0, none⟩), .int .i64 n] w fun x w' => x = .returned (.string ⟨#[]⟩) ∧ IsReader w' b s p e ∧ Only b w w' := by
  have hn := bytes_any h n (by omega)
  rw [bytesF_err he] at hn
  exact hn

theorem bytes_cut (h : IsReader w b s p 0) (n : Nat) (hi : n ≤ 9223372036854775807) (hc : s.size < p + n) :
    Calls Tryz.prog 228 #[.pointer (some ⟨b, 0, none⟩), .int .i64 n] w fun x w' => x = .returned (.string ⟨#[]⟩) ∧ IsReader w' b s p 4 ∧ Only b w w' := by
  have hn := bytes_any h n (by omega)
  rw [bytesF_cut n hc] at hn
  exact hn

theorem bytes_ok (h : IsReader w b s p 0) (n : Nat) (hc : p + n ≤ s.size) :
    Calls Tryz.prog 228 #[.pointer (some ⟨b, 0, none⟩), .int .i64 n] w fun x w' => x = .returned (.string ⟨(part s p n).toArray⟩) ∧ IsReader w' b s (p + n) 0 ∧ Only b w w' := by
  have hn := bytes_any h n (by have := h.sz; omega)
  rw [bytesF_ok n hc] at hn
  exact hn

set_option maxHeartbeats 400000 in
set_option maxRecDepth 60000 in
theorem takeCount_err (h : IsReader w b s p e) (he : e ≠ 0) (m : Nat) :
    Calls Tryz.prog 229 #[.pointer (some ⟨b, 0, none⟩), .int .i64 1, .int .i64 m] w fun x w' => x = .returned (.int .i64 0) ∧ IsReader w' b s p e ∧ Only b w w' := by
  go_enter Tryz.func229, Tryz.ntmps229
  go_wp2_with fail
  refine (number_err h he 1).mono ?_
  rintro x w1 ⟨rfl, h1, o1⟩
  go_wp2
  go_ret
  exact ⟨rfl, h1, o1⟩

set_option maxHeartbeats 400000 in
set_option maxRecDepth 60000 in
theorem takeCount_many (h : IsReader w b s p 0) (hc : p + 1 ≤ s.size) (m : Nat) (hm : m < le (part s p 1)) :
    Calls Tryz.prog 229 #[.pointer (some ⟨b, 0, none⟩), .int .i64 1, .int .i64 m] w fun x w' => x = .returned (.int .i64 0) ∧ IsReader w' b s (p + 1) 6 ∧ Only b w w' := by
  have hL := le_lt_of (l := part s p 1) (n := 1) (by rw [part_length (by omega)]; omega)
  have HN : Hid (Calls Tryz.prog 59 #[.pointer (some ⟨b, 0, none⟩), .int .i64 1] w fun x w' => x = .returned (.int .u64 (le (part s p 1))) ∧ IsReader w' b s (p + 1) 0 ∧ Only b w w') := number_ok h 1 (by omega) hc
  generalize le (part s p 1) = N at *
  go_enter Tryz.func229, Tryz.ntmps229
  go_wp2_with fail
  refine HN.out.mono ?_
  rintro x w1 ⟨rfl, h1, o1⟩
  go_wp2_with fail
  refine (fail_any h1 6).mono ?_
  rintro x w2 ⟨rfl, h2, o2⟩
  go_wp2
  go_ret
  exact ⟨rfl, h2, o1.trans o2⟩

set_option maxHeartbeats 400000 in
set_option maxRecDepth 60000 in
theorem takeCount_ok (h : IsReader w b s p 0) (hc : p + 1 ≤ s.size) (m : Nat) (hm : le (part s p 1) ≤ m) :
    Calls Tryz.prog 229 #[.pointer (some ⟨b, 0, none⟩), .int .i64 1, .int .i64 m] w fun x w' => x = .returned (.int .i64 (le (part s p 1))) ∧ IsReader w' b s (p + 1) 0 ∧ Only b w w' := by
  have hL := le_lt_of (l := part s p 1) (n := 1) (by rw [part_length (by omega)]; omega)
  have HN : Hid (Calls Tryz.prog 59 #[.pointer (some ⟨b, 0, none⟩), .int .i64 1] w fun x w' => x = .returned (.int .u64 (le (part s p 1))) ∧ IsReader w' b s (p + 1) 0 ∧ Only b w w') := number_ok h 1 (by omega) hc
  generalize le (part s p 1) = N at *
  go_enter Tryz.func229, Tryz.ntmps229
  go_wp2_with fail
  refine HN.out.mono ?_
  rintro x w1 ⟨rfl, h1, o1⟩
  go_wp2
  go_ret
  exact ⟨rfl, h1, o1⟩

end
end Go.Proofs.YtgkfdakieebnmaaGreat

namespace Go.Proofs.YtgkfdakieebnmaaGreat
open Go.RowKit

def longAt (s : ByteArray) (q j : Nat) : Nat := le (part s (q + 2 * j) 2)

def offAt (s : ByteArray) (q n : Nat) : Nat → Nat
  | 0 => q + 2 * n
  | k + 1 => offAt s q n k + longAt s q k

theorem offAt_mono (s : ByteArray) (q n : Nat) {k m : Nat} (h : k ≤ m) : offAt s q n k ≤ offAt s q n m := by
  induction m with
  | zero => rw [show k = 0 from by omega]; exact Nat.le_refl _
  | succ m ih =>
    by_cases e : k = m + 1
    · rw [e]; exact Nat.le_refl _
    · have := ih (by omega); simp only [offAt]; omega

def slotAt (s : ByteArray) (q n j : Nat) : ByteArray := ⟨(part s (offAt s q n j) (longAt s q j)).toArray⟩
def slotsAt (s : ByteArray) (q n : Nat) : List ByteArray := (List.range n).map (slotAt s q n)

theorem slotsAt_length (s : ByteArray) (q n : Nat) : (slotsAt s q n).length = n := by simp [slotsAt]

theorem longAt_lt (s : ByteArray) (q j : Nat) (h : q + 2 * j + 2 ≤ s.size) : longAt s q j < 65536 := by
  have := le_lt_of (l := part s (q + 2 * j) 2) (n := 2) (by rw [part_length (by omega)]; omega)
  exact this

section
variable {w : World} {b : Nat} {s : ByteArray} {p : Nat} {e : Int}

theorem IsReader.alloc {w : World} (h : IsReader w b s p e) (o : Obj) : IsReader (w.alloc o) b s p e := h.below ((Below.refl _ _).alloc (Nat.le_refl _) _)

set_option maxHeartbeats 1600000 in
set_option maxRecDepth 60000 in
theorem takeSlots_gen (h : IsReader w b s p e) (q n : Nat) (e0 : Int) (hn : n ≤ 64) (h0 : n = 0 ∨ e0 = 0 ∧ q + 2 * n ≤ s.size)
    (hc : Calls Tryz.prog 229 #[.pointer (some ⟨b, 0, none⟩), .int .i64 1, .int .i64 (64 : Nat)] w fun x w' => x = .returned (.int .i64 n) ∧ IsReader w' b s q e0 ∧ Only b w w') :
    Calls Tryz.prog 230 #[.pointer (some ⟨b, 0, none⟩)] w fun x w' => ∃ a c p' e', x = .returned (.slice a n c) ∧ IsReader w' b s p' e' ∧ Only b w w' ∧
      (e0 = 0 → offAt s q n n ≤ s.size → p' = offAt s q n n ∧ e' = 0 ∧ ∃ bs, a = some ⟨bs, 0, none⟩ ∧ w.heap.size ≤ bs ∧ bs < w'.heap.size ∧ RowV w' bs n (fun j => .string (slotAt s q n j))) ∧ (e0 ≠ 0 ∨ s.size < offAt s q n n → e' ≠ 0) := by
  have HC := hc
  have hlt := h.lt
  have hsz := h.sz
  have hmk := run_make_row' (P := Tryz.prog) 77 3 (.int .i64 0) 8 Tryz.underlying77 infoInt rfl .i64 .i64 n (by omega) (by omega)
  have hmk2 := run_make_row' (P := Tryz.prog) 50 9 (.string ⟨#[]⟩) 16 Tryz.underlying50 infoStr rfl .i64 .i64 n (by omega) (by omega)
  clear hc h
  go_enter Tryz.func230, Tryz.ntmps230
  go_wp2_with fail
  refine HC.mono ?_
  rintro x w1 ⟨rfl, h1, o1⟩
  have z1 := o1.size
  go_wp2_with fail
  go_loopw [13] (fun i wr => ∃ k : Nat, k ≤ n ∧ i = .int .i64 k ∧ IsReader wr b s (q + 2 * k) e0 ∧ RowV wr w1.heap.size n (fun j => if j < k then .int .i64 (longAt s q j) else .int .i64 0) ∧ Only b w wr ∧ w1.heap.size < wr.heap.size) (fun i _ => n - (intOf i).toNat)
  case atStart => exact ⟨0, by omega, rfl, h1.alloc _, (RowV.made w1 n (.int .i64 0) rfl _).congr (fun j _ => by simp), o1.trans (Only.of_below ((Below.refl _ _).alloc (Nat.le_refl _) _)), by simp⟩
  case round =>
    obtain ⟨k, hk, rfl, hr, hrow, ho, hz⟩ := hrel
    by_cases hlt' : k < n
    · obtain ⟨rfl, hq⟩ : e0 = 0 ∧ q + 2 * n ≤ s.size := by omega
      have HN : Hid (Calls Tryz.prog 59 #[.pointer (some ⟨b, 0, none⟩), .int .i64 2] wr fun x w' => x = .returned (.int .u64 (longAt s q k)) ∧ IsReader w' b s (q + 2 * k + 2) 0 ∧ Only b wr w') := number_ok hr 2 (by omega) (by omega)
      have hL := longAt_lt s q k (by omega)
      have hLk : Hid (longAt s q k = longAt s q k) := rfl
      obtain ⟨N, HNk⟩ : ∃ N, Hid (longAt s q k = N) := ⟨_, rfl⟩
      rw [HNk.out] at HN hL
      go_wp2_with fail
      refine HN.out.mono ?_
      rintro x w2 ⟨rfl, h2, o2⟩
      have hrow2 := hrow.only o2 hz (by omega)
      have hck := (hrow2 k hlt').1
      have hfk := (hrow2 k hlt').2
      go_wp2
      go_roundw
      case rel =>
        refine ⟨k + 1, by omega, by go_num, h2.setOther (by omega) _, (hrow2.set hlt' _).congr (fun j hj => ?_), (ho.trans o2).setNew (by omega) _ _, by have := o2.size; simp; omega⟩
        by_cases e : j = k
        · subst e; rw [if_pos rfl, if_pos (by omega), HNk.out]
        · rw [if_neg e]; by_cases h : j < k
          · rw [if_pos h, if_pos (by omega)]
          · rw [if_neg h, if_neg (by omega)]
      case measure => simp [intOf]; omega
    · obtain rfl : k = n := by omega
      obtain ⟨wA, rfl⟩ : ∃ wA, wA = wr := ⟨_, rfl⟩
      have hrowL : RowV wA w1.heap.size k (fun j => .int .i64 (longAt s q j)) := hrow.congr (fun j hj => by rw [if_pos hj])
      clear hrow
      go_wp2_with fail
      go_loopw [28] (fun i wr => ∃ (m : Nat) (f : Nat → Value) (p' : Nat) (e' : Int), m ≤ k ∧ i = .int .i64 m ∧ IsReader wr b s p' e' ∧ RowV wr w1.heap.size k (fun j => .int .i64 (longAt s q j)) ∧ RowV wr wA.heap.size k f ∧ Only b w wr ∧ wA.heap.size < wr.heap.size ∧
        Hid ((∀ j, j < m → offAt s q k (j + 1) ≤ s.size → f j = .string (slotAt s q k j)) ∧ (e0 = 0 → offAt s q k m ≤ s.size → p' = offAt s q k m ∧ e' = 0) ∧ (e0 ≠ 0 ∨ s.size < offAt s q k m → e' ≠ 0))) (fun i _ => k - (intOf i).toNat)
      case atStart =>
        refine ⟨0, fun _ => .string ⟨#[]⟩, q + 2 * k, e0, by omega, rfl, hr.alloc _, hrowL.below ((Below.refl _ _).alloc (Nat.le_refl _) _) hz, RowV.made wA k (.string ⟨#[]⟩) rfl _, ho.trans (Only.of_below ((Below.refl _ _).alloc (Nat.le_refl _) _)), by simp, ?_⟩
        refine ⟨fun j hj => by omega, fun h1 _ => ⟨rfl, h1⟩, fun h1 => ?_⟩
        rcases h1 with h1 | h1
        · exact h1
        · have : offAt s q k 0 = q + 2 * k := rfl
          rcases h0 with h0 | ⟨_, h0⟩
          · have := hr.le; omega
          · omega
      case round =>
        obtain ⟨m, f, p', e', hm, rfl, hr3, hrl3, hrs3, ho3, hz3, HF⟩ := hrel
        by_cases hlt3 : m < k
        · obtain ⟨rfl, hq⟩ : e0 = 0 ∧ q + 2 * k ≤ s.size := by omega
          have hlc := (hrl3 m hlt3).1
          have hL := longAt_lt s q m (by omega)
          have hoff : Hid (offAt s q k (m + 1) = offAt s q k m + longAt s q m) := rfl
          have hslot : Hid (slotAt s q k m = ⟨(part s (offAt s q k m) (longAt s q m)).toArray⟩) := rfl
          obtain ⟨N, HNk⟩ : ∃ N, Hid (longAt s q m = N) := ⟨_, rfl⟩
          simp only [HNk.out] at hlc
          rw [HNk.out] at hL hoff hslot
          -- what Bytes does here
          have HB : ∃ (t : ByteArray) (p2 : Nat) (e2 : Int), (Calls Tryz.prog 228 #[.pointer (some ⟨b, 0, none⟩), .int .i64 N] wr fun x w' => x = .returned (.string t) ∧ IsReader w' b s p2 e2 ∧ Only b wr w') ∧
              Hid ((offAt s q k (m + 1) ≤ s.size → p2 = offAt s q k (m + 1) ∧ e2 = 0 ∧ t = slotAt s q k m) ∧ (s.size < offAt s q k (m + 1) → e2 ≠ 0)) := by
            have F := HF.out
            have hO := hoff.out
            by_cases hfit : offAt s q k m ≤ s.size
            · obtain ⟨rfl, rfl⟩ := F.2.1 rfl hfit
              by_cases hfit2 : offAt s q k (m + 1) ≤ s.size
              · exact ⟨_, _, _, bytes_ok hr3 N (by omega), fun _ => ⟨by omega, rfl, hslot.out.symm⟩, fun h => by omega⟩
              · exact ⟨_, _, _, bytes_cut hr3 N (by omega) (by omega), fun h => by omega, fun _ => by decide⟩
            · have he := F.2.2 (.inr (by omega))
              exact ⟨_, _, _, bytes_err hr3 he N (by omega), fun h => by omega, fun _ => he⟩
          obtain ⟨t, p2, e2, HB, HF2⟩ := HB
          go_wp2_with fail
          refine HB.mono ?_
          rintro x w2 ⟨rfl, h2, o2⟩
          have hrl2 := hrl3.only o2 (by omega) (by omega)
          have hrs2 := hrs3.only o2 hz3 (by omega)
          have hck := (hrs2 m hlt3).1
          have hfk := (hrs2 m hlt3).2
          go_wp2
          go_roundw
          case rel =>
            refine ⟨m + 1, _, p2, e2, by omega, by go_num, h2.setOther (by omega) _, hrl2.set_other (by omega) _, hrs2.set hlt3 _, (ho3.trans o2).setNew (by omega) _ _, by have := o2.size; simp; omega, ?_⟩
            refine ⟨fun j hj hf => ?_, fun _ hf => ⟨(HF2.out.1 hf).1, (HF2.out.1 hf).2.1⟩, fun hf => HF2.out.2 (by omega)⟩
            by_cases e : j = m
            · subst e; simp only [if_pos]; rw [(HF2.out.1 hf).2.2]
            · simp only [if_neg e]; exact HF.out.1 j (by omega) hf
          case measure => simp [intOf]; omega
        · obtain rfl : m = k := by omega
          go_wp2
          go_ret
          refine ⟨_, _, p', e', rfl, hr3, ho3, fun h1 h2 => ⟨(HF.out.2.1 h1 h2).1, (HF.out.2.1 h1 h2).2, ?_⟩, HF.out.2.2⟩
          refine ⟨wA.heap.size, rfl, by omega, hz3, hrs3.congr fun j hj => ?_⟩
          exact HF.out.1 j hj (Nat.le_trans (offAt_mono s q m (by omega)) h2)

end
end Go.Proofs.YtgkfdakieebnmaaGreat

namespace Go.Proofs.YtgkfdakieebnmaaGreat
open Go.RowKit

theorem RowV.strs {w : World} {b : Nat} {L : List ByteArray} (hb : b < w.heap.size) (h : RowV w b L.length (fun j => .string (L.getD j ByteArray.empty))) : StrsAt w (some ⟨b, 0, none⟩) L :=
  .inr ⟨b, 0, rfl, hb, fun i hi => by have := (h i hi).1; simp only [Nat.zero_add]; rw [this]; show some (Value.string (L.getD i ByteArray.empty)) = _; rw [List.getD_eq_getElem?_getD, List.getElem?_eq_getElem hi]; rfl⟩

def StrsFrom (B : Nat) (w : World) (a : Option Addr) (L : List ByteArray) : Prop :=
  L = [] ∨ ∃ b o, a = some ⟨b, o, none⟩ ∧ B ≤ b ∧ b < w.heap.size ∧ ∀ i (hi : i < L.length), w.cell? ⟨b, o + i, none⟩ = some (.string L[i])

theorem StrsFrom.at {B : Nat} {w : World} {a : Option Addr} {L : List ByteArray} (h : StrsFrom B w a L) : StrsAt w a L := by
  rcases h with h | ⟨b, o, e, _, hb, hc⟩
  · exact .inl h
  · exact .inr ⟨b, o, e, hb, hc⟩

theorem StrsFrom.setOther {B : Nat} {w : World} {a : Option Addr} {L : List ByteArray} (h : StrsFrom B w a L) {k i : Nat} (hk : k < B) (v : Value) : StrsFrom B (w.setCell ⟨k, i, none⟩ v) a L := by
  rcases h with h | ⟨b, o, e, h1, hb, hc⟩
  · exact .inl h
  · refine .inr ⟨b, o, e, h1, by simpa using hb, fun j hj => ?_⟩
    rw [World.cell?_setCell_other _ _ _ _ (by intro q; have := congrArg Addr.block q; simp only at this; omega)]
    exact hc j hj

theorem StrsFrom.mono {B C : Nat} {w : World} {a : Option Addr} {L : List ByteArray} (h : StrsFrom B w a L) (hC : C ≤ B) : StrsFrom C w a L := by
  rcases h with h | ⟨b, o, e, h1, hb, hc⟩
  · exact .inl h
  · exact .inr ⟨b, o, e, by omega, hb, hc⟩

theorem StrsFrom.store5 {B : Nat} {w : World} {a : Option Addr} {L : List ByteArray} (h : StrsFrom B w a L) {b : Nat} (hb : b < B) (v0 v1 v2 v3 v4 : Value) :
    StrsFrom B (((((w.setCell ⟨b, 0, none⟩ v0).setCell ⟨b, 1, none⟩ v1).setCell ⟨b, 2, none⟩ v2).setCell ⟨b, 3, none⟩ v3).setCell ⟨b, 4, none⟩ v4) a L :=
  ((((h.setOther hb v0).setOther hb v1).setOther hb v2).setOther hb v3).setOther hb v4

theorem StrsFrom.below {B : Nat} {w w' : World} {a : Option Addr} {L : List ByteArray} (h : StrsFrom B w a L) (k : Below w.heap.size w w') : StrsFrom B w' a L := by
  rcases h with h | ⟨b, o, e, h1, hb, hc⟩
  · exact .inl h
  · exact .inr ⟨b, o, e, h1, Nat.lt_of_lt_of_le hb k.size, fun i hi => (k.cell (p := ⟨b, o + i, none⟩) hb).trans (hc i hi)⟩

theorem RowV.strsFrom {w : World} {b B : Nat} {L : List ByteArray} (hB : B ≤ b) (hb : b < w.heap.size) (h : RowV w b L.length (fun j => .string (L.getD j ByteArray.empty))) : StrsFrom B w (some ⟨b, 0, none⟩) L := by
  rcases h.strs hb with h | ⟨b', o, e, hb', hc⟩
  · exact .inl h
  · cases e; exact .inr ⟨b, 0, rfl, hB, hb, hc⟩

def five (v0 v1 v2 v3 v4 : Value) : Nat → Value
  | 0 => v0
  | 1 => v1
  | 2 => v2
  | 3 => v3
  | _ => v4

theorem RowV.five_new (w : World) (v0 v1 v2 v3 v4 : Value) (T : TypeId) : RowV (w.alloc (.cells #[v0, v1, v2, v3, v4] T)) w.heap.size 5 (five v0 v1 v2 v3 v4) := by
  intro j hj
  match j, hj with
  | 0, _ => exact ⟨by simp [five], by simp⟩
  | 1, _ => exact ⟨by simp [five], by simp⟩
  | 2, _ => exact ⟨by simp [five], by simp⟩
  | 3, _ => exact ⟨by simp [five], by simp⟩
  | 4, _ => exact ⟨by simp [five], by simp⟩

theorem RowV.set0 {w : World} {b : Nat} {v0 v1 v2 v3 v4 : Value} (h : RowV w b 5 (five v0 v1 v2 v3 v4)) (v : Value) : RowV (w.setCell ⟨b, 0, none⟩ v) b 5 (five v v1 v2 v3 v4) :=
  (h.set (k := 0) (by omega) v).congr fun j hj => by match j, hj with | 0, _ => rfl | 1, _ => rfl | 2, _ => rfl | 3, _ => rfl | 4, _ => rfl
theorem RowV.set1 {w : World} {b : Nat} {v0 v1 v2 v3 v4 : Value} (h : RowV w b 5 (five v0 v1 v2 v3 v4)) (v : Value) : RowV (w.setCell ⟨b, 1, none⟩ v) b 5 (five v0 v v2 v3 v4) :=
  (h.set (k := 1) (by omega) v).congr fun j hj => by match j, hj with | 0, _ => rfl | 1, _ => rfl | 2, _ => rfl | 3, _ => rfl | 4, _ => rfl
theorem RowV.set2 {w : World} {b : Nat} {v0 v1 v2 v3 v4 : Value} (h : RowV w b 5 (five v0 v1 v2 v3 v4)) (v : Value) : RowV (w.setCell ⟨b, 2, none⟩ v) b 5 (five v0 v1 v v3 v4) :=
  (h.set (k := 2) (by omega) v).congr fun j hj => by match j, hj with | 0, _ => rfl | 1, _ => rfl | 2, _ => rfl | 3, _ => rfl | 4, _ => rfl
theorem RowV.set3 {w : World} {b : Nat} {v0 v1 v2 v3 v4 : Value} (h : RowV w b 5 (five v0 v1 v2 v3 v4)) (v : Value) : RowV (w.setCell ⟨b, 3, none⟩ v) b 5 (five v0 v1 v2 v v4) :=
  (h.set (k := 3) (by omega) v).congr fun j hj => by match j, hj with | 0, _ => rfl | 1, _ => rfl | 2, _ => rfl | 3, _ => rfl | 4, _ => rfl
theorem RowV.set4 {w : World} {b : Nat} {v0 v1 v2 v3 v4 : Value} (h : RowV w b 5 (five v0 v1 v2 v3 v4)) (v : Value) : RowV (w.setCell ⟨b, 4, none⟩ v) b 5 (five v0 v1 v2 v3 v) :=
  (h.set (k := 4) (by omega) v).congr fun j hj => by match j, hj with | 0, _ => rfl | 1, _ => rfl | 2, _ => rfl | 3, _ => rfl | 4, _ => rfl

theorem RowV.cells5 {w : World} {b : Nat} {v0 v1 v2 v3 v4 : Value} (h : RowV w b 5 (five v0 v1 v2 v3 v4)) :
    w.cell? ⟨b, 0, none⟩ = some v0 ∧ w.cell? ⟨b, 1, none⟩ = some v1 ∧ w.cell? ⟨b, 2, none⟩ = some v2 ∧ w.cell? ⟨b, 3, none⟩ = some v3 ∧ w.cell? ⟨b, 4, none⟩ = some v4 :=
  ⟨(h 0 (by omega)).1, (h 1 (by omega)).1, (h 2 (by omega)).1, (h 3 (by omega)).1, (h 4 (by omega)).1⟩
theorem RowV.open5 {w : World} {b : Nat} {v0 v1 v2 v3 v4 : Value} (h : RowV w b 5 (five v0 v1 v2 v3 v4)) :
    w.frozen? ⟨b, 0, none⟩ = false ∧ w.frozen? ⟨b, 1, none⟩ = false ∧ w.frozen? ⟨b, 2, none⟩ = false ∧ w.frozen? ⟨b, 3, none⟩ = false ∧ w.frozen? ⟨b, 4, none⟩ = false :=
  ⟨(h 0 (by omega)).2, (h 1 (by omega)).2, (h 2 (by omega)).2, (h 3 (by omega)).2, (h 4 (by omega)).2⟩

def store5 (w : World) (b : Nat) (v0 v1 v2 v3 v4 : Value) : World := ((((w.setCell ⟨b, 0, none⟩ v0).setCell ⟨b, 1, none⟩ v1).setCell ⟨b, 2, none⟩ v2).setCell ⟨b, 3, none⟩ v3).setCell ⟨b, 4, none⟩ v4

theorem RowV.set5 {w : World} {b : Nat} {u0 u1 u2 u3 u4 : Value} (h : RowV w b 5 (five u0 u1 u2 u3 u4)) (v0 v1 v2 v3 v4 : Value) : RowV (store5 w b v0 v1 v2 v3 v4) b 5 (five v0 v1 v2 v3 v4) :=
  ((((h.set0 v0).set1 v1).set2 v2).set3 v3).set4 v4

theorem RowV.set5_other {w : World} {b k N : Nat} {f : Nat → Value} (h : RowV w k N f) (hk : b ≠ k) (v0 v1 v2 v3 v4 : Value) : RowV (store5 w b v0 v1 v2 v3 v4) k N f :=
  ((((h.set_other hk v0).set_other hk v1).set_other hk v2).set_other hk v3).set_other hk v4

theorem below_set5 {B : Nat} {w w' : World} (h : Below B w w') {b : Nat} (hb : B ≤ b) (v0 v1 v2 v3 v4 : Value) : Below B w (store5 w' b v0 v1 v2 v3 v4) :=
  ((((h.setCell (p := ⟨b, 0, none⟩) hb v0).setCell (p := ⟨b, 1, none⟩) hb v1).setCell (p := ⟨b, 2, none⟩) hb v2).setCell (p := ⟨b, 3, none⟩) hb v3).setCell (p := ⟨b, 4, none⟩) hb v4

theorem store5_size (w : World) (b : Nat) (v0 v1 v2 v3 v4 : Value) : (store5 w b v0 v1 v2 v3 v4).heap.size = w.heap.size := by simp [store5]

structure ParseParts (s : ByteArray) (b : Nat) (hn : Nat) (e1 : Int) (hd : ByteArray) (p2 : Nat) (e2 : Int) (L : List ByteArray) (off : Nat) (fit : Prop) : Prop where
  count : ∀ wx, IsReader wx b s 13 0 → Calls Tryz.prog 229 #[.pointer (some ⟨b, 0, none⟩), .int .i64 1, .int .i64 32] wx fun x w' => x = .returned (.int .i64 hn) ∧ IsReader w' b s 14 e1 ∧ Only b wx w'
  bytes : ∀ wx, IsReader wx b s 14 e1 → Calls Tryz.prog 228 #[.pointer (some ⟨b, 0, none⟩), .int .i64 hn] wx fun x w' => x = .returned (.string hd) ∧ IsReader w' b s p2 e2 ∧ Only b wx w'
  slots : ∀ wx, IsReader wx b s p2 e2 → Calls Tryz.prog 230 #[.pointer (some ⟨b, 0, none⟩)] wx fun x w' => ∃ a c p' e', x = .returned (.slice a L.length c) ∧ IsReader w' b s p' e' ∧ Only b wx w' ∧
      (fit → p' = off ∧ e' = 0 ∧ ∃ bs, a = some ⟨bs, 0, none⟩ ∧ wx.heap.size ≤ bs ∧ bs < w'.heap.size ∧ RowV w' bs L.length (fun j => .string (L.getD j ByteArray.empty))) ∧ (¬ fit → e' ≠ 0)

theorem IsReader.new {s : ByteArray} {w : World} {t : TypeId} (hs : s.size ≤ 281474976710656) : IsReader (w.alloc (.cells #[.string s, .int .i64 0, .int .i64 0] t)) w.heap.size s 0 0 :=
  ⟨by simp, by simp, by simp, by simp, by simp, by omega, hs, by simp⟩

set_option maxHeartbeats 1600000 in
set_option maxRecDepth 60000 in
theorem parse_core (s : ByteArray) (w : World) (hs : s.size = 500) {hn : Nat} {e1 : Int} {hd : ByteArray} {p2 : Nat} {e2 : Int} {L : List ByteArray} {off : Nat} {fit : Prop}
    (H : ParseParts s (w.heap.size + 1) hn e1 hd p2 e2 L off fit) (hoff : fit → off ≤ 500) :
    Calls Tryz.prog 221 #[.string s] w fun x w' => Below w.heap.size w w' ∧
      ((fit ∧ zerosB (part s off (500 - off)) = true → ∃ a c, x = .returned (.tuple #[.agg #[.int .u32 (le (part s 8 4)), .int .u64 (le (part s 0 8)), .int .i64 (le (part s 12 1)), .string hd, .slice a L.length c], .int .i64 0]) ∧ StrsFrom (w.heap.size + 1) w' a L) ∧
      (¬ (fit ∧ zerosB (part s off (500 - off)) = true) → x = .returned (.tuple #[.agg #[.int .u32 0, .int .u64 0, .int .i64 0, .string ⟨#[]⟩, .slice none 0 0], .int .i64 6]))) := by
  have hL8 := le_lt_of (l := part s 0 8) (n := 8) (by rw [part_length (by omega)]; omega)
  have hL4 := le_lt_of (l := part s 8 4) (n := 4) (by rw [part_length (by omega)]; omega)
  have hL1 := le_lt_of (l := part s 12 1) (n := 1) (by rw [part_length (by omega)]; omega)
  have HN1 : Hid (∀ wx, IsReader wx (w.heap.size + 1) s 0 0 → Calls Tryz.prog 59 #[.pointer (some ⟨w.heap.size + 1, 0, none⟩), .int .i64 8] wx fun x w' => x = .returned (.int .u64 (le (part s 0 8))) ∧ IsReader w' (w.heap.size + 1) s 8 0 ∧ Only (w.heap.size + 1) wx w') := fun wx h => number_ok h 8 (by omega) (by omega)
  have HN2 : Hid (∀ wx, IsReader wx (w.heap.size + 1) s 8 0 → Calls Tryz.prog 59 #[.pointer (some ⟨w.heap.size + 1, 0, none⟩), .int .i64 4] wx fun x w' => x = .returned (.int .u64 (le (part s 8 4))) ∧ IsReader w' (w.heap.size + 1) s 12 0 ∧ Only (w.heap.size + 1) wx w') := fun wx h => number_ok h 4 (by omega) (by omega)
  have HN3 : Hid (∀ wx, IsReader wx (w.heap.size + 1) s 12 0 → Calls Tryz.prog 59 #[.pointer (some ⟨w.heap.size + 1, 0, none⟩), .int .i64 1] wx fun x w' => x = .returned (.int .u64 (le (part s 12 1))) ∧ IsReader w' (w.heap.size + 1) s 13 0 ∧ Only (w.heap.size + 1) wx w') := fun wx h => number_ok h 1 (by omega) (by omega)
  generalize le (part s 0 8) = lsn at *
  generalize le (part s 8 4) = num at *
  generalize le (part s 12 1) = kind at *
  go_enter Tryz.func221, Tryz.ntmps221
  go_wp2_with fail
  refine (new_reader s _).mono ?_
  rintro x w1 ⟨rfl, rfl⟩
  go_wp2_with fail
  obtain ⟨W, HW⟩ : ∃ W, Hid (W = ((w.alloc (.cells #[.int .u32 0, .int .u64 0, .int .i64 0, .string ⟨#[]⟩, .slice none 0 0] 52)).alloc (.cells #[.string s, .int .i64 0, .int .i64 0] 202)).alloc (.cells #[.int .u32 0, .int .u64 0, .int .i64 0, .string ⟨#[]⟩, .slice none 0 0] 52)) := ⟨_, rfl⟩
  have hr : IsReader W (w.heap.size + 1) s 0 0 := by
    rw [HW.out]
    have := (IsReader.new (s := s) (w := w.alloc (.cells #[.int .u32 0, .int .u64 0, .int .i64 0, .string ⟨#[]⟩, .slice none 0 0] 52)) (t := 202) (by omega)).alloc (.cells #[.int .u32 0, .int .u64 0, .int .i64 0, .string ⟨#[]⟩, .slice none 0 0] 52)
    simpa using this
  have hres : RowV W w.heap.size 5 (five (.int .u32 0) (.int .u64 0) (.int .i64 0) (.string ⟨#[]⟩) (.slice none 0 0)) := by
    rw [HW.out]
    exact ((RowV.five_new w _ _ _ _ _ _).below ((Below.refl _ _).alloc (Nat.le_refl _) _) (by simp)).below ((Below.refl _ _).alloc (Nat.le_refl _) _) (by simp; omega)
  have hp : RowV W (w.heap.size + 2) 5 (five (.int .u32 0) (.int .u64 0) (.int .i64 0) (.string ⟨#[]⟩) (.slice none 0 0)) := by
    rw [HW.out]
    have := RowV.five_new ((w.alloc (.cells #[.int .u32 0, .int .u64 0, .int .i64 0, .string ⟨#[]⟩, .slice none 0 0] 52)).alloc (.cells #[.string s, .int .i64 0, .int .i64 0] 202)) (.int .u32 0) (.int .u64 0) (.int .i64 0) (.string ⟨#[]⟩) (.slice none 0 0) 52
    simpa using this
  have bel : Below w.heap.size w W := by
    rw [HW.out]
    exact (((Below.refl _ _).alloc (Nat.le_refl _) _).alloc (by simp) _).alloc (by simp; omega) _
  have hz : w.heap.size + 3 ≤ W.heap.size := by rw [HW.out]; simp
  rw [← HW.out]
  clear HW
  go_wp2_with fail
  refine (HN1.out W hr).mono ?_
  rintro x w2 ⟨rfl, h2, o2⟩
  have hp2 := hp.only o2 (by omega) (by omega)
  have hres2 := hres.only o2 (by omega) (by omega)
  have bel2 := o2.below bel (by omega) (by omega)
  have hz2 := Nat.le_trans hz o2.size
  obtain ⟨f0, f1, f2, f3, f4⟩ := hp2.open5
  obtain ⟨d0, d1, d2, d3, d4⟩ := hp2.cells5
  clear hr hp hres bel hz o2
  go_wp2_with fail
  obtain ⟨W2, HW2⟩ : ∃ W2, Hid (W2 = w2.setCell ⟨w.heap.size + 2, 1, none⟩ (.int .u64 lsn)) := ⟨_, rfl⟩
  rw [← HW2.out]
  have hr20 := h2.setOther (k := w.heap.size + 2) (i := 1) (by omega) (.int .u64 lsn)
  have hp20 := hp2.set1 (.int .u64 lsn)
  have hres20 := hres2.set_other (b' := w.heap.size + 2) (k := 1) (by omega) (.int .u64 lsn)
  have bel20 := bel2.setCell (p := ⟨w.heap.size + 2, 1, none⟩) (by show w.heap.size ≤ w.heap.size + 2; omega) (.int .u64 lsn)
  have hz20 : w.heap.size + 3 ≤ W2.heap.size := by rw [HW2.out]; simpa using hz2
  rw [← HW2.out] at hr20 hp20 hres20 bel20
  clear HW2 h2 hp2 hres2 bel2 hz2 f0 f1 f2 f3 f4 d0 d1 d2 d3 d4
  go_wp2_with fail
  refine (HN2.out W2 hr20).mono ?_
  rintro x w3 ⟨rfl, h3, o3⟩
  have hp3 := hp20.only o3 (by omega) (by omega)
  have hres3 := hres20.only o3 (by omega) (by omega)
  have bel3 := o3.below bel20 (by omega) (by omega)
  have hz3 := Nat.le_trans hz20 o3.size
  obtain ⟨f0, f1, f2, f3, f4⟩ := hp3.open5
  obtain ⟨d0, d1, d2, d3, d4⟩ := hp3.cells5
  clear hr20 hp20 hres20 bel20 hz20 o3
  go_wp2_with fail
  obtain ⟨W3, HW3⟩ : ∃ W3, Hid (W3 = w3.setCell ⟨w.heap.size + 2, 0, none⟩ (.int .u32 num)) := ⟨_, rfl⟩
  rw [← HW3.out]
  have hr30 := h3.setOther (k := w.heap.size + 2) (i := 0) (by omega) (.int .u32 num)
  have hp30 := hp3.set0 (.int .u32 num)
  have hres30 := hres3.set_other (b' := w.heap.size + 2) (k := 0) (by omega) (.int .u32 num)
  have bel30 := bel3.setCell (p := ⟨w.heap.size + 2, 0, none⟩) (by show w.heap.size ≤ w.heap.size + 2; omega) (.int .u32 num)
  have hz30 : w.heap.size + 3 ≤ W3.heap.size := by rw [HW3.out]; simpa using hz3
  rw [← HW3.out] at hr30 hp30 hres30 bel30
  clear HW3 h3 hp3 hres3 bel3 hz3 f0 f1 f2 f3 f4 d0 d1 d2 d3 d4
  go_wp2_with fail
  refine (HN3.out W3 hr30).mono ?_
  rintro x w4 ⟨rfl, h4, o4⟩
  have hp4 := hp30.only o4 (by omega) (by omega)
  have hres4 := hres30.only o4 (by omega) (by omega)
  have bel4 := o4.below bel30 (by omega) (by omega)
  have hz4 := Nat.le_trans hz30 o4.size
  obtain ⟨f0, f1, f2, f3, f4⟩ := hp4.open5
  obtain ⟨d0, d1, d2, d3, d4⟩ := hp4.cells5
  clear hr30 hp30 hres30 bel30 hz30 o4
  go_wp2_with fail
  obtain ⟨W4, HW4⟩ : ∃ W4, Hid (W4 = w4.setCell ⟨w.heap.size + 2, 2, none⟩ (.int .i64 kind)) := ⟨_, rfl⟩
  rw [← HW4.out]
  have hr40 := h4.setOther (k := w.heap.size + 2) (i := 2) (by omega) (.int .i64 kind)
  have hp40 := hp4.set2 (.int .i64 kind)
  have hres40 := hres4.set_other (b' := w.heap.size + 2) (k := 2) (by omega) (.int .i64 kind)
  have bel40 := bel4.setCell (p := ⟨w.heap.size + 2, 2, none⟩) (by show w.heap.size ≤ w.heap.size + 2; omega) (.int .i64 kind)
  have hz40 : w.heap.size + 3 ≤ W4.heap.size := by rw [HW4.out]; simpa using hz4
  rw [← HW4.out] at hr40 hp40 hres40 bel40
  clear HW4 h4 hp4 hres4 bel4 hz4 f0 f1 f2 f3 f4 d0 d1 d2 d3 d4
  go_wp2_with fail
  refine (H.count W4 hr40).mono ?_
  rintro x w5 ⟨rfl, h5, o5⟩
  have hp5 := hp40.only o5 (by omega) (by omega)
  have hres5 := hres40.only o5 (by omega) (by omega)
  have bel5 := o5.below bel40 (by omega) (by omega)
  have hz5 := Nat.le_trans hz40 o5.size
  clear hr40 hp40 hres40 bel40 hz40 o5
  go_wp2_with fail
  refine (H.bytes w5 h5).mono ?_
  rintro x w6 ⟨rfl, h6, o6⟩
  have hp6 := hp5.only o6 (by omega) (by omega)
  have hres6 := hres5.only o6 (by omega) (by omega)
  have bel6 := o6.below bel5 (by omega) (by omega)
  have hz6 := Nat.le_trans hz5 o6.size
  obtain ⟨f0, f1, f2, f3, f4⟩ := hp6.open5
  obtain ⟨d0, d1, d2, d3, d4⟩ := hp6.cells5
  clear h5 hp5 hres5 bel5 hz5 o6
  go_wp2_with fail
  obtain ⟨W6, HW6⟩ : ∃ W6, Hid (W6 = w6.setCell ⟨w.heap.size + 2, 3, none⟩ (.string hd)) := ⟨_, rfl⟩
  rw [← HW6.out]
  have hr60 := h6.setOther (k := w.heap.size + 2) (i := 3) (by omega) (.string hd)
  have hp60 := hp6.set3 (.string hd)
  have hres60 := hres6.set_other (b' := w.heap.size + 2) (k := 3) (by omega) (.string hd)
  have bel60 := bel6.setCell (p := ⟨w.heap.size + 2, 3, none⟩) (by show w.heap.size ≤ w.heap.size + 2; omega) (.string hd)
  have hz60 : w.heap.size + 3 ≤ W6.heap.size := by rw [HW6.out]; simpa using hz6
  rw [← HW6.out] at hr60 hp60 hres60 bel60
  clear HW6 h6 hp6 hres6 bel6 hz6 f0 f1 f2 f3 f4 d0 d1 d2 d3 d4
  go_wp2_with fail
  refine (H.slots W6 hr60).mono ?_
  rintro x w7 ⟨a7, c7, p7, e7, rfl, h7, o7, hfit, hnot⟩
  have hp7 := hp60.only o7 (by omega) (by omega)
  have hres7 := hres60.only o7 (by omega) (by omega)
  have bel7 := o7.below bel60 (by omega) (by omega)
  have hz7 := Nat.le_trans hz60 o7.size
  obtain ⟨f0, f1, f2, f3, f4⟩ := hp7.open5
  obtain ⟨d0, d1, d2, d3, d4⟩ := hp7.cells5
  clear hr60 hp60 hres60 bel60
  go_wp2_with fail
  obtain ⟨W7, HW7⟩ : ∃ W7, Hid (W7 = w7.setCell ⟨w.heap.size + 2, 4, none⟩ (.slice a7 L.length c7)) := ⟨_, rfl⟩
  rw [← HW7.out]
  have hr70 := h7.setOther (k := w.heap.size + 2) (i := 4) (by omega) (.slice a7 L.length c7)
  have hp70 := hp7.set4 (.slice a7 L.length c7)
  have hres70 := hres7.set_other (b' := w.heap.size + 2) (k := 4) (by omega) (.slice a7 L.length c7)
  have bel70 := bel7.setCell (p := ⟨w.heap.size + 2, 4, none⟩) (by show w.heap.size ≤ w.heap.size + 2; omega) (.slice a7 L.length c7)
  have hz70 : w7.heap.size = W7.heap.size := by rw [HW7.out]; simp
  rw [← HW7.out] at hr70 hp70 hres70 bel70
  clear f0 f1 f2 f3 f4 d0 d1 d2 d3 d4
  by_cases hf : fit
  · obtain ⟨rfl, rfl, bs, rfl, hbs1, hbs2, hrow⟩ := hfit hf
    have hrow7 := hrow.set_other (b' := w.heap.size + 2) (k := 4) (by omega) (.slice (some ⟨bs, 0, none⟩) L.length c7)
    rw [← HW7.out] at hrow7
    have ho := hoff hf
    clear HW7 h7 hp7 hres7 bel7 hrow hnot hfit
    have HLf : Hid (∀ wx, IsReader wx (w.heap.size + 1) s p7 0 → Calls Tryz.prog 128 #[.pointer (some ⟨w.heap.size + 1, 0, none⟩)] wx fun x w' => x = .returned (.int .i64 ((500 - p7 : Nat) : Int)) ∧ ∃ n, w' = wx.drewN n) := fun wx h => by
      have := left_any h
      rw [hs, show ((500 : Nat) : Int) - (p7 : Int) = ((500 - p7 : Nat) : Int) from by omega] at this
      exact this
    obtain ⟨q, Hq⟩ : ∃ q, Hid (500 - p7 = q) := ⟨_, rfl⟩
    rw [Hq.out] at HLf
    have hq : p7 + q = 500 := by have := Hq.out; omega
    have hb := fun (wx : World) (h : IsReader wx (w.heap.size + 1) s p7 0) => bytes_ok h q (by omega)
    have HBy : Hid (∀ wx, IsReader wx (w.heap.size + 1) s p7 0 → Calls Tryz.prog 228 #[.pointer (some ⟨w.heap.size + 1, 0, none⟩), .int .i64 q] wx fun x w' => x = .returned (.string ⟨(part s p7 q).toArray⟩) ∧ IsReader w' (w.heap.size + 1) s (p7 + q) 0 ∧ Only (w.heap.size + 1) wx w') := hb
    clear hb
    have HZ : Hid (∀ wx, Calls Tryz.prog 219 #[.string ⟨(part s p7 q).toArray⟩] wx fun e w' => e = .returned (.bool (zerosB (part s p7 q))) ∧ w' = wx) := fun wx => by
      have := zeros_any ⟨(part s p7 q).toArray⟩ wx (by rw [bytes_size, part_length (by omega)]; unfold maxLen; omega)
      simpa using this
    obtain ⟨zb, Hzb⟩ : ∃ zb, Hid (zerosB (part s p7 q) = zb) := ⟨_, rfl⟩
    rw [Hzb.out] at HZ
    go_wp2_with fail
    refine (err_any hr70).mono ?_
    rintro x w8 ⟨rfl, rfl⟩
    go_wp2_with fail
    refine (HLf.out _ hr70).mono ?_
    rintro x w8 ⟨rfl, nd, rfl⟩
    have hr8 := hr70.drewN nd
    go_wp2_with fail
    refine (HBy.out _ hr8).mono ?_
    rintro x w9 ⟨rfl, h9, o9⟩
    have o9' := ((Only.refl (w.heap.size + 1) w8).drewN nd).trans o9
    have hp9 := hp70.only o9' (by omega) (by omega)
    have hres9 := hres70.only o9' (by omega) (by omega)
    have bel9 := o9'.below bel70 (by omega) (by omega)
    have hrow9 := hrow7.only o9' (by omega) (by omega)
    have hz9 := o9'.size
    clear hr70 hp70 hres70 bel70 hrow7 o9 o9' hr8
    go_wp2_with fail
    refine (HZ.out _).mono ?_
    rintro x w10 ⟨rfl, rfl⟩
    obtain ⟨f0, f1, f2, f3, f4⟩ := hres9.open5
    obtain ⟨d0, d1, d2, d3, d4⟩ := hres9.cells5
    obtain ⟨g0, g1, g2, g3, g4⟩ := hp9.cells5
    cases zb
    · go_wp2
      have hq := hres9.set5 (.int .u32 0) (.int .u64 0) (.int .i64 0) (.string ⟨#[]⟩) (.slice none 0 0)
      have bq := below_set5 bel9 (b := w.heap.size) (Nat.le_refl _) (.int .u32 0) (.int .u64 0) (.int .i64 0) (.string ⟨#[]⟩) (.slice none 0 0)
      obtain ⟨WX, HWX⟩ : ∃ WX, Hid (WX = store5 w10 w.heap.size (.int .u32 0) (.int .u64 0) (.int .i64 0) (.string ⟨#[]⟩) (.slice none 0 0)) := ⟨_, rfl⟩
      rw [← HWX.out] at hq bq
      obtain ⟨r0, r1, r2, r3, r4⟩ := hq.cells5
      rw [show (((((w10.setCell ⟨w.heap.size, 0, none⟩ (.int .u32 0)).setCell ⟨w.heap.size, 1, none⟩ (.int .u64 0)).setCell ⟨w.heap.size, 2, none⟩ (.int .i64 0)).setCell ⟨w.heap.size, 3, none⟩ (.string ⟨#[]⟩)).setCell ⟨w.heap.size, 4, none⟩ (.slice none 0 0)) = WX from HWX.out.symm]
      refine bodyPost_ret (v := .tuple #[.agg #[.int .u32 0, .int .u64 0, .int .i64 0, .string ⟨#[]⟩, .slice none 0 0], .int .i64 6]) (by simp [results, Tryz.results221, go_sem, r0, r1, r2, r3, r4]) rfl ?_
      refine ⟨?_, fun h => ?_, fun _ => rfl⟩
      · exact bq
      · rw [Hq.out, Hzb.out] at h; exact absurd h.2 (by simp)
    · go_wp2
      have hq := hres9.set5 (.int .u32 num) (.int .u64 lsn) (.int .i64 kind) (.string hd) (.slice (some ⟨bs, 0, none⟩) L.length c7)
      have bq := below_set5 bel9 (b := w.heap.size) (Nat.le_refl _) (.int .u32 num) (.int .u64 lsn) (.int .i64 kind) (.string hd) (.slice (some ⟨bs, 0, none⟩) L.length c7)
      obtain ⟨WX, HWX⟩ : ∃ WX, Hid (WX = store5 w10 w.heap.size (.int .u32 num) (.int .u64 lsn) (.int .i64 kind) (.string hd) (.slice (some ⟨bs, 0, none⟩) L.length c7)) := ⟨_, rfl⟩
      rw [← HWX.out] at hq bq
      obtain ⟨r0, r1, r2, r3, r4⟩ := hq.cells5
      rw [show (((((w10.setCell ⟨w.heap.size, 0, none⟩ (.int .u32 num)).setCell ⟨w.heap.size, 1, none⟩ (.int .u64 lsn)).setCell ⟨w.heap.size, 2, none⟩ (.int .i64 kind)).setCell ⟨w.heap.size, 3, none⟩ (.string hd)).setCell ⟨w.heap.size, 4, none⟩ (.slice (some ⟨bs, 0, none⟩) L.length c7)) = WX from HWX.out.symm]
      have hrX := hrow9.set5_other (b := w.heap.size) (by omega) (.int .u32 num) (.int .u64 lsn) (.int .i64 kind) (.string hd) (.slice (some ⟨bs, 0, none⟩) L.length c7)
      have hzX := store5_size w10 w.heap.size (.int .u32 num) (.int .u64 lsn) (.int .i64 kind) (.string hd) (.slice (some ⟨bs, 0, none⟩) L.length c7)
      rw [← HWX.out] at hrX hzX
      refine bodyPost_ret (v := .tuple #[.agg #[.int .u32 num, .int .u64 lsn, .int .i64 kind, .string hd, .slice (some ⟨bs, 0, none⟩) L.length c7], .int .i64 0]) (by simp [results, Tryz.results221, go_sem, r0, r1, r2, r3, r4]) rfl ?_
      refine ⟨?_, fun h => ⟨_, _, rfl, ?_⟩, fun h => ?_⟩
      · exact bq
      · exact hrX.strsFrom (by omega) (by omega)
      · rw [Hq.out, Hzb.out] at h; exact absurd ⟨hf, rfl⟩ h
  · have hne := hnot hf
    have hne' : (e7 != 0) = true := by rw [bne_iff_ne]; exact hne
    clear HW7 h7 hp7 hres7 bel7 hnot hfit
    obtain ⟨f0, f1, f2, f3, f4⟩ := hres70.open5
    obtain ⟨d0, d1, d2, d3, d4⟩ := hres70.cells5
    go_wp2_with fail
    refine (err_any hr70).mono ?_
    rintro x w8 ⟨rfl, rfl⟩
    go_wp2
    have hq := hres70.set5 (.int .u32 0) (.int .u64 0) (.int .i64 0) (.string ⟨#[]⟩) (.slice none 0 0)
    have bq := below_set5 bel70 (b := w.heap.size) (Nat.le_refl _) (.int .u32 0) (.int .u64 0) (.int .i64 0) (.string ⟨#[]⟩) (.slice none 0 0)
    obtain ⟨WX, HWX⟩ : ∃ WX, Hid (WX = store5 w8 w.heap.size (.int .u32 0) (.int .u64 0) (.int .i64 0) (.string ⟨#[]⟩) (.slice none 0 0)) := ⟨_, rfl⟩
    rw [← HWX.out] at hq bq
    obtain ⟨r0, r1, r2, r3, r4⟩ := hq.cells5
    rw [show (((((w8.setCell ⟨w.heap.size, 0, none⟩ (.int .u32 0)).setCell ⟨w.heap.size, 1, none⟩ (.int .u64 0)).setCell ⟨w.heap.size, 2, none⟩ (.int .i64 0)).setCell ⟨w.heap.size, 3, none⟩ (.string ⟨#[]⟩)).setCell ⟨w.heap.size, 4, none⟩ (.slice none 0 0)) = WX from HWX.out.symm]
    refine bodyPost_ret (v := .tuple #[.agg #[.int .u32 0, .int .u64 0, .int .i64 0, .string ⟨#[]⟩, .slice none 0 0], .int .i64 6]) (by simp [results, Tryz.results221, go_sem, r0, r1, r2, r3, r4]) rfl ?_
    exact ⟨bq, fun h => absurd h.1 hf, fun _ => rfl⟩

end Go.Proofs.YtgkfdakieebnmaaGreat
