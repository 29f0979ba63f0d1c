/-
  The contract of internal/stringslite.Clone, taken from the library's shelf at this program's numbers, and the walk of strings.Clone: the same bytes, in new memory.
-/
import Derived.Shelf.LaysM
import Derived.Shelf.Strconv.Clone
import Derived.Test.YtgkfdakieebnmaaGreatPutWalksC
set_option linter.unusedVariables false
set_option linter.unusedSimpArgs false
namespace Go.Proofs.YtgkfdakieebnmaaGreat
open Go.Shelf Go.RowKit

def cloneRen : Go.Shelf.Ren := ⟨fun | 316 => 153 | n => n, fun | 9 => 9 | 3 => 3 | 4 => 4 | 37 => 90 | 0 => 0 | 127 => 269 | 5 => 5 | n => n, fun | n => n⟩

theorem cloneLays : Go.Proofs.LaysM.n316 Tryz.prog cloneRen := {
  mixed := by kernel_rfl
  f316 := Tryz.func153.trans (congrArg some (by kernel_rfl))
  t0 := Tryz.underlying0
  a0 := Tryz.isAgg0
  z0 := Tryz.sizeOf0
  v0 := Tryz.zeroValue0
  t3 := Tryz.underlying3
  a3 := Tryz.isAgg3
  z3 := Tryz.sizeOf3
  v3 := Tryz.zeroValue3
  t4 := Tryz.underlying4
  a4 := Tryz.isAgg4
  z4 := Tryz.sizeOf4
  v4 := Tryz.zeroValue4
  t9 := Tryz.underlying9
  a9 := Tryz.isAgg9
  z9 := Tryz.sizeOf9
  v9 := Tryz.zeroValue9
  t37 := Tryz.underlying90
  a37 := Tryz.isAgg90
  z37 := Tryz.sizeOf90
  v37 := Tryz.zeroValue90
  t127 := Tryz.underlying269
  a127 := Tryz.isAgg269
  z127 := Tryz.sizeOf269
  v127 := Tryz.zeroValue269
  t5 := Tryz.underlying5
  a5 := Tryz.isAgg5
  z5 := Tryz.sizeOf5
  v5 := Tryz.zeroValue5
  i0 := by kernel_rfl
  i3 := by kernel_rfl
  i4 := by kernel_rfl
  i5 := by kernel_rfl
  i9 := by kernel_rfl
  i37 := by kernel_rfl
  i127 := by kernel_rfl }

theorem clone_inner (s : ByteArray) (w : World) (hlim : s.size ≤ 281474976710656) :
    Calls Tryz.prog 153 #[.string s] w fun e w' => e = .returned (.string s) ∧ Below w.heap.size w w' := Any.stringslite_Clone cloneLays s w hlim

set_option maxHeartbeats 400000 in
set_option maxRecDepth 60000 in
theorem clone_any (s : ByteArray) (w : World) (hlim : s.size ≤ 281474976710656) :
    Calls Tryz.prog 101 #[.string s] w fun e w' => e = .returned (.string s) ∧ Below w.heap.size w w' := by
  go_enter Tryz.func101, Tryz.ntmps101
  go_wp2_with fail
  refine (clone_inner s _ hlim).mono ?_
  rintro e w1 ⟨rfl, hb⟩
  go_wp2
  go_ret
  exact ⟨rfl, hb⟩

end Go.Proofs.YtgkfdakieebnmaaGreat

namespace Go.Proofs.YtgkfdakieebnmaaGreat
open Go.RowKit

def part (s : ByteArray) (at' long : Nat) : List UInt8 := (s.data.toList.drop at').take long

theorem part_length {s : ByteArray} {a n : Nat} (h : a + n ≤ s.size) : (part s a n).length = n := by
  simp [part]; omega

theorem part_snoc {s : ByteArray} {a n : Nat} (h : a + n < s.size) : part s a (n + 1) = part s a n ++ [s[a + n]] := by
  unfold part
  rw [List.take_succ_eq_append_getElem (by simp; omega)]
  congr 1
  simp [List.getElem_drop]
  rfl

theorem or_byte {y b k : Nat} (hy : y < 18446744073709551616) (hb : b < 256) (hk : k < 8) :
    bits .or .u64 (y : Int) (IntKind.u64.wrap (IntKind.u64.wrap (b : Int) * 2 ^ (8 * k))) = ((y ||| b * 2 ^ (8 * k) : Nat) : Int) := by
  have h1 : 2 ^ (8 * k) ≤ 2 ^ 56 := Nat.pow_le_pow_right (by omega) (by omega)
  have h2 : b * 2 ^ (8 * k) ≤ 255 * 2 ^ 56 := Nat.mul_le_mul (by omega) h1
  have e1 : IntKind.u64.wrap (b : Int) = (b : Int) := by rw [IntKind.wrap_u64]; omega
  have e2 : (b : Int) * 2 ^ (8 * k) = ((b * 2 ^ (8 * k) : Nat) : Int) := by simp
  rw [e1, e2]
  generalize b * 2 ^ (8 * k) = z at *
  have e3 : IntKind.u64.wrap (z : Int) = (z : Int) := by rw [IntKind.wrap_u64]; omega
  rw [e3]
  exact u64_or_nat _ _ hy (by omega)

set_option maxHeartbeats 400000 in
set_option maxRecDepth 60000 in
theorem get_arg (s : ByteArray) (a n : Int) (w : World) (h : n < 0 ∨ 8 < n ∨ a < 0 ∨ (s.size : Int) < a) (hs : s.size ≤ maxLen) :
    Calls Tryz.prog 123 #[.string s, .int .i64 a, .int .i64 n] w fun e w' => e = .returned (.tuple #[.int .u64 0, .int .i64 1]) ∧ w' = w := by
  unfold maxLen at hs
  by_cases h1 : n < 0
  · go_enter Tryz.func123, Tryz.ntmps123
    go_wp2
    go_ret2
    exact ⟨rfl, rfl⟩
  by_cases h2 : 8 < n
  · go_enter Tryz.func123, Tryz.ntmps123
    go_wp2
    go_ret2
    exact ⟨rfl, rfl⟩
  by_cases h3 : a < 0
  · go_enter Tryz.func123, Tryz.ntmps123
    go_wp2
    go_ret2
    exact ⟨rfl, rfl⟩
  have h4 : (s.size : Int) < a := by omega
  clear h
  go_enter Tryz.func123, Tryz.ntmps123
  go_wp2
  go_ret2
  exact ⟨rfl, rfl⟩

set_option maxHeartbeats 400000 in
set_option maxRecDepth 60000 in
theorem get_cut (s : ByteArray) (a n : Nat) (w : World) (hn : n ≤ 8) (ha : a ≤ s.size) (h : s.size < a + n) (hs : s.size ≤ maxLen) :
    Calls Tryz.prog 123 #[.string s, .int .i64 a, .int .i64 n] w fun e w' => e = .returned (.tuple #[.int .u64 0, .int .i64 4]) ∧ w' = w := by
  unfold maxLen at hs
  go_enter Tryz.func123, Tryz.ntmps123
  go_wp2
  go_ret2
  exact ⟨rfl, rfl⟩

set_option maxHeartbeats 400000 in
set_option maxRecDepth 60000 in
theorem get_ok (s : ByteArray) (a n : Nat) (w : World) (hn : n ≤ 8) (h : a + n ≤ s.size) (hs : s.size ≤ maxLen) :
    Calls Tryz.prog 123 #[.string s, .int .i64 a, .int .i64 n] w fun e w' => e = .returned (.tuple #[.int .u64 (le (part s a n)), .int .i64 0]) ∧ w' = w := by
  unfold maxLen at hs
  have d1 : decide ((n : Int) < 0) = false := by simp
  have d2 : decide ((8 : Int) < (n : Int)) = false := by simp; omega
  have d3 : decide ((a : Int) < 0) = false := by simp
  have d4 : decide (s.size < a) = false := by simp; omega
  have d5 : decide ((s.size : Int) - (a : Int) < (n : Int)) = false := by simp; omega
  go_enter Tryz.func123, Tryz.ntmps123
  go_wp2
  go_loop [8, 33] (fun t i => ∃ k : Nat, k ≤ n ∧ i = .int .i64 k ∧ t = .int .u64 (le (part s a k))) (fun _ i => n - (intOf i).toNat)
  case atStart => exact ⟨0, Nat.zero_le _, rfl, by simp [part, le]⟩
  case round =>
    obtain ⟨k, hk, rfl, rfl⟩ := hrel
    by_cases hlt : k < n
    · have hy : le (part s a k) < 18446744073709551616 := le_lt_64 (by rw [part_length (by omega)]; omega)
      have hk8 : k < 8 := by omega
      have Hs : Hid (le (part s a (k + 1)) = le (part s a k) ||| (s[a + k].toNat * 2 ^ (8 * k))) := by
        rw [part_snoc (by omega)]; have := le_or (part s a k) s[a + k]; rw [part_length (by omega)] at this; exact this
      generalize le (part s a k) = y at *
      go_wp2
      go_round
      case rel => exact ⟨k + 1, by omega, by go_num, by rw [Hs.out, or_byte hy s[a + k].toNat_lt hk8]⟩
      case measure => simp [intOf]; omega
    · obtain rfl : k = n := by omega
      go_wp2
      go_ret2
      exact ⟨rfl, rfl⟩

theorem bytes_size (l : List UInt8) : (ByteArray.mk l.toArray).size = l.length := by
  show l.toArray.size = l.length
  simp

theorem bytes_self (s : ByteArray) : ByteArray.mk s.data.toList.toArray = s := by simp

set_option maxHeartbeats 400000 in
set_option maxRecDepth 60000 in
theorem text_more (s : ByteArray) (w : World) (h : 65535 < s.size) (hs : s.size ≤ maxLen) :
    Calls Tryz.prog 210 #[.string s] w fun e w' => e = .returned (.tuple #[.string ⟨#[]⟩, .int .i64 5]) ∧ w' = w := by
  unfold maxLen at hs
  go_enter Tryz.func210, Tryz.ntmps210
  go_wp2
  go_ret2
  exact ⟨rfl, rfl⟩

set_option maxHeartbeats 400000 in
set_option maxRecDepth 60000 in
theorem text_ok (s : ByteArray) (w : World) (h : s.size ≤ 65535) :
    Calls Tryz.prog 210 #[.string s] w fun e w' => e = .returned (.tuple #[.string ⟨(putL s.size 2 ++ s.data.toList).toArray⟩, .int .i64 0]) ∧ Below w.heap.size w w' := by
  go_enter Tryz.func210, Tryz.ntmps210
  go_wp2_with fail
  refine (put_any s.size 2 _ (by omega)).mono ?_
  rintro e w1 ⟨rfl, hb⟩
  rw [show longOf 2 = 2 from rfl]
  have hl : (ByteArray.mk (putL s.size 2).toArray).size = 2 := by rw [bytes_size, putL_length]
  go_wp2
  go_ret2
  exact ⟨by rw [← bytes_add, bytes_self]; rfl, hb⟩

end Go.Proofs.YtgkfdakieebnmaaGreat
