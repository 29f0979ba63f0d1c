/-
  Texts in memory, pages as plain data, and the walks of page.Room, page.Blank, page.zeros.
-/
import Derived.Test.YtjemeopafkafgaaGreatGetWalksC
import Derived.SliceStrings
import Derived.BigQuiet
import Derived.Deep.QuietTactic
namespace Go.Proofs.YtjemeopafkafgaaGreat
open Go.RowKit
set_option linter.unusedVariables false

/-- The texts L lie one behind the other from a on. -/
def StrsAt (w : World) (a : Option Addr) (L : List ByteArray) : Prop :=
  L = [] ∨ ∃ b o, a = some ⟨b, o, none⟩ ∧ b < w.heap.size ∧ ∀ i (hi : i < L.length), w.cell? ⟨b, o + i, none⟩ = some (.string L[i])

theorem StrsAt.below {w w' : World} {a : Option Addr} {L : List ByteArray} (h : StrsAt w a L) (k : Below w.heap.size w w') : StrsAt w' a L := by
  rcases h with h | ⟨b, o, e, hb, hc⟩
  · exact .inl h
  · exact .inr ⟨b, o, e, Nat.lt_of_lt_of_le hb k.size, fun i hi => (k.cell (p := ⟨b, o + i, none⟩) hb).trans (hc i hi)⟩

/-- A page as plain data. -/
structure SheetV where
  num : Nat
  lsn : Nat
  kind : Int
  head : ByteArray
  slots : List ByteArray

/-- A page as a value, its slots from a on. -/
def SheetV.val (p : SheetV) (a : Option Addr) (c : Nat) : Value := .agg #[.int .u32 p.num, .int .u64 p.lsn, .int .i64 p.kind, .string p.head, .slice a p.slots.length c]

/-- What the slots take. -/
def slotSum : List ByteArray → Nat
  | [] => 0
  | s :: L => 2 + s.size + slotSum L

theorem slotSum_append (L M : List ByteArray) : slotSum (L ++ M) = slotSum L + slotSum M := by
  induction L with
  | nil => simp [slotSum]
  | cons s L ih => simp only [List.cons_append, slotSum, ih]; omega

theorem slotSum_snoc (L : List ByteArray) (k : Nat) (h : k < L.length) : slotSum (L.take (k + 1)) = slotSum (L.take k) + (2 + L[k].size) := by
  rw [List.take_succ_eq_append_getElem h, slotSum_append]; simp [slotSum]

/-- The bytes that are left. -/
def roomF (p : SheetV) : Int := IntKind.i64.wrap (485 - (p.head.size : Int) - (slotSum p.slots : Int))

theorem wrap_small {x : Int} (h1 : -9223372036854775808 ≤ x) (h2 : x ≤ 9223372036854775807) : IntKind.i64.wrap x = x := by
  rw [IntKind.wrap_i64]; omega

set_option maxHeartbeats 400000 in
set_option maxRecDepth 60000 in
theorem room_any (p : SheetV) (a : Option Addr) (c : Nat) (w : World) (hl : p.slots.length ≤ maxLen) (hs : ∀ s ∈ p.slots, s.size ≤ maxLen) (hh : p.head.size ≤ maxLen) (hm : StrsAt w a p.slots) :
    Calls Tryz.prog 134 #[p.val a c] w fun e w' => e = .returned (.int .i64 (roomF p)) ∧ Below w.heap.size w w' := by
  obtain ⟨num, lsn, kind, head, L⟩ := p
  unfold SheetV.val
  simp only at hl hs hh hm ⊢
  unfold maxLen at hl hs hh
  go_enter Tryz.func134, Tryz.ntmps134
  go_wp2
  go_loop [3, 13] (fun t i => ∃ k : Nat, k ≤ L.length ∧ i = .int .i64 k ∧ t = .int .i64 (IntKind.i64.wrap (485 - (head.size : Int) - (slotSum (L.take k) : Int)))) (fun _ i => L.length - (intOf i).toNat)
  case atStart => exact ⟨0, Nat.zero_le _, rfl, by simp [slotSum]; rw [IntKind.wrap_i64]; omega⟩
  case round =>
    obtain ⟨k, hk, rfl, rfl⟩ := hrel
    by_cases hlt : k < L.length
    · have hsz := hs L[k] (List.getElem_mem _)
      have hsn : Hid (slotSum (L.take (k + 1)) = slotSum (L.take k) + (2 + L[k].size)) := slotSum_snoc L k hlt
      rcases hm with hm | ⟨b, o, rfl, hb, hc⟩
      · rw [hm] at hlt; simp at hlt
      have hck := hc k hlt
      clear hc
      generalize L[k] = s at *
      generalize slotSum (L.take k) = S at *
      go_wp2
      go_round
      case rel => exact ⟨k + 1, by omega, by go_num, by rw [hsn.out]; simp only [IntKind.wrap_i64, wrap64]; congr 1; omega⟩
      case measure => simp [intOf]; omega
    · obtain rfl : k = L.length := by omega
      go_wp2
      go_ret
      exact ⟨rfl, (Below.refl _ _).alloc (Nat.le_refl _) _⟩

end Go.Proofs.YtjemeopafkafgaaGreat
