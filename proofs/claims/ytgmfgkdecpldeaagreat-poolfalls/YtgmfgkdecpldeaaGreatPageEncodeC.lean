/-
  The walk of page.Encode.
-/
import Derived.Test.YtgmfgkdecpldeaaGreatPageEncC
import Derived.Test.YtgmfgkdecpldeaaGreatBase1C
namespace Go.Proofs.YtgmfgkdecpldeaaGreat
open Go.RowKit
set_option linter.unusedVariables false

/-- What is known of a page that was handed in: its parts' sizes, its slots' place. -/
structure SheetV.Ok (p : SheetV) (w : World) (a : Option Addr) : Prop where
  num : p.num < 4294967296
  lsn : p.lsn < 18446744073709551616
  kind : -9223372036854775808 ≤ p.kind ∧ p.kind ≤ 9223372036854775807
  head : p.head.size ≤ 140737488351232
  len : p.slots.length ≤ 8796093021952
  slots : ∀ s ∈ p.slots, s.size ≤ 140737488351232
  mem : StrsAt w a p.slots

theorem SheetV.Ok.below {p : SheetV} {w w' : World} {a : Option Addr} (h : p.Ok w a) (k : Below w.heap.size w w') : p.Ok w' a :=
  ⟨h.num, h.lsn, h.kind, h.head, h.len, h.slots, h.mem.below k⟩

theorem SheetV.Ok.room {p : SheetV} {w : World} {a : Option Addr} (h : p.Ok w a) (c : Nat) :
    Calls Tryz.prog 75 #[p.val a c] w fun e w' => e = .returned (.int .i64 (roomF p)) ∧ Below w.heap.size w w' :=
  room_any p a c w (by have := h.len; unfold maxLen; omega) (fun s hs => by have := h.slots s hs; unfold maxLen; omega) (by have := h.head; unfold maxLen; omega) h.mem

theorem slotSum_le (L : List ByteArray) (hn : L.length ≤ 64) (hs : ∀ s ∈ L, s.size ≤ 140737488351232) : slotSum L ≤ 64 * 140737488351234 := by
  have : ∀ M : List ByteArray, (∀ s ∈ M, s.size ≤ 140737488351232) → slotSum M ≤ M.length * 140737488351234 := by
    intro M
    induction M with
    | nil => intro _; simp [slotSum]
    | cons s M ih =>
      intro h
      have h1 := h s (by simp)
      have h2 := ih (fun x hx => h x (by simp [hx]))
      simp only [slotSum, List.length_cons, Nat.add_mul]
      omega
  exact Nat.le_trans (this L hs) (Nat.mul_le_mul_right _ hn)

theorem roomF_eq {p : SheetV} {w : World} {a : Option Addr} (h : p.Ok w a) (hn : p.slots.length ≤ 64) : roomF p = 485 - (p.head.size : Int) - (slotSum p.slots : Int) := by
  have h1 := slotSum_le p.slots hn h.slots
  have h2 := h.head
  exact wrap_small (by omega) (by omega)

set_option maxHeartbeats 800000 in
set_option maxRecDepth 60000 in
theorem encode_arg (p : SheetV) (a : Option Addr) (c : Nat) (w : World) (h : p.Ok w a) (hk : p.kind < 0 ∨ 255 < p.kind ∨ 32 < p.head.size ∨ 64 < p.slots.length) :
    Calls Tryz.prog 47 #[p.val a c] w fun e w' => e = .returned (.tuple #[.string ⟨#[]⟩, .int .i64 1]) ∧ Below w.heap.size w w' := by
  have h1 := h.kind
  have h2 := h.head
  have h3 := h.len
  obtain ⟨num, lsn, kind, head, L⟩ := p
  unfold SheetV.val
  simp only at hk h1 h2 h3 ⊢
  by_cases k1 : kind < 0
  · go_enter Tryz.func47, Tryz.ntmps47
    go_wp2
    go_ret2
    exact ⟨rfl, (Below.refl _ _).alloc (Nat.le_refl _) _⟩
  by_cases k2 : 255 < kind
  · go_enter Tryz.func47, Tryz.ntmps47
    go_wp2
    go_ret2
    exact ⟨rfl, (Below.refl _ _).alloc (Nat.le_refl _) _⟩
  by_cases k3 : 32 < head.size
  · have k1' : 0 ≤ kind := by omega
    have k2' : kind ≤ 255 := by omega
    go_enter Tryz.func47, Tryz.ntmps47
    go_wp2
    go_ret2
    exact ⟨rfl, (Below.refl _ _).alloc (Nat.le_refl _) _⟩
  have k4 : 64 < L.length := by omega
  have k1' : 0 ≤ kind := by omega
  have k2' : kind ≤ 255 := by omega
  have k3' : head.size ≤ 32 := by omega
  go_enter Tryz.func47, Tryz.ntmps47
  go_wp2
  go_ret2
  exact ⟨rfl, (Below.refl _ _).alloc (Nat.le_refl _) _⟩

set_option maxHeartbeats 800000 in
set_option maxRecDepth 60000 in
theorem encode_full (p : SheetV) (a : Option Addr) (c : Nat) (w : World) (h : p.Ok w a) (k1 : 0 ≤ p.kind) (k2 : p.kind ≤ 255) (k3 : p.head.size ≤ 32) (k4 : p.slots.length ≤ 64) (hf : 485 < p.head.size + slotSum p.slots) :
    Calls Tryz.prog 47 #[p.val a c] w fun e w' => e = .returned (.tuple #[.string ⟨#[]⟩, .int .i64 30]) ∧ Below w.heap.size w w' := by
  have hr := roomF_eq h k4
  have h' := h.below ((Below.refl w.heap.size w).alloc (Nat.le_refl _) (.cells #[.int .u32 p.num, .int .u64 p.lsn, .int .i64 p.kind, .string p.head, .slice a p.slots.length c] 56))
  have HR : Hid (∀ d, Calls Tryz.prog 75 #[p.val a d] (w.alloc (.cells #[.int .u32 p.num, .int .u64 p.lsn, .int .i64 p.kind, .string p.head, .slice a p.slots.length c] 56)) fun e w' => e = .returned (.int .i64 (485 - (p.head.size : Int) - (slotSum p.slots : Int))) ∧ Below (w.heap.size + 1) (w.alloc (.cells #[.int .u32 p.num, .int .u64 p.lsn, .int .i64 p.kind, .string p.head, .slice a p.slots.length c] 56)) w') := fun d => by
    have := h'.room d
    rw [hr] at this
    simpa using this
  have HS : Hid (slotSum p.slots ≤ 64 * 140737488351234) := slotSum_le p.slots k4 h.slots
  clear h' h hr
  obtain ⟨num, lsn, kind, head, L⟩ := p
  unfold SheetV.val at *
  simp only at *
  generalize slotSum L = S at *
  have hS := HS.out
  go_enter Tryz.func47, Tryz.ntmps47
  go_wp2_with fail
  refine (HR.out c).mono ?_
  rintro e w1 ⟨rfl, b1⟩
  go_wp2
  go_ret2
  exact ⟨rfl, ((Below.refl _ _).alloc (Nat.le_refl _) _).trans (b1.mono (by omega))⟩

/-- A box of five cells is read as it was laid. -/
theorem box5 {w wX : World} {v0 v1 v2 v3 v4 : Value} {T : TypeId} (hb : Below (w.heap.size + 1) (w.alloc (.cells #[v0, v1, v2, v3, v4] T)) wX) :
    wX.cell? ⟨w.heap.size, 0, none⟩ = some v0 ∧ wX.cell? ⟨w.heap.size, 1, none⟩ = some v1 ∧ wX.cell? ⟨w.heap.size, 2, none⟩ = some v2 ∧ wX.cell? ⟨w.heap.size, 3, none⟩ = some v3 ∧ wX.cell? ⟨w.heap.size, 4, none⟩ = some v4 :=
  ⟨(hb.cell (p := ⟨w.heap.size, 0, none⟩) (by simp)).trans (by simp), (hb.cell (p := ⟨w.heap.size, 1, none⟩) (by simp)).trans (by simp), (hb.cell (p := ⟨w.heap.size, 2, none⟩) (by simp)).trans (by simp),
    (hb.cell (p := ⟨w.heap.size, 3, none⟩) (by simp)).trans (by simp), (hb.cell (p := ⟨w.heap.size, 4, none⟩) (by simp)).trans (by simp)⟩

theorem wnumber_is {w : World} {b : Nat} {l : List UInt8} {a : Option Addr} {c : Nat} (h : IsWriter w b l a c) (n k : Nat) (hn : n < 18446744073709551616) (hk : k ≤ 8) (hl : l.length + 8 ≤ 140737488355328) :
    Calls Tryz.prog 77 #[.pointer (some ⟨b, 0, none⟩), .int .u64 n, .int .i64 k] w fun y w' =>
      y = .returned (.tuple #[]) ∧ (∃ a' c', IsWriter w' b (l ++ putL n k) a' c') ∧ Below b w w' := by
  have := wnumber_any h n k hn hl
  rw [show longOf (k : Int) = k from by unfold longOf; omega] at this
  exact this

end Go.Proofs.YtgmfgkdecpldeaaGreat
