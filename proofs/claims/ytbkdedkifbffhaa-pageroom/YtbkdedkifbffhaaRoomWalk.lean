/-
  The walk of PageRoom.
-/
import Derived.Test.YtbkdedkifbffhaaPageChange
namespace Go.Proofs.Ytbkdedkifbffhaa
open Go.RowKit Go.Sort
set_option linter.unusedVariables false

/-- An OpInsert of S at k. -/
def opIns (k : Nat) (S : ByteArray) : OpV := ⟨2, k, S, ⟨#[]⟩⟩

theorem opIns_ok (k : Nat) (S : ByteArray) (hk : k ≤ 63) (hS : S.size ≤ 512) : (opIns k S).Ok := ⟨by show (-9223372036854775808 : Int) ≤ 2 ∧ (2 : Int) ≤ _; omega, by show (-9223372036854775808 : Int) ≤ (k : Int) ∧ (k : Int) ≤ _; omega, by show S.size ≤ _; omega, by show (0 : Nat) ≤ _; omega⟩

theorem opIns_chk (k : Nat) (S : ByteArray) (hk : k ≤ 63) (hS : S.size ≤ 512) : chkB (opIns k S) = true := by
  have h0 : (ByteArray.mk #[]).size = 0 := rfl
  simp [chkB, mayB, opIns, hS, h0]; omega

theorem apply_ins {p : SheetV} {w : World} {a : Option Addr} {c : Nat} (lsn k : Nat) (S : ByteArray) (h : p.Ok w a) (f : p.Fits) (hk : k ≤ 63) (hS : S.size ≤ 512) :
    Calls Try.prog 19 #[p.val a c, .agg #[.int .i64 2, .int .i64 k, .string S, .string ⟨#[]⟩], .int .u64 lsn] w fun e w' => ∃ X, e = .returned (.tuple #[X, .int .i64 (insE p (opIns k S))]) ∧ Below w.heap.size w w' ∧
      (insE p (opIns k S) = 0 → ∃ a' c', X = ({ p with slots := insL p.slots k S, lsn := lsn } : SheetV).val a' c' ∧ StrsFrom w.heap.size w' a' (insL p.slots k S)) ∧ (insE p (opIns k S) ≠ 0 → X = sheet0.val none 0) := by
  have hd := change_ins f (opIns_ok k S hk hS) rfl (by show (0 : Int) ≤ (k : Int); omega)
  have := apply_of (w := w) (c := c) lsn h f (opIns_ok k S hk hS) (opIns_chk k S hk hS) hd
  exact this

set_option maxHeartbeats 1600000 in
theorem fits_ins {p : SheetV} {w : World} {a : Option Addr} {c : Nat} (k : Nat) (h : p.Ok w a) (f : p.Fits) (hk : k ≤ 63) (hE : insE p (opIns k ⟨#[]⟩) = 30) :
    Calls Try.prog 24 #[p.val a c, .agg #[.int .i64 2, .int .i64 k, .string ⟨#[]⟩, .string ⟨#[]⟩]] w fun e w' => e = .returned (.bool false) ∧ Below w.heap.size w w' := by
  have HA : Hid (∀ wx, Below w.heap.size w wx → Calls Try.prog 19 #[p.val a c, .agg #[.int .i64 2, .int .i64 k, .string ⟨#[]⟩, .string ⟨#[]⟩], .int .u64 0] wx fun e w' => e = .returned (.tuple #[sheet0.val none 0, .int .i64 30]) ∧ Below wx.heap.size wx w') := fun wx hb => by
    refine (apply_ins (p := p) (w := wx) (a := a) (c := c) 0 k ⟨#[]⟩ (h.below hb) f hk (by show (0 : Nat) ≤ _; omega)).mono ?_
    rintro e w' ⟨X, rfl, b1, _, hn⟩
    rw [hE] at hn ⊢
    rw [hn (by decide)]
    exact ⟨rfl, b1⟩
  simp only [SheetV.val, sheet0, List.length_nil] at HA ⊢
  obtain ⟨W, HW⟩ : ∃ W, Hid (W = (w.alloc (.cells #[.int .u32 p.num, .int .u64 p.lsn, .int .i64 p.kind, .string p.head, .slice a p.slots.length c] 28)).alloc (.cells #[.int .i64 2, .int .i64 k, .string ⟨#[]⟩, .string ⟨#[]⟩] 48)) := ⟨_, rfl⟩
  have bW : Below w.heap.size w W := by rw [HW.out]; exact ((Below.refl _ _).alloc (Nat.le_refl _) _).alloc (by simp) _
  go_enter Try.func24, Try.ntmps24
  go_wp2_with fail
  rw [← HW.out]
  refine (HA.out _ bW).mono ?_
  rintro e w1 ⟨rfl, b1⟩
  go_wp2
  go_ret
  exact ⟨rfl, (below_chain bW b1).alloc (Nat.le_trans bW.size b1.size) _⟩

/-- '(at%(n+1) + n + 1) % (n+1)'. -/
def placeAt (at' : Int) (n : Nat) : Nat := ((at'.tmod ((n : Int) + 1) + (n : Int) + 1).tmod ((n : Int) + 1)).toNat

theorem place_bounds (at' : Int) (n : Nat) : -((n : Int) + 1) < at'.tmod ((n : Int) + 1) ∧ at'.tmod ((n : Int) + 1) < (n : Int) + 1 :=
  ⟨Int.lt_tmod_of_pos at' (by omega), Int.tmod_lt_of_pos at' (by omega)⟩

theorem placeAt_le (at' : Int) (n : Nat) : placeAt at' n ≤ n := by
  unfold placeAt
  have := Int.tmod_lt_of_pos (at'.tmod ((n : Int) + 1) + (n : Int) + 1) (show (0 : Int) < (n : Int) + 1 by omega)
  omega

theorem placeAt_cast (at' : Int) (n : Nat) : (at'.tmod ((n : Int) + 1) + (n : Int) + 1).tmod ((n : Int) + 1) = ((placeAt at' n : Nat) : Int) := by
  unfold placeAt
  have := place_bounds at' n
  have h3 := Int.tmod_nonneg ((n : Int) + 1) (show (0 : Int) ≤ at'.tmod ((n : Int) + 1) + (n : Int) + 1 by omega)
  omega

end Go.Proofs.Ytbkdedkifbffhaa
