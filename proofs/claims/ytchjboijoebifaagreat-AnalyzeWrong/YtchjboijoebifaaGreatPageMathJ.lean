/-
  Plain mathematics: what Decode finds in the bytes that Encode makes.
-/
import Derived.Test.YtchjboijoebifaaGreatPageDecodeC
import Derived.Test.YtchjboijoebifaaGreatCrcJ
import Derived.Test.YtchjboijoebifaaGreatProg
import Derived.Shelf.Lays
import Derived.Shelf.Strings.Repeat
import Derived.WalkKit
import Derived.WalkSpells
import Derived.Shelf.Slices.Equal
import Derived.Shelf.Slices.Empties2
import Derived.Lib.QuietBelow
import Derived.Deep.RegionHeld3
set_option linter.unusedVariables false
set_option linter.unusedSimpArgs false
namespace Go.Proofs.YtchjboijoebifaaGreat
open Go.RowKit

theorem part_at {s : ByteArray} {pre mid post : List UInt8} (h : s.data.toList = pre ++ (mid ++ post)) {a n : Nat} (ha : a = pre.length) (hn : n = mid.length) : part s a n = mid := by
  subst ha hn; unfold part; rw [h]; simp

section
variable (p : SheetV)

end

end Go.Proofs.YtchjboijoebifaaGreat

namespace Go.Proofs.YtchjboijoebifaaGreat
open Go.RowKit Go.Sort

structure OpV where
  kind : Int
  at' : Int
  S : ByteArray
  old : ByteArray

def OpV.val (o : OpV) : Value := .agg #[.int .i64 o.kind, .int .i64 o.at', .string o.S, .string o.old]

structure OpV.Ok (o : OpV) : Prop where
  kind : -9223372036854775808 ≤ o.kind ∧ o.kind ≤ 9223372036854775807
  at' : -9223372036854775808 ≤ o.at' ∧ o.at' ≤ 9223372036854775807
  S : o.S.size ≤ 140737488351232
  old : o.old.size ≤ 140737488351232

set_option maxHeartbeats 400000 in
set_option maxRecDepth 60000 in
theorem within_yes (n lo hi : Int) (w : World) (h : lo ≤ n ∧ n ≤ hi) :
    Calls Tryz.prog 150 #[.int .i64 n, .int .i64 lo, .int .i64 hi] w fun e w' => e = .returned (.bool true) ∧ w' = w := by
  obtain ⟨h1, h2⟩ := h
  go_enter Tryz.func150, Tryz.ntmps150
  go_wp2
  go_ret
  exact ⟨rfl, rfl⟩

set_option maxHeartbeats 400000 in
set_option maxRecDepth 60000 in
theorem within_no (n lo hi : Int) (w : World) (h : ¬ (lo ≤ n ∧ n ≤ hi)) :
    Calls Tryz.prog 150 #[.int .i64 n, .int .i64 lo, .int .i64 hi] w fun e w' => e = .returned (.bool false) ∧ w' = w := by
  by_cases h1 : lo ≤ n
  · have h2 : ¬ n ≤ hi := fun q => h ⟨h1, q⟩
    go_enter Tryz.func150, Tryz.ntmps150
    go_wp2
    go_ret
    exact ⟨rfl, rfl⟩
  · go_enter Tryz.func150, Tryz.ntmps150
    go_wp2
    go_ret
    exact ⟨rfl, rfl⟩

def mayP (o : OpV) : Prop :=
  if o.kind = 1 then (0 ≤ o.at' ∧ o.at' ≤ 255) ∧ o.S.size ≤ 32 ∧ o.old.size = 0 else
  if o.kind = 2 then (0 ≤ o.at' ∧ o.at' ≤ 63) ∧ o.old.size = 0 else
  if o.kind = 3 then (0 ≤ o.at' ∧ o.at' ≤ 63) ∧ o.S.size = 0 else
  if o.kind = 4 then (0 ≤ o.at' ∧ o.at' ≤ 63) else
  if o.kind = 5 then o.at' = 0 ∧ o.S.size ≤ 32 ∧ o.old.size ≤ 32 else
  if o.kind = 6 then (0 ≤ o.at' ∧ o.at' ≤ 511) ∧ o.S.size = o.old.size ∧ 0 < o.S.size else
  if o.kind = 7 then o.at' = 0 ∧ (1 ≤ o.S.size ∧ o.S.size ≤ 33) ∧ (1 ≤ o.old.size ∧ o.old.size ≤ 33) else False

def mayB (o : OpV) : Bool :=
  if o.kind = 1 then decide ((0 ≤ o.at' ∧ o.at' ≤ 255)) && decide (o.S.size ≤ 32) && decide (o.old.size = 0) else
  if o.kind = 2 then decide ((0 ≤ o.at' ∧ o.at' ≤ 63)) && decide (o.old.size = 0) else
  if o.kind = 3 then decide ((0 ≤ o.at' ∧ o.at' ≤ 63)) && decide (o.S.size = 0) else
  if o.kind = 4 then decide ((0 ≤ o.at' ∧ o.at' ≤ 63)) else
  if o.kind = 5 then decide (o.at' = 0) && decide (o.S.size ≤ 32) && decide (o.old.size ≤ 32) else
  if o.kind = 6 then decide ((0 ≤ o.at' ∧ o.at' ≤ 511)) && decide (o.S.size = o.old.size) && decide (0 < o.S.size) else
  if o.kind = 7 then decide (o.at' = 0) && decide ((1 ≤ o.S.size ∧ o.S.size ≤ 33)) && decide ((1 ≤ o.old.size ∧ o.old.size ≤ 33)) else false

theorem mayB_iff (o : OpV) : mayB o = true ↔ mayP o := by
  unfold mayB mayP
  by_cases k1 : o.kind = 1
  · simp only [k1, if_true]; simp [and_assoc]
  by_cases k2 : o.kind = 2
  · simp [k2]
  by_cases k3 : o.kind = 3
  · simp [k3]
  by_cases k4 : o.kind = 4
  · simp [k4]
  by_cases k5 : o.kind = 5
  · simp [k5, and_assoc]
  by_cases k6 : o.kind = 6
  · simp [k6, and_assoc]
  by_cases k7 : o.kind = 7
  · simp [k7, and_assoc]
  simp [k1, k2, k3, k4, k5, k6, k7]

set_option maxHeartbeats 1600000 in
set_option maxRecDepth 60000 in
theorem mayBe_any (o : OpV) (w : World) (h : o.Ok) :
    Calls Tryz.prog 139 #[o.val] w fun e w' => e = .returned (.bool (mayB o)) ∧ Below w.heap.size w w' := by
  have hS := h.S
  have hT := h.old
  have HM : Hid (mayB o = mayB o) := rfl
  obtain ⟨R, HR⟩ : ∃ R, Hid (mayB o = R) := ⟨_, rfl⟩
  rw [HR.out]
  have HR2 := HR.out
  unfold mayB at HR2
  obtain ⟨K, A, S, T⟩ := o
  simp only [OpV.val] at *
  by_cases k1 : K = 1
  · subst k1
    have HX : Hid (R = (decide ((0 ≤ A ∧ A ≤ 255)) && decide (S.size ≤ 32) && decide (T.size = 0))) := by show _ = _; rw [← HR2]; simp
    clear HR HR2 HM
    by_cases c0 : (0 ≤ A ∧ A ≤ 255)
    all_goals by_cases c1 : S.size ≤ 32
    all_goals by_cases c2 : T.size = 0
    all_goals
      have HV : Hid (R = decide (((0 ≤ A ∧ A ≤ 255)) ∧ (S.size ≤ 32) ∧ (T.size = 0))) := by show _ = _; rw [HX.out]; simp [Bool.and_assoc]
      clear HX
      go_enter Tryz.func139, Tryz.ntmps139
      go_wp2_with fail
      go_quiet (fail)
      go_wp2_with (first | (go_at_call 150; refine (within_yes _ _ _ _ (by omega)).mono ?_; rintro e w1 ⟨rfl, rfl⟩) | (go_at_call 150; refine (within_no _ _ _ _ (by omega)).mono ?_; rintro e w1 ⟨rfl, rfl⟩))
      go_ret
      refine ⟨?_, below_drewN ((Below.refl _ _).alloc (Nat.le_refl _) _) nq⟩
      rw [HV.out]
      first | rfl | (simp_all; done) | (simp_all; omega)
  by_cases k2 : K = 2
  · subst k2
    have HX : Hid (R = (decide ((0 ≤ A ∧ A ≤ 63)) && decide (T.size = 0))) := by show _ = _; rw [← HR2]; simp
    clear HR HR2 HM
    by_cases c0 : (0 ≤ A ∧ A ≤ 63)
    all_goals by_cases c1 : T.size = 0
    all_goals
      have HV : Hid (R = decide (((0 ≤ A ∧ A ≤ 63)) ∧ (T.size = 0))) := by show _ = _; rw [HX.out]; simp [Bool.and_assoc]
      clear HX
      go_enter Tryz.func139, Tryz.ntmps139
      go_wp2_with fail
      go_quiet (fail)
      go_wp2_with (first | (go_at_call 150; refine (within_yes _ _ _ _ (by omega)).mono ?_; rintro e w1 ⟨rfl, rfl⟩) | (go_at_call 150; refine (within_no _ _ _ _ (by omega)).mono ?_; rintro e w1 ⟨rfl, rfl⟩))
      go_ret
      refine ⟨?_, below_drewN ((Below.refl _ _).alloc (Nat.le_refl _) _) nq⟩
      rw [HV.out]
      first | rfl | (simp_all; done) | (simp_all; omega)
  by_cases k3 : K = 3
  · subst k3
    have HX : Hid (R = (decide ((0 ≤ A ∧ A ≤ 63)) && decide (S.size = 0))) := by show _ = _; rw [← HR2]; simp
    clear HR HR2 HM
    by_cases c0 : (0 ≤ A ∧ A ≤ 63)
    all_goals by_cases c1 : S.size = 0
    all_goals
      have HV : Hid (R = decide (((0 ≤ A ∧ A ≤ 63)) ∧ (S.size = 0))) := by show _ = _; rw [HX.out]; simp [Bool.and_assoc]
      clear HX
      go_enter Tryz.func139, Tryz.ntmps139
      go_wp2_with fail
      go_quiet (fail)
      go_wp2_with (first | (go_at_call 150; refine (within_yes _ _ _ _ (by omega)).mono ?_; rintro e w1 ⟨rfl, rfl⟩) | (go_at_call 150; refine (within_no _ _ _ _ (by omega)).mono ?_; rintro e w1 ⟨rfl, rfl⟩))
      go_ret
      refine ⟨?_, below_drewN ((Below.refl _ _).alloc (Nat.le_refl _) _) nq⟩
      rw [HV.out]
      first | rfl | (simp_all; done) | (simp_all; omega)
  by_cases k4 : K = 4
  · subst k4
    have HX : Hid (R = (decide ((0 ≤ A ∧ A ≤ 63)))) := by show _ = _; rw [← HR2]; simp
    clear HR HR2 HM
    by_cases c0 : (0 ≤ A ∧ A ≤ 63)
    all_goals
      have HV : Hid (R = decide (((0 ≤ A ∧ A ≤ 63)))) := by show _ = _; rw [HX.out]
      clear HX
      go_enter Tryz.func139, Tryz.ntmps139
      go_wp2_with fail
      go_quiet (fail)
      go_wp2_with (first | (go_at_call 150; refine (within_yes _ _ _ _ (by omega)).mono ?_; rintro e w1 ⟨rfl, rfl⟩) | (go_at_call 150; refine (within_no _ _ _ _ (by omega)).mono ?_; rintro e w1 ⟨rfl, rfl⟩))
      go_ret
      refine ⟨?_, below_drewN ((Below.refl _ _).alloc (Nat.le_refl _) _) nq⟩
      rw [HV.out]
      first | rfl | (simp_all; done) | (simp_all; omega)
  by_cases k5 : K = 5
  · subst k5
    have HX : Hid (R = (decide (A = 0) && decide (S.size ≤ 32) && decide (T.size ≤ 32))) := by show _ = _; rw [← HR2]; simp
    clear HR HR2 HM
    by_cases c0 : A = 0
    all_goals by_cases c1 : S.size ≤ 32
    all_goals by_cases c2 : T.size ≤ 32
    all_goals
      have HV : Hid (R = decide ((A = 0) ∧ (S.size ≤ 32) ∧ (T.size ≤ 32))) := by show _ = _; rw [HX.out]; simp [Bool.and_assoc]
      clear HX
      go_enter Tryz.func139, Tryz.ntmps139
      go_wp2_with fail
      go_quiet (fail)
      go_wp2_with (first | (go_at_call 150; refine (within_yes _ _ _ _ (by omega)).mono ?_; rintro e w1 ⟨rfl, rfl⟩) | (go_at_call 150; refine (within_no _ _ _ _ (by omega)).mono ?_; rintro e w1 ⟨rfl, rfl⟩))
      go_ret
      refine ⟨?_, below_drewN ((Below.refl _ _).alloc (Nat.le_refl _) _) nq⟩
      rw [HV.out]
      first | rfl | (simp_all; done) | (simp_all; omega)
  by_cases k6 : K = 6
  · subst k6
    have HX : Hid (R = (decide ((0 ≤ A ∧ A ≤ 511)) && decide (S.size = T.size) && decide (0 < S.size))) := by show _ = _; rw [← HR2]; simp
    clear HR HR2 HM
    by_cases c0 : (0 ≤ A ∧ A ≤ 511)
    all_goals by_cases c1 : S.size = T.size
    all_goals by_cases c2 : 0 < S.size
    all_goals
      have HV : Hid (R = decide (((0 ≤ A ∧ A ≤ 511)) ∧ (S.size = T.size) ∧ (0 < S.size))) := by show _ = _; rw [HX.out]; simp [Bool.and_assoc]
      clear HX
      go_enter Tryz.func139, Tryz.ntmps139
      go_wp2_with fail
      go_quiet (fail)
      go_wp2_with (first | (go_at_call 150; refine (within_yes _ _ _ _ (by omega)).mono ?_; rintro e w1 ⟨rfl, rfl⟩) | (go_at_call 150; refine (within_no _ _ _ _ (by omega)).mono ?_; rintro e w1 ⟨rfl, rfl⟩))
      go_ret
      refine ⟨?_, below_drewN ((Below.refl _ _).alloc (Nat.le_refl _) _) nq⟩
      rw [HV.out]
      first | rfl | (simp_all; done) | (simp_all; omega)
  by_cases k7 : K = 7
  · subst k7
    have HX : Hid (R = (decide (A = 0) && decide ((1 ≤ S.size ∧ S.size ≤ 33)) && decide ((1 ≤ T.size ∧ T.size ≤ 33)))) := by show _ = _; rw [← HR2]; simp
    clear HR HR2 HM
    by_cases c0 : A = 0
    all_goals by_cases c1 : (1 ≤ S.size ∧ S.size ≤ 33)
    all_goals by_cases c2 : (1 ≤ T.size ∧ T.size ≤ 33)
    all_goals
      have HV : Hid (R = decide ((A = 0) ∧ ((1 ≤ S.size ∧ S.size ≤ 33)) ∧ ((1 ≤ T.size ∧ T.size ≤ 33)))) := by show _ = _; rw [HX.out]; simp [Bool.and_assoc]
      clear HX
      go_enter Tryz.func139, Tryz.ntmps139
      go_wp2_with fail
      go_quiet (fail)
      go_wp2_with (first | (go_at_call 150; refine (within_yes _ _ _ _ (by omega)).mono ?_; rintro e w1 ⟨rfl, rfl⟩) | (go_at_call 150; refine (within_no _ _ _ _ (by omega)).mono ?_; rintro e w1 ⟨rfl, rfl⟩))
      go_ret
      refine ⟨?_, below_drewN ((Below.refl _ _).alloc (Nat.le_refl _) _) nq⟩
      rw [HV.out]
      first | rfl | (simp_all; done) | (simp_all; omega)
  have HX : Hid (R = false) := by show _ = _; rw [← HR2]; simp [k1, k2, k3, k4, k5, k6, k7]
  have HV := HX.out
  clear HR HR2 HM HX
  have j1 : (K == 1) = false := by rw [beq_eq_false_iff_ne]; exact k1
  have j2 : (K == 2) = false := by rw [beq_eq_false_iff_ne]; exact k2
  have j3 : (K == 3) = false := by rw [beq_eq_false_iff_ne]; exact k3
  have j4 : (K == 4) = false := by rw [beq_eq_false_iff_ne]; exact k4
  have j5 : (K == 5) = false := by rw [beq_eq_false_iff_ne]; exact k5
  have j6 : (K == 6) = false := by rw [beq_eq_false_iff_ne]; exact k6
  have j7 : (K == 7) = false := by rw [beq_eq_false_iff_ne]; exact k7
  go_enter Tryz.func139, Tryz.ntmps139
  go_wp2_with fail
  go_quiet (fail)
  go_wp2
  go_ret
  exact ⟨by rw [HV]; rfl, below_drewN ((Below.refl _ _).alloc (Nat.le_refl _) _) nq⟩

def chkB (o : OpV) : Bool := decide (o.S.size ≤ 512) && decide (o.old.size ≤ 512) && mayB o
def chkE (o : OpV) : Int := if chkB o = true then 0 else 33

set_option maxHeartbeats 800000 in
set_option maxRecDepth 8000 in
theorem check_any (o : OpV) (w : World) (h : o.Ok) :
    Calls Tryz.prog 113 #[o.val] w fun e w' => e = .returned (.int .i64 (chkE o)) ∧ Below w.heap.size w w' := by
  have hS := h.S
  have hT := h.old
  have HMB : Hid (∀ wx, Calls Tryz.prog 139 #[o.val] wx fun e w' => e = .returned (.bool (mayB o)) ∧ Below wx.heap.size wx w') := fun wx => mayBe_any o wx h
  have HE : Hid (chkE o = if (decide (o.S.size ≤ 512) && decide (o.old.size ≤ 512) && mayB o) = true then 0 else 33) := rfl
  generalize chkE o = E at *
  generalize mayB o = R at *
  clear h
  obtain ⟨K, A, S, T⟩ := o
  simp only [OpV.val] at *
  by_cases c0 : S.size ≤ 512
  · by_cases c1 : T.size ≤ 512
    · cases R
      · have HV : Hid (E = 33) := by show _ = _; rw [HE.out]; simp
        clear HE
        go_enter Tryz.func113, Tryz.ntmps113
        go_wp2_with fail
        refine (HMB.out _).mono ?_
        rintro e w1 ⟨rfl, b1⟩
        go_wp2
        go_ret
        exact ⟨by rw [HV.out]; rfl, below_chain ((Below.refl _ _).alloc (Nat.le_refl _) _) b1⟩
      · have HV : Hid (E = 0) := by show _ = _; rw [HE.out]; simp [c0, c1]
        clear HE
        go_enter Tryz.func113, Tryz.ntmps113
        go_wp2_with fail
        refine (HMB.out _).mono ?_
        rintro e w1 ⟨rfl, b1⟩
        go_wp2
        go_ret
        exact ⟨by rw [HV.out]; rfl, below_chain ((Below.refl _ _).alloc (Nat.le_refl _) _) b1⟩
    · have HV : Hid (E = 33) := by show _ = _; rw [HE.out]; simp [c1]
      clear HE
      go_enter Tryz.func113, Tryz.ntmps113
      go_wp2
      go_ret
      exact ⟨by rw [HV.out]; rfl, (Below.refl _ _).alloc (Nat.le_refl _) _⟩
  · have HV : Hid (E = 33) := by show _ = _; rw [HE.out]; simp [c0]
    clear HE
    go_enter Tryz.func113, Tryz.ntmps113
    go_wp2
    go_ret
    exact ⟨by rw [HV.out]; rfl, (Below.refl _ _).alloc (Nat.le_refl _) _⟩

end Go.Proofs.YtchjboijoebifaaGreat

namespace Go.Proofs.YtchjboijoebifaaGreat
open Go.RowKit Go.Sort

abbrev TxV := Int × Int × Nat × Nat

abbrev DiV := Nat × Nat

structure TxAt (w : World) (b o : Nat) (t : TxV) : Prop where
  c0 : w.cell? ⟨b, o, none⟩ = some (.int .i64 t.1)
  c1 : w.cell? ⟨b, o + 1, none⟩ = some (.int .i64 t.2.1)
  c2 : w.cell? ⟨b, o + 2, none⟩ = some (.int .u64 t.2.2.1)
  c3 : w.cell? ⟨b, o + 3, none⟩ = some (.int .u64 t.2.2.2)

structure DiAt (w : World) (b o : Nat) (t : DiV) : Prop where
  c0 : w.cell? ⟨b, o, none⟩ = some (.int .u32 t.1)
  c1 : w.cell? ⟨b, o + 1, none⟩ = some (.int .u64 t.2)

def TxsAt (w : World) (a : Option Addr) (L : List TxV) : Prop :=
  L = [] ∨ ∃ b o, a = some ⟨b, o, none⟩ ∧ b < w.heap.size ∧ ∀ i (hi : i < L.length), TxAt w b (o + i * 4) L[i]

def DisAt (w : World) (a : Option Addr) (L : List DiV) : Prop :=
  L = [] ∨ ∃ b o, a = some ⟨b, o, none⟩ ∧ b < w.heap.size ∧ ∀ i (hi : i < L.length), DiAt w b (o + i * 2) L[i]

theorem TxAt.same {w w' : World} {b o : Nat} {t : TxV} (h : TxAt w b o t) (e : w'.heap[b]? = w.heap[b]?) : TxAt w' b o t :=
  ⟨(World.cell?_of_block (w := w) (a := ⟨b, o, none⟩) e).trans h.c0, (World.cell?_of_block (w := w) (a := ⟨b, o + 1, none⟩) e).trans h.c1, (World.cell?_of_block (w := w) (a := ⟨b, o + 2, none⟩) e).trans h.c2, (World.cell?_of_block (w := w) (a := ⟨b, o + 3, none⟩) e).trans h.c3⟩
theorem DiAt.same {w w' : World} {b o : Nat} {t : DiV} (h : DiAt w b o t) (e : w'.heap[b]? = w.heap[b]?) : DiAt w' b o t :=
  ⟨(World.cell?_of_block (w := w) (a := ⟨b, o, none⟩) e).trans h.c0, (World.cell?_of_block (w := w) (a := ⟨b, o + 1, none⟩) e).trans h.c1⟩

theorem TxsAt.below {w w' : World} {a : Option Addr} {L : List TxV} (h : TxsAt w a L) (k : Below w.heap.size w w') : TxsAt w' a L := by
  rcases h with h | ⟨b, o, e, hb, hc⟩
  · exact .inl h
  · exact .inr ⟨b, o, e, Nat.lt_of_lt_of_le hb k.size, fun i hi => (hc i hi).same (k.block b hb)⟩
theorem DisAt.below {w w' : World} {a : Option Addr} {L : List DiV} (h : DisAt w a L) (k : Below w.heap.size w w') : DisAt w' a L := by
  rcases h with h | ⟨b, o, e, hb, hc⟩
  · exact .inl h
  · exact .inr ⟨b, o, e, Nat.lt_of_lt_of_le hb k.size, fun i hi => (hc i hi).same (k.block b hb)⟩

theorem take_one {α : Type} {L M : List α} {k : Nat} (h : L.take k = M.take k) (h1 : k < L.length) (h2 : k < M.length) (e : L[k] = M[k]) : L.take (k + 1) = M.take (k + 1) := by
  rw [List.take_succ_eq_append_getElem h1, List.take_succ_eq_append_getElem h2, h, e]

set_option maxHeartbeats 3200000 in
set_option maxRecDepth 60000 in
theorem equalTx (a1 a2 : Option Addr) (c d : Nat) (L M : List TxV) (w : World) (hL : TxsAt w a1 L) (hM : TxsAt w a2 M) (h1 : L.length ≤ 9223372036854775807) (h2 : M.length ≤ 9223372036854775807) :
    Calls Tryz.prog 111 #[.slice a1 L.length c, .slice a2 M.length d] w fun e w' => e = .returned (.bool (decide (L = M))) ∧ Below w.heap.size w w' := by
  obtain ⟨R, HR⟩ : ∃ R, Hid (decide (L = M) = R) := ⟨_, rfl⟩
  rw [HR.out]
  by_cases hl : L.length = M.length
  · have HL : Hid (L.length = M.length) := hl
    clear hl
    have hlb : ((L.length : Int) != (M.length : Int)) = false := by have := HL.out; simp; omega
    go_enter Tryz.func111, Tryz.ntmps111
    go_wp2_with fail
    go_loopw [13] (fun i wr => ∃ k q : Nat, k ≤ L.length ∧ i = .int .i64 k ∧ wr = w.drewN q ∧ Hid (L.take k = M.take k)) (fun i _ => L.length - (intOf i).toNat)
    case atStart => exact ⟨0, 0, by omega, rfl, rfl, rfl⟩
    case round =>
      obtain ⟨k, q, hk, rfl, rfl, HT⟩ := hrel
      by_cases hlt : k < L.length
      · have hlt' : k < M.length := by have := HL.out; omega
        rcases hL with hL | ⟨b1, o1, rfl, hb1, g1⟩
        · rw [hL] at hlt; simp at hlt
        rcases hM with hM | ⟨b2, o2, rfl, hb2, g2⟩
        · rw [hM] at hlt'; simp at hlt'
        have g1 := g1 k hlt
        have g2 := g2 k hlt'
        have hi0 : (0 : Int) ≤ (k : Int) := by omega
        have hi1 : (k : Int) < (L.length : Int) := by omega
        have hi2 : (k : Int) < (M.length : Int) := by omega
        have HT1 : Hid (L[k] = M[k] → L.take (k + 1) = M.take (k + 1)) := take_one HT.out hlt hlt'
        have HT2 : Hid (L[k] ≠ M[k] → L ≠ M) := fun e e' => e (by subst e'; rfl)
        generalize L[k] = t1 at *
        generalize M[k] = t2 at *
        obtain ⟨x1, y1, u1, v1⟩ := t1
        obtain ⟨x2, y2, u2, v2⟩ := t2
        obtain ⟨p0, p1, p2, p3⟩ := g1
        obtain ⟨r0, r1, r2, r3⟩ := g2
        simp only at p0 r0 p1 r1 p2 r2 p3 r3
        by_cases e0 : x1 = x2
        rotate_left
        · have ne0 : (x1 == x2) = false := by rw [beq_eq_false_iff_ne]; omega
          have nf0 : (x1 != x2) = true := by rw [bne_iff_ne]; omega
          have HR' : Hid (R = false) := by rw [← HR.out]; exact decide_eq_false (HT2.out (by intro e; apply e0; exact congrArg (fun t : TxV => t.1) e))
          go_wp2_with fail
          go_quiet (fail)
          go_wp2
          go_ret
          exact ⟨by rw [HR'.out]; rfl, below_drewN (below_drewN (Below.refl _ _) q) nq⟩
        subst e0
        by_cases e1 : y1 = y2
        rotate_left
        · have ne1 : (y1 == y2) = false := by rw [beq_eq_false_iff_ne]; omega
          have nf1 : (y1 != y2) = true := by rw [bne_iff_ne]; omega
          have HR' : Hid (R = false) := by rw [← HR.out]; exact decide_eq_false (HT2.out (by intro e; apply e1; exact congrArg (fun t : TxV => t.2.1) e))
          go_wp2_with fail
          go_quiet (fail)
          go_wp2
          go_ret
          exact ⟨by rw [HR'.out]; rfl, below_drewN (below_drewN (Below.refl _ _) q) nq⟩
        subst e1
        by_cases e2 : u1 = u2
        rotate_left
        · have ne2 : ((u1 : Int) == (u2 : Int)) = false := by rw [beq_eq_false_iff_ne]; omega
          have nf2 : ((u1 : Int) != (u2 : Int)) = true := by rw [bne_iff_ne]; omega
          have HR' : Hid (R = false) := by rw [← HR.out]; exact decide_eq_false (HT2.out (by intro e; apply e2; exact congrArg (fun t : TxV => t.2.2.1) e))
          go_wp2_with fail
          go_quiet (fail)
          go_wp2
          go_ret
          exact ⟨by rw [HR'.out]; rfl, below_drewN (below_drewN (Below.refl _ _) q) nq⟩
        subst e2
        by_cases e3 : v1 = v2
        rotate_left
        · have ne3 : ((v1 : Int) == (v2 : Int)) = false := by rw [beq_eq_false_iff_ne]; omega
          have nf3 : ((v1 : Int) != (v2 : Int)) = true := by rw [bne_iff_ne]; omega
          have HR' : Hid (R = false) := by rw [← HR.out]; exact decide_eq_false (HT2.out (by intro e; apply e3; exact congrArg (fun t : TxV => t.2.2.2) e))
          go_wp2_with fail
          go_quiet (fail)
          go_wp2
          go_ret
          exact ⟨by rw [HR'.out]; rfl, below_drewN (below_drewN (Below.refl _ _) q) nq⟩
        subst e3
        go_wp2_with fail
        go_quiet (fail)
        go_wp2
        go_roundw
        case rel => exact ⟨k + 1, q + nq, by omega, by go_num, rfl, HT1.out (by first | trivial | rfl)⟩
        case measure => simp [intOf]; omega
      · obtain rfl : k = L.length := by omega
        have HR' : Hid (R = true) := by
          have := HT.out
          rw [List.take_length, HL.out, List.take_length] at this
          rw [← HR.out]
          exact decide_eq_true this
        go_wp2
        go_ret
        exact ⟨by rw [HR'.out]; rfl, below_drewN (Below.refl _ _) q⟩
  · have hne : decide (L = M) = false := decide_eq_false fun e => hl (by rw [e])
    have hR : R = false := by rw [← HR.out]; exact hne
    subst hR
    have hl' : ((L.length : Int) == (M.length : Int)) = false := by rw [beq_eq_false_iff_ne]; omega
    go_enter Tryz.func111, Tryz.ntmps111
    go_wp2
    go_ret
    exact ⟨rfl, Below.refl _ _⟩

set_option maxHeartbeats 3200000 in
set_option maxRecDepth 60000 in
theorem equalDi (a1 a2 : Option Addr) (c d : Nat) (L M : List DiV) (w : World) (hL : DisAt w a1 L) (hM : DisAt w a2 M) (h1 : L.length ≤ 9223372036854775807) (h2 : M.length ≤ 9223372036854775807) :
    Calls Tryz.prog 112 #[.slice a1 L.length c, .slice a2 M.length d] w fun e w' => e = .returned (.bool (decide (L = M))) ∧ Below w.heap.size w w' := by
  obtain ⟨R, HR⟩ : ∃ R, Hid (decide (L = M) = R) := ⟨_, rfl⟩
  rw [HR.out]
  by_cases hl : L.length = M.length
  · have HL : Hid (L.length = M.length) := hl
    clear hl
    have hlb : ((L.length : Int) != (M.length : Int)) = false := by have := HL.out; simp; omega
    go_enter Tryz.func112, Tryz.ntmps112
    go_wp2_with fail
    go_loopw [13] (fun i wr => ∃ k q : Nat, k ≤ L.length ∧ i = .int .i64 k ∧ wr = w.drewN q ∧ Hid (L.take k = M.take k)) (fun i _ => L.length - (intOf i).toNat)
    case atStart => exact ⟨0, 0, by omega, rfl, rfl, rfl⟩
    case round =>
      obtain ⟨k, q, hk, rfl, rfl, HT⟩ := hrel
      by_cases hlt : k < L.length
      · have hlt' : k < M.length := by have := HL.out; omega
        rcases hL with hL | ⟨b1, o1, rfl, hb1, g1⟩
        · rw [hL] at hlt; simp at hlt
        rcases hM with hM | ⟨b2, o2, rfl, hb2, g2⟩
        · rw [hM] at hlt'; simp at hlt'
        have g1 := g1 k hlt
        have g2 := g2 k hlt'
        have hi0 : (0 : Int) ≤ (k : Int) := by omega
        have hi1 : (k : Int) < (L.length : Int) := by omega
        have hi2 : (k : Int) < (M.length : Int) := by omega
        have HT1 : Hid (L[k] = M[k] → L.take (k + 1) = M.take (k + 1)) := take_one HT.out hlt hlt'
        have HT2 : Hid (L[k] ≠ M[k] → L ≠ M) := fun e e' => e (by subst e'; rfl)
        generalize L[k] = t1 at *
        generalize M[k] = t2 at *
        obtain ⟨x1, y1⟩ := t1
        obtain ⟨x2, y2⟩ := t2
        obtain ⟨p0, p1⟩ := g1
        obtain ⟨r0, r1⟩ := g2
        simp only at p0 r0 p1 r1
        by_cases e0 : x1 = x2
        rotate_left
        · have ne0 : ((x1 : Int) == (x2 : Int)) = false := by rw [beq_eq_false_iff_ne]; omega
          have nf0 : ((x1 : Int) != (x2 : Int)) = true := by rw [bne_iff_ne]; omega
          have HR' : Hid (R = false) := by rw [← HR.out]; exact decide_eq_false (HT2.out (by intro e; apply e0; exact congrArg (fun t : DiV => t.1) e))
          go_wp2_with fail
          go_quiet (fail)
          go_wp2
          go_ret
          exact ⟨by rw [HR'.out]; rfl, below_drewN (below_drewN (Below.refl _ _) q) nq⟩
        subst e0
        by_cases e1 : y1 = y2
        rotate_left
        · have ne1 : ((y1 : Int) == (y2 : Int)) = false := by rw [beq_eq_false_iff_ne]; omega
          have nf1 : ((y1 : Int) != (y2 : Int)) = true := by rw [bne_iff_ne]; omega
          have HR' : Hid (R = false) := by rw [← HR.out]; exact decide_eq_false (HT2.out (by intro e; apply e1; exact congrArg (fun t : DiV => t.2) e))
          go_wp2_with fail
          go_quiet (fail)
          go_wp2
          go_ret
          exact ⟨by rw [HR'.out]; rfl, below_drewN (below_drewN (Below.refl _ _) q) nq⟩
        subst e1
        go_wp2_with fail
        go_quiet (fail)
        go_wp2
        go_roundw
        case rel => exact ⟨k + 1, q + nq, by omega, by go_num, rfl, HT1.out (by first | trivial | rfl)⟩
        case measure => simp [intOf]; omega
      · obtain rfl : k = L.length := by omega
        have HR' : Hid (R = true) := by
          have := HT.out
          rw [List.take_length, HL.out, List.take_length] at this
          rw [← HR.out]
          exact decide_eq_true this
        go_wp2
        go_ret
        exact ⟨by rw [HR'.out]; rfl, below_drewN (Below.refl _ _) q⟩
  · have hne : decide (L = M) = false := decide_eq_false fun e => hl (by rw [e])
    have hR : R = false := by rw [← HR.out]; exact hne
    subst hR
    have hl' : ((L.length : Int) == (M.length : Int)) = false := by rw [beq_eq_false_iff_ne]; omega
    go_enter Tryz.func112, Tryz.ntmps112
    go_wp2
    go_ret
    exact ⟨rfl, Below.refl _ _⟩

end Go.Proofs.YtchjboijoebifaaGreat
