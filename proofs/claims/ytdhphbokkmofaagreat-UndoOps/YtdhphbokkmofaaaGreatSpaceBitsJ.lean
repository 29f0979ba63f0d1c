/-
  A map of bits as plain data: which pages are taken, how many are.
-/
import Derived.Lib.BitFns
import Derived.RowKit
import Derived.Test.YtdhphbokkmofaaaGreatPageMemJ
import Derived.Deep.QuietTactic
import Derived.BigQuiet
import Derived.Laws.BitsAllLaws
import Derived.Test.YtdhphbokkmofaaaGreatProg
import Derived.Shelf.Small.Bits
import Derived.Test.YtdhphbokkmofaaaGreatBackMathJ
import Derived.Deep.DeepAppendRoom
import Derived.OwnWalk
import Derived.Test.YtdhphbokkmofaaaGreatPutWalksC
import Derived.Test.YtdhphbokkmofaaaGreatPageApplyJ
import Derived.Test.YtdhphbokkmofaaaGreatShEqualJ
import Derived.StillTailTactics
import Derived.Deep.RegionHeld3
import Derived.Deep.CutRange
set_option linter.unusedVariables false
set_option linter.unusedSimpArgs false
namespace Go.Proofs.YtdhphbokkmofaaaGreat

def bytN (s : ByteArray) (i : Nat) : Nat := (s.data.toList.getD i 0).toNat

theorem bytN_lt (s : ByteArray) (i : Nat) : bytN s i < 256 := UInt8.toNat_lt _

theorem bytN_at {s : ByteArray} {i : Nat} (h : i < s.size) : bytN s i = s[i].toNat := by
  unfold bytN
  rw [List.getD_eq_getElem?_getD, List.getElem?_eq_getElem (by simpa using h)]
  rfl

def atN (n : Nat) : Nat := (n - 1) / 8
def pwN (n : Nat) : Nat := 2 ^ ((n - 1) % 8)

theorem pwN_lt (n : Nat) : pwN n < 256 := by
  unfold pwN
  have h : (n - 1) % 8 < 8 := Nat.mod_lt _ (by decide)
  exact Nat.pow_lt_pow_of_lt (a := 2) (m := 8) (by decide) h

def bitS (s : ByteArray) (n : Nat) : Bool := (bytN s (atN n)).testBit ((n - 1) % 8)

def tkB (s : ByteArray) (n : Nat) : Bool := decide (1 ≤ n ∧ n ≤ 2048) && bitS s n

theorem bit_and (s : ByteArray) (n : Nat) : ((bytN s (atN n) &&& pwN n : Nat) = 0) ↔ bitS s n = false := by
  unfold pwN bitS
  constructor
  · intro h
    have := congrArg (fun x => Nat.testBit x ((n - 1) % 8)) h
    simpa [Nat.testBit_and, Nat.testBit_two_pow_self] using this
  · intro h
    apply Nat.eq_of_testBit_eq
    intro i
    rw [Nat.testBit_and, Nat.zero_testBit]
    by_cases e : (n - 1) % 8 = i
    · rw [← e, h]; rfl
    · rw [Nat.testBit_two_pow_of_ne e, Bool.and_false]

def one (x : Nat) : ByteArray := ⟨#[UInt8.ofNat x]⟩

theorem one_size (x : Nat) : (one x).size = 1 := rfl

def tkL (s : ByteArray) (k : Nat) : List Nat := ((List.range k).map (· + 1)).filter (tkB s)

theorem tkL_snoc (s : ByteArray) (k : Nat) : tkL s (k + 1) = tkL s k ++ (if tkB s (k + 1) then [k + 1] else []) := by
  unfold tkL
  rw [List.range_succ, List.map_append, List.filter_append]
  simp only [List.map_cons, List.map_nil, List.filter_cons, List.filter_nil]

def cntN (s : ByteArray) : Nat → Nat
  | 0 => 0
  | k + 1 => cntN s k + Lib.onesCount (bytN s k)

theorem ones8 : ∀ x : Fin 256, Lib.onesCount x.val = (x.val.testBit 0).toNat + (x.val.testBit 1).toNat + (x.val.testBit 2).toNat + (x.val.testBit 3).toNat + (x.val.testBit 4).toNat + (x.val.testBit 5).toNat + (x.val.testBit 6).toNat + (x.val.testBit 7).toNat := by decide +kernel

theorem ones_le (x : Nat) (h : x < 256) : Lib.onesCount x ≤ 8 := by
  have := ones8 ⟨x, h⟩
  simp only at this
  rw [this]
  have b : ∀ y : Bool, y.toNat ≤ 1 := by decide
  have h0 := b (x.testBit 0); have h1 := b (x.testBit 1); have h2 := b (x.testBit 2); have h3 := b (x.testBit 3)
  have h4 := b (x.testBit 4); have h5 := b (x.testBit 5); have h6 := b (x.testBit 6); have h7 := b (x.testBit 7)
  omega

theorem cntN_le (s : ByteArray) (k : Nat) : cntN s k ≤ 8 * k := by
  induction k with
  | zero => simp [cntN]
  | succ k ih => have := ones_le _ (bytN_lt s k); simp only [cntN]; omega

theorem len_if (b : Bool) (n : Nat) : (if b then [n] else []).length = b.toNat := by cases b <;> rfl

theorem tk_in {s : ByteArray} {k j : Nat} (hk : k < 256) (hj : j < 8) : tkB s (8 * k + j + 1) = (bytN s k).testBit j := by
  unfold tkB bitS atN
  rw [show (8 * k + j + 1 - 1) / 8 = k from by omega, show (8 * k + j + 1 - 1) % 8 = j from by omega]
  simp only [Bool.and_eq_right_iff_imp, decide_eq_true_eq]
  intro _; omega

theorem tkL_len (s : ByteArray) (k : Nat) (hk : k ≤ 256) : (tkL s (8 * k)).length = cntN s k := by
  induction k with
  | zero => rfl
  | succ k ih =>
    have h := ih (by omega)
    rw [show 8 * (k + 1) = 8 * k + 7 + 1 from by omega, tkL_snoc, show 8 * k + 7 = 8 * k + 6 + 1 from rfl, tkL_snoc, show 8 * k + 6 = 8 * k + 5 + 1 from rfl, tkL_snoc, show 8 * k + 5 = 8 * k + 4 + 1 from rfl, tkL_snoc,
      show 8 * k + 4 = 8 * k + 3 + 1 from rfl, tkL_snoc, show 8 * k + 3 = 8 * k + 2 + 1 from rfl, tkL_snoc, show 8 * k + 2 = 8 * k + 1 + 1 from rfl, tkL_snoc, tkL_snoc]
    simp only [List.length_append, len_if, h]
    have e := ones8 ⟨bytN s k, bytN_lt s k⟩
    simp only at e
    simp only [cntN, e]
    rw [tk_in (j := 0) (by omega) (by omega), show 8 * k + 1 + 1 = 8 * k + 1 + 1 from rfl, tk_in (j := 1) (by omega) (by omega), tk_in (j := 2) (by omega) (by omega), tk_in (j := 3) (by omega) (by omega), tk_in (j := 4) (by omega) (by omega), tk_in (j := 5) (by omega) (by omega), tk_in (j := 6) (by omega) (by omega), tk_in (j := 7) (by omega) (by omega)]
    omega

def freeF (s : ByteArray) : Nat → Nat → Nat
  | 0, _ => 0
  | f + 1, k => if tkB s (k + 1) then freeF s f (k + 1) else k + 1

end Go.Proofs.YtdhphbokkmofaaaGreat

namespace Go.Proofs.YtdhphbokkmofaaaGreat
open Go.RowKit

theorem ret_two {k k' : IntKind} {a b c d : Int} (h : a = b) (h' : c = d) : Ending.returned (.tuple #[.int k a, .int k' c]) = .returned (.tuple #[.int k b, .int k' d]) := by rw [h, h']

set_option maxHeartbeats 400000 in
set_option maxRecDepth 60000 in
theorem place_any (n : Nat) (w : World) (h1 : 1 ≤ n) (h2 : n < 4294967296) :
    Calls Tryz.prog 106 #[.int .u32 n] w fun e w' => e = .returned (.tuple #[.int .i64 (atN n : Nat), .int .u8 (pwN n : Nat)]) ∧ ∃ k, w' = w.drewN k := by
  obtain ⟨m, rfl⟩ : ∃ m, n = m + 1 := ⟨n - 1, by omega⟩
  have HA : Hid (atN (m + 1) = m / 8) := rfl
  have HP : Hid (((pwN (m + 1) : Nat) : Int) = 2 ^ (m % 8) % 256) := by
    have h := pwN_lt (m + 1)
    have e : pwN (m + 1) = 2 ^ (m % 8) := rfl
    have e2 : ((2 : Int) ^ (m % 8)) = ((2 ^ (m % 8) : Nat) : Int) := by simp
    show _ = _
    rw [e2, ← e]
    omega
  generalize atN (m + 1) = A at *
  generalize pwN (m + 1) = B at *
  go_enter Tryz.func106, Tryz.ntmps106
  go_wp2
  go_quiet (fail)
  go_wp2
  go_ret2
  exact ⟨ret_two (by rw [HA.out]; rfl) HP.out.symm, nq, rfl⟩

def pgB (n : Nat) : Bool := decide (1 ≤ n ∧ n ≤ 2048)

set_option maxHeartbeats 400000 in
set_option maxRecDepth 60000 in
theorem isPage_any (n : Nat) (w : World) (h2 : n < 4294967296) :
    Calls Tryz.prog 105 #[.int .u32 n] w fun e w' => e = .returned (.bool (pgB n)) ∧ w' = w := by
  by_cases c1 : 1 ≤ n
  · by_cases c2 : n ≤ 2048
    · rw [show pgB n = true from by simp [pgB, c1, c2]]
      have c2' : decide ((n : Int) ≤ 2048) = true := by simp; omega
      go_enter Tryz.func105, Tryz.ntmps105
      go_wp2
      go_ret
      exact ⟨rfl, rfl⟩
    · rw [show pgB n = false from by simp [pgB, c2]]
      have c2' : decide ((n : Int) ≤ 2048) = false := by simp; omega
      go_enter Tryz.func105, Tryz.ntmps105
      go_wp2
      go_ret
      exact ⟨rfl, rfl⟩
  · rw [show pgB n = false from by simp [pgB]; omega]
    go_enter Tryz.func105, Tryz.ntmps105
    go_wp2
    go_ret
    exact ⟨rfl, rfl⟩

def slot0 (p : SheetV) : ByteArray := p.slots.getD 0 ByteArray.empty

def isB (p : SheetV) : Bool := decide (p.kind = 1 ∧ p.slots.length = 1 ∧ (slot0 p).size = 256)

structure SheetV.Lies (p : SheetV) (w : World) (a : Option Addr) : Prop where
  len : p.slots.length ≤ 8796093021952
  slots : ∀ s ∈ p.slots, s.size ≤ 140737488351232
  mem : StrsAt w a p.slots

theorem SheetV.Lies.below {p : SheetV} {w w' : World} {a : Option Addr} (h : p.Lies w a) (k : Below w.heap.size w w') : p.Lies w' a := ⟨h.len, h.slots, h.mem.below k⟩

theorem SheetV.Lies.first {p : SheetV} {w : World} {a : Option Addr} (h : p.Lies w a) (h1 : p.slots.length = 1) :
    ∃ b o, a = some ⟨b, o, none⟩ ∧ b < w.heap.size ∧ w.cell? ⟨b, o, none⟩ = some (.string (slot0 p)) ∧ (slot0 p).size ≤ 140737488351232 := by
  rcases h.mem with hm | ⟨b, o, e, hb, hc⟩
  · rw [hm] at h1; cases h1
  · have h0 := hc 0 (by omega)
    have e0 : slot0 p = p.slots[0]'(by omega) := by unfold slot0; rw [List.getD_eq_getElem?_getD, List.getElem?_eq_getElem (by omega)]; rfl
    exact ⟨b, o, e, hb, by rw [e0]; exact h0, by rw [e0]; exact h.slots _ (List.getElem_mem _)⟩

theorem atN_lt {n : Nat} (h : n ≤ 2048) : atN n < 256 := by unfold atN; omega

section
variable {p : SheetV} {a : Option Addr} {c : Nat} {w : World}

set_option maxHeartbeats 400000 in
set_option maxRecDepth 60000 in
theorem is_any (h : p.Lies w a) :
    Calls Tryz.prog 94 #[p.val a c] w fun e w' => e = .returned (.bool (isB p)) ∧ Below w.heap.size w w' := by
  have hl := h.len
  by_cases c1 : p.kind = 1
  · by_cases c2 : p.slots.length = 1
    · obtain ⟨b, o, rfl, hb, hc, hz⟩ := h.first c2
      have HI : Hid (isB p = decide ((slot0 p).size = 256)) := by show _ = _; simp [isB, c1, c2]
      generalize isB p = I at *
      generalize slot0 p = s at *
      clear h hl
      obtain ⟨num, lsn, kind, head, L⟩ := p
      unfold SheetV.val
      simp only at c1 c2 ⊢
      subst c1
      rw [c2]
      clear c2
      by_cases c3 : s.size = 256
      · have HI' : I = true := by rw [HI.out]; simpa using c3
        subst HI'
        clear HI
        go_enter Tryz.func94, Tryz.ntmps94
        go_wp2
        go_ret
        exact ⟨rfl, (Below.refl _ _).alloc (Nat.le_refl _) _⟩
      · have HI' : I = false := by rw [HI.out]; simpa using c3
        subst HI'
        clear HI
        have c3' : ((s.size : Int) == 256) = false := by rw [beq_eq_false_iff_ne]; omega
        go_enter Tryz.func94, Tryz.ntmps94
        go_wp2
        go_ret
        exact ⟨rfl, (Below.refl _ _).alloc (Nat.le_refl _) _⟩
    · rw [show isB p = false from by simp [isB, c2]]
      clear h
      obtain ⟨num, lsn, kind, head, L⟩ := p
      unfold SheetV.val
      simp only at c1 c2 hl ⊢
      subst c1
      generalize L.length = n at *
      have c3' : ((n : Int) == 1) = false := by rw [beq_eq_false_iff_ne]; omega
      go_enter Tryz.func94, Tryz.ntmps94
      go_wp2
      go_ret
      exact ⟨rfl, (Below.refl _ _).alloc (Nat.le_refl _) _⟩
  · rw [show isB p = false from by simp [isB, c1]]
    clear h
    obtain ⟨num, lsn, kind, head, L⟩ := p
    unfold SheetV.val
    simp only at c1 hl ⊢
    generalize L.length = n at *
    have c3' : (kind == 1) = false := by rw [beq_eq_false_iff_ne]; omega
    go_enter Tryz.func94, Tryz.ntmps94
    go_wp2
    go_ret
    exact ⟨rfl, (Below.refl _ _).alloc (Nat.le_refl _) _⟩

def tkP (p : SheetV) (n : Nat) : Bool := isB p && tkB (slot0 p) n

def boxP (p : SheetV) (a : Option Addr) (c : Nat) (w : World) : World := w.alloc (.cells #[.int .u32 p.num, .int .u64 p.lsn, .int .i64 p.kind, .string p.head, .slice a p.slots.length c] 44)

theorem boxP_below (p : SheetV) (a : Option Addr) (c : Nat) (w : World) : Below w.heap.size w (boxP p a c w) := (Below.refl _ _).alloc (Nat.le_refl _) _

theorem isB_true (h : isB p = true) : p.kind = 1 ∧ p.slots.length = 1 ∧ (slot0 p).size = 256 := by simpa [isB] using h

structure PageIn (p : SheetV) (a : Option Addr) (c : Nat) (w wx : World) : Prop where
  bel : Below w.heap.size w wx
  lt : w.heap.size < wx.heap.size
  c0 : wx.cell? ⟨w.heap.size, 0, none⟩ = some (.int .u32 p.num)
  c1 : wx.cell? ⟨w.heap.size, 1, none⟩ = some (.int .u64 p.lsn)
  c2 : wx.cell? ⟨w.heap.size, 2, none⟩ = some (.int .i64 p.kind)
  c3 : wx.cell? ⟨w.heap.size, 3, none⟩ = some (.string p.head)
  c4 : wx.cell? ⟨w.heap.size, 4, none⟩ = some (.slice a p.slots.length c)

theorem PageIn.start (p : SheetV) (a : Option Addr) (c : Nat) (w : World) : PageIn p a c w (boxP p a c w) :=
  ⟨boxP_below p a c w, by simp [boxP], by simp [boxP], by simp [boxP], by simp [boxP], by simp [boxP], by simp [boxP]⟩

theorem PageIn.below {wx wy : World} (h : PageIn p a c w wx) (k : Below wx.heap.size wx wy) : PageIn p a c w wy :=
  have e := fun i => k.cell (p := ⟨w.heap.size, i, none⟩) h.lt
  ⟨h.bel.trans (k.mono (Nat.le_of_lt h.lt)), Nat.lt_of_lt_of_le h.lt k.size, (e 0).trans h.c0, (e 1).trans h.c1, (e 2).trans h.c2, (e 3).trans h.c3, (e 4).trans h.c4⟩

set_option maxHeartbeats 800000 in
set_option maxRecDepth 60000 in
theorem taken_any (h : p.Lies w a) (n : Nat) (hn : n < 4294967296) :
    Calls Tryz.prog 45 #[p.val a c, .int .u32 n] w fun e w' => e = .returned (.bool (tkP p n)) ∧ Below w.heap.size w w' := by
  have HIS : Hid (∀ wx, Below w.heap.size w wx → Calls Tryz.prog 94 #[p.val a c] wx fun e w' => e = .returned (.bool (isB p)) ∧ Below wx.heap.size wx w') := fun wx k => is_any (h.below k)
  have HIP : Hid (∀ wx, Calls Tryz.prog 105 #[.int .u32 n] wx fun e w' => e = .returned (.bool (pgB n)) ∧ w' = wx) := fun wx => isPage_any n wx hn
  obtain ⟨W, HW⟩ : ∃ W, Hid (W = boxP p a c w) := ⟨_, rfl⟩
  have hin : PageIn p a c w W := by rw [HW.out]; exact PageIn.start p a c w
  unfold boxP at HW
  by_cases c1 : isB p = true
  · obtain ⟨k1, k2, k3⟩ := isB_true c1
    have K2 : Hid (p.slots.length = 1) := k2
    have k2' : 0 < p.slots.length := by omega
    clear k1 k2
    by_cases c2 : pgB n = true
    · have hpg : 1 ≤ n ∧ n ≤ 2048 := by simpa [pgB] using c2
      have HPL : Hid (∀ wx, Calls Tryz.prog 106 #[.int .u32 n] wx fun e w' => e = .returned (.tuple #[.int .i64 (atN n : Nat), .int .u8 (pwN n : Nat)]) ∧ ∃ k, w' = wx.drewN k) := fun wx => place_any n wx hpg.1 hn
      have HT : Hid (tkP p n = decide (¬ (((bytN (slot0 p) (atN n) &&& pwN n : Nat) : Int) = 0))) := by
        show _ = _
        have := bit_and (slot0 p) n
        simp only [tkP, c1, tkB, hpg, Bool.true_and]
        cases hb : bitS (slot0 p) n with
        | true => rw [hb] at this; simp at this; simp [this]
        | false => rw [hb] at this; simp at this; simp [this]
      have ha := atN_lt hpg.2
      have hp := pwN_lt n
      obtain ⟨s, HS⟩ : ∃ s, Hid (slot0 p = s) := ⟨_, rfl⟩
      obtain ⟨A, HA⟩ : ∃ A, Hid (atN n = A) := ⟨_, rfl⟩
      obtain ⟨Q, HQ⟩ : ∃ Q, Hid (pwN n = Q) := ⟨_, rfl⟩
      rw [HS.out] at HT k3
      rw [HA.out] at HT HPL ha
      rw [HQ.out] at HT HPL hp
      have hAs : A < s.size := by omega
      clear k3 ha
      rw [bytN_at hAs] at HT
      rw [c1] at HIS
      rw [c2] at HIP
      generalize tkP p n = R at *
      unfold SheetV.val at HIS ⊢
      go_enter Tryz.func45, Tryz.ntmps45
      go_wp2_with fail
      rw [← HW.out]
      clear HW
      refine (HIS.out _ hin.bel).mono ?_
      rintro e w1 ⟨rfl, b1⟩
      have h1 := hin.below b1
      have hl1 := h.below h1.bel
      clear b1 hin
      go_wp2_with fail
      refine (HIP.out _).mono ?_
      rintro e w2 ⟨rfl, rfl⟩
      go_wp2_with fail
      refine (HPL.out _).mono ?_
      rintro e w3 ⟨rfl, nk, rfl⟩
      have h3 : PageIn p a c w (w2.drewN nk) := h1.below (below_drewN (Below.refl _ _) nk)
      obtain ⟨b, o, rfl, hb', hc, hz⟩ := (hl1.below (below_drewN (Below.refl _ _) nk)).first K2.out
      obtain ⟨W3, HW3⟩ : ∃ W3, Hid (W3 = w2.drewN nk) := ⟨_, rfl⟩
      rw [← HW3.out] at h3 hc hb' ⊢
      clear HW3 h1 hl1
      have x4 := h3.c4
      have B3 := h3.bel
      clear h3 HIS HIP HPL
      rw [HS.out] at hc hz
      go_wp2
      go_ret
      refine ⟨congrArg (fun x => Ending.returned (.bool x)) ?_, B3⟩
      rw [u8_and_nat _ _ (UInt8.toNat_lt _) hp, HT.out]
      generalize s[A].toNat &&& Q = z
      rw [Bool.eq_iff_iff]; simp
    · have c2' : pgB n = false := by simpa using c2
      have HT : tkP p n = false := by
        have : decide (1 ≤ n ∧ n ≤ 2048) = false := c2'
        unfold tkP tkB
        rw [this]; simp
      rw [HT]
      rw [c1] at HIS
      rw [c2'] at HIP
      clear k3 HT
      unfold SheetV.val at HIS ⊢
      go_enter Tryz.func45, Tryz.ntmps45
      go_wp2_with fail
      rw [← HW.out]
      clear HW
      refine (HIS.out _ hin.bel).mono ?_
      rintro e w1 ⟨rfl, b1⟩
      have h1 := hin.below b1
      clear b1 hin
      go_wp2_with fail
      refine (HIP.out _).mono ?_
      rintro e w2 ⟨rfl, rfl⟩
      go_wp2
      go_ret
      exact ⟨rfl, h1.bel⟩
  · have c1' : isB p = false := by simpa using c1
    rw [show tkP p n = false from by unfold tkP; rw [c1']; rfl]
    rw [c1'] at HIS
    unfold SheetV.val at HIS ⊢
    go_enter Tryz.func45, Tryz.ntmps45
    go_wp2_with fail
    rw [← HW.out]
    clear HW
    refine (HIS.out _ hin.bel).mono ?_
    rintro e w1 ⟨rfl, b1⟩
    have h1 := hin.below b1
    clear b1 hin
    go_wp2
    go_ret
    exact ⟨rfl, h1.bel⟩

end
end Go.Proofs.YtdhphbokkmofaaaGreat

namespace Go.Proofs.YtdhphbokkmofaaaGreat
open Go.RowKit

def turnV (s : ByteArray) (n : Nat) : Value := .agg #[.int .i64 6, .int .i64 (atN n : Nat), .string (one (bytN s (atN n) ^^^ pwN n)), .string (one (bytN s (atN n)))]

section
variable {p : SheetV} {a : Option Addr} {c : Nat} {w : World}

theorem one_run (wx : World) (b : Nat) (x : Nat) (hx : x < 256) (hc : wx.cell? ⟨b, 0, none⟩ = some (.int .u8 (x : Int))) :
    (convert 140 9 (.slice (some ⟨b, 0, none⟩) 1 1)).run Tryz.prog wx = .ok (.string (one x)) wx := by
  have e : (UInt8.ofNat x).toNat = x := UInt8.toNat_ofNat_of_lt' (by simpa using hx)
  refine run_convert_bytes_back wx 140 9 5 ⟨b, 0, none⟩ 1 [UInt8.ofNat x] Tryz.underlying140 Tryz.underlying5 Tryz.underlying9 (fun j hj => ?_)
  obtain rfl : j = 0 := by simpa using hj
  rw [show (Addr.add ⟨b, 0, none⟩ 0) = ⟨b, 0, none⟩ from by simp [Addr.add], hc]
  simp [e]

set_option maxHeartbeats 800000 in
set_option maxRecDepth 60000 in
theorem turn_any' (h : p.Lies w a) (hm : isB p = true) (n : Nat) (h1 : 1 ≤ n) (h2 : n ≤ 2048) :
    Calls Tryz.prog 95 #[p.val a c, .int .u32 n] w fun e w' => e = .returned (turnV (slot0 p) n) ∧ Below w.heap.size w w' := by
  obtain ⟨k1, k2, k3⟩ := isB_true hm
  have K2 : Hid (p.slots.length = 1) := k2
  have k2' : 0 < p.slots.length := by omega
  clear k1 k2
  have HPL : Hid (∀ wx, Calls Tryz.prog 106 #[.int .u32 n] wx fun e w' => e = .returned (.tuple #[.int .i64 (atN n : Nat), .int .u8 (pwN n : Nat)]) ∧ ∃ k, w' = wx.drewN k) := fun wx => place_any n wx h1 (by omega)
  have ha := atN_lt h2
  have hp := pwN_lt n
  have hx := Nat.xor_lt_two_pow (n := 8) (bytN_lt (slot0 p) (atN n)) hp
  unfold turnV
  obtain ⟨s, HS⟩ : ∃ s, Hid (slot0 p = s) := ⟨_, rfl⟩
  obtain ⟨A, HA⟩ : ∃ A, Hid (atN n = A) := ⟨_, rfl⟩
  obtain ⟨Q, HQ⟩ : ∃ Q, Hid (pwN n = Q) := ⟨_, rfl⟩
  rw [HS.out] at k3 hx ⊢
  rw [HA.out] at HPL ha hx ⊢
  rw [HQ.out] at HPL hp hx ⊢
  have hAs : A < s.size := by omega
  rw [bytN_at hAs] at hx ⊢
  clear k3 ha
  have hxor : bits .xor .u8 ((s[A].toNat : Nat) : Int) (Q : Int) = ((s[A].toNat ^^^ Q : Nat) : Int) := u8_xor_nat _ _ (UInt8.toNat_lt _) hp
  obtain ⟨W, HW⟩ : ∃ W, Hid (W = (boxP p a c w).alloc (.cells #[.int .i64 0, .int .i64 0, .string ⟨#[]⟩, .string ⟨#[]⟩] 46)) := ⟨_, rfl⟩
  have hin : PageIn p a c w W := by rw [HW.out]; exact (PageIn.start p a c w).below ((Below.refl _ _).alloc (Nat.le_refl _) _)
  unfold boxP at HW
  unfold SheetV.val
  go_enter Tryz.func95, Tryz.ntmps95
  go_wp2_with fail
  rw [← HW.out]
  refine (HPL.out _).mono ?_
  rintro e w3 ⟨rfl, nk, rfl⟩
  have h3 : PageIn p a c w (W.drewN nk) := hin.below (below_drewN (Below.refl _ _) nk)
  obtain ⟨b, o, rfl, hb', hc, hz⟩ := (h.below h3.bel).first K2.out
  rw [HS.out] at hc hz
  have x4 := h3.c4
  have B3 := h3.bel
  have hsz : w.heap.size + 2 = W.heap.size := by rw [HW.out]; simp
  have y0 : (W.drewN nk).cell? ⟨w.heap.size + 1, 0, none⟩ = some (.int .i64 0) := by show W.cell? _ = _; rw [HW.out]; simp
  have y1 : (W.drewN nk).cell? ⟨w.heap.size + 1, 1, none⟩ = some (.int .i64 0) := by show W.cell? _ = _; rw [HW.out]; simp
  have y2 : (W.drewN nk).cell? ⟨w.heap.size + 1, 2, none⟩ = some (.string ⟨#[]⟩) := by show W.cell? _ = _; rw [HW.out]; simp
  have y3 : (W.drewN nk).cell? ⟨w.heap.size + 1, 3, none⟩ = some (.string ⟨#[]⟩) := by show W.cell? _ = _; rw [HW.out]; simp
  have g0 : (W.drewN nk).frozen? ⟨w.heap.size + 1, 0, none⟩ = false := by show W.frozen? _ = _; rw [HW.out]; simp
  have g1 : (W.drewN nk).frozen? ⟨w.heap.size + 1, 1, none⟩ = false := by show W.frozen? _ = _; rw [HW.out]; simp
  have g2 : (W.drewN nk).frozen? ⟨w.heap.size + 1, 2, none⟩ = false := by show W.frozen? _ = _; rw [HW.out]; simp
  have g3 : (W.drewN nk).frozen? ⟨w.heap.size + 1, 3, none⟩ = false := by show W.frozen? _ = _; rw [HW.out]; simp
  have hsz3 : w.heap.size + 1 < (W.drewN nk).heap.size := by show _ < W.heap.size; omega
  obtain ⟨V, HV⟩ : ∃ V, Hid (V = W.drewN nk) := ⟨_, rfl⟩
  rw [← HV.out] at h3 hb' hc x4 B3 y0 y1 y2 y3 g0 g1 g2 g3 hsz3 ⊢
  clear HV HW hin h hsz
  have hcv1 := one_run (V.alloc (.cells #[.int .u8 ((s[A].toNat ^^^ Q : Nat) : Int)] 5)) V.heap.size (s[A].toNat ^^^ Q) hx (by simp)
  have hcv2 := one_run ((V.alloc (.cells #[.int .u8 ((s[A].toNat ^^^ Q : Nat) : Int)] 5)).alloc (.cells #[.int .u8 ((s[A].toNat : Nat) : Int)] 5)) (V.heap.size + 1) s[A].toNat (UInt8.toNat_lt _) (by simp)
  have bb : Below V.heap.size V ((V.alloc (.cells #[.int .u8 ((s[A].toNat ^^^ Q : Nat) : Int)] 5)).alloc (.cells #[.int .u8 ((s[A].toNat : Nat) : Int)] 5)) := ((Below.refl _ _).alloc (Nat.le_refl _) _).alloc (by simp) _
  have z0 := (bb.cell (p := ⟨w.heap.size + 1, 0, none⟩) hsz3).trans y0
  have z1 := (bb.cell (p := ⟨w.heap.size + 1, 1, none⟩) hsz3).trans y1
  have z2 := (bb.cell (p := ⟨w.heap.size + 1, 2, none⟩) hsz3).trans y2
  have z3 := (bb.cell (p := ⟨w.heap.size + 1, 3, none⟩) hsz3).trans y3
  have e0 := (bb.frozen (p := ⟨w.heap.size + 1, 0, none⟩) hsz3).trans g0
  have e1 := (bb.frozen (p := ⟨w.heap.size + 1, 1, none⟩) hsz3).trans g1
  have e2 := (bb.frozen (p := ⟨w.heap.size + 1, 2, none⟩) hsz3).trans g2
  have e3 := (bb.frozen (p := ⟨w.heap.size + 1, 3, none⟩) hsz3).trans g3
  clear y0 y1 y2 y3 g0 g1 g2 g3
  go_wp2
  refine bodyPost_ret (v := .agg #[.int .i64 6, .int .i64 A, .string (one (s[A].toNat ^^^ Q)), .string (one s[A].toNat)]) (by simp [results, Tryz.results95, go_sem, z0, z1, z2, z3]) rfl ⟨rfl, ?_⟩
  have q := ((B3.alloc (by omega) (.cells #[.int .u8 ((s[A].toNat ^^^ Q : Nat) : Int)] 5)).alloc (by simp; omega) (.cells #[.int .u8 ((s[A].toNat : Nat) : Int)] 5))
  exact (((q.setCell (by simp) _).setCell (by simp) _).setCell (by simp) _).setCell (by simp) _

end
end Go.Proofs.YtdhphbokkmofaaaGreat

namespace Go.Proofs.YtdhphbokkmofaaaGreat
open Go.RowKit

def opZ : Value := .agg #[.int .i64 0, .int .i64 0, .string ⟨#[]⟩, .string ⟨#[]⟩]

structure OpIn (B : Nat) (wx : World) : Prop where
  lt : B < wx.heap.size
  c0 : wx.cell? ⟨B, 0, none⟩ = some (.int .i64 0)
  c1 : wx.cell? ⟨B, 1, none⟩ = some (.int .i64 0)
  c2 : wx.cell? ⟨B, 2, none⟩ = some (.string ⟨#[]⟩)
  c3 : wx.cell? ⟨B, 3, none⟩ = some (.string ⟨#[]⟩)
  f0 : wx.frozen? ⟨B, 0, none⟩ = false
  f1 : wx.frozen? ⟨B, 1, none⟩ = false
  f2 : wx.frozen? ⟨B, 2, none⟩ = false
  f3 : wx.frozen? ⟨B, 3, none⟩ = false

theorem OpIn.below {B : Nat} {wx wy : World} (h : OpIn B wx) (k : Below wx.heap.size wx wy) : OpIn B wy :=
  have e := fun i => k.cell (p := ⟨B, i, none⟩) h.lt
  have f := fun i => k.frozen (p := ⟨B, i, none⟩) h.lt
  ⟨Nat.lt_of_lt_of_le h.lt k.size, (e 0).trans h.c0, (e 1).trans h.c1, (e 2).trans h.c2, (e 3).trans h.c3, (f 0).trans h.f0, (f 1).trans h.f1, (f 2).trans h.f2, (f 3).trans h.f3⟩

def boxPO (p : SheetV) (a : Option Addr) (c : Nat) (w : World) : World := (boxP p a c w).alloc (.cells #[.int .i64 0, .int .i64 0, .string ⟨#[]⟩, .string ⟨#[]⟩] 46)

theorem boxPO_in (p : SheetV) (a : Option Addr) (c : Nat) (w : World) : PageIn p a c w (boxPO p a c w) := (PageIn.start p a c w).below ((Below.refl _ _).alloc (Nat.le_refl _) _)

theorem boxPO_op (p : SheetV) (a : Option Addr) (c : Nat) (w : World) : OpIn (w.heap.size + 1) (boxPO p a c w) :=
  ⟨by simp [boxPO, boxP], by simp [boxPO, boxP], by simp [boxPO, boxP], by simp [boxPO, boxP], by simp [boxPO, boxP], by simp [boxPO, boxP], by simp [boxPO, boxP], by simp [boxPO, boxP], by simp [boxPO, boxP]⟩

theorem below_op {w wx : World} (h : Below w.heap.size w wx) (v0 v1 v2 v3 : Value) :
    Below w.heap.size w ((((wx.setCell ⟨w.heap.size + 1, 0, none⟩ v0).setCell ⟨w.heap.size + 1, 1, none⟩ v1).setCell ⟨w.heap.size + 1, 2, none⟩ v2).setCell ⟨w.heap.size + 1, 3, none⟩ v3) :=
  (((h.setCell (by simp) _).setCell (by simp) _).setCell (by simp) _).setCell (by simp) _

section
variable {p : SheetV} {a : Option Addr} {c : Nat} {w : World}

def giveE (p : SheetV) (n : Nat) : Int := if isB p then (if tkB (slot0 p) n then 0 else 2) else 70
def claimE (p : SheetV) (n : Nat) : Int := if isB p then (if pgB n && !tkB (slot0 p) n then 0 else 2) else 70
def toldO (e : Int) (p : SheetV) (n : Nat) : Value := if e = 0 then turnV (slot0 p) n else opZ

theorem tk_page {s : ByteArray} {n : Nat} (h : tkB s n = true) : 1 ≤ n ∧ n ≤ 2048 := by
  unfold tkB at h
  simp only [Bool.and_eq_true, decide_eq_true_eq] at h
  exact h.1

set_option maxHeartbeats 800000 in
set_option maxRecDepth 60000 in
theorem sgive_any (h : p.Lies w a) (n : Nat) (hn : n < 4294967296) :
    Calls Tryz.prog 35 #[p.val a c, .int .u32 n] w fun e w' => e = .returned (.tuple #[toldO (giveE p n) p n, .int .i64 (giveE p n)]) ∧ Below w.heap.size w w' := by
  have HIS : Hid (∀ wx, Below w.heap.size w wx → Calls Tryz.prog 94 #[p.val a c] wx fun e w' => e = .returned (.bool (isB p)) ∧ Below wx.heap.size wx w') := fun wx k => is_any (h.below k)
  have HIP : Hid (∀ wx, Calls Tryz.prog 105 #[.int .u32 n] wx fun e w' => e = .returned (.bool (pgB n)) ∧ w' = wx) := fun wx => isPage_any n wx hn
  have HTK : Hid (∀ wx, Below w.heap.size w wx → Calls Tryz.prog 45 #[p.val a c, .int .u32 n] wx fun e w' => e = .returned (.bool (tkP p n)) ∧ Below wx.heap.size wx w') := fun wx k => taken_any (h.below k) n hn
  have HTU : Hid (isB p = true → 1 ≤ n → n ≤ 2048 → ∀ wx, Below w.heap.size w wx → Calls Tryz.prog 95 #[p.val a c, .int .u32 n] wx fun e w' => e = .returned (turnV (slot0 p) n) ∧ Below wx.heap.size wx w') := fun hm h1 h2 wx k => turn_any' (h.below k) hm n h1 h2
  obtain ⟨W, HW⟩ : ∃ W, Hid (W = boxPO p a c w) := ⟨_, rfl⟩
  have hin : PageIn p a c w W := by rw [HW.out]; exact boxPO_in p a c w
  have hop : OpIn (w.heap.size + 1) W := by rw [HW.out]; exact boxPO_op p a c w
  unfold boxPO boxP at HW
  clear h
  by_cases c1 : isB p = true
  · have HE : Hid (giveE p n = (if tkB (slot0 p) n then 0 else 2)) := by show _ = _; unfold giveE; rw [c1]; rfl
    have HTP : Hid (tkP p n = tkB (slot0 p) n) := by show _ = _; unfold tkP; rw [c1]; rfl
    rw [c1] at HIS
    rw [HTP.out] at HTK
    clear HTP
    by_cases c2 : tkB (slot0 p) n = true
    · have hpg := tk_page c2
      rw [c2] at HE HTK
      rw [HE.out]
      simp only [if_true]
      obtain ⟨A, HA⟩ : ∃ A, Hid (((atN n : Nat) : Int) = A) := ⟨_, rfl⟩
      obtain ⟨S1, HS1⟩ : ∃ S1, Hid (one (bytN (slot0 p) (atN n) ^^^ pwN n) = S1) := ⟨_, rfl⟩
      obtain ⟨S2, HS2⟩ : ∃ S2, Hid (one (bytN (slot0 p) (atN n)) = S2) := ⟨_, rfl⟩
      have HR : Hid (toldO 0 p n = .agg #[.int .i64 6, .int .i64 A, .string S1, .string S2]) := by show _ = _; unfold toldO; rw [if_pos rfl]; unfold turnV; rw [HA.out, HS1.out, HS2.out]
      have HTV : Hid (turnV (slot0 p) n = .agg #[.int .i64 6, .int .i64 A, .string S1, .string S2]) := by show _ = _; unfold turnV; rw [HA.out, HS1.out, HS2.out]
      rw [HR.out]
      rw [HTV.out] at HTU
      clear HR HTV
      unfold SheetV.val at HIS HTK HTU ⊢
      go_enter Tryz.func35, Tryz.ntmps35
      go_wp2_with fail
      rw [← HW.out]
      clear HW
      refine (HIS.out _ hin.bel).mono ?_
      rintro e w1 ⟨rfl, b1⟩
      have h1 := hin.below b1
      have o1 := hop.below b1
      clear b1 hin hop HIS
      obtain ⟨x0, x1, x2, x3, x4⟩ : _ ∧ _ ∧ _ ∧ _ ∧ _ := ⟨h1.c0, h1.c1, h1.c2, h1.c3, h1.c4⟩
      go_wp2_with fail
      refine (HTK.out _ h1.bel).mono ?_
      rintro e w2 ⟨rfl, b⟩
      have h2 := h1.below b
      have o2 := o1.below b
      clear b h1 o1 x0 x1 x2 x3 x4
      obtain ⟨x0, x1, x2, x3, x4⟩ : _ ∧ _ ∧ _ ∧ _ ∧ _ := ⟨h2.c0, h2.c1, h2.c2, h2.c3, h2.c4⟩
      go_wp2_with fail
      refine (HTU.out c1 hpg.1 hpg.2 _ h2.bel).mono ?_
      rintro e w3 ⟨rfl, b⟩
      have h3 := h2.below b
      have o3 := o2.below b
      clear b h2 o2 x0 x1 x2 x3 x4
      obtain ⟨x0, x1, x2, x3, x4⟩ : _ ∧ _ ∧ _ ∧ _ ∧ _ := ⟨h3.c0, h3.c1, h3.c2, h3.c3, h3.c4⟩
      obtain ⟨y0, y1, y2, y3, g0, g1, g2, g3⟩ : _ ∧ _ ∧ _ ∧ _ ∧ _ ∧ _ ∧ _ ∧ _ := ⟨o3.c0, o3.c1, o3.c2, o3.c3, o3.f0, o3.f1, o3.f2, o3.f3⟩
      go_wp2
      refine bodyPost_ret (v := .tuple #[.agg #[.int .i64 6, .int .i64 A, .string S1, .string S2], .int .i64 0]) (by simp [results, Tryz.results35, go_sem, y0, y1, y2, y3]) rfl ⟨rfl, below_op h3.bel _ _ _ _⟩
    · have c2' : tkB (slot0 p) n = false := by simpa using c2
      rw [c2'] at HE HTK
      rw [HE.out, show toldO (if false = true then 0 else 2) p n = opZ from rfl]
      unfold opZ
      simp only [Bool.false_eq_true, if_false]
      unfold SheetV.val at HIS HTK HTU ⊢
      go_enter Tryz.func35, Tryz.ntmps35
      go_wp2_with fail
      rw [← HW.out]
      clear HW
      refine (HIS.out _ hin.bel).mono ?_
      rintro e w1 ⟨rfl, b1⟩
      have h1 := hin.below b1
      have o1 := hop.below b1
      clear b1 hin hop HIS
      obtain ⟨x0, x1, x2, x3, x4⟩ : _ ∧ _ ∧ _ ∧ _ ∧ _ := ⟨h1.c0, h1.c1, h1.c2, h1.c3, h1.c4⟩
      go_wp2_with fail
      refine (HTK.out _ h1.bel).mono ?_
      rintro e w2 ⟨rfl, b⟩
      have h2 := h1.below b
      have o2 := o1.below b
      clear b h1 o1 x0 x1 x2 x3 x4
      obtain ⟨x0, x1, x2, x3, x4⟩ : _ ∧ _ ∧ _ ∧ _ ∧ _ := ⟨h2.c0, h2.c1, h2.c2, h2.c3, h2.c4⟩
      obtain ⟨y0, y1, y2, y3, g0, g1, g2, g3⟩ : _ ∧ _ ∧ _ ∧ _ ∧ _ ∧ _ ∧ _ ∧ _ := ⟨o2.c0, o2.c1, o2.c2, o2.c3, o2.f0, o2.f1, o2.f2, o2.f3⟩
      go_wp2
      refine bodyPost_ret (v := .tuple #[.agg #[.int .i64 0, .int .i64 0, .string ⟨#[]⟩, .string ⟨#[]⟩], .int .i64 2]) (by simp [results, Tryz.results35, go_sem, y0, y1, y2, y3]) rfl ⟨rfl, below_op h2.bel _ _ _ _⟩
  · have c1' : isB p = false := by simpa using c1
    have HE : giveE p n = 70 := by unfold giveE; rw [c1']; rfl
    rw [HE, show toldO 70 p n = opZ from rfl]
    unfold opZ
    rw [c1'] at HIS
    unfold SheetV.val at HIS HTK HTU ⊢
    go_enter Tryz.func35, Tryz.ntmps35
    go_wp2_with fail
    rw [← HW.out]
    clear HW
    refine (HIS.out _ hin.bel).mono ?_
    rintro e w1 ⟨rfl, b1⟩
    have h1 := hin.below b1
    have o1 := hop.below b1
    clear b1 hin hop HIS
    obtain ⟨x0, x1, x2, x3, x4⟩ : _ ∧ _ ∧ _ ∧ _ ∧ _ := ⟨h1.c0, h1.c1, h1.c2, h1.c3, h1.c4⟩
    obtain ⟨y0, y1, y2, y3, g0, g1, g2, g3⟩ : _ ∧ _ ∧ _ ∧ _ ∧ _ ∧ _ ∧ _ ∧ _ := ⟨o1.c0, o1.c1, o1.c2, o1.c3, o1.f0, o1.f1, o1.f2, o1.f3⟩
    go_wp2
    refine bodyPost_ret (v := .tuple #[.agg #[.int .i64 0, .int .i64 0, .string ⟨#[]⟩, .string ⟨#[]⟩], .int .i64 70]) (by simp [results, Tryz.results35, go_sem, y0, y1, y2, y3]) rfl ⟨rfl, below_op h1.bel _ _ _ _⟩

end
end Go.Proofs.YtdhphbokkmofaaaGreat

namespace Go.Proofs.YtdhphbokkmofaaaGreat
open Go.RowKit

def roomN (room : Int) : Nat := (if room < 2048 then room else 2048).toNat

theorem roomN_le (room : Int) : roomN room ≤ 2048 := by unfold roomN; split <;> omega

def takeN (p : SheetV) (room : Int) : Nat := freeF (slot0 p) (roomN room) 0
def takeE (p : SheetV) (room : Int) : Int := if isB p then (if takeN p room = 0 then 20 else 0) else 70

theorem freeF_tk (s : ByteArray) (f k : Nat) (h : tkB s (k + 1) = true) : freeF s (f + 1) k = freeF s f (k + 1) := by simp [freeF, h]
theorem freeF_no (s : ByteArray) (f k : Nat) (h : tkB s (k + 1) = false) : freeF s (f + 1) k = k + 1 := by simp [freeF, h]

structure STakeAt (p : SheetV) (a : Option Addr) (c : Nat) (w wx : World) (R N k : Nat) : Prop where
  page : PageIn p a c w wx
  op : OpIn (w.heap.size + 1) wx
  free : freeF (slot0 p) (R - k) k = N

section
variable {p : SheetV} {a : Option Addr} {c : Nat} {w : World}

set_option maxHeartbeats 1600000 in
set_option maxRecDepth 60000 in
theorem take_map (h : p.Lies w a) (room : Int) (hm : isB p = true) (hr1 : -9223372036854775808 ≤ room) (hr2 : room ≤ 9223372036854775807) :
    Calls Tryz.prog 53 #[p.val a c, .int .i64 room] w fun e w' => e = .returned (.tuple #[.int .u32 (takeN p room), toldO (takeE p room) p (takeN p room), .int .i64 (takeE p room)]) ∧ Below w.heap.size w w' := by
  have HIS : Hid (∀ wx, Below w.heap.size w wx → Calls Tryz.prog 94 #[p.val a c] wx fun e w' => e = .returned (.bool (isB p)) ∧ Below wx.heap.size wx w') := fun wx k => is_any (h.below k)
  have HTK : Hid (∀ n : Nat, n < 4294967296 → ∀ wx, Below w.heap.size w wx → Calls Tryz.prog 45 #[p.val a c, .int .u32 n] wx fun e w' => e = .returned (.bool (tkB (slot0 p) n)) ∧ Below wx.heap.size wx w') := fun n hn wx k => by
    have := taken_any (c := c) (h.below k) n hn
    rw [show tkP p n = tkB (slot0 p) n from by unfold tkP; rw [hm]; rfl] at this
    exact this
  have HTU : Hid (∀ n : Nat, 1 ≤ n → n ≤ 2048 → ∀ wx, Below w.heap.size w wx → Calls Tryz.prog 95 #[p.val a c, .int .u32 n] wx fun e w' => e = .returned (turnV (slot0 p) n) ∧ Below wx.heap.size wx w') := fun n h1 h2 wx k => turn_any' (h.below k) hm n h1 h2
  have HRM : Hid ((if room < 2048 then room else 2048).toNat = roomN room) := rfl
  have hR := roomN_le room
  have HE : Hid (takeE p room = if takeN p room = 0 then 20 else 0) := by show _ = _; unfold takeE; rw [hm]; rfl
  have HN : Hid (freeF (slot0 p) (roomN room) 0 = takeN p room) := rfl
  rw [HE.out]
  clear HE
  obtain ⟨E, V, HEV, hE, hV⟩ : ∃ E V, Hid ((takeN p room = 0 → E = 20 ∧ V = opZ) ∧ (takeN p room ≠ 0 → E = 0 ∧ V = turnV (slot0 p) (takeN p room))) ∧ (if takeN p room = 0 then 20 else 0) = E ∧ toldO E p (takeN p room) = V := ⟨_, _, ⟨fun h => ⟨if_pos h, by rw [if_pos h]; rfl⟩, fun h => ⟨if_neg h, by rw [if_neg h]; rfl⟩⟩, rfl, rfl⟩
  rw [hE, hV]
  clear hE hV
  obtain ⟨W, HW⟩ : ∃ W, Hid (W = boxPO p a c w) := ⟨_, rfl⟩
  have hin : PageIn p a c w W := by rw [HW.out]; exact boxPO_in p a c w
  have hop : OpIn (w.heap.size + 1) W := by rw [HW.out]; exact boxPO_op p a c w
  unfold boxPO boxP at HW
  clear h
  rw [hm] at HIS
  clear hm
  by_cases c0 : room ≤ 2048
  · have hRr : room.toNat = roomN room := by rw [← HRM.out]; split <;> omega
    clear HRM
    generalize takeN p room = N at *
    generalize roomN room = R at *
    unfold SheetV.val at HIS HTK HTU ⊢
    go_enter Tryz.func53, Tryz.ntmps53
    go_wp2_with fail
    rw [← HW.out]
    clear HW
    refine (HIS.out _ hin.bel).mono ?_
    rintro e w1 ⟨rfl, b1⟩
    have HT0 : Hid (STakeAt p a c w w1 R N 0) := ⟨hin.below b1, hop.below b1, HN.out⟩
    clear b1 hin hop HIS HN
    go_wp2_with fail
    go_loopw [15] (fun i wr => ∃ k : Nat, k ≤ R ∧ i = .int .i64 k ∧ Hid (STakeAt p a c w wr R N k)) (fun i _ => R - (intOf i).toNat)
    case atStart => exact ⟨0, Nat.zero_le _, rfl, HT0⟩
    case round =>
      obtain ⟨k, hk, rfl, HT⟩ := hrel
      clear HT0
      obtain ⟨x0, x1, x2, x3, x4⟩ : _ ∧ _ ∧ _ ∧ _ ∧ _ := ⟨HT.out.page.c0, HT.out.page.c1, HT.out.page.c2, HT.out.page.c3, HT.out.page.c4⟩
      by_cases hlt : k < R
      · have hlt' : (k : Int) < room := by omega
        have HF := HT.out.free
        obtain ⟨f, hf⟩ : ∃ f, R - k = f + 1 := ⟨R - k - 1, by omega⟩
        rw [hf] at HF
        by_cases c2 : tkB (slot0 p) (k + 1) = true
        · rw [freeF_tk _ _ _ c2, show f = R - (k + 1) from by omega] at HF
          have HF' : Hid (freeF (slot0 p) (R - (k + 1)) (k + 1) = N) := HF
          clear hf HF
          have HK := HTK.out (k + 1) (by omega)
          rw [c2] at HK
          have HK' : Hid (∀ wx, Below w.heap.size w wx → Calls Tryz.prog 45 #[.agg #[.int .u32 p.num, .int .u64 p.lsn, .int .i64 p.kind, .string p.head, .slice a p.slots.length c], .int .u32 ((k + 1 : Nat) : Int)] wx fun e w' => e = .returned (.bool true) ∧ Below wx.heap.size wx w') := HK
          clear HK
          go_wp2_with fail
          refine (HK'.out _ HT.out.page.bel).mono ?_
          rintro e w2 ⟨rfl, b2⟩
          have HT2 : Hid (STakeAt p a c w w2 R N (k + 1)) := ⟨HT.out.page.below b2, HT.out.op.below b2, HF'.out⟩
          go_wp2
          go_roundw
          case rel => exact ⟨k + 1, by omega, by go_num, HT2⟩
          case measure => simp [intOf]; omega
        · have c2' : tkB (slot0 p) (k + 1) = false := by simpa using c2
          rw [freeF_no _ _ _ c2'] at HF
          subst HF
          clear hf
          have HK := HTK.out (k + 1) (by omega)
          rw [c2'] at HK
          have HK' : Hid (∀ wx, Below w.heap.size w wx → Calls Tryz.prog 45 #[.agg #[.int .u32 p.num, .int .u64 p.lsn, .int .i64 p.kind, .string p.head, .slice a p.slots.length c], .int .u32 ((k + 1 : Nat) : Int)] wx fun e w' => e = .returned (.bool false) ∧ Below wx.heap.size wx w') := HK
          have HU := HTU.out (k + 1) (by omega) (by omega)
          obtain ⟨rfl, rfl⟩ := HEV.out.2 (by omega)
          obtain ⟨A, HA⟩ : ∃ A, Hid (((atN (k + 1) : Nat) : Int) = A) := ⟨_, rfl⟩
          obtain ⟨S1, HS1⟩ : ∃ S1, Hid (one (bytN (slot0 p) (atN (k + 1)) ^^^ pwN (k + 1)) = S1) := ⟨_, rfl⟩
          obtain ⟨S2, HS2⟩ : ∃ S2, Hid (one (bytN (slot0 p) (atN (k + 1))) = S2) := ⟨_, rfl⟩
          have HTV : Hid (turnV (slot0 p) (k + 1) = .agg #[.int .i64 6, .int .i64 A, .string S1, .string S2]) := by show _ = _; unfold turnV; rw [HA.out, HS1.out, HS2.out]
          rw [HTV.out] at HU
          have HU' : Hid (∀ wx, Below w.heap.size w wx → Calls Tryz.prog 95 #[.agg #[.int .u32 p.num, .int .u64 p.lsn, .int .i64 p.kind, .string p.head, .slice a p.slots.length c], .int .u32 ((k + 1 : Nat) : Int)] wx fun e w' => e = .returned (.agg #[.int .i64 6, .int .i64 A, .string S1, .string S2]) ∧ Below wx.heap.size wx w') := HU
          clear HK HU HA HS1 HS2
          go_wp2_with fail
          refine (HK'.out _ HT.out.page.bel).mono ?_
          rintro e w2 ⟨rfl, b2⟩
          have h2 := HT.out.page.below b2
          have o2 := HT.out.op.below b2
          clear b2 HT x0 x1 x2 x3 x4
          obtain ⟨x0, x1, x2, x3, x4⟩ : _ ∧ _ ∧ _ ∧ _ ∧ _ := ⟨h2.c0, h2.c1, h2.c2, h2.c3, h2.c4⟩
          go_wp2_with fail
          refine (HU'.out _ h2.bel).mono ?_
          rintro e w3 ⟨rfl, b3⟩
          have h3 := h2.below b3
          have o3 := o2.below b3
          clear b3 h2 o2 x0 x1 x2 x3 x4
          obtain ⟨y0, y1, y2, y3, g0, g1, g2, g3⟩ : _ ∧ _ ∧ _ ∧ _ ∧ _ ∧ _ ∧ _ ∧ _ := ⟨o3.c0, o3.c1, o3.c2, o3.c3, o3.f0, o3.f1, o3.f2, o3.f3⟩
          go_wp2
          refine bodyPost_ret (v := .tuple #[.int .u32 ((k + 1 : Nat) : Int), .agg #[.int .i64 6, .int .i64 A, .string S1, .string S2], .int .i64 0]) (by simp [results, Tryz.results53, go_sem, y0, y1, y2, y3]) rfl ⟨by rw [HTV.out], below_op h3.bel _ _ _ _⟩
      · have hlt' : ¬ (k : Int) < room := by omega
        have HF := HT.out.free
        rw [show R - k = 0 from by omega] at HF
        obtain rfl : 0 = N := HF
        have h3 := HT.out.page
        have o3 := HT.out.op
        clear HT x0 x1 x2 x3 x4
        obtain ⟨y0, y1, y2, y3, g0, g1, g2, g3⟩ : _ ∧ _ ∧ _ ∧ _ ∧ _ ∧ _ ∧ _ ∧ _ := ⟨o3.c0, o3.c1, o3.c2, o3.c3, o3.f0, o3.f1, o3.f2, o3.f3⟩
        obtain ⟨rfl, rfl⟩ := HEV.out.1 rfl
        go_wp2
        refine bodyPost_ret (v := .tuple #[.int .u32 0, .agg #[.int .i64 0, .int .i64 0, .string ⟨#[]⟩, .string ⟨#[]⟩], .int .i64 20]) (by simp [results, Tryz.results53, go_sem, y0, y1, y2, y3]) rfl ⟨rfl, below_op h3.bel _ _ _ _⟩
  · have hRr : 2048 = roomN room := by rw [← HRM.out]; split <;> omega
    clear HRM
    generalize takeN p room = N at *
    generalize roomN room = R at *
    unfold SheetV.val at HIS HTK HTU ⊢
    go_enter Tryz.func53, Tryz.ntmps53
    go_wp2_with fail
    rw [← HW.out]
    clear HW
    refine (HIS.out _ hin.bel).mono ?_
    rintro e w1 ⟨rfl, b1⟩
    have HT0 : Hid (STakeAt p a c w w1 R N 0) := ⟨hin.below b1, hop.below b1, HN.out⟩
    clear b1 hin hop HIS HN
    go_wp2_with fail
    go_loopw [15] (fun i wr => ∃ k : Nat, k ≤ R ∧ i = .int .i64 k ∧ Hid (STakeAt p a c w wr R N k)) (fun i _ => R - (intOf i).toNat)
    case atStart => exact ⟨0, Nat.zero_le _, rfl, HT0⟩
    case round =>
      obtain ⟨k, hk, rfl, HT⟩ := hrel
      clear HT0
      obtain ⟨x0, x1, x2, x3, x4⟩ : _ ∧ _ ∧ _ ∧ _ ∧ _ := ⟨HT.out.page.c0, HT.out.page.c1, HT.out.page.c2, HT.out.page.c3, HT.out.page.c4⟩
      by_cases hlt : k < R
      · have hlt' : (k : Int) < 2048 := by omega
        have HF := HT.out.free
        obtain ⟨f, hf⟩ : ∃ f, R - k = f + 1 := ⟨R - k - 1, by omega⟩
        rw [hf] at HF
        by_cases c2 : tkB (slot0 p) (k + 1) = true
        · rw [freeF_tk _ _ _ c2, show f = R - (k + 1) from by omega] at HF
          have HF' : Hid (freeF (slot0 p) (R - (k + 1)) (k + 1) = N) := HF
          clear hf HF
          have HK := HTK.out (k + 1) (by omega)
          rw [c2] at HK
          have HK' : Hid (∀ wx, Below w.heap.size w wx → Calls Tryz.prog 45 #[.agg #[.int .u32 p.num, .int .u64 p.lsn, .int .i64 p.kind, .string p.head, .slice a p.slots.length c], .int .u32 ((k + 1 : Nat) : Int)] wx fun e w' => e = .returned (.bool true) ∧ Below wx.heap.size wx w') := HK
          clear HK
          go_wp2_with fail
          refine (HK'.out _ HT.out.page.bel).mono ?_
          rintro e w2 ⟨rfl, b2⟩
          have HT2 : Hid (STakeAt p a c w w2 R N (k + 1)) := ⟨HT.out.page.below b2, HT.out.op.below b2, HF'.out⟩
          go_wp2
          go_roundw
          case rel => exact ⟨k + 1, by omega, by go_num, HT2⟩
          case measure => simp [intOf]; omega
        · have c2' : tkB (slot0 p) (k + 1) = false := by simpa using c2
          rw [freeF_no _ _ _ c2'] at HF
          subst HF
          clear hf
          have HK := HTK.out (k + 1) (by omega)
          rw [c2'] at HK
          have HK' : Hid (∀ wx, Below w.heap.size w wx → Calls Tryz.prog 45 #[.agg #[.int .u32 p.num, .int .u64 p.lsn, .int .i64 p.kind, .string p.head, .slice a p.slots.length c], .int .u32 ((k + 1 : Nat) : Int)] wx fun e w' => e = .returned (.bool false) ∧ Below wx.heap.size wx w') := HK
          have HU := HTU.out (k + 1) (by omega) (by omega)
          obtain ⟨rfl, rfl⟩ := HEV.out.2 (by omega)
          obtain ⟨A, HA⟩ : ∃ A, Hid (((atN (k + 1) : Nat) : Int) = A) := ⟨_, rfl⟩
          obtain ⟨S1, HS1⟩ : ∃ S1, Hid (one (bytN (slot0 p) (atN (k + 1)) ^^^ pwN (k + 1)) = S1) := ⟨_, rfl⟩
          obtain ⟨S2, HS2⟩ : ∃ S2, Hid (one (bytN (slot0 p) (atN (k + 1))) = S2) := ⟨_, rfl⟩
          have HTV : Hid (turnV (slot0 p) (k + 1) = .agg #[.int .i64 6, .int .i64 A, .string S1, .string S2]) := by show _ = _; unfold turnV; rw [HA.out, HS1.out, HS2.out]
          rw [HTV.out] at HU
          have HU' : Hid (∀ wx, Below w.heap.size w wx → Calls Tryz.prog 95 #[.agg #[.int .u32 p.num, .int .u64 p.lsn, .int .i64 p.kind, .string p.head, .slice a p.slots.length c], .int .u32 ((k + 1 : Nat) : Int)] wx fun e w' => e = .returned (.agg #[.int .i64 6, .int .i64 A, .string S1, .string S2]) ∧ Below wx.heap.size wx w') := HU
          clear HK HU HA HS1 HS2
          go_wp2_with fail
          refine (HK'.out _ HT.out.page.bel).mono ?_
          rintro e w2 ⟨rfl, b2⟩
          have h2 := HT.out.page.below b2
          have o2 := HT.out.op.below b2
          clear b2 HT x0 x1 x2 x3 x4
          obtain ⟨x0, x1, x2, x3, x4⟩ : _ ∧ _ ∧ _ ∧ _ ∧ _ := ⟨h2.c0, h2.c1, h2.c2, h2.c3, h2.c4⟩
          go_wp2_with fail
          refine (HU'.out _ h2.bel).mono ?_
          rintro e w3 ⟨rfl, b3⟩
          have h3 := h2.below b3
          have o3 := o2.below b3
          clear b3 h2 o2 x0 x1 x2 x3 x4
          obtain ⟨y0, y1, y2, y3, g0, g1, g2, g3⟩ : _ ∧ _ ∧ _ ∧ _ ∧ _ ∧ _ ∧ _ ∧ _ := ⟨o3.c0, o3.c1, o3.c2, o3.c3, o3.f0, o3.f1, o3.f2, o3.f3⟩
          go_wp2
          refine bodyPost_ret (v := .tuple #[.int .u32 ((k + 1 : Nat) : Int), .agg #[.int .i64 6, .int .i64 A, .string S1, .string S2], .int .i64 0]) (by simp [results, Tryz.results53, go_sem, y0, y1, y2, y3]) rfl ⟨by rw [HTV.out], below_op h3.bel _ _ _ _⟩
      · have hlt' : ¬ (k : Int) < 2048 := by omega
        have HF := HT.out.free
        rw [show R - k = 0 from by omega] at HF
        obtain rfl : 0 = N := HF
        have h3 := HT.out.page
        have o3 := HT.out.op
        clear HT x0 x1 x2 x3 x4
        obtain ⟨y0, y1, y2, y3, g0, g1, g2, g3⟩ : _ ∧ _ ∧ _ ∧ _ ∧ _ ∧ _ ∧ _ ∧ _ := ⟨o3.c0, o3.c1, o3.c2, o3.c3, o3.f0, o3.f1, o3.f2, o3.f3⟩
        obtain ⟨rfl, rfl⟩ := HEV.out.1 rfl
        go_wp2
        refine bodyPost_ret (v := .tuple #[.int .u32 0, .agg #[.int .i64 0, .int .i64 0, .string ⟨#[]⟩, .string ⟨#[]⟩], .int .i64 20]) (by simp [results, Tryz.results53, go_sem, y0, y1, y2, y3]) rfl ⟨rfl, below_op h3.bel _ _ _ _⟩

end
end Go.Proofs.YtdhphbokkmofaaaGreat

namespace Go.Proofs.YtdhphbokkmofaaaGreat
open Go.Shelf

def shOnes_ren : Go.Shelf.Ren := ⟨fun | 135 => 117 | n => n, fun | 5 => 5 | 3 => 3 | 9 => 9 | n => n, fun | n => n⟩
theorem shOnes : Go.Proofs.Lays.n135 Tryz.prog shOnes_ren := {
  mixed := by kernel_rfl
  f135 := Tryz.func117.trans (congrArg some (by kernel_rfl))
  t3 := Tryz.underlying3
  a3 := Tryz.isAgg3
  z3 := Tryz.sizeOf3
  v3 := Tryz.zeroValue3
  t5 := Tryz.underlying5
  a5 := Tryz.isAgg5
  z5 := Tryz.sizeOf5
  v5 := Tryz.zeroValue5
  t9 := Tryz.underlying9
  a9 := Tryz.isAgg9
  z9 := Tryz.sizeOf9
  v9 := Tryz.zeroValue9 }

end Go.Proofs.YtdhphbokkmofaaaGreat

namespace Go.Proofs.YtdhphbokkmofaaaGreat
open Go.RowKit

theorem ones_any (x : Nat) (w : World) (h : x < 256) :
    Calls Tryz.prog 117 #[.int .u8 (x : Int)] w fun e w' => e = .returned (.int .i64 (Lib.onesCount x : Nat)) ∧ w' = w := by
  have := Any.bits_OnesCount8 shOnes (x : Int) w (by omega) (by omega)
  rw [Int.toNat_natCast] at this
  exact this

def cntP (p : SheetV) : Nat := if isB p then cntN (slot0 p) 256 else 0

section
variable {p : SheetV} {a : Option Addr} {c : Nat} {w : World}

set_option maxHeartbeats 800000 in
set_option maxRecDepth 60000 in
theorem count_any (h : p.Lies w a) :
    Calls Tryz.prog 54 #[p.val a c] w fun e w' => e = .returned (.int .i64 (cntP p)) ∧ Below w.heap.size w w' := by
  have HIS : Hid (∀ wx, Below w.heap.size w wx → Calls Tryz.prog 94 #[p.val a c] wx fun e w' => e = .returned (.bool (isB p)) ∧ Below wx.heap.size wx w') := fun wx k => is_any (h.below k)
  obtain ⟨W, HW⟩ : ∃ W, Hid (W = boxP p a c w) := ⟨_, rfl⟩
  have hin : PageIn p a c w W := by rw [HW.out]; exact PageIn.start p a c w
  unfold boxP at HW
  by_cases c1 : isB p = true
  · obtain ⟨k1, k2, k3⟩ := isB_true c1
    have K2 : Hid (p.slots.length = 1) := k2
    have k2' : 0 < p.slots.length := by omega
    have K3 : Hid ((slot0 p).size = 256) := k3
    have HC : Hid (cntP p = cntN (slot0 p) 256) := by show _ = _; unfold cntP; rw [c1]; rfl
    clear k1 k2 k3
    rw [c1] at HIS
    rw [HC.out]
    clear HC
    obtain ⟨T, HT⟩ : ∃ T, Hid (cntN (slot0 p) 256 = T) := ⟨_, rfl⟩
    rw [HT.out]
    unfold SheetV.val at HIS ⊢
    go_enter Tryz.func54, Tryz.ntmps54
    go_wp2_with fail
    rw [← HW.out]
    clear HW
    refine (HIS.out _ hin.bel).mono ?_
    rintro e w1 ⟨rfl, b1⟩
    have h1 := hin.below b1
    obtain ⟨b, o, rfl, hb', hc, hz⟩ := (h.below h1.bel).first K2.out
    clear b1 hin HIS
    have x4 := h1.c4
    have B1 := h1.bel
    clear h1 h
    have K3' := K3.out
    generalize slot0 p = s at *
    go_wp2_with fail
    go_loop [3, 8] (fun t i => ∃ k : Nat, k ≤ 256 ∧ i = .int .i64 k ∧ t = .int .i64 (cntN s k : Nat)) (fun _ i => 256 - (intOf i).toNat)
    case atStart => exact ⟨0, Nat.zero_le _, rfl, rfl⟩
    case round =>
      obtain ⟨k, hk, rfl, rfl⟩ := hrel
      by_cases hlt : k < 256
      · have hlt' : (k : Int) < 256 := by omega
        have hks : k < s.size := by omega
        have HO : Hid (∀ wx, Calls Tryz.prog 117 #[.int .u8 ((s[k].toNat : Nat) : Int)] wx fun e w' => e = .returned (.int .i64 (Lib.onesCount (bytN s k) : Nat)) ∧ w' = wx) := fun wx => by
          rw [bytN_at hks]; exact ones_any _ wx (UInt8.toNat_lt _)
        have HC : Hid (cntN s (k + 1) = cntN s k + Lib.onesCount (bytN s k)) := rfl
        have hle := ones_le _ (bytN_lt s k)
        have hcl := cntN_le s k
        generalize Lib.onesCount (bytN s k) = O at *
        generalize cntN s k = C at *
        clear K3'
        go_wp2_with fail
        refine (HO.out _).mono ?_
        rintro e w2 ⟨rfl, rfl⟩
        go_wp2
        go_round
        case rel => exact ⟨k + 1, by omega, by go_num, by rw [HC.out]; go_num⟩
        case measure => simp [intOf]; omega
      · obtain rfl : k = 256 := by omega
        clear K3'
        rw [HT.out]
        go_wp2
        go_ret
        exact ⟨rfl, B1⟩
  · have c1' : isB p = false := by simpa using c1
    rw [show cntP p = 0 from by unfold cntP; rw [c1']; rfl]
    rw [c1'] at HIS
    unfold SheetV.val at HIS ⊢
    go_enter Tryz.func54, Tryz.ntmps54
    go_wp2_with fail
    rw [← HW.out]
    clear HW
    refine (HIS.out _ hin.bel).mono ?_
    rintro e w1 ⟨rfl, b1⟩
    have h1 := hin.below b1
    clear b1 hin
    go_wp2
    go_ret
    exact ⟨rfl, h1.bel⟩

end
end Go.Proofs.YtdhphbokkmofaaaGreat

namespace Go.Proofs.YtdhphbokkmofaaaGreat
open Go.RowKit Go.Sort

theorem putS_list {s : ByteArray} {i : Nat} (x : Nat) (h : i < s.size) : (putS s i (one x)).data.toList = s.data.toList.set i (UInt8.ofNat x) := by
  obtain ⟨A, M, Z, hA, hM, hs, _, hp⟩ := putS_parts (s := s) (S := one x) (i := i) (by rw [one_size]; omega)
  rw [hp]
  simp only [one_size] at hM
  obtain ⟨m, rfl⟩ : ∃ m, M = [m] := by
    match M, hM with
    | [m], _ => exact ⟨m, rfl⟩
  rw [hs]
  subst hA
  simp [one]

theorem putS_size {s : ByteArray} {i : Nat} (x : Nat) (h : i < s.size) : (putS s i (one x)).size = s.size := by
  have := congrArg List.length (putS_list x h)
  simpa using this

theorem putS_byt {s : ByteArray} {i : Nat} (x : Nat) (h : i < s.size) (hx : x < 256) (j : Nat) : bytN (putS s i (one x)) j = if j = i then x else bytN s j := by
  unfold bytN
  rw [putS_list x h, List.getD_eq_getElem?_getD, List.getElem?_set, List.getD_eq_getElem?_getD]
  by_cases e : j = i
  · subst e
    have h' : j < s.data.toList.length := by simpa using h
    rw [if_pos rfl, if_pos h', if_pos rfl]
    simp only [Option.getD_some]
    exact UInt8.toNat_ofNat_of_lt' (by simpa using hx)
  · rw [if_neg (fun q => e q.symm), if_neg e]

def flipS (s : ByteArray) (n : Nat) : ByteArray := putS s (atN n) (one (bytN s (atN n) ^^^ pwN n))

theorem xor_lt (s : ByteArray) (n : Nat) : bytN s (atN n) ^^^ pwN n < 256 := Nat.xor_lt_two_pow (n := 8) (bytN_lt _ _) (pwN_lt _)

theorem flip_size {s : ByteArray} {n : Nat} (h : s.size = 256) (hn : n ≤ 2048) : (flipS s n).size = 256 := by
  unfold flipS; rw [putS_size _ (by rw [h]; exact atN_lt hn), h]

theorem flip_bit {s : ByteArray} {n : Nat} (h : s.size = 256) (h1 : 1 ≤ n) (hn : n ≤ 2048) (m : Nat) (m1 : 1 ≤ m) : bitS (flipS s n) m = if m = n then !bitS s n else bitS s m := by
  unfold bitS flipS
  rw [putS_byt _ (by rw [h]; exact atN_lt hn) (xor_lt s n)]
  by_cases e : m = n
  · subst e
    rw [if_pos rfl, if_pos rfl, Nat.testBit_xor]
    unfold pwN
    rw [Nat.testBit_two_pow_self]
    simp
  · rw [if_neg e]
    by_cases e2 : atN m = atN n
    · rw [if_pos e2, Nat.testBit_xor]
      unfold pwN
      rw [Nat.testBit_two_pow_of_ne (by intro q; apply e; unfold atN at e2; omega), Bool.xor_false, e2]
    · rw [if_neg e2]

theorem flip_tk {s : ByteArray} {n : Nat} (h : s.size = 256) (h1 : 1 ≤ n) (hn : n ≤ 2048) (m : Nat) : tkB (flipS s n) m = if m = n then !tkB s n else tkB s m := by
  unfold tkB
  by_cases hm : 1 ≤ m ∧ m ≤ 2048
  · rw [flip_bit h h1 hn m hm.1]
    by_cases e : m = n
    · subst e; simp [hm.1, hm.2]
    · simp [e]
  · have e : m ≠ n := by omega
    simp [hm, e]

def turnO (s : ByteArray) (n : Nat) : OpV := ⟨6, (atN n : Nat), one (bytN s (atN n) ^^^ pwN n), one (bytN s (atN n))⟩

theorem turnO_ok (s : ByteArray) (n : Nat) (hn : n ≤ 2048) : (turnO s n).Ok := by
  have := atN_lt hn
  exact ⟨by show (-9223372036854775808 : Int) ≤ 6 ∧ (6 : Int) ≤ _; omega, by show (-9223372036854775808 : Int) ≤ ((atN n : Nat) : Int) ∧ ((atN n : Nat) : Int) ≤ _; omega, by show (1 : Nat) ≤ _; omega, by show (1 : Nat) ≤ _; omega⟩

theorem turnO_chk (s : ByteArray) (n : Nat) (hn : n ≤ 2048) : chkB (turnO s n) = true := by
  have := atN_lt hn
  refine chk_of (by show (1 : Nat) ≤ _; omega) (by show (1 : Nat) ≤ _; omega) ?_
  unfold mayP
  rw [show (turnO s n).kind = 6 from rfl, if_neg (by decide), if_neg (by decide), if_neg (by decide), if_neg (by decide), if_neg (by decide), if_pos rfl]
  refine ⟨⟨?_, ?_⟩, rfl, ?_⟩
  · show (0 : Int) ≤ ((atN n : Nat) : Int); omega
  · show ((atN n : Nat) : Int) ≤ 511; omega
  · show 0 < (one _).size; rw [one_size]; decide

theorem turnO_kind (s : ByteArray) (n : Nat) : (turnO s n).kind ≠ 1 := by show (6 : Int) ≠ 1; decide

theorem byte_cut {s : ByteArray} {i : Nat} (h : i < s.size) : s.extract i (i + 1) = one (bytN s i) := by
  rw [bytN_at h]
  apply ByteArray.ext
  apply Array.ext'
  rw [ByteArray.data_extract, Array.toList_extract, List.extract_eq_take_drop, List.drop_eq_getElem_cons (by simpa using h)]
  simp [one, ByteArray.getElem_eq_getElem_data]

theorem turnO_do {p : SheetV} {s : ByteArray} {n : Nat} (hp : p.slots = [s]) (hs : s.size = 256) (hn : n ≤ 2048) : doE p (turnO s n) = 0 ∧ doQ p (turnO s n) = { p with slots := [flipS s n] } := by
  have ha := atN_lt hn
  constructor
  · simp only [doE, turnO, show ((6 : Int) = 2) = False from by simp, show ((6 : Int) = 3) = False from by simp, show ((6 : Int) = 4) = False from by simp, show ((6 : Int) = 5) = False from by simp, if_false, if_true, putE, hp]
    simp only [List.length_cons, List.length_nil, List.getD_cons_zero, Int.toNat_natCast, one_size]
    rw [if_neg (by omega), if_neg (by rw [byte_cut (by omega)]; simp)]
  · simp only [doQ, turnO, show ((6 : Int) = 2) = False from by simp, show ((6 : Int) = 3) = False from by simp, show ((6 : Int) = 4) = False from by simp, show ((6 : Int) = 5) = False from by simp, if_false, if_true, hp]
    simp [flipS]

end Go.Proofs.YtdhphbokkmofaaaGreat

namespace Go.Proofs.YtdhphbokkmofaaaGreat
open Go.RowKit

def frF : Nat → Nat → Nat
  | 0, _ => 0
  | k + 1, j => if j = k / 8 then frF k j ||| 2 ^ (k % 8) else frF k j

theorem frF_lt (k j : Nat) : frF k j < 256 := by
  induction k with
  | zero => simp [frF]
  | succ k ih =>
    simp only [frF]
    split
    · exact Nat.or_lt_two_pow (n := 8) ih (Nat.pow_lt_pow_of_lt (a := 2) (m := 8) (by decide) (Nat.mod_lt _ (by decide)))
    · exact ih

theorem frF_bit (k j i : Nat) (hi : i < 8) : (frF k j).testBit i = decide (8 * j + i < k) := by
  induction k with
  | zero => simp [frF]
  | succ k ih =>
    simp only [frF]
    split
    · rename_i e
      rw [Nat.testBit_or, ih]
      by_cases c : k % 8 = i
      · subst c
        rw [Nat.testBit_two_pow_self]
        have : 8 * j + k % 8 < k + 1 := by omega
        simp [this]
      · rw [Nat.testBit_two_pow_of_ne c, Bool.or_false]
        by_cases d : 8 * j + i < k
        · simp [d, Nat.lt_succ_of_lt d]
        · simp [d]; omega
    · rename_i e
      rw [ih]
      by_cases d : 8 * j + i < k
      · simp [d, Nat.lt_succ_of_lt d]
      · simp [d]; omega

def freshL (k : Nat) : List UInt8 := (List.range 256).map fun j => UInt8.ofNat (frF k j)
def freshS (k : Nat) : ByteArray := ⟨(freshL k).toArray⟩

theorem freshL_length (k : Nat) : (freshL k).length = 256 := by unfold freshL; rw [List.length_map, List.length_range]
theorem freshS_size (k : Nat) : (freshS k).size = 256 := by
  show (freshL k).toArray.size = 256
  rw [List.size_toArray, freshL_length]

theorem freshL_at (k j : Nat) (hj : j < (freshL k).length) : (freshL k)[j].toNat = frF k j := by
  simp only [freshL, List.getElem_map, List.getElem_range]
  exact UInt8.toNat_ofNat_of_lt' (by simpa using frF_lt k j)

theorem fresh_byt (k j : Nat) (hj : j < 256) : bytN (freshS k) j = frF k j := by
  unfold bytN freshS
  have h : j < (freshL k).length := by rw [freshL_length]; exact hj
  rw [List.getD_eq_getElem?_getD, show (ByteArray.mk (freshL k).toArray).data.toList = freshL k from by simp, List.getElem?_eq_getElem h]
  exact freshL_at k j h

theorem fresh_tk (k n : Nat) : tkB (freshS k) n = decide (1 ≤ n ∧ n ≤ 2048 ∧ n ≤ k) := by
  unfold tkB bitS
  by_cases h : 1 ≤ n ∧ n ≤ 2048
  · rw [fresh_byt k (atN n) (atN_lt h.2), frF_bit k _ _ (Nat.mod_lt _ (by decide))]
    have : (8 * atN n + (n - 1) % 8 < k) ↔ n ≤ k := by unfold atN; omega
    simp [h.1, h.2, this]
  · simp only [h, decide_false, Bool.false_and]
    simp; omega

structure TwoOps (w : World) (g : Nat) (v0 v1 v2 v3 u0 u1 u2 u3 : Value) : Prop where
  lt : g < w.heap.size
  c0 : w.cell? ⟨g, 0, none⟩ = some v0
  c1 : w.cell? ⟨g, 1, none⟩ = some v1
  c2 : w.cell? ⟨g, 2, none⟩ = some v2
  c3 : w.cell? ⟨g, 3, none⟩ = some v3
  c4 : w.cell? ⟨g, 4, none⟩ = some u0
  c5 : w.cell? ⟨g, 5, none⟩ = some u1
  c6 : w.cell? ⟨g, 6, none⟩ = some u2
  c7 : w.cell? ⟨g, 7, none⟩ = some u3

theorem TwoOps.below {w w' : World} {g : Nat} {v0 v1 v2 v3 u0 u1 u2 u3 : Value} (h : TwoOps w g v0 v1 v2 v3 u0 u1 u2 u3) (k : Below w.heap.size w w') : TwoOps w' g v0 v1 v2 v3 u0 u1 u2 u3 :=
  have e := fun i => k.cell (p := ⟨g, i, none⟩) h.lt
  ⟨Nat.lt_of_lt_of_le h.lt k.size, (e 0).trans h.c0, (e 1).trans h.c1, (e 2).trans h.c2, (e 3).trans h.c3, (e 4).trans h.c4, (e 5).trans h.c5, (e 6).trans h.c6, (e 7).trans h.c7⟩

def FreshOps (w : World) (g k : Nat) : Prop := TwoOps w g (.int .i64 1) (.int .i64 1) (.string ⟨#[]⟩) (.string ⟨#[]⟩) (.int .i64 2) (.int .i64 0) (.string (freshS k)) (.string ⟨#[]⟩)

set_option maxHeartbeats 1600000 in
set_option maxRecDepth 8000 in
theorem fresh_ok (K : Nat) (w : World) (h1 : 1 ≤ K) (h2 : K ≤ 2048) :
    Calls Tryz.prog 50 #[.int .i64 K] w fun e w' => ∃ g, e = .returned (.tuple #[.slice (some ⟨g, 0, none⟩) 2 2, .int .i64 0]) ∧ Below w.heap.size w w' ∧ w.heap.size < g ∧ FreshOps w' g K := by
  have hmk : ∀ wx : World, (Instr.makeSlice 140 (.int .i64 256) (.int .i64 256)).run Tryz.prog wx = .ok (.slice (some ⟨wx.heap.size, 0, none⟩) 256 256) (wx.alloc (.cells (madeCells #[.int .u8 0] 256) 5)) := fun wx => run_make_row' (P := Tryz.prog) 140 5 (.int .u8 0) 1 Tryz.underlying140 info5 rfl .i64 .i64 256 (by omega) (by omega) wx
  have c1 : ¬ (K : Int) < 1 := by omega
  have c2 : ¬ 2048 < (K : Int) := by omega
  have HR0 : Hid (RowU (w.alloc (.cells (madeCells #[.int .u8 0] 256) 5)) w.heap.size 256 (fun j => (frF 0 j : Int))) := (RowU.made w 256 _).congr (fun j _ => by simp [frF])
  have B0 : Below w.heap.size w (w.alloc (.cells (madeCells #[.int .u8 0] 256) 5)) := (Below.refl _ _).alloc (Nat.le_refl _) _
  have Z0 : w.heap.size < (w.alloc (.cells (madeCells #[.int .u8 0] 256) 5)).heap.size := by simp
  obtain ⟨W, HW⟩ : ∃ W, Hid (W = w.alloc (.cells (madeCells #[.int .u8 0] 256) 5)) := ⟨_, rfl⟩
  rw [← HW.out] at HR0 B0 Z0
  go_enter Tryz.func50, Tryz.ntmps50
  go_wp2_with fail
  rw [← HW.out]
  clear HW
  go_loopw [16] (fun i wr => ∃ k : Nat, k ≤ K ∧ i = .int .i64 k ∧ Hid (RowU wr w.heap.size 256 (fun j => (frF k j : Int))) ∧ Hid (Below w.heap.size w wr ∧ w.heap.size < wr.heap.size)) (fun i _ => K - (intOf i).toNat)
  case atStart => exact ⟨0, Nat.zero_le _, rfl, HR0, B0, Z0⟩
  case round =>
    obtain ⟨k, hk, rfl, HR, HB⟩ := hrel
    clear HR0 B0 Z0 hmk
    by_cases hlt : k < K
    · have HPL : Hid (∀ wx, Calls Tryz.prog 106 #[.int .u32 ((k + 1 : Nat) : Int)] wx fun e w' => e = .returned (.tuple #[.int .i64 (k / 8 : Nat), .int .u8 (2 ^ (k % 8) : Nat)]) ∧ ∃ m, w' = wx.drewN m) := fun wx => place_any (k + 1) wx (by omega) (by omega)
      have hA : k / 8 < 256 := by omega
      have hQ : 2 ^ (k % 8) < 256 := pwN_lt (k + 1)
      have hF := frF_lt k (k / 8)
      have HN : Hid (∀ j, frF (k + 1) j = if j = k / 8 then frF k j ||| 2 ^ (k % 8) else frF k j) := fun j => rfl
      generalize 2 ^ (k % 8) = Q at *
      generalize k / 8 = A at *
      have hor : bits .or .u8 ((frF k A : Nat) : Int) (Q : Int) = ((frF k A ||| Q : Nat) : Int) := u8_or_nat _ _ hF hQ
      have hlt' : (k : Int) < K := by omega
      go_wp2_with fail
      refine (HPL.out _).mono ?_
      rintro e w2 ⟨rfl, m, rfl⟩
      have HR2 : Hid (RowU (wr.drewN m) w.heap.size 256 (fun j => (frF k j : Int))) := HR.out
      have HB2 : Hid (Below w.heap.size w (wr.drewN m) ∧ w.heap.size < (wr.drewN m).heap.size) := ⟨below_drewN HB.out.1 m, HB.out.2⟩
      obtain ⟨V, HV⟩ : ∃ V, Hid (V = wr.drewN m) := ⟨_, rfl⟩
      rw [← HV.out] at HR2 HB2 ⊢
      clear HV HR HB HPL
      have hcA := (HR2.out A hA).1
      have hfA := (HR2.out A hA).2
      simp only at hcA
      have HR3 : Hid (RowU (V.setCell ⟨w.heap.size, A, none⟩ (.int .u8 ((frF k A ||| Q : Nat) : Int))) w.heap.size 256 (fun j => (frF (k + 1) j : Int))) := (HR2.out.set hA _).congr (fun j _ => by
        rw [HN.out j]
        by_cases e : j = A
        · subst e; simp
        · simp [e])
      have HB3 : Hid (Below w.heap.size w (V.setCell ⟨w.heap.size, A, none⟩ (.int .u8 ((frF k A ||| Q : Nat) : Int))) ∧ w.heap.size < (V.setCell ⟨w.heap.size, A, none⟩ (.int .u8 ((frF k A ||| Q : Nat) : Int))).heap.size) := ⟨HB2.out.1.setCell (Nat.le_refl _) _, by simpa using HB2.out.2⟩
      clear HN
      generalize frF k A = X at *
      go_wp2
      go_roundw
      case rel => exact ⟨k + 1, by omega, by go_num, HR3, HB3⟩
      case measure => simp [intOf]; omega
    · obtain rfl : k = K := by omega
      have hcv : (convert 140 9 (.slice (some ⟨w.heap.size, 0, none⟩) 256 256)).run Tryz.prog wr = .ok (.string (freshS k)) wr :=
        HR.out.toString (freshL k) (freshL_length k) (fun j hj => by rw [freshL_at k j hj]) _ _ _ Tryz.underlying140 Tryz.underlying5 Tryz.underlying9
      obtain ⟨s, HS⟩ : ∃ s, Hid (freshS k = s) := ⟨_, rfl⟩
      rw [HS.out] at hcv
      go_wp2
      go_ret2
      refine ⟨wr.heap.size, rfl, HB.out.1.alloc (by have := HB.out.2; omega) _, HB.out.2, ?_⟩
      unfold FreshOps
      rw [HS.out]
      exact ⟨by simp, by simp, by simp, by simp, by simp, by simp, by simp, by simp, by simp⟩

end Go.Proofs.YtdhphbokkmofaaaGreat

namespace Go.Proofs.YtdhphbokkmofaaaGreat
open Go.RowKit Go.Sort

def opIns (k : Nat) (S : ByteArray) : OpV := ⟨2, k, S, ⟨#[]⟩⟩

theorem opIns_ok (k : Nat) (S : ByteArray) (hk : k ≤ 63) (hS : S.size ≤ 512) : (opIns k S).Ok := ⟨by show (-9223372036854775808 : Int) ≤ 2 ∧ (2 : Int) ≤ _; omega, by show (-9223372036854775808 : Int) ≤ (k : Int) ∧ (k : Int) ≤ _; omega, by show S.size ≤ _; omega, by show (0 : Nat) ≤ _; omega⟩

theorem opIns_chk (k : Nat) (S : ByteArray) (hk : k ≤ 63) (hS : S.size ≤ 512) : chkB (opIns k S) = true := by
  have h0 : (ByteArray.mk #[]).size = 0 := rfl
  simp [chkB, mayB, opIns, hS, h0]; omega

theorem apply_ins {p : SheetV} {w : World} {a : Option Addr} {c : Nat} (lsn k : Nat) (S : ByteArray) (h : p.Ok w a) (f : p.Fits) (hk : k ≤ 63) (hS : S.size ≤ 512) :
    Calls Tryz.prog 52 #[p.val a c, .agg #[.int .i64 2, .int .i64 k, .string S, .string ⟨#[]⟩], .int .u64 lsn] w fun e w' => ∃ X, e = .returned (.tuple #[X, .int .i64 (insE p (opIns k S))]) ∧ Below w.heap.size w w' ∧
      (insE p (opIns k S) = 0 → ∃ a' c', X = ({ p with slots := insL p.slots k S, lsn := lsn } : SheetV).val a' c' ∧ StrsFrom w.heap.size w' a' (insL p.slots k S)) ∧ (insE p (opIns k S) ≠ 0 → X = sheet0.val none 0) := by
  have hd := change_ins f (opIns_ok k S hk hS) rfl (by show (0 : Int) ≤ (k : Int); omega)
  have := apply_of (w := w) (c := c) lsn h f (opIns_ok k S hk hS) (opIns_chk k S hk hS) hd
  exact this

end Go.Proofs.YtdhphbokkmofaaaGreat

namespace Go.Proofs.YtdhphbokkmofaaaGreat
open Go.RowKit Go.Sort

def fmtQ (p : SheetV) (o : OpV) : SheetV := ⟨p.num, 0, o.at', o.S, []⟩

set_option maxHeartbeats 1600000 in
set_option maxRecDepth 8000 in
theorem change_fmt {p : SheetV} {o : OpV} (ho : o.Ok) (hk : o.kind = 1) : ChangeDoes p o 0 (fmtQ p o) := by
  intro B w b bs h
  have hb1 := h.b1
  have hlt := h.lt
  obtain ⟨K, A, S, T⟩ := o
  simp only at hk ⊢
  subst hk
  unfold fmtQ
  simp only [OpV.val]
  obtain ⟨W, HW⟩ : ∃ W, Hid (W = w.alloc (.cells #[.int .i64 1, .int .i64 A, .string S, .string T] 46)) := ⟨_, rfl⟩
  have bW : Below w.heap.size w W := by rw [HW.out]; exact (Below.refl _ _).alloc (Nat.le_refl _) _
  have h1 := h.below bW
  have r1 : RowV W w.heap.size 4 (four (.int .i64 1) (.int .i64 A) (.string S) (.string T)) := by rw [HW.out]; exact RowV.four_new w _ _ _ _ _
  obtain ⟨x0, x1, x2, x3, x4⟩ := h1.row.cells5
  obtain ⟨g0, g1, g2, g3, g4⟩ := h1.row.open5
  obtain ⟨y0, y1, y2, y3⟩ := r1.cells4
  have bB : Below B w W := bW.mono (by omega)
  have hbo : b ≠ w.heap.size := by omega
  go_enter Tryz.func116, Tryz.ntmps116
  go_wp2_with fail
  rw [← HW.out]
  clear HW
  go_still_tail 11, (by kernel_rfl)
  change wpList _ _ _ _ _ W.drew
  have h2 : SheetAt B W.drew b bs p := h1.below ((Below.refl _ _).drew)
  have B2 : Below B w W.drew := bB.drew
  obtain ⟨V, HV⟩ : ∃ V, Hid (V = W.drew) := ⟨_, rfl⟩
  rw [← HV.out] at h2 B2 ⊢
  clear HV h1 x0 x1 x2 x3 x4 g0 g1 g2 g3 g4 y0 y1 y2 y3 r1 bB bW
  obtain ⟨x0, x1, x2, x3, x4⟩ := h2.row.cells5
  obtain ⟨g0, g1, g2, g3, g4⟩ := h2.row.open5
  go_wp2
  go_ret
  refine ⟨rfl, below_set5 B2 hb1 _ _ _ _ _, fun _ => ⟨none, 0, h2.row.set5 _ _ _ _ _, .inl rfl⟩⟩

def opF : OpV := ⟨1, 1, ⟨#[]⟩, ⟨#[]⟩⟩

theorem opF_ok : opF.Ok := ⟨by show (-9223372036854775808 : Int) ≤ 1 ∧ (1 : Int) ≤ _; omega, by show (-9223372036854775808 : Int) ≤ 1 ∧ (1 : Int) ≤ _; omega, by show (0 : Nat) ≤ _; omega, by show (0 : Nat) ≤ _; omega⟩

theorem opF_chk : chkB opF = true := by decide

def mapV (l : Nat) (s : ByteArray) : SheetV := ⟨1, l, 1, ⟨#[]⟩, [s]⟩

theorem mapV_fits (l : Nat) (s : ByteArray) (hl : l < 18446744073709551616) (hs : s.size = 256) : (mapV l s).Fits := by
  refine ⟨by show 1 < _; omega, hl, by show (0 : Int) ≤ 1; omega, by show (1 : Int) ≤ 255; omega, by show (0 : Nat) ≤ 32; omega, by show 1 ≤ 64; omega, ?_⟩
  show 0 + slotSum [s] ≤ 485
  simp only [slotSum]; omega

theorem mapV_is (l : Nat) (s : ByteArray) (hs : s.size = 256) : isB (mapV l s) = true := by
  unfold isB
  rw [decide_eq_true_eq]
  exact ⟨rfl, rfl, hs⟩

theorem mapV_slot (l : Nat) (s : ByteArray) : slot0 (mapV l s) = s := rfl

theorem Fits.lies {p : SheetV} {w : World} {a : Option Addr} (f : p.Fits) (h : StrsAt w a p.slots) : p.Lies w a := by
  refine ⟨by have := f.len; omega, fun s hs => ?_, h⟩
  obtain ⟨j, hj, rfl⟩ := List.mem_iff_getElem.1 hs
  have := slotSum_at p.slots j hj
  have := f.fits
  omega

theorem apply_turn {l : Nat} {s : ByteArray} {w : World} {a : Option Addr} {c : Nat} (l' n : Nat) (hl : l < 18446744073709551616) (hs : s.size = 256) (hn : n ≤ 2048) (h : StrsAt w a [s]) :
    Calls Tryz.prog 52 #[(mapV l s).val a c, turnV s n, .int .u64 l'] w fun e w' => ∃ a' c', e = .returned (.tuple #[(mapV l' (flipS s n)).val a' c', .int .i64 0]) ∧ Below w.heap.size w w' ∧ StrsFrom w.heap.size w' a' [flipS s n] := by
  have f := mapV_fits l s hl hs
  have hd := turnO_do (p := mapV l s) (n := n) rfl hs hn
  have := does f (turnO_ok s n hn) (turnO_chk s n hn) (turnO_kind s n)
  rw [hd.1, hd.2] at this
  refine (apply_of l' (SheetV.Fits.ok f h) f (turnO_ok s n hn) (turnO_chk s n hn) this).mono ?_
  rintro e w' ⟨X, rfl, b, hX, _⟩
  obtain ⟨a', c', rfl, hq⟩ := hX rfl
  exact ⟨a', c', rfl, b, hq⟩

def page0 : SheetV := ⟨1, 0, 0, ⟨#[]⟩, []⟩
def page1 : SheetV := ⟨1, 1, 1, ⟨#[]⟩, []⟩

theorem page0_fits : page0.Fits := ⟨by decide, by decide, by decide, by decide, by decide, by decide, by decide⟩
theorem page1_fits : page1.Fits := ⟨by decide, by decide, by decide, by decide, by decide, by decide, by decide⟩

theorem apply_fmt {w : World} {a : Option Addr} {c : Nat} :
    Calls Tryz.prog 52 #[page0.val a c, opF.val, .int .u64 1] w fun e w' => ∃ a' c', e = .returned (.tuple #[page1.val a' c', .int .i64 0]) ∧ Below w.heap.size w w' ∧ StrsFrom w.heap.size w' a' page1.slots := by
  refine (apply_of 1 (SheetV.Fits.ok page0_fits (.inl rfl)) page0_fits opF_ok opF_chk (change_fmt opF_ok rfl)).mono ?_
  rintro e w' ⟨X, rfl, b, hX, _⟩
  obtain ⟨a', c', rfl, hq⟩ := hX rfl
  exact ⟨a', c', rfl, b, hq⟩

theorem apply_slot {w : World} {a : Option Addr} {c : Nat} (s : ByteArray) (hs : s.size = 256) :
    Calls Tryz.prog 52 #[page1.val a c, (opIns 0 s).val, .int .u64 1] w fun e w' => ∃ a' c', e = .returned (.tuple #[(mapV 1 s).val a' c', .int .i64 0]) ∧ Below w.heap.size w w' ∧ StrsFrom w.heap.size w' a' (mapV 1 s).slots := by
  have hE : insE page1 (opIns 0 s) = 0 := by
    unfold insE
    rw [if_neg (by show ¬ ((0 : Nat) : Int) < ((0 : Nat) : Int); omega), if_neg (by show ¬ 64 ≤ 0; omega), if_neg (by show ¬ 485 < 0 + 0 + (2 + s.size); omega)]
  refine (apply_ins 1 0 s (SheetV.Fits.ok page1_fits (.inl rfl)) page1_fits (by omega) (by omega)).mono ?_
  rintro e w' ⟨X, rfl, b, hX, _⟩
  obtain ⟨a', c', rfl, hq⟩ := hX hE
  exact ⟨a', c', by rw [hE]; rfl, b, hq⟩

end Go.Proofs.YtdhphbokkmofaaaGreat

namespace Go.Proofs.YtdhphbokkmofaaaGreat
open Go.RowKit Go.Sort

theorem TwoOps.set5 {w : World} {g : Nat} {v0 v1 v2 v3 u0 u1 u2 u3 : Value} (h : TwoOps w g v0 v1 v2 v3 u0 u1 u2 u3) {b : Nat} (hb : b ≠ g) (x0 x1 x2 x3 x4 : Value) : TwoOps (store5 w b x0 x1 x2 x3 x4) g v0 v1 v2 v3 u0 u1 u2 u3 := by
  have e : ∀ i, (store5 w b x0 x1 x2 x3 x4).cell? ⟨g, i, none⟩ = w.cell? ⟨g, i, none⟩ := fun i => by
    unfold store5
    rw [World.cell?_setCell_other _ _ _ _ (by intro q; exact hb (congrArg Addr.block q)), World.cell?_setCell_other _ _ _ _ (by intro q; exact hb (congrArg Addr.block q)), World.cell?_setCell_other _ _ _ _ (by intro q; exact hb (congrArg Addr.block q)), World.cell?_setCell_other _ _ _ _ (by intro q; exact hb (congrArg Addr.block q)), World.cell?_setCell_other _ _ _ _ (by intro q; exact hb (congrArg Addr.block q))]
  exact ⟨by rw [store5_size]; exact h.lt, (e 0).trans h.c0, (e 1).trans h.c1, (e 2).trans h.c2, (e 3).trans h.c3, (e 4).trans h.c4, (e 5).trans h.c5, (e 6).trans h.c6, (e 7).trans h.c7⟩

end Go.Proofs.YtdhphbokkmofaaaGreat
