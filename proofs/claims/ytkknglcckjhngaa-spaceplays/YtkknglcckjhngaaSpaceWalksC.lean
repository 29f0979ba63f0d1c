/-
  The walks of space.place, isPage, Is, Taken.
-/
import Derived.Test.YtkknglcckjhngaaBase1C
import Derived.Test.YtkknglcckjhngaaSpaceBitsC
import Derived.Deep.QuietTactic
import Derived.BigQuiet
import Derived.Laws.BitsAllLaws
namespace Go.Proofs.Ytkknglcckjhngaa
open Go.RowKit
set_option linter.unusedVariables false

theorem ret_two {k k' : IntKind} {a b c d : Int} (h : a = b) (h' : c = d) : Ending.returned (.tuple #[.int k a, .int k' c]) = .returned (.tuple #[.int k b, .int k' d]) := by rw [h, h']

set_option maxHeartbeats 400000 in
set_option maxRecDepth 60000 in
theorem place_any (n : Nat) (w : World) (h1 : 1 ≤ n) (h2 : n < 4294967296) :
    Calls Try.prog 21 #[.int .u32 n] w fun e w' => e = .returned (.tuple #[.int .i64 (atN n : Nat), .int .u8 (pwN n : Nat)]) ∧ ∃ k, w' = w.drewN k := by
  obtain ⟨m, rfl⟩ : ∃ m, n = m + 1 := ⟨n - 1, by omega⟩
  have HA : Hid (atN (m + 1) = m / 8) := rfl
  have HP : Hid (((pwN (m + 1) : Nat) : Int) = 2 ^ (m % 8) % 256) := by
    have h := pwN_lt (m + 1)
    have e : pwN (m + 1) = 2 ^ (m % 8) := rfl
    have e2 : ((2 : Int) ^ (m % 8)) = ((2 ^ (m % 8) : Nat) : Int) := by simp
    show _ = _
    rw [e2, ← e]
    omega
  generalize atN (m + 1) = A at *
  generalize pwN (m + 1) = B at *
  go_enter Try.func21, Try.ntmps21
  go_wp2
  go_quiet (fail)
  go_wp2
  go_ret2
  exact ⟨ret_two (by rw [HA.out]; rfl) HP.out.symm, nq, rfl⟩

/-- May there be a page of a number? -/
def pgB (n : Nat) : Bool := decide (1 ≤ n ∧ n ≤ 2048)

set_option maxHeartbeats 400000 in
set_option maxRecDepth 60000 in
theorem isPage_any (n : Nat) (w : World) (h2 : n < 4294967296) :
    Calls Try.prog 23 #[.int .u32 n] w fun e w' => e = .returned (.bool (pgB n)) ∧ w' = w := by
  by_cases c1 : 1 ≤ n
  · by_cases c2 : n ≤ 2048
    · rw [show pgB n = true from by simp [pgB, c1, c2]]
      have c2' : decide ((n : Int) ≤ 2048) = true := by simp; omega
      go_enter Try.func23, Try.ntmps23
      go_wp2
      go_ret
      exact ⟨rfl, rfl⟩
    · rw [show pgB n = false from by simp [pgB, c2]]
      have c2' : decide ((n : Int) ≤ 2048) = false := by simp; omega
      go_enter Try.func23, Try.ntmps23
      go_wp2
      go_ret
      exact ⟨rfl, rfl⟩
  · rw [show pgB n = false from by simp [pgB]; omega]
    go_enter Try.func23, Try.ntmps23
    go_wp2
    go_ret
    exact ⟨rfl, rfl⟩

/-- The slot 0 of a page. -/
def slot0 (p : SheetV) : ByteArray := p.slots.getD 0 ByteArray.empty

/-- Is a page a map? -/
def isB (p : SheetV) : Bool := decide (p.kind = 1 ∧ p.slots.length = 1 ∧ (slot0 p).size = 256)

/-- What is known of a page whose slots are read. -/
structure SheetV.Lies (p : SheetV) (w : World) (a : Option Addr) : Prop where
  len : p.slots.length ≤ 8796093021952
  slots : ∀ s ∈ p.slots, s.size ≤ 140737488351232
  mem : StrsAt w a p.slots

theorem SheetV.Lies.below {p : SheetV} {w w' : World} {a : Option Addr} (h : p.Lies w a) (k : Below w.heap.size w w') : p.Lies w' a := ⟨h.len, h.slots, h.mem.below k⟩

/-- The slot 0 in memory. -/
theorem SheetV.Lies.first {p : SheetV} {w : World} {a : Option Addr} (h : p.Lies w a) (h1 : p.slots.length = 1) :
    ∃ b o, a = some ⟨b, o, none⟩ ∧ b < w.heap.size ∧ w.cell? ⟨b, o, none⟩ = some (.string (slot0 p)) ∧ (slot0 p).size ≤ 140737488351232 := by
  rcases h.mem with hm | ⟨b, o, e, hb, hc⟩
  · rw [hm] at h1; cases h1
  · have h0 := hc 0 (by omega)
    have e0 : slot0 p = p.slots[0]'(by omega) := by unfold slot0; rw [List.getD_eq_getElem?_getD, List.getElem?_eq_getElem (by omega)]; rfl
    exact ⟨b, o, e, hb, by rw [e0]; exact h0, by rw [e0]; exact h.slots _ (List.getElem_mem _)⟩

theorem atN_lt {n : Nat} (h : n ≤ 2048) : atN n < 256 := by unfold atN; omega

section
variable {p : SheetV} {a : Option Addr} {c : Nat} {w : World}

set_option maxHeartbeats 400000 in
set_option maxRecDepth 60000 in
theorem is_any (h : p.Lies w a) :
    Calls Try.prog 14 #[p.val a c] w fun e w' => e = .returned (.bool (isB p)) ∧ Below w.heap.size w w' := by
  have hl := h.len
  by_cases c1 : p.kind = 1
  · by_cases c2 : p.slots.length = 1
    · obtain ⟨b, o, rfl, hb, hc, hz⟩ := h.first c2
      have HI : Hid (isB p = decide ((slot0 p).size = 256)) := by show _ = _; simp [isB, c1, c2]
      generalize isB p = I at *
      generalize slot0 p = s at *
      clear h hl
      obtain ⟨num, lsn, kind, head, L⟩ := p
      unfold SheetV.val
      simp only at c1 c2 ⊢
      subst c1
      rw [c2]
      clear c2
      by_cases c3 : s.size = 256
      · have HI' : I = true := by rw [HI.out]; simpa using c3
        subst HI'
        clear HI
        go_enter Try.func14, Try.ntmps14
        go_wp2
        go_ret
        exact ⟨rfl, (Below.refl _ _).alloc (Nat.le_refl _) _⟩
      · have HI' : I = false := by rw [HI.out]; simpa using c3
        subst HI'
        clear HI
        have c3' : ((s.size : Int) == 256) = false := by rw [beq_eq_false_iff_ne]; omega
        go_enter Try.func14, Try.ntmps14
        go_wp2
        go_ret
        exact ⟨rfl, (Below.refl _ _).alloc (Nat.le_refl _) _⟩
    · rw [show isB p = false from by simp [isB, c2]]
      clear h
      obtain ⟨num, lsn, kind, head, L⟩ := p
      unfold SheetV.val
      simp only at c1 c2 hl ⊢
      subst c1
      generalize L.length = n at *
      have c3' : ((n : Int) == 1) = false := by rw [beq_eq_false_iff_ne]; omega
      go_enter Try.func14, Try.ntmps14
      go_wp2
      go_ret
      exact ⟨rfl, (Below.refl _ _).alloc (Nat.le_refl _) _⟩
  · rw [show isB p = false from by simp [isB, c1]]
    clear h
    obtain ⟨num, lsn, kind, head, L⟩ := p
    unfold SheetV.val
    simp only at c1 hl ⊢
    generalize L.length = n at *
    have c3' : (kind == 1) = false := by rw [beq_eq_false_iff_ne]; omega
    go_enter Try.func14, Try.ntmps14
    go_wp2
    go_ret
    exact ⟨rfl, (Below.refl _ _).alloc (Nat.le_refl _) _⟩

/-- Does a page say that a page is taken? -/
def tkP (p : SheetV) (n : Nat) : Bool := isB p && tkB (slot0 p) n

/-- The box of a page that was handed in. -/
def boxP (p : SheetV) (a : Option Addr) (c : Nat) (w : World) : World := w.alloc (.cells #[.int .u32 p.num, .int .u64 p.lsn, .int .i64 p.kind, .string p.head, .slice a p.slots.length c] 29)

theorem boxP_below (p : SheetV) (a : Option Addr) (c : Nat) (w : World) : Below w.heap.size w (boxP p a c w) := (Below.refl _ _).alloc (Nat.le_refl _) _

theorem isB_true (h : isB p = true) : p.kind = 1 ∧ p.slots.length = 1 ∧ (slot0 p).size = 256 := by simpa [isB] using h

/-- Where a function over a page stands: the page's cells in its box, the page itself. -/
structure PageIn (p : SheetV) (a : Option Addr) (c : Nat) (w wx : World) : Prop where
  bel : Below w.heap.size w wx
  lt : w.heap.size < wx.heap.size
  c0 : wx.cell? ⟨w.heap.size, 0, none⟩ = some (.int .u32 p.num)
  c1 : wx.cell? ⟨w.heap.size, 1, none⟩ = some (.int .u64 p.lsn)
  c2 : wx.cell? ⟨w.heap.size, 2, none⟩ = some (.int .i64 p.kind)
  c3 : wx.cell? ⟨w.heap.size, 3, none⟩ = some (.string p.head)
  c4 : wx.cell? ⟨w.heap.size, 4, none⟩ = some (.slice a p.slots.length c)

theorem PageIn.start (p : SheetV) (a : Option Addr) (c : Nat) (w : World) : PageIn p a c w (boxP p a c w) :=
  ⟨boxP_below p a c w, by simp [boxP], by simp [boxP], by simp [boxP], by simp [boxP], by simp [boxP], by simp [boxP]⟩

theorem PageIn.below {wx wy : World} (h : PageIn p a c w wx) (k : Below wx.heap.size wx wy) : PageIn p a c w wy :=
  have e := fun i => k.cell (p := ⟨w.heap.size, i, none⟩) h.lt
  ⟨h.bel.trans (k.mono (Nat.le_of_lt h.lt)), Nat.lt_of_lt_of_le h.lt k.size, (e 0).trans h.c0, (e 1).trans h.c1, (e 2).trans h.c2, (e 3).trans h.c3, (e 4).trans h.c4⟩

set_option maxHeartbeats 800000 in
set_option maxRecDepth 60000 in
theorem taken_any (h : p.Lies w a) (n : Nat) (hn : n < 4294967296) :
    Calls Try.prog 15 #[p.val a c, .int .u32 n] w fun e w' => e = .returned (.bool (tkP p n)) ∧ Below w.heap.size w w' := by
  have HIS : Hid (∀ wx, Below w.heap.size w wx → Calls Try.prog 14 #[p.val a c] wx fun e w' => e = .returned (.bool (isB p)) ∧ Below wx.heap.size wx w') := fun wx k => is_any (h.below k)
  have HIP : Hid (∀ wx, Calls Try.prog 23 #[.int .u32 n] wx fun e w' => e = .returned (.bool (pgB n)) ∧ w' = wx) := fun wx => isPage_any n wx hn
  obtain ⟨W, HW⟩ : ∃ W, Hid (W = boxP p a c w) := ⟨_, rfl⟩
  have hin : PageIn p a c w W := by rw [HW.out]; exact PageIn.start p a c w
  unfold boxP at HW
  by_cases c1 : isB p = true
  · obtain ⟨k1, k2, k3⟩ := isB_true c1
    have K2 : Hid (p.slots.length = 1) := k2
    have k2' : 0 < p.slots.length := by omega
    clear k1 k2
    by_cases c2 : pgB n = true
    · have hpg : 1 ≤ n ∧ n ≤ 2048 := by simpa [pgB] using c2
      have HPL : Hid (∀ wx, Calls Try.prog 21 #[.int .u32 n] wx fun e w' => e = .returned (.tuple #[.int .i64 (atN n : Nat), .int .u8 (pwN n : Nat)]) ∧ ∃ k, w' = wx.drewN k) := fun wx => place_any n wx hpg.1 hn
      have HT : Hid (tkP p n = decide (¬ (((bytN (slot0 p) (atN n) &&& pwN n : Nat) : Int) = 0))) := by
        show _ = _
        have := bit_and (slot0 p) n
        simp only [tkP, c1, tkB, hpg, Bool.true_and]
        cases hb : bitS (slot0 p) n with
        | true => rw [hb] at this; simp at this; simp [this]
        | false => rw [hb] at this; simp at this; simp [this]
      have ha := atN_lt hpg.2
      have hp := pwN_lt n
      obtain ⟨s, HS⟩ : ∃ s, Hid (slot0 p = s) := ⟨_, rfl⟩
      obtain ⟨A, HA⟩ : ∃ A, Hid (atN n = A) := ⟨_, rfl⟩
      obtain ⟨Q, HQ⟩ : ∃ Q, Hid (pwN n = Q) := ⟨_, rfl⟩
      rw [HS.out] at HT k3
      rw [HA.out] at HT HPL ha
      rw [HQ.out] at HT HPL hp
      have hAs : A < s.size := by omega
      clear k3 ha
      rw [bytN_at hAs] at HT
      rw [c1] at HIS
      rw [c2] at HIP
      generalize tkP p n = R at *
      unfold SheetV.val at HIS ⊢
      go_enter Try.func15, Try.ntmps15
      go_wp2_with fail
      rw [← HW.out]
      clear HW
      refine (HIS.out _ hin.bel).mono ?_
      rintro e w1 ⟨rfl, b1⟩
      have h1 := hin.below b1
      have hl1 := h.below h1.bel
      clear b1 hin
      go_wp2_with fail
      refine (HIP.out _).mono ?_
      rintro e w2 ⟨rfl, rfl⟩
      go_wp2_with fail
      refine (HPL.out _).mono ?_
      rintro e w3 ⟨rfl, nk, rfl⟩
      have h3 : PageIn p a c w (w2.drewN nk) := h1.below (below_drewN (Below.refl _ _) nk)
      obtain ⟨b, o, rfl, hb', hc, hz⟩ := (hl1.below (below_drewN (Below.refl _ _) nk)).first K2.out
      obtain ⟨W3, HW3⟩ : ∃ W3, Hid (W3 = w2.drewN nk) := ⟨_, rfl⟩
      rw [← HW3.out] at h3 hc hb' ⊢
      clear HW3 h1 hl1
      have x4 := h3.c4
      have B3 := h3.bel
      clear h3 HIS HIP HPL
      rw [HS.out] at hc hz
      go_wp2
      go_ret
      refine ⟨congrArg (fun x => Ending.returned (.bool x)) ?_, B3⟩
      rw [u8_and_nat _ _ (UInt8.toNat_lt _) hp, HT.out]
      generalize s[A].toNat &&& Q = z
      rw [Bool.eq_iff_iff]; simp
    · have c2' : pgB n = false := by simpa using c2
      have HT : tkP p n = false := by
        have : decide (1 ≤ n ∧ n ≤ 2048) = false := c2'
        unfold tkP tkB
        rw [this]; simp
      rw [HT]
      rw [c1] at HIS
      rw [c2'] at HIP
      clear k3 HT
      unfold SheetV.val at HIS ⊢
      go_enter Try.func15, Try.ntmps15
      go_wp2_with fail
      rw [← HW.out]
      clear HW
      refine (HIS.out _ hin.bel).mono ?_
      rintro e w1 ⟨rfl, b1⟩
      have h1 := hin.below b1
      clear b1 hin
      go_wp2_with fail
      refine (HIP.out _).mono ?_
      rintro e w2 ⟨rfl, rfl⟩
      go_wp2
      go_ret
      exact ⟨rfl, h1.bel⟩
  · have c1' : isB p = false := by simpa using c1
    rw [show tkP p n = false from by unfold tkP; rw [c1']; rfl]
    rw [c1'] at HIS
    unfold SheetV.val at HIS ⊢
    go_enter Try.func15, Try.ntmps15
    go_wp2_with fail
    rw [← HW.out]
    clear HW
    refine (HIS.out _ hin.bel).mono ?_
    rintro e w1 ⟨rfl, b1⟩
    have h1 := hin.below b1
    clear b1 hin
    go_wp2
    go_ret
    exact ⟨rfl, h1.bel⟩

end
end Go.Proofs.Ytkknglcckjhngaa
