/-
  The walks of space.Give, space.Claim.
-/
import Derived.Test.YtkknglcckjhngaaSpaceTurnC
namespace Go.Proofs.Ytkknglcckjhngaa
open Go.RowKit
set_option linter.unusedVariables false

/-- No change. -/
def opZ : Value := .agg #[.int .i64 0, .int .i64 0, .string ⟨#[]⟩, .string ⟨#[]⟩]

/-- A change that is nothing lies at block B. -/
structure OpIn (B : Nat) (wx : World) : Prop where
  lt : B < wx.heap.size
  c0 : wx.cell? ⟨B, 0, none⟩ = some (.int .i64 0)
  c1 : wx.cell? ⟨B, 1, none⟩ = some (.int .i64 0)
  c2 : wx.cell? ⟨B, 2, none⟩ = some (.string ⟨#[]⟩)
  c3 : wx.cell? ⟨B, 3, none⟩ = some (.string ⟨#[]⟩)
  f0 : wx.frozen? ⟨B, 0, none⟩ = false
  f1 : wx.frozen? ⟨B, 1, none⟩ = false
  f2 : wx.frozen? ⟨B, 2, none⟩ = false
  f3 : wx.frozen? ⟨B, 3, none⟩ = false

theorem OpIn.below {B : Nat} {wx wy : World} (h : OpIn B wx) (k : Below wx.heap.size wx wy) : OpIn B wy :=
  have e := fun i => k.cell (p := ⟨B, i, none⟩) h.lt
  have f := fun i => k.frozen (p := ⟨B, i, none⟩) h.lt
  ⟨Nat.lt_of_lt_of_le h.lt k.size, (e 0).trans h.c0, (e 1).trans h.c1, (e 2).trans h.c2, (e 3).trans h.c3, (f 0).trans h.f0, (f 1).trans h.f1, (f 2).trans h.f2, (f 3).trans h.f3⟩

/-- The boxes of a page and of a change that is told. -/
def boxPO (p : SheetV) (a : Option Addr) (c : Nat) (w : World) : World := (boxP p a c w).alloc (.cells #[.int .i64 0, .int .i64 0, .string ⟨#[]⟩, .string ⟨#[]⟩] 41)

theorem boxPO_in (p : SheetV) (a : Option Addr) (c : Nat) (w : World) : PageIn p a c w (boxPO p a c w) := (PageIn.start p a c w).below ((Below.refl _ _).alloc (Nat.le_refl _) _)

theorem boxPO_op (p : SheetV) (a : Option Addr) (c : Nat) (w : World) : OpIn (w.heap.size + 1) (boxPO p a c w) :=
  ⟨by simp [boxPO, boxP], by simp [boxPO, boxP], by simp [boxPO, boxP], by simp [boxPO, boxP], by simp [boxPO, boxP], by simp [boxPO, boxP], by simp [boxPO, boxP], by simp [boxPO, boxP], by simp [boxPO, boxP]⟩

/-- Behind four stores into the told change nothing old has turned. -/
theorem below_op {w wx : World} (h : Below w.heap.size w wx) (v0 v1 v2 v3 : Value) :
    Below w.heap.size w ((((wx.setCell ⟨w.heap.size + 1, 0, none⟩ v0).setCell ⟨w.heap.size + 1, 1, none⟩ v1).setCell ⟨w.heap.size + 1, 2, none⟩ v2).setCell ⟨w.heap.size + 1, 3, none⟩ v3) :=
  (((h.setCell (by simp) _).setCell (by simp) _).setCell (by simp) _).setCell (by simp) _

section
variable {p : SheetV} {a : Option Addr} {c : Nat} {w : World}

/-- The error of Give, of Claim; what they tell. -/
def giveE (p : SheetV) (n : Nat) : Int := if isB p then (if tkB (slot0 p) n then 0 else 2) else 70
def claimE (p : SheetV) (n : Nat) : Int := if isB p then (if pgB n && !tkB (slot0 p) n then 0 else 2) else 70
def toldO (e : Int) (p : SheetV) (n : Nat) : Value := if e = 0 then turnV (slot0 p) n else opZ

theorem tk_page {s : ByteArray} {n : Nat} (h : tkB s n = true) : 1 ≤ n ∧ n ≤ 2048 := by
  unfold tkB at h
  simp only [Bool.and_eq_true, decide_eq_true_eq] at h
  exact h.1

set_option maxHeartbeats 800000 in
set_option maxRecDepth 60000 in
theorem give_any (h : p.Lies w a) (n : Nat) (hn : n < 4294967296) :
    Calls Try.prog 9 #[p.val a c, .int .u32 n] w fun e w' => e = .returned (.tuple #[toldO (giveE p n) p n, .int .i64 (giveE p n)]) ∧ Below w.heap.size w w' := by
  have HIS : Hid (∀ wx, Below w.heap.size w wx → Calls Try.prog 14 #[p.val a c] wx fun e w' => e = .returned (.bool (isB p)) ∧ Below wx.heap.size wx w') := fun wx k => is_any (h.below k)
  have HIP : Hid (∀ wx, Calls Try.prog 23 #[.int .u32 n] wx fun e w' => e = .returned (.bool (pgB n)) ∧ w' = wx) := fun wx => isPage_any n wx hn
  have HTK : Hid (∀ wx, Below w.heap.size w wx → Calls Try.prog 15 #[p.val a c, .int .u32 n] wx fun e w' => e = .returned (.bool (tkP p n)) ∧ Below wx.heap.size wx w') := fun wx k => taken_any (h.below k) n hn
  have HTU : Hid (isB p = true → 1 ≤ n → n ≤ 2048 → ∀ wx, Below w.heap.size w wx → Calls Try.prog 22 #[p.val a c, .int .u32 n] wx fun e w' => e = .returned (turnV (slot0 p) n) ∧ Below wx.heap.size wx w') := fun hm h1 h2 wx k => turn_any' (h.below k) hm n h1 h2
  obtain ⟨W, HW⟩ : ∃ W, Hid (W = boxPO p a c w) := ⟨_, rfl⟩
  have hin : PageIn p a c w W := by rw [HW.out]; exact boxPO_in p a c w
  have hop : OpIn (w.heap.size + 1) W := by rw [HW.out]; exact boxPO_op p a c w
  unfold boxPO boxP at HW
  clear h
  by_cases c1 : isB p = true
  · have HE : Hid (giveE p n = (if tkB (slot0 p) n then 0 else 2)) := by show _ = _; unfold giveE; rw [c1]; rfl
    have HTP : Hid (tkP p n = tkB (slot0 p) n) := by show _ = _; unfold tkP; rw [c1]; rfl
    rw [c1] at HIS
    rw [HTP.out] at HTK
    clear HTP
    by_cases c2 : tkB (slot0 p) n = true
    · have hpg := tk_page c2
      rw [c2] at HE HTK
      rw [HE.out]
      simp only [if_true]
      obtain ⟨A, HA⟩ : ∃ A, Hid (((atN n : Nat) : Int) = A) := ⟨_, rfl⟩
      obtain ⟨S1, HS1⟩ : ∃ S1, Hid (one (bytN (slot0 p) (atN n) ^^^ pwN n) = S1) := ⟨_, rfl⟩
      obtain ⟨S2, HS2⟩ : ∃ S2, Hid (one (bytN (slot0 p) (atN n)) = S2) := ⟨_, rfl⟩
      have HR : Hid (toldO 0 p n = .agg #[.int .i64 6, .int .i64 A, .string S1, .string S2]) := by show _ = _; unfold toldO; rw [if_pos rfl]; unfold turnV; rw [HA.out, HS1.out, HS2.out]
      have HTV : Hid (turnV (slot0 p) n = .agg #[.int .i64 6, .int .i64 A, .string S1, .string S2]) := by show _ = _; unfold turnV; rw [HA.out, HS1.out, HS2.out]
      rw [HR.out]
      rw [HTV.out] at HTU
      clear HR HTV
      unfold SheetV.val at HIS HTK HTU ⊢
      go_enter Try.func9, Try.ntmps9
      go_wp2_with fail
      rw [← HW.out]
      clear HW
      refine (HIS.out _ hin.bel).mono ?_
      rintro e w1 ⟨rfl, b1⟩
      have h1 := hin.below b1
      have o1 := hop.below b1
      clear b1 hin hop HIS
      obtain ⟨x0, x1, x2, x3, x4⟩ : _ ∧ _ ∧ _ ∧ _ ∧ _ := ⟨h1.c0, h1.c1, h1.c2, h1.c3, h1.c4⟩
      go_wp2_with fail
      refine (HTK.out _ h1.bel).mono ?_
      rintro e w2 ⟨rfl, b⟩
      have h2 := h1.below b
      have o2 := o1.below b
      clear b h1 o1 x0 x1 x2 x3 x4
      obtain ⟨x0, x1, x2, x3, x4⟩ : _ ∧ _ ∧ _ ∧ _ ∧ _ := ⟨h2.c0, h2.c1, h2.c2, h2.c3, h2.c4⟩
      go_wp2_with fail
      refine (HTU.out c1 hpg.1 hpg.2 _ h2.bel).mono ?_
      rintro e w3 ⟨rfl, b⟩
      have h3 := h2.below b
      have o3 := o2.below b
      clear b h2 o2 x0 x1 x2 x3 x4
      obtain ⟨x0, x1, x2, x3, x4⟩ : _ ∧ _ ∧ _ ∧ _ ∧ _ := ⟨h3.c0, h3.c1, h3.c2, h3.c3, h3.c4⟩
      obtain ⟨y0, y1, y2, y3, g0, g1, g2, g3⟩ : _ ∧ _ ∧ _ ∧ _ ∧ _ ∧ _ ∧ _ ∧ _ := ⟨o3.c0, o3.c1, o3.c2, o3.c3, o3.f0, o3.f1, o3.f2, o3.f3⟩
      go_wp2
      refine bodyPost_ret (v := .tuple #[.agg #[.int .i64 6, .int .i64 A, .string S1, .string S2], .int .i64 0]) (by simp [results, Try.results9, go_sem, y0, y1, y2, y3]) rfl ⟨rfl, below_op h3.bel _ _ _ _⟩
    · have c2' : tkB (slot0 p) n = false := by simpa using c2
      rw [c2'] at HE HTK
      rw [HE.out, show toldO (if false = true then 0 else 2) p n = opZ from rfl]
      unfold opZ
      simp only [Bool.false_eq_true, if_false]
      unfold SheetV.val at HIS HTK HTU ⊢
      go_enter Try.func9, Try.ntmps9
      go_wp2_with fail
      rw [← HW.out]
      clear HW
      refine (HIS.out _ hin.bel).mono ?_
      rintro e w1 ⟨rfl, b1⟩
      have h1 := hin.below b1
      have o1 := hop.below b1
      clear b1 hin hop HIS
      obtain ⟨x0, x1, x2, x3, x4⟩ : _ ∧ _ ∧ _ ∧ _ ∧ _ := ⟨h1.c0, h1.c1, h1.c2, h1.c3, h1.c4⟩
      go_wp2_with fail
      refine (HTK.out _ h1.bel).mono ?_
      rintro e w2 ⟨rfl, b⟩
      have h2 := h1.below b
      have o2 := o1.below b
      clear b h1 o1 x0 x1 x2 x3 x4
      obtain ⟨x0, x1, x2, x3, x4⟩ : _ ∧ _ ∧ _ ∧ _ ∧ _ := ⟨h2.c0, h2.c1, h2.c2, h2.c3, h2.c4⟩
      obtain ⟨y0, y1, y2, y3, g0, g1, g2, g3⟩ : _ ∧ _ ∧ _ ∧ _ ∧ _ ∧ _ ∧ _ ∧ _ := ⟨o2.c0, o2.c1, o2.c2, o2.c3, o2.f0, o2.f1, o2.f2, o2.f3⟩
      go_wp2
      refine bodyPost_ret (v := .tuple #[.agg #[.int .i64 0, .int .i64 0, .string ⟨#[]⟩, .string ⟨#[]⟩], .int .i64 2]) (by simp [results, Try.results9, go_sem, y0, y1, y2, y3]) rfl ⟨rfl, below_op h2.bel _ _ _ _⟩
  · have c1' : isB p = false := by simpa using c1
    have HE : giveE p n = 70 := by unfold giveE; rw [c1']; rfl
    rw [HE, show toldO 70 p n = opZ from rfl]
    unfold opZ
    rw [c1'] at HIS
    unfold SheetV.val at HIS HTK HTU ⊢
    go_enter Try.func9, Try.ntmps9
    go_wp2_with fail
    rw [← HW.out]
    clear HW
    refine (HIS.out _ hin.bel).mono ?_
    rintro e w1 ⟨rfl, b1⟩
    have h1 := hin.below b1
    have o1 := hop.below b1
    clear b1 hin hop HIS
    obtain ⟨x0, x1, x2, x3, x4⟩ : _ ∧ _ ∧ _ ∧ _ ∧ _ := ⟨h1.c0, h1.c1, h1.c2, h1.c3, h1.c4⟩
    obtain ⟨y0, y1, y2, y3, g0, g1, g2, g3⟩ : _ ∧ _ ∧ _ ∧ _ ∧ _ ∧ _ ∧ _ ∧ _ := ⟨o1.c0, o1.c1, o1.c2, o1.c3, o1.f0, o1.f1, o1.f2, o1.f3⟩
    go_wp2
    refine bodyPost_ret (v := .tuple #[.agg #[.int .i64 0, .int .i64 0, .string ⟨#[]⟩, .string ⟨#[]⟩], .int .i64 70]) (by simp [results, Try.results9, go_sem, y0, y1, y2, y3]) rfl ⟨rfl, below_op h1.bel _ _ _ _⟩

set_option maxHeartbeats 800000 in
set_option maxRecDepth 60000 in
theorem claim_any (h : p.Lies w a) (n : Nat) (hn : n < 4294967296) :
    Calls Try.prog 10 #[p.val a c, .int .u32 n] w fun e w' => e = .returned (.tuple #[toldO (claimE p n) p n, .int .i64 (claimE p n)]) ∧ Below w.heap.size w w' := by
  have HIS : Hid (∀ wx, Below w.heap.size w wx → Calls Try.prog 14 #[p.val a c] wx fun e w' => e = .returned (.bool (isB p)) ∧ Below wx.heap.size wx w') := fun wx k => is_any (h.below k)
  have HIP : Hid (∀ wx, Calls Try.prog 23 #[.int .u32 n] wx fun e w' => e = .returned (.bool (pgB n)) ∧ w' = wx) := fun wx => isPage_any n wx hn
  have HTK : Hid (∀ wx, Below w.heap.size w wx → Calls Try.prog 15 #[p.val a c, .int .u32 n] wx fun e w' => e = .returned (.bool (tkP p n)) ∧ Below wx.heap.size wx w') := fun wx k => taken_any (h.below k) n hn
  have HTU : Hid (isB p = true → 1 ≤ n → n ≤ 2048 → ∀ wx, Below w.heap.size w wx → Calls Try.prog 22 #[p.val a c, .int .u32 n] wx fun e w' => e = .returned (turnV (slot0 p) n) ∧ Below wx.heap.size wx w') := fun hm h1 h2 wx k => turn_any' (h.below k) hm n h1 h2
  obtain ⟨W, HW⟩ : ∃ W, Hid (W = boxPO p a c w) := ⟨_, rfl⟩
  have hin : PageIn p a c w W := by rw [HW.out]; exact boxPO_in p a c w
  have hop : OpIn (w.heap.size + 1) W := by rw [HW.out]; exact boxPO_op p a c w
  unfold boxPO boxP at HW
  clear h
  by_cases c1 : isB p = true
  · have HE : Hid (claimE p n = (if pgB n && !tkB (slot0 p) n then 0 else 2)) := by show _ = _; unfold claimE; rw [c1]; rfl
    have HTP : Hid (tkP p n = tkB (slot0 p) n) := by show _ = _; unfold tkP; rw [c1]; rfl
    rw [c1] at HIS
    rw [HTP.out] at HTK
    clear HTP
    by_cases c3 : pgB n = true
    · have hpg : 1 ≤ n ∧ n ≤ 2048 := by simpa [pgB] using c3
      rw [c3] at HE HIP
      by_cases c2 : tkB (slot0 p) n = true
      · rw [c2] at HE HTK
        rw [HE.out, show toldO (if (true && !true) = true then 0 else 2) p n = opZ from rfl]
        unfold opZ
        simp only [Bool.not_true, Bool.and_false, Bool.false_eq_true, if_false]
        unfold SheetV.val at HIS HTK HTU ⊢
        go_enter Try.func10, Try.ntmps10
        go_wp2_with fail
        rw [← HW.out]
        clear HW
        refine (HIS.out _ hin.bel).mono ?_
        rintro e w1 ⟨rfl, b1⟩
        have h1 := hin.below b1
        have o1 := hop.below b1
        clear b1 hin hop HIS
        obtain ⟨x0, x1, x2, x3, x4⟩ : _ ∧ _ ∧ _ ∧ _ ∧ _ := ⟨h1.c0, h1.c1, h1.c2, h1.c3, h1.c4⟩
        go_wp2_with fail
        refine (HIP.out _).mono ?_
        rintro e w1' ⟨rfl, rfl⟩
        go_wp2_with fail
        refine (HTK.out _ h1.bel).mono ?_
        rintro e w2 ⟨rfl, b⟩
        have h2 := h1.below b
        have o2 := o1.below b
        clear b h1 o1 x0 x1 x2 x3 x4
        obtain ⟨x0, x1, x2, x3, x4⟩ : _ ∧ _ ∧ _ ∧ _ ∧ _ := ⟨h2.c0, h2.c1, h2.c2, h2.c3, h2.c4⟩
        obtain ⟨y0, y1, y2, y3, g0, g1, g2, g3⟩ : _ ∧ _ ∧ _ ∧ _ ∧ _ ∧ _ ∧ _ ∧ _ := ⟨o2.c0, o2.c1, o2.c2, o2.c3, o2.f0, o2.f1, o2.f2, o2.f3⟩
        go_wp2
        refine bodyPost_ret (v := .tuple #[.agg #[.int .i64 0, .int .i64 0, .string ⟨#[]⟩, .string ⟨#[]⟩], .int .i64 2]) (by simp [results, Try.results10, go_sem, y0, y1, y2, y3]) rfl ⟨rfl, below_op h2.bel _ _ _ _⟩
      · have c2' : tkB (slot0 p) n = false := by simpa using c2
        rw [c2'] at HE HTK
        rw [HE.out]
        simp only [Bool.not_false, Bool.and_true, if_true]
        obtain ⟨A, HA⟩ : ∃ A, Hid (((atN n : Nat) : Int) = A) := ⟨_, rfl⟩
        obtain ⟨S1, HS1⟩ : ∃ S1, Hid (one (bytN (slot0 p) (atN n) ^^^ pwN n) = S1) := ⟨_, rfl⟩
        obtain ⟨S2, HS2⟩ : ∃ S2, Hid (one (bytN (slot0 p) (atN n)) = S2) := ⟨_, rfl⟩
        have HR : Hid (toldO 0 p n = .agg #[.int .i64 6, .int .i64 A, .string S1, .string S2]) := by show _ = _; unfold toldO; rw [if_pos rfl]; unfold turnV; rw [HA.out, HS1.out, HS2.out]
        have HTV : Hid (turnV (slot0 p) n = .agg #[.int .i64 6, .int .i64 A, .string S1, .string S2]) := by show _ = _; unfold turnV; rw [HA.out, HS1.out, HS2.out]
        rw [HR.out]
        rw [HTV.out] at HTU
        clear HR HTV
        unfold SheetV.val at HIS HTK HTU ⊢
        go_enter Try.func10, Try.ntmps10
        go_wp2_with fail
        rw [← HW.out]
        clear HW
        refine (HIS.out _ hin.bel).mono ?_
        rintro e w1 ⟨rfl, b1⟩
        have h1 := hin.below b1
        have o1 := hop.below b1
        clear b1 hin hop HIS
        obtain ⟨x0, x1, x2, x3, x4⟩ : _ ∧ _ ∧ _ ∧ _ ∧ _ := ⟨h1.c0, h1.c1, h1.c2, h1.c3, h1.c4⟩
        go_wp2_with fail
        refine (HIP.out _).mono ?_
        rintro e w1' ⟨rfl, rfl⟩
        go_wp2_with fail
        refine (HTK.out _ h1.bel).mono ?_
        rintro e w2 ⟨rfl, b⟩
        have h2 := h1.below b
        have o2 := o1.below b
        clear b h1 o1 x0 x1 x2 x3 x4
        obtain ⟨x0, x1, x2, x3, x4⟩ : _ ∧ _ ∧ _ ∧ _ ∧ _ := ⟨h2.c0, h2.c1, h2.c2, h2.c3, h2.c4⟩
        go_wp2_with fail
        refine (HTU.out c1 hpg.1 hpg.2 _ h2.bel).mono ?_
        rintro e w3 ⟨rfl, b⟩
        have h3 := h2.below b
        have o3 := o2.below b
        clear b h2 o2 x0 x1 x2 x3 x4
        obtain ⟨x0, x1, x2, x3, x4⟩ : _ ∧ _ ∧ _ ∧ _ ∧ _ := ⟨h3.c0, h3.c1, h3.c2, h3.c3, h3.c4⟩
        obtain ⟨y0, y1, y2, y3, g0, g1, g2, g3⟩ : _ ∧ _ ∧ _ ∧ _ ∧ _ ∧ _ ∧ _ ∧ _ := ⟨o3.c0, o3.c1, o3.c2, o3.c3, o3.f0, o3.f1, o3.f2, o3.f3⟩
        go_wp2
        refine bodyPost_ret (v := .tuple #[.agg #[.int .i64 6, .int .i64 A, .string S1, .string S2], .int .i64 0]) (by simp [results, Try.results10, go_sem, y0, y1, y2, y3]) rfl ⟨rfl, below_op h3.bel _ _ _ _⟩
    · have c3' : pgB n = false := by simpa using c3
      rw [c3'] at HE HIP
      rw [HE.out, show toldO (if (false && !tkB (slot0 p) n) = true then 0 else 2) p n = opZ from rfl]
      unfold opZ
      simp only [Bool.false_and, Bool.false_eq_true, if_false]
      unfold SheetV.val at HIS HTK HTU ⊢
      go_enter Try.func10, Try.ntmps10
      go_wp2_with fail
      rw [← HW.out]
      clear HW
      refine (HIS.out _ hin.bel).mono ?_
      rintro e w1 ⟨rfl, b1⟩
      have h1 := hin.below b1
      have o1 := hop.below b1
      clear b1 hin hop HIS
      obtain ⟨x0, x1, x2, x3, x4⟩ : _ ∧ _ ∧ _ ∧ _ ∧ _ := ⟨h1.c0, h1.c1, h1.c2, h1.c3, h1.c4⟩
      go_wp2_with fail
      refine (HIP.out _).mono ?_
      rintro e w1' ⟨rfl, rfl⟩
      obtain ⟨y0, y1, y2, y3, g0, g1, g2, g3⟩ : _ ∧ _ ∧ _ ∧ _ ∧ _ ∧ _ ∧ _ ∧ _ := ⟨o1.c0, o1.c1, o1.c2, o1.c3, o1.f0, o1.f1, o1.f2, o1.f3⟩
      go_wp2
      refine bodyPost_ret (v := .tuple #[.agg #[.int .i64 0, .int .i64 0, .string ⟨#[]⟩, .string ⟨#[]⟩], .int .i64 2]) (by simp [results, Try.results10, go_sem, y0, y1, y2, y3]) rfl ⟨rfl, below_op h1.bel _ _ _ _⟩
  · have c1' : isB p = false := by simpa using c1
    have HE : claimE p n = 70 := by unfold claimE; rw [c1']; rfl
    rw [HE, show toldO 70 p n = opZ from rfl]
    unfold opZ
    rw [c1'] at HIS
    unfold SheetV.val at HIS HTK HTU ⊢
    go_enter Try.func10, Try.ntmps10
    go_wp2_with fail
    rw [← HW.out]
    clear HW
    refine (HIS.out _ hin.bel).mono ?_
    rintro e w1 ⟨rfl, b1⟩
    have h1 := hin.below b1
    have o1 := hop.below b1
    clear b1 hin hop HIS
    obtain ⟨x0, x1, x2, x3, x4⟩ : _ ∧ _ ∧ _ ∧ _ ∧ _ := ⟨h1.c0, h1.c1, h1.c2, h1.c3, h1.c4⟩
    obtain ⟨y0, y1, y2, y3, g0, g1, g2, g3⟩ : _ ∧ _ ∧ _ ∧ _ ∧ _ ∧ _ ∧ _ ∧ _ := ⟨o1.c0, o1.c1, o1.c2, o1.c3, o1.f0, o1.f1, o1.f2, o1.f3⟩
    go_wp2
    refine bodyPost_ret (v := .tuple #[.agg #[.int .i64 0, .int .i64 0, .string ⟨#[]⟩, .string ⟨#[]⟩], .int .i64 70]) (by simp [results, Try.results10, go_sem, y0, y1, y2, y3]) rfl ⟨rfl, below_op h1.bel _ _ _ _⟩

end
end Go.Proofs.Ytkknglcckjhngaa
