/-
  The walk of space.Take.
-/
import Derived.Test.YtkknglcckjhngaaSpaceGiveC
namespace Go.Proofs.Ytkknglcckjhngaa
open Go.RowKit
set_option linter.unusedVariables false

/-- How many pages Take looks at. -/
def roomN (room : Int) : Nat := (if room < 2048 then room else 2048).toNat

theorem roomN_le (room : Int) : roomN room ≤ 2048 := by unfold roomN; split <;> omega

/-- The page that Take tells, its error. -/
def takeN (p : SheetV) (room : Int) : Nat := freeF (slot0 p) (roomN room) 0
def takeE (p : SheetV) (room : Int) : Int := if isB p then (if takeN p room = 0 then 20 else 0) else 70

theorem freeF_tk (s : ByteArray) (f k : Nat) (h : tkB s (k + 1) = true) : freeF s (f + 1) k = freeF s f (k + 1) := by simp [freeF, h]
theorem freeF_no (s : ByteArray) (f k : Nat) (h : tkB s (k + 1) = false) : freeF s (f + 1) k = k + 1 := by simp [freeF, h]

/-- Where Take's loop stands. -/
structure TakeAt (p : SheetV) (a : Option Addr) (c : Nat) (w wx : World) (R N k : Nat) : Prop where
  page : PageIn p a c w wx
  op : OpIn (w.heap.size + 1) wx
  free : freeF (slot0 p) (R - k) k = N

section
variable {p : SheetV} {a : Option Addr} {c : Nat} {w : World}

set_option maxHeartbeats 800000 in
set_option maxRecDepth 60000 in
theorem take_no (h : p.Lies w a) (room : Int) (hm : isB p = false) :
    Calls Try.prog 11 #[p.val a c, .int .i64 room] w fun e w' => e = .returned (.tuple #[.int .u32 0, opZ, .int .i64 70]) ∧ Below w.heap.size w w' := by
  have HIS : Hid (∀ wx, Below w.heap.size w wx → Calls Try.prog 14 #[p.val a c] wx fun e w' => e = .returned (.bool (isB p)) ∧ Below wx.heap.size wx w') := fun wx k => is_any (h.below k)
  obtain ⟨W, HW⟩ : ∃ W, Hid (W = boxPO p a c w) := ⟨_, rfl⟩
  have hin : PageIn p a c w W := by rw [HW.out]; exact boxPO_in p a c w
  have hop : OpIn (w.heap.size + 1) W := by rw [HW.out]; exact boxPO_op p a c w
  unfold boxPO boxP at HW
  clear h
  unfold opZ
  rw [hm] at HIS
  unfold SheetV.val at HIS ⊢
  go_enter Try.func11, Try.ntmps11
  go_wp2_with fail
  rw [← HW.out]
  clear HW
  refine (HIS.out _ hin.bel).mono ?_
  rintro e w1 ⟨rfl, b1⟩
  have h1 := hin.below b1
  have o1 := hop.below b1
  clear b1 hin hop HIS
  obtain ⟨y0, y1, y2, y3, g0, g1, g2, g3⟩ : _ ∧ _ ∧ _ ∧ _ ∧ _ ∧ _ ∧ _ ∧ _ := ⟨o1.c0, o1.c1, o1.c2, o1.c3, o1.f0, o1.f1, o1.f2, o1.f3⟩
  go_wp2
  refine bodyPost_ret (v := .tuple #[.int .u32 0, .agg #[.int .i64 0, .int .i64 0, .string ⟨#[]⟩, .string ⟨#[]⟩], .int .i64 70]) (by simp [results, Try.results11, go_sem, y0, y1, y2, y3]) rfl ⟨rfl, below_op h1.bel _ _ _ _⟩

set_option maxHeartbeats 1600000 in
set_option maxRecDepth 60000 in
theorem take_map (h : p.Lies w a) (room : Int) (hm : isB p = true) (hr1 : -9223372036854775808 ≤ room) (hr2 : room ≤ 9223372036854775807) :
    Calls Try.prog 11 #[p.val a c, .int .i64 room] w fun e w' => e = .returned (.tuple #[.int .u32 (takeN p room), toldO (takeE p room) p (takeN p room), .int .i64 (takeE p room)]) ∧ Below w.heap.size w w' := by
  have HIS : Hid (∀ wx, Below w.heap.size w wx → Calls Try.prog 14 #[p.val a c] wx fun e w' => e = .returned (.bool (isB p)) ∧ Below wx.heap.size wx w') := fun wx k => is_any (h.below k)
  have HTK : Hid (∀ n : Nat, n < 4294967296 → ∀ wx, Below w.heap.size w wx → Calls Try.prog 15 #[p.val a c, .int .u32 n] wx fun e w' => e = .returned (.bool (tkB (slot0 p) n)) ∧ Below wx.heap.size wx w') := fun n hn wx k => by
    have := taken_any (c := c) (h.below k) n hn
    rw [show tkP p n = tkB (slot0 p) n from by unfold tkP; rw [hm]; rfl] at this
    exact this
  have HTU : Hid (∀ n : Nat, 1 ≤ n → n ≤ 2048 → ∀ wx, Below w.heap.size w wx → Calls Try.prog 22 #[p.val a c, .int .u32 n] wx fun e w' => e = .returned (turnV (slot0 p) n) ∧ Below wx.heap.size wx w') := fun n h1 h2 wx k => turn_any' (h.below k) hm n h1 h2
  have HRM : Hid ((if room < 2048 then room else 2048).toNat = roomN room) := rfl
  have hR := roomN_le room
  have HE : Hid (takeE p room = if takeN p room = 0 then 20 else 0) := by show _ = _; unfold takeE; rw [hm]; rfl
  have HN : Hid (freeF (slot0 p) (roomN room) 0 = takeN p room) := rfl
  rw [HE.out]
  clear HE
  obtain ⟨E, V, HEV, hE, hV⟩ : ∃ E V, Hid ((takeN p room = 0 → E = 20 ∧ V = opZ) ∧ (takeN p room ≠ 0 → E = 0 ∧ V = turnV (slot0 p) (takeN p room))) ∧ (if takeN p room = 0 then 20 else 0) = E ∧ toldO E p (takeN p room) = V := ⟨_, _, ⟨fun h => ⟨if_pos h, by rw [if_pos h]; rfl⟩, fun h => ⟨if_neg h, by rw [if_neg h]; rfl⟩⟩, rfl, rfl⟩
  rw [hE, hV]
  clear hE hV
  obtain ⟨W, HW⟩ : ∃ W, Hid (W = boxPO p a c w) := ⟨_, rfl⟩
  have hin : PageIn p a c w W := by rw [HW.out]; exact boxPO_in p a c w
  have hop : OpIn (w.heap.size + 1) W := by rw [HW.out]; exact boxPO_op p a c w
  unfold boxPO boxP at HW
  clear h
  rw [hm] at HIS
  clear hm
  by_cases c0 : room ≤ 2048
  · have hRr : room.toNat = roomN room := by rw [← HRM.out]; split <;> omega
    clear HRM
    generalize takeN p room = N at *
    generalize roomN room = R at *
    unfold SheetV.val at HIS HTK HTU ⊢
    go_enter Try.func11, Try.ntmps11
    go_wp2_with fail
    rw [← HW.out]
    clear HW
    refine (HIS.out _ hin.bel).mono ?_
    rintro e w1 ⟨rfl, b1⟩
    have HT0 : Hid (TakeAt p a c w w1 R N 0) := ⟨hin.below b1, hop.below b1, HN.out⟩
    clear b1 hin hop HIS HN
    go_wp2_with fail
    go_loopw [15] (fun i wr => ∃ k : Nat, k ≤ R ∧ i = .int .i64 k ∧ Hid (TakeAt p a c w wr R N k)) (fun i _ => R - (intOf i).toNat)
    case atStart => exact ⟨0, Nat.zero_le _, rfl, HT0⟩
    case round =>
      obtain ⟨k, hk, rfl, HT⟩ := hrel
      clear HT0
      obtain ⟨x0, x1, x2, x3, x4⟩ : _ ∧ _ ∧ _ ∧ _ ∧ _ := ⟨HT.out.page.c0, HT.out.page.c1, HT.out.page.c2, HT.out.page.c3, HT.out.page.c4⟩
      by_cases hlt : k < R
      · have hlt' : (k : Int) < room := by omega
        have HF := HT.out.free
        obtain ⟨f, hf⟩ : ∃ f, R - k = f + 1 := ⟨R - k - 1, by omega⟩
        rw [hf] at HF
        by_cases c2 : tkB (slot0 p) (k + 1) = true
        · rw [freeF_tk _ _ _ c2, show f = R - (k + 1) from by omega] at HF
          have HF' : Hid (freeF (slot0 p) (R - (k + 1)) (k + 1) = N) := HF
          clear hf HF
          have HK := HTK.out (k + 1) (by omega)
          rw [c2] at HK
          have HK' : Hid (∀ wx, Below w.heap.size w wx → Calls Try.prog 15 #[.agg #[.int .u32 p.num, .int .u64 p.lsn, .int .i64 p.kind, .string p.head, .slice a p.slots.length c], .int .u32 ((k + 1 : Nat) : Int)] wx fun e w' => e = .returned (.bool true) ∧ Below wx.heap.size wx w') := HK
          clear HK
          go_wp2_with fail
          refine (HK'.out _ HT.out.page.bel).mono ?_
          rintro e w2 ⟨rfl, b2⟩
          have HT2 : Hid (TakeAt p a c w w2 R N (k + 1)) := ⟨HT.out.page.below b2, HT.out.op.below b2, HF'.out⟩
          go_wp2
          go_roundw
          case rel => exact ⟨k + 1, by omega, by go_num, HT2⟩
          case measure => simp [intOf]; omega
        · have c2' : tkB (slot0 p) (k + 1) = false := by simpa using c2
          rw [freeF_no _ _ _ c2'] at HF
          subst HF
          clear hf
          have HK := HTK.out (k + 1) (by omega)
          rw [c2'] at HK
          have HK' : Hid (∀ wx, Below w.heap.size w wx → Calls Try.prog 15 #[.agg #[.int .u32 p.num, .int .u64 p.lsn, .int .i64 p.kind, .string p.head, .slice a p.slots.length c], .int .u32 ((k + 1 : Nat) : Int)] wx fun e w' => e = .returned (.bool false) ∧ Below wx.heap.size wx w') := HK
          have HU := HTU.out (k + 1) (by omega) (by omega)
          obtain ⟨rfl, rfl⟩ := HEV.out.2 (by omega)
          obtain ⟨A, HA⟩ : ∃ A, Hid (((atN (k + 1) : Nat) : Int) = A) := ⟨_, rfl⟩
          obtain ⟨S1, HS1⟩ : ∃ S1, Hid (one (bytN (slot0 p) (atN (k + 1)) ^^^ pwN (k + 1)) = S1) := ⟨_, rfl⟩
          obtain ⟨S2, HS2⟩ : ∃ S2, Hid (one (bytN (slot0 p) (atN (k + 1))) = S2) := ⟨_, rfl⟩
          have HTV : Hid (turnV (slot0 p) (k + 1) = .agg #[.int .i64 6, .int .i64 A, .string S1, .string S2]) := by show _ = _; unfold turnV; rw [HA.out, HS1.out, HS2.out]
          rw [HTV.out] at HU
          have HU' : Hid (∀ wx, Below w.heap.size w wx → Calls Try.prog 22 #[.agg #[.int .u32 p.num, .int .u64 p.lsn, .int .i64 p.kind, .string p.head, .slice a p.slots.length c], .int .u32 ((k + 1 : Nat) : Int)] wx fun e w' => e = .returned (.agg #[.int .i64 6, .int .i64 A, .string S1, .string S2]) ∧ Below wx.heap.size wx w') := HU
          clear HK HU HA HS1 HS2
          go_wp2_with fail
          refine (HK'.out _ HT.out.page.bel).mono ?_
          rintro e w2 ⟨rfl, b2⟩
          have h2 := HT.out.page.below b2
          have o2 := HT.out.op.below b2
          clear b2 HT x0 x1 x2 x3 x4
          obtain ⟨x0, x1, x2, x3, x4⟩ : _ ∧ _ ∧ _ ∧ _ ∧ _ := ⟨h2.c0, h2.c1, h2.c2, h2.c3, h2.c4⟩
          go_wp2_with fail
          refine (HU'.out _ h2.bel).mono ?_
          rintro e w3 ⟨rfl, b3⟩
          have h3 := h2.below b3
          have o3 := o2.below b3
          clear b3 h2 o2 x0 x1 x2 x3 x4
          obtain ⟨y0, y1, y2, y3, g0, g1, g2, g3⟩ : _ ∧ _ ∧ _ ∧ _ ∧ _ ∧ _ ∧ _ ∧ _ := ⟨o3.c0, o3.c1, o3.c2, o3.c3, o3.f0, o3.f1, o3.f2, o3.f3⟩
          go_wp2
          refine bodyPost_ret (v := .tuple #[.int .u32 ((k + 1 : Nat) : Int), .agg #[.int .i64 6, .int .i64 A, .string S1, .string S2], .int .i64 0]) (by simp [results, Try.results11, go_sem, y0, y1, y2, y3]) rfl ⟨by rw [HTV.out], below_op h3.bel _ _ _ _⟩
      · have hlt' : ¬ (k : Int) < room := by omega
        have HF := HT.out.free
        rw [show R - k = 0 from by omega] at HF
        obtain rfl : 0 = N := HF
        have h3 := HT.out.page
        have o3 := HT.out.op
        clear HT x0 x1 x2 x3 x4
        obtain ⟨y0, y1, y2, y3, g0, g1, g2, g3⟩ : _ ∧ _ ∧ _ ∧ _ ∧ _ ∧ _ ∧ _ ∧ _ := ⟨o3.c0, o3.c1, o3.c2, o3.c3, o3.f0, o3.f1, o3.f2, o3.f3⟩
        obtain ⟨rfl, rfl⟩ := HEV.out.1 rfl
        go_wp2
        refine bodyPost_ret (v := .tuple #[.int .u32 0, .agg #[.int .i64 0, .int .i64 0, .string ⟨#[]⟩, .string ⟨#[]⟩], .int .i64 20]) (by simp [results, Try.results11, go_sem, y0, y1, y2, y3]) rfl ⟨rfl, below_op h3.bel _ _ _ _⟩
  · have hRr : 2048 = roomN room := by rw [← HRM.out]; split <;> omega
    clear HRM
    generalize takeN p room = N at *
    generalize roomN room = R at *
    unfold SheetV.val at HIS HTK HTU ⊢
    go_enter Try.func11, Try.ntmps11
    go_wp2_with fail
    rw [← HW.out]
    clear HW
    refine (HIS.out _ hin.bel).mono ?_
    rintro e w1 ⟨rfl, b1⟩
    have HT0 : Hid (TakeAt p a c w w1 R N 0) := ⟨hin.below b1, hop.below b1, HN.out⟩
    clear b1 hin hop HIS HN
    go_wp2_with fail
    go_loopw [15] (fun i wr => ∃ k : Nat, k ≤ R ∧ i = .int .i64 k ∧ Hid (TakeAt p a c w wr R N k)) (fun i _ => R - (intOf i).toNat)
    case atStart => exact ⟨0, Nat.zero_le _, rfl, HT0⟩
    case round =>
      obtain ⟨k, hk, rfl, HT⟩ := hrel
      clear HT0
      obtain ⟨x0, x1, x2, x3, x4⟩ : _ ∧ _ ∧ _ ∧ _ ∧ _ := ⟨HT.out.page.c0, HT.out.page.c1, HT.out.page.c2, HT.out.page.c3, HT.out.page.c4⟩
      by_cases hlt : k < R
      · have hlt' : (k : Int) < 2048 := by omega
        have HF := HT.out.free
        obtain ⟨f, hf⟩ : ∃ f, R - k = f + 1 := ⟨R - k - 1, by omega⟩
        rw [hf] at HF
        by_cases c2 : tkB (slot0 p) (k + 1) = true
        · rw [freeF_tk _ _ _ c2, show f = R - (k + 1) from by omega] at HF
          have HF' : Hid (freeF (slot0 p) (R - (k + 1)) (k + 1) = N) := HF
          clear hf HF
          have HK := HTK.out (k + 1) (by omega)
          rw [c2] at HK
          have HK' : Hid (∀ wx, Below w.heap.size w wx → Calls Try.prog 15 #[.agg #[.int .u32 p.num, .int .u64 p.lsn, .int .i64 p.kind, .string p.head, .slice a p.slots.length c], .int .u32 ((k + 1 : Nat) : Int)] wx fun e w' => e = .returned (.bool true) ∧ Below wx.heap.size wx w') := HK
          clear HK
          go_wp2_with fail
          refine (HK'.out _ HT.out.page.bel).mono ?_
          rintro e w2 ⟨rfl, b2⟩
          have HT2 : Hid (TakeAt p a c w w2 R N (k + 1)) := ⟨HT.out.page.below b2, HT.out.op.below b2, HF'.out⟩
          go_wp2
          go_roundw
          case rel => exact ⟨k + 1, by omega, by go_num, HT2⟩
          case measure => simp [intOf]; omega
        · have c2' : tkB (slot0 p) (k + 1) = false := by simpa using c2
          rw [freeF_no _ _ _ c2'] at HF
          subst HF
          clear hf
          have HK := HTK.out (k + 1) (by omega)
          rw [c2'] at HK
          have HK' : Hid (∀ wx, Below w.heap.size w wx → Calls Try.prog 15 #[.agg #[.int .u32 p.num, .int .u64 p.lsn, .int .i64 p.kind, .string p.head, .slice a p.slots.length c], .int .u32 ((k + 1 : Nat) : Int)] wx fun e w' => e = .returned (.bool false) ∧ Below wx.heap.size wx w') := HK
          have HU := HTU.out (k + 1) (by omega) (by omega)
          obtain ⟨rfl, rfl⟩ := HEV.out.2 (by omega)
          obtain ⟨A, HA⟩ : ∃ A, Hid (((atN (k + 1) : Nat) : Int) = A) := ⟨_, rfl⟩
          obtain ⟨S1, HS1⟩ : ∃ S1, Hid (one (bytN (slot0 p) (atN (k + 1)) ^^^ pwN (k + 1)) = S1) := ⟨_, rfl⟩
          obtain ⟨S2, HS2⟩ : ∃ S2, Hid (one (bytN (slot0 p) (atN (k + 1))) = S2) := ⟨_, rfl⟩
          have HTV : Hid (turnV (slot0 p) (k + 1) = .agg #[.int .i64 6, .int .i64 A, .string S1, .string S2]) := by show _ = _; unfold turnV; rw [HA.out, HS1.out, HS2.out]
          rw [HTV.out] at HU
          have HU' : Hid (∀ wx, Below w.heap.size w wx → Calls Try.prog 22 #[.agg #[.int .u32 p.num, .int .u64 p.lsn, .int .i64 p.kind, .string p.head, .slice a p.slots.length c], .int .u32 ((k + 1 : Nat) : Int)] wx fun e w' => e = .returned (.agg #[.int .i64 6, .int .i64 A, .string S1, .string S2]) ∧ Below wx.heap.size wx w') := HU
          clear HK HU HA HS1 HS2
          go_wp2_with fail
          refine (HK'.out _ HT.out.page.bel).mono ?_
          rintro e w2 ⟨rfl, b2⟩
          have h2 := HT.out.page.below b2
          have o2 := HT.out.op.below b2
          clear b2 HT x0 x1 x2 x3 x4
          obtain ⟨x0, x1, x2, x3, x4⟩ : _ ∧ _ ∧ _ ∧ _ ∧ _ := ⟨h2.c0, h2.c1, h2.c2, h2.c3, h2.c4⟩
          go_wp2_with fail
          refine (HU'.out _ h2.bel).mono ?_
          rintro e w3 ⟨rfl, b3⟩
          have h3 := h2.below b3
          have o3 := o2.below b3
          clear b3 h2 o2 x0 x1 x2 x3 x4
          obtain ⟨y0, y1, y2, y3, g0, g1, g2, g3⟩ : _ ∧ _ ∧ _ ∧ _ ∧ _ ∧ _ ∧ _ ∧ _ := ⟨o3.c0, o3.c1, o3.c2, o3.c3, o3.f0, o3.f1, o3.f2, o3.f3⟩
          go_wp2
          refine bodyPost_ret (v := .tuple #[.int .u32 ((k + 1 : Nat) : Int), .agg #[.int .i64 6, .int .i64 A, .string S1, .string S2], .int .i64 0]) (by simp [results, Try.results11, go_sem, y0, y1, y2, y3]) rfl ⟨by rw [HTV.out], below_op h3.bel _ _ _ _⟩
      · have hlt' : ¬ (k : Int) < 2048 := by omega
        have HF := HT.out.free
        rw [show R - k = 0 from by omega] at HF
        obtain rfl : 0 = N := HF
        have h3 := HT.out.page
        have o3 := HT.out.op
        clear HT x0 x1 x2 x3 x4
        obtain ⟨y0, y1, y2, y3, g0, g1, g2, g3⟩ : _ ∧ _ ∧ _ ∧ _ ∧ _ ∧ _ ∧ _ ∧ _ := ⟨o3.c0, o3.c1, o3.c2, o3.c3, o3.f0, o3.f1, o3.f2, o3.f3⟩
        obtain ⟨rfl, rfl⟩ := HEV.out.1 rfl
        go_wp2
        refine bodyPost_ret (v := .tuple #[.int .u32 0, .agg #[.int .i64 0, .int .i64 0, .string ⟨#[]⟩, .string ⟨#[]⟩], .int .i64 20]) (by simp [results, Try.results11, go_sem, y0, y1, y2, y3]) rfl ⟨rfl, below_op h3.bel _ _ _ _⟩

end
end Go.Proofs.Ytkknglcckjhngaa
