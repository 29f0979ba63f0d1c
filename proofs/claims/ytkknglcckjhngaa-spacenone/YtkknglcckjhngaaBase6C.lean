/-
  The walk of space.Take.
  The laying of a contract of the library's shelf at this program's numbers (plain text by the library's own command).
  The walk of space.Count.
  The walk of space.All.
  The walk of space.Fresh: the map with its first pages taken.
  The walk of PageRoom.
  The walk of PageRoom.
  page.change of an OpFormat; page.Apply of one.
-/
import Derived.Test.YtkknglcckjhngaaBase5C
import Derived.Test.YtkknglcckjhngaaProg
import Derived.Shelf.Small.Bits
import Derived.Deep.DeepAppendRoom
import Derived.OwnWalk
import Derived.Test.YtkknglcckjhngaaBase1C
import Derived.Test.YtkknglcckjhngaaBase3C
import Derived.StillTailTactics
namespace Go.Proofs.Ytkknglcckjhngaa
open Go.RowKit
set_option linter.unusedVariables false

/-- How many pages Take looks at. -/
def roomN (room : Int) : Nat := (if room < 2048 then room else 2048).toNat

theorem roomN_le (room : Int) : roomN room ≤ 2048 := by unfold roomN; split <;> omega

/-- The page that Take tells, its error. -/
def takeN (p : SheetV) (room : Int) : Nat := freeF (slot0 p) (roomN room) 0
def takeE (p : SheetV) (room : Int) : Int := if isB p then (if takeN p room = 0 then 20 else 0) else 70

theorem freeF_tk (s : ByteArray) (f k : Nat) (h : tkB s (k + 1) = true) : freeF s (f + 1) k = freeF s f (k + 1) := by simp [freeF, h]
theorem freeF_no (s : ByteArray) (f k : Nat) (h : tkB s (k + 1) = false) : freeF s (f + 1) k = k + 1 := by simp [freeF, h]

/-- Where Take's loop stands. -/
structure TakeAt (p : SheetV) (a : Option Addr) (c : Nat) (w wx : World) (R N k : Nat) : Prop where
  page : PageIn p a c w wx
  op : OpIn (w.heap.size + 1) wx
  free : freeF (slot0 p) (R - k) k = N

section
variable {p : SheetV} {a : Option Addr} {c : Nat} {w : World}

set_option maxHeartbeats 800000 in
theorem take_no (h : p.Lies w a) (room : Int) (hm : isB p = false) :
    Calls Try.prog 11 #[p.val a c, .int .i64 room] w fun e w' => e = .returned (.tuple #[.int .u32 0, opZ, .int .i64 70]) ∧ Below w.heap.size w w' := by
  have HIS : Hid (∀ wx, Below w.heap.size w wx → Calls Try.prog 14 #[p.val a c] wx fun e w' => e = .returned (.bool (isB p)) ∧ Below wx.heap.size wx w') := fun wx k => is_any (h.below k)
  obtain ⟨W, HW⟩ : ∃ W, Hid (W = boxPO p a c w) := ⟨_, rfl⟩
  have hin : PageIn p a c w W := by rw [HW.out]; exact boxPO_in p a c w
  have hop : OpIn (w.heap.size + 1) W := by rw [HW.out]; exact boxPO_op p a c w
  unfold boxPO boxP at HW
  clear h
  unfold opZ
  rw [hm] at HIS
  unfold SheetV.val at HIS ⊢
  go_enter Try.func11, Try.ntmps11
  go_wp2_with fail
  rw [← HW.out]
  clear HW
  refine (HIS.out _ hin.bel).mono ?_
  rintro e w1 ⟨rfl, b1⟩
  have h1 := hin.below b1
  have o1 := hop.below b1
  clear b1 hin hop HIS
  obtain ⟨y0, y1, y2, y3, g0, g1, g2, g3⟩ : _ ∧ _ ∧ _ ∧ _ ∧ _ ∧ _ ∧ _ ∧ _ := ⟨o1.c0, o1.c1, o1.c2, o1.c3, o1.f0, o1.f1, o1.f2, o1.f3⟩
  go_wp2
  refine bodyPost_ret (v := .tuple #[.int .u32 0, .agg #[.int .i64 0, .int .i64 0, .string ⟨#[]⟩, .string ⟨#[]⟩], .int .i64 70]) (by simp [results, Try.results11, go_sem, y0, y1, y2, y3]) rfl ⟨rfl, below_op h1.bel _ _ _ _⟩

set_option maxHeartbeats 1600000 in
theorem take_map (h : p.Lies w a) (room : Int) (hm : isB p = true) (hr1 : -9223372036854775808 ≤ room) (hr2 : room ≤ 9223372036854775807) :
    Calls Try.prog 11 #[p.val a c, .int .i64 room] w fun e w' => e = .returned (.tuple #[.int .u32 (takeN p room), toldO (takeE p room) p (takeN p room), .int .i64 (takeE p room)]) ∧ Below w.heap.size w w' := by
  have HIS : Hid (∀ wx, Below w.heap.size w wx → Calls Try.prog 14 #[p.val a c] wx fun e w' => e = .returned (.bool (isB p)) ∧ Below wx.heap.size wx w') := fun wx k => is_any (h.below k)
  have HTK : Hid (∀ n : Nat, n < 4294967296 → ∀ wx, Below w.heap.size w wx → Calls Try.prog 15 #[p.val a c, .int .u32 n] wx fun e w' => e = .returned (.bool (tkB (slot0 p) n)) ∧ Below wx.heap.size wx w') := fun n hn wx k => by
    have := taken_any (c := c) (h.below k) n hn
    rw [show tkP p n = tkB (slot0 p) n from by unfold tkP; rw [hm]; rfl] at this
    exact this
  have HTU : Hid (∀ n : Nat, 1 ≤ n → n ≤ 2048 → ∀ wx, Below w.heap.size w wx → Calls Try.prog 22 #[p.val a c, .int .u32 n] wx fun e w' => e = .returned (turnV (slot0 p) n) ∧ Below wx.heap.size wx w') := fun n h1 h2 wx k => turn_any' (h.below k) hm n h1 h2
  have HRM : Hid ((if room < 2048 then room else 2048).toNat = roomN room) := rfl
  have hR := roomN_le room
  have HE : Hid (takeE p room = if takeN p room = 0 then 20 else 0) := by show _ = _; unfold takeE; rw [hm]; rfl
  have HN : Hid (freeF (slot0 p) (roomN room) 0 = takeN p room) := rfl
  rw [HE.out]
  clear HE
  obtain ⟨E, V, HEV, hE, hV⟩ : ∃ E V, Hid ((takeN p room = 0 → E = 20 ∧ V = opZ) ∧ (takeN p room ≠ 0 → E = 0 ∧ V = turnV (slot0 p) (takeN p room))) ∧ (if takeN p room = 0 then 20 else 0) = E ∧ toldO E p (takeN p room) = V := ⟨_, _, ⟨fun h => ⟨if_pos h, by rw [if_pos h]; rfl⟩, fun h => ⟨if_neg h, by rw [if_neg h]; rfl⟩⟩, rfl, rfl⟩
  rw [hE, hV]
  clear hE hV
  obtain ⟨W, HW⟩ : ∃ W, Hid (W = boxPO p a c w) := ⟨_, rfl⟩
  have hin : PageIn p a c w W := by rw [HW.out]; exact boxPO_in p a c w
  have hop : OpIn (w.heap.size + 1) W := by rw [HW.out]; exact boxPO_op p a c w
  unfold boxPO boxP at HW
  clear h
  rw [hm] at HIS
  clear hm
  by_cases c0 : room ≤ 2048
  · have hRr : room.toNat = roomN room := by rw [← HRM.out]; split <;> omega
    clear HRM
    generalize takeN p room = N at *
    generalize roomN room = R at *
    unfold SheetV.val at HIS HTK HTU ⊢
    go_enter Try.func11, Try.ntmps11
    go_wp2_with fail
    rw [← HW.out]
    clear HW
    refine (HIS.out _ hin.bel).mono ?_
    rintro e w1 ⟨rfl, b1⟩
    have HT0 : Hid (TakeAt p a c w w1 R N 0) := ⟨hin.below b1, hop.below b1, HN.out⟩
    clear b1 hin hop HIS HN
    go_wp2_with fail
    go_loopw [15] (fun i wr => ∃ k : Nat, k ≤ R ∧ i = .int .i64 k ∧ Hid (TakeAt p a c w wr R N k)) (fun i _ => R - (intOf i).toNat)
    case atStart => exact ⟨0, Nat.zero_le _, rfl, HT0⟩
    case round =>
      obtain ⟨k, hk, rfl, HT⟩ := hrel
      clear HT0
      obtain ⟨x0, x1, x2, x3, x4⟩ : _ ∧ _ ∧ _ ∧ _ ∧ _ := ⟨HT.out.page.c0, HT.out.page.c1, HT.out.page.c2, HT.out.page.c3, HT.out.page.c4⟩
      by_cases hlt : k < R
      · have hlt' : (k : Int) < room := by omega
        have HF := HT.out.free
        obtain ⟨f, hf⟩ : ∃ f, R - k = f + 1 := ⟨R - k - 1, by omega⟩
        rw [hf] at HF
        by_cases c2 : tkB (slot0 p) (k + 1) = true
        · rw [freeF_tk _ _ _ c2, show f = R - (k + 1) from by omega] at HF
          have HF' : Hid (freeF (slot0 p) (R - (k + 1)) (k + 1) = N) := HF
          clear hf HF
          have HK := HTK.out (k + 1) (by omega)
          rw [c2] at HK
          have HK' : Hid (∀ wx, Below w.heap.size w wx → Calls Try.prog 15 #[.agg #[.int .u32 p.num, .int .u64 p.lsn, .int .i64 p.kind, .string p.head, .slice a p.slots.length c], .int .u32 ((k + 1 : Nat) : Int)] wx fun e w' => e = .returned (.bool true) ∧ Below wx.heap.size wx w') := HK
          clear HK
          go_wp2_with fail
          refine (HK'.out _ HT.out.page.bel).mono ?_
          rintro e w2 ⟨rfl, b2⟩
          have HT2 : Hid (TakeAt p a c w w2 R N (k + 1)) := ⟨HT.out.page.below b2, HT.out.op.below b2, HF'.out⟩
          go_wp2
          go_roundw
          case rel => exact ⟨k + 1, by omega, by go_num, HT2⟩
          case measure => simp [intOf]; omega
        · have c2' : tkB (slot0 p) (k + 1) = false := by simpa using c2
          rw [freeF_no _ _ _ c2'] at HF
          subst HF
          clear hf
          have HK := HTK.out (k + 1) (by omega)
          rw [c2'] at HK
          have HK' : Hid (∀ wx, Below w.heap.size w wx → Calls Try.prog 15 #[.agg #[.int .u32 p.num, .int .u64 p.lsn, .int .i64 p.kind, .string p.head, .slice a p.slots.length c], .int .u32 ((k + 1 : Nat) : Int)] wx fun e w' => e = .returned (.bool false) ∧ Below wx.heap.size wx w') := HK
          have HU := HTU.out (k + 1) (by omega) (by omega)
          obtain ⟨rfl, rfl⟩ := HEV.out.2 (by omega)
          obtain ⟨A, HA⟩ : ∃ A, Hid (((atN (k + 1) : Nat) : Int) = A) := ⟨_, rfl⟩
          obtain ⟨S1, HS1⟩ : ∃ S1, Hid (one (bytN (slot0 p) (atN (k + 1)) ^^^ pwN (k + 1)) = S1) := ⟨_, rfl⟩
          obtain ⟨S2, HS2⟩ : ∃ S2, Hid (one (bytN (slot0 p) (atN (k + 1))) = S2) := ⟨_, rfl⟩
          have HTV : Hid (turnV (slot0 p) (k + 1) = .agg #[.int .i64 6, .int .i64 A, .string S1, .string S2]) := by show _ = _; unfold turnV; rw [HA.out, HS1.out, HS2.out]
          rw [HTV.out] at HU
          have HU' : Hid (∀ wx, Below w.heap.size w wx → Calls Try.prog 22 #[.agg #[.int .u32 p.num, .int .u64 p.lsn, .int .i64 p.kind, .string p.head, .slice a p.slots.length c], .int .u32 ((k + 1 : Nat) : Int)] wx fun e w' => e = .returned (.agg #[.int .i64 6, .int .i64 A, .string S1, .string S2]) ∧ Below wx.heap.size wx w') := HU
          clear HK HU HA HS1 HS2
          go_wp2_with fail
          refine (HK'.out _ HT.out.page.bel).mono ?_
          rintro e w2 ⟨rfl, b2⟩
          have h2 := HT.out.page.below b2
          have o2 := HT.out.op.below b2
          clear b2 HT x0 x1 x2 x3 x4
          obtain ⟨x0, x1, x2, x3, x4⟩ : _ ∧ _ ∧ _ ∧ _ ∧ _ := ⟨h2.c0, h2.c1, h2.c2, h2.c3, h2.c4⟩
          go_wp2_with fail
          refine (HU'.out _ h2.bel).mono ?_
          rintro e w3 ⟨rfl, b3⟩
          have h3 := h2.below b3
          have o3 := o2.below b3
          clear b3 h2 o2 x0 x1 x2 x3 x4
          obtain ⟨y0, y1, y2, y3, g0, g1, g2, g3⟩ : _ ∧ _ ∧ _ ∧ _ ∧ _ ∧ _ ∧ _ ∧ _ := ⟨o3.c0, o3.c1, o3.c2, o3.c3, o3.f0, o3.f1, o3.f2, o3.f3⟩
          go_wp2
          refine bodyPost_ret (v := .tuple #[.int .u32 ((k + 1 : Nat) : Int), .agg #[.int .i64 6, .int .i64 A, .string S1, .string S2], .int .i64 0]) (by simp [results, Try.results11, go_sem, y0, y1, y2, y3]) rfl ⟨by rw [HTV.out], below_op h3.bel _ _ _ _⟩
      · have hlt' : ¬ (k : Int) < room := by omega
        have HF := HT.out.free
        rw [show R - k = 0 from by omega] at HF
        obtain rfl : 0 = N := HF
        have h3 := HT.out.page
        have o3 := HT.out.op
        clear HT x0 x1 x2 x3 x4
        obtain ⟨y0, y1, y2, y3, g0, g1, g2, g3⟩ : _ ∧ _ ∧ _ ∧ _ ∧ _ ∧ _ ∧ _ ∧ _ := ⟨o3.c0, o3.c1, o3.c2, o3.c3, o3.f0, o3.f1, o3.f2, o3.f3⟩
        obtain ⟨rfl, rfl⟩ := HEV.out.1 rfl
        go_wp2
        refine bodyPost_ret (v := .tuple #[.int .u32 0, .agg #[.int .i64 0, .int .i64 0, .string ⟨#[]⟩, .string ⟨#[]⟩], .int .i64 20]) (by simp [results, Try.results11, go_sem, y0, y1, y2, y3]) rfl ⟨rfl, below_op h3.bel _ _ _ _⟩
  · have hRr : 2048 = roomN room := by rw [← HRM.out]; split <;> omega
    clear HRM
    generalize takeN p room = N at *
    generalize roomN room = R at *
    unfold SheetV.val at HIS HTK HTU ⊢
    go_enter Try.func11, Try.ntmps11
    go_wp2_with fail
    rw [← HW.out]
    clear HW
    refine (HIS.out _ hin.bel).mono ?_
    rintro e w1 ⟨rfl, b1⟩
    have HT0 : Hid (TakeAt p a c w w1 R N 0) := ⟨hin.below b1, hop.below b1, HN.out⟩
    clear b1 hin hop HIS HN
    go_wp2_with fail
    go_loopw [15] (fun i wr => ∃ k : Nat, k ≤ R ∧ i = .int .i64 k ∧ Hid (TakeAt p a c w wr R N k)) (fun i _ => R - (intOf i).toNat)
    case atStart => exact ⟨0, Nat.zero_le _, rfl, HT0⟩
    case round =>
      obtain ⟨k, hk, rfl, HT⟩ := hrel
      clear HT0
      obtain ⟨x0, x1, x2, x3, x4⟩ : _ ∧ _ ∧ _ ∧ _ ∧ _ := ⟨HT.out.page.c0, HT.out.page.c1, HT.out.page.c2, HT.out.page.c3, HT.out.page.c4⟩
      by_cases hlt : k < R
      · have hlt' : (k : Int) < 2048 := by omega
        have HF := HT.out.free
        obtain ⟨f, hf⟩ : ∃ f, R - k = f + 1 := ⟨R - k - 1, by omega⟩
        rw [hf] at HF
        by_cases c2 : tkB (slot0 p) (k + 1) = true
        · rw [freeF_tk _ _ _ c2, show f = R - (k + 1) from by omega] at HF
          have HF' : Hid (freeF (slot0 p) (R - (k + 1)) (k + 1) = N) := HF
          clear hf HF
          have HK := HTK.out (k + 1) (by omega)
          rw [c2] at HK
          have HK' : Hid (∀ wx, Below w.heap.size w wx → Calls Try.prog 15 #[.agg #[.int .u32 p.num, .int .u64 p.lsn, .int .i64 p.kind, .string p.head, .slice a p.slots.length c], .int .u32 ((k + 1 : Nat) : Int)] wx fun e w' => e = .returned (.bool true) ∧ Below wx.heap.size wx w') := HK
          clear HK
          go_wp2_with fail
          refine (HK'.out _ HT.out.page.bel).mono ?_
          rintro e w2 ⟨rfl, b2⟩
          have HT2 : Hid (TakeAt p a c w w2 R N (k + 1)) := ⟨HT.out.page.below b2, HT.out.op.below b2, HF'.out⟩
          go_wp2
          go_roundw
          case rel => exact ⟨k + 1, by omega, by go_num, HT2⟩
          case measure => simp [intOf]; omega
        · have c2' : tkB (slot0 p) (k + 1) = false := by simpa using c2
          rw [freeF_no _ _ _ c2'] at HF
          subst HF
          clear hf
          have HK := HTK.out (k + 1) (by omega)
          rw [c2'] at HK
          have HK' : Hid (∀ wx, Below w.heap.size w wx → Calls Try.prog 15 #[.agg #[.int .u32 p.num, .int .u64 p.lsn, .int .i64 p.kind, .string p.head, .slice a p.slots.length c], .int .u32 ((k + 1 : Nat) : Int)] wx fun e w' => e = .returned (.bool false) ∧ Below wx.heap.size wx w') := HK
          have HU := HTU.out (k + 1) (by omega) (by omega)
          obtain ⟨rfl, rfl⟩ := HEV.out.2 (by omega)
          obtain ⟨A, HA⟩ : ∃ A, Hid (((atN (k + 1) : Nat) : Int) = A) := ⟨_, rfl⟩
          obtain ⟨S1, HS1⟩ : ∃ S1, Hid (one (bytN (slot0 p) (atN (k + 1)) ^^^ pwN (k + 1)) = S1) := ⟨_, rfl⟩
          obtain ⟨S2, HS2⟩ : ∃ S2, Hid (one (bytN (slot0 p) (atN (k + 1))) = S2) := ⟨_, rfl⟩
          have HTV : Hid (turnV (slot0 p) (k + 1) = .agg #[.int .i64 6, .int .i64 A, .string S1, .string S2]) := by show _ = _; unfold turnV; rw [HA.out, HS1.out, HS2.out]
          rw [HTV.out] at HU
          have HU' : Hid (∀ wx, Below w.heap.size w wx → Calls Try.prog 22 #[.agg #[.int .u32 p.num, .int .u64 p.lsn, .int .i64 p.kind, .string p.head, .slice a p.slots.length c], .int .u32 ((k + 1 : Nat) : Int)] wx fun e w' => e = .returned (.agg #[.int .i64 6, .int .i64 A, .string S1, .string S2]) ∧ Below wx.heap.size wx w') := HU
          clear HK HU HA HS1 HS2
          go_wp2_with fail
          refine (HK'.out _ HT.out.page.bel).mono ?_
          rintro e w2 ⟨rfl, b2⟩
          have h2 := HT.out.page.below b2
          have o2 := HT.out.op.below b2
          clear b2 HT x0 x1 x2 x3 x4
          obtain ⟨x0, x1, x2, x3, x4⟩ : _ ∧ _ ∧ _ ∧ _ ∧ _ := ⟨h2.c0, h2.c1, h2.c2, h2.c3, h2.c4⟩
          go_wp2_with fail
          refine (HU'.out _ h2.bel).mono ?_
          rintro e w3 ⟨rfl, b3⟩
          have h3 := h2.below b3
          have o3 := o2.below b3
          clear b3 h2 o2 x0 x1 x2 x3 x4
          obtain ⟨y0, y1, y2, y3, g0, g1, g2, g3⟩ : _ ∧ _ ∧ _ ∧ _ ∧ _ ∧ _ ∧ _ ∧ _ := ⟨o3.c0, o3.c1, o3.c2, o3.c3, o3.f0, o3.f1, o3.f2, o3.f3⟩
          go_wp2
          refine bodyPost_ret (v := .tuple #[.int .u32 ((k + 1 : Nat) : Int), .agg #[.int .i64 6, .int .i64 A, .string S1, .string S2], .int .i64 0]) (by simp [results, Try.results11, go_sem, y0, y1, y2, y3]) rfl ⟨by rw [HTV.out], below_op h3.bel _ _ _ _⟩
      · have hlt' : ¬ (k : Int) < 2048 := by omega
        have HF := HT.out.free
        rw [show R - k = 0 from by omega] at HF
        obtain rfl : 0 = N := HF
        have h3 := HT.out.page
        have o3 := HT.out.op
        clear HT x0 x1 x2 x3 x4
        obtain ⟨y0, y1, y2, y3, g0, g1, g2, g3⟩ : _ ∧ _ ∧ _ ∧ _ ∧ _ ∧ _ ∧ _ ∧ _ := ⟨o3.c0, o3.c1, o3.c2, o3.c3, o3.f0, o3.f1, o3.f2, o3.f3⟩
        obtain ⟨rfl, rfl⟩ := HEV.out.1 rfl
        go_wp2
        refine bodyPost_ret (v := .tuple #[.int .u32 0, .agg #[.int .i64 0, .int .i64 0, .string ⟨#[]⟩, .string ⟨#[]⟩], .int .i64 20]) (by simp [results, Try.results11, go_sem, y0, y1, y2, y3]) rfl ⟨rfl, below_op h3.bel _ _ _ _⟩

end
end Go.Proofs.Ytkknglcckjhngaa

namespace Go.Proofs.Ytkknglcckjhngaa
open Go.Shelf

def shOnes_ren : Go.Shelf.Ren := ⟨fun | 135 => 28 | n => n, fun | 5 => 5 | 3 => 3 | 9 => 9 | n => n, fun | n => n⟩
theorem shOnes : Go.Proofs.Lays.n135 Try.prog shOnes_ren := {
  mixed := by kernel_rfl
  f135 := Try.func28.trans (congrArg some (by kernel_rfl))
  t3 := Try.underlying3
  a3 := Try.isAgg3
  z3 := Try.sizeOf3
  v3 := Try.zeroValue3
  t5 := Try.underlying5
  a5 := Try.isAgg5
  z5 := Try.sizeOf5
  v5 := Try.zeroValue5
  t9 := Try.underlying9
  a9 := Try.isAgg9
  z9 := Try.sizeOf9
  v9 := Try.zeroValue9 }

end Go.Proofs.Ytkknglcckjhngaa

namespace Go.Proofs.Ytkknglcckjhngaa
open Go.RowKit
set_option linter.unusedVariables false

theorem ones_any (x : Nat) (w : World) (h : x < 256) :
    Calls Try.prog 28 #[.int .u8 (x : Int)] w fun e w' => e = .returned (.int .i64 (Lib.onesCount x : Nat)) ∧ w' = w := by
  have := Any.bits_OnesCount8 shOnes (x : Int) w (by omega) (by omega)
  rw [Int.toNat_natCast] at this
  exact this

/-- How many pages a page says are taken. -/
def cntP (p : SheetV) : Nat := if isB p then cntN (slot0 p) 256 else 0

section
variable {p : SheetV} {a : Option Addr} {c : Nat} {w : World}

set_option maxHeartbeats 800000 in
theorem count_any (h : p.Lies w a) :
    Calls Try.prog 17 #[p.val a c] w fun e w' => e = .returned (.int .i64 (cntP p)) ∧ Below w.heap.size w w' := by
  have HIS : Hid (∀ wx, Below w.heap.size w wx → Calls Try.prog 14 #[p.val a c] wx fun e w' => e = .returned (.bool (isB p)) ∧ Below wx.heap.size wx w') := fun wx k => is_any (h.below k)
  obtain ⟨W, HW⟩ : ∃ W, Hid (W = boxP p a c w) := ⟨_, rfl⟩
  have hin : PageIn p a c w W := by rw [HW.out]; exact PageIn.start p a c w
  unfold boxP at HW
  by_cases c1 : isB p = true
  · obtain ⟨k1, k2, k3⟩ := isB_true c1
    have K2 : Hid (p.slots.length = 1) := k2
    have k2' : 0 < p.slots.length := by omega
    have K3 : Hid ((slot0 p).size = 256) := k3
    have HC : Hid (cntP p = cntN (slot0 p) 256) := by show _ = _; unfold cntP; rw [c1]; rfl
    clear k1 k2 k3
    rw [c1] at HIS
    rw [HC.out]
    clear HC
    obtain ⟨T, HT⟩ : ∃ T, Hid (cntN (slot0 p) 256 = T) := ⟨_, rfl⟩
    rw [HT.out]
    unfold SheetV.val at HIS ⊢
    go_enter Try.func17, Try.ntmps17
    go_wp2_with fail
    rw [← HW.out]
    clear HW
    refine (HIS.out _ hin.bel).mono ?_
    rintro e w1 ⟨rfl, b1⟩
    have h1 := hin.below b1
    obtain ⟨b, o, rfl, hb', hc, hz⟩ := (h.below h1.bel).first K2.out
    clear b1 hin HIS
    have x4 := h1.c4
    have B1 := h1.bel
    clear h1 h
    have K3' := K3.out
    generalize slot0 p = s at *
    go_wp2_with fail
    go_loop [3, 8] (fun t i => ∃ k : Nat, k ≤ 256 ∧ i = .int .i64 k ∧ t = .int .i64 (cntN s k : Nat)) (fun _ i => 256 - (intOf i).toNat)
    case atStart => exact ⟨0, Nat.zero_le _, rfl, rfl⟩
    case round =>
      obtain ⟨k, hk, rfl, rfl⟩ := hrel
      by_cases hlt : k < 256
      · have hlt' : (k : Int) < 256 := by omega
        have hks : k < s.size := by omega
        have HO : Hid (∀ wx, Calls Try.prog 28 #[.int .u8 ((s[k].toNat : Nat) : Int)] wx fun e w' => e = .returned (.int .i64 (Lib.onesCount (bytN s k) : Nat)) ∧ w' = wx) := fun wx => by
          rw [bytN_at hks]; exact ones_any _ wx (UInt8.toNat_lt _)
        have HC : Hid (cntN s (k + 1) = cntN s k + Lib.onesCount (bytN s k)) := rfl
        have hle := ones_le _ (bytN_lt s k)
        have hcl := cntN_le s k
        generalize Lib.onesCount (bytN s k) = O at *
        generalize cntN s k = C at *
        clear K3'
        go_wp2_with fail
        refine (HO.out _).mono ?_
        rintro e w2 ⟨rfl, rfl⟩
        go_wp2
        go_round
        case rel => exact ⟨k + 1, by omega, by go_num, by rw [HC.out]; go_num⟩
        case measure => simp [intOf]; omega
      · obtain rfl : k = 256 := by omega
        clear K3'
        rw [HT.out]
        go_wp2
        go_ret
        exact ⟨rfl, B1⟩
  · have c1' : isB p = false := by simpa using c1
    rw [show cntP p = 0 from by unfold cntP; rw [c1']; rfl]
    rw [c1'] at HIS
    unfold SheetV.val at HIS ⊢
    go_enter Try.func17, Try.ntmps17
    go_wp2_with fail
    rw [← HW.out]
    clear HW
    refine (HIS.out _ hin.bel).mono ?_
    rintro e w1 ⟨rfl, b1⟩
    have h1 := hin.below b1
    clear b1 hin
    go_wp2
    go_ret
    exact ⟨rfl, h1.bel⟩

end
end Go.Proofs.Ytkknglcckjhngaa

namespace Go.Proofs.Ytkknglcckjhngaa
open Go.RowKit
set_option linter.unusedVariables false

section
variable {p : SheetV} {a : Option Addr} {c : Nat} {w : World}

theorem infoPage : (Try.prog.info? 24).map (fun i => (i.zero, i.size, i.bytes)) = some (some (.int .u32 0), 1, 4) := by kernel_rfl

/-- Pages as values. -/
def pgL (L : List Nat) : List Value := L.map fun (n : Nat) => .int .u32 (n : Int)

/-- The pages that a page says are taken, up to k. -/
def tkPL (p : SheetV) (k : Nat) : List Nat := ((List.range k).map (· + 1)).filter (tkP p)

theorem tkPL_snoc (p : SheetV) (k : Nat) : tkPL p (k + 1) = tkPL p k ++ (if tkP p (k + 1) then [k + 1] else []) := by
  unfold tkPL
  rw [List.range_succ, List.map_append, List.filter_append]
  simp only [List.map_cons, List.map_nil, List.filter_cons, List.filter_nil]

theorem tkPL_mono (p : SheetV) (k m : Nat) : (tkPL p k).length ≤ (tkPL p (k + m)).length := by
  induction m with
  | zero => exact Nat.le_refl _
  | succ m ih => rw [← Nat.add_assoc, tkPL_snoc, List.length_append]; omega

theorem tkPL_map {p : SheetV} (h : isB p = true) (K : Nat) : tkPL p K = tkL (slot0 p) K := by
  unfold tkPL tkL
  apply List.filter_congr
  intro n _
  unfold tkP; rw [h]; rfl

theorem own_keep {w w' : World} {B : Nat} {e : TypeId} {z n : Nat} {v : Value} {xs : List Value} (h : w.ownsRow B e z v n xs) (k : Below w.heap.size w w') : w'.ownsRow B e z v n xs := by
  have hl := h.lt
  refine ⟨h.1, ?_⟩
  rcases h.2 with ⟨rfl, h1⟩ | ⟨g', cap, cur, rfl, h0, hb, hr⟩
  · exact .inl ⟨rfl, h1⟩
  · exact .inr ⟨g', cap, cur, rfl, h0, (k.block g' (hl g' rfl).2).trans hb, hr⟩

theorem tkPL_cnt' (p : SheetV) (K : Nat) (hK : K = 8 * 256) : (tkPL p K).length = cntP p := by
  unfold cntP
  by_cases c1 : isB p = true
  · rw [if_pos c1, tkPL_map c1, hK]
    exact tkL_len (slot0 p) 256 (Nat.le_refl _)
  · rw [if_neg c1]
    have c1' : isB p = false := by simpa using c1
    have : tkPL p K = [] := by
      unfold tkPL
      rw [List.filter_eq_nil_iff]
      intro n _
      unfold tkP; rw [c1']; simp
    rw [this]; rfl

theorem tkPL_cnt (p : SheetV) : (tkPL p 2048).length = cntP p := tkPL_cnt' p 2048 (by decide)

/-- Where All's loop stands: k pages were looked at. -/
structure AllAt (p : SheetV) (a : Option Addr) (c : Nat) (w wx : World) (g N k : Nat) : Prop where
  page : PageIn p a c w wx
  own : wx.ownsRow (w.heap.size + 1) 24 1 (.slice (some ⟨g, 0, none⟩) (tkPL p k).length N) (tkPL p k).length (pgL (tkPL p k))

set_option maxHeartbeats 1600000 in
set_option maxRecDepth 8000 in
theorem all_any (h : p.Lies w a) :
    Calls Try.prog 16 #[p.val a c] w fun e w' => ∃ g N, e = .returned (.slice (some ⟨g, 0, none⟩) (tkPL p 2048).length N) ∧ Below w.heap.size w w' ∧ w'.ownsRow (w.heap.size + 1) 24 1 (.slice (some ⟨g, 0, none⟩) (tkPL p 2048).length N) (tkPL p 2048).length (pgL (tkPL p 2048)) := by
  have HCN : Hid (∀ wx, Below w.heap.size w wx → Calls Try.prog 17 #[p.val a c] wx fun e w' => e = .returned (.int .i64 (cntP p)) ∧ Below wx.heap.size wx w') := fun wx k => count_any (h.below k)
  have HTK : Hid (∀ n : Nat, n < 4294967296 → ∀ wx, Below w.heap.size w wx → Calls Try.prog 15 #[p.val a c, .int .u32 n] wx fun e w' => e = .returned (.bool (tkP p n)) ∧ Below wx.heap.size wx w') := fun n hn wx k => taken_any (h.below k) n hn
  have HCT : Hid ((tkPL p 2048).length = cntP p) := tkPL_cnt p
  have hcl : cntP p ≤ 2048 := by unfold cntP; split; exact (by have := cntN_le (slot0 p) 256; omega); omega
  obtain ⟨i0, hi, hzz⟩ := Option.map_eq_some_iff.1 infoPage
  simp only [Prod.mk.injEq] at hzz
  obtain ⟨hz0, hz1, hz2⟩ := hzz
  obtain ⟨W, HW⟩ : ∃ W, Hid (W = boxP p a c w) := ⟨_, rfl⟩
  have hin : PageIn p a c w W := by rw [HW.out]; exact PageIn.start p a c w
  unfold boxP at HW
  clear h
  generalize cntP p = N at *
  unfold SheetV.val at HCN HTK ⊢
  go_enter Try.func16, Try.ntmps16
  go_wp2_with fail
  rw [← HW.out]
  clear HW
  refine (HCN.out _ hin.bel).mono ?_
  rintro e w1 ⟨rfl, b1⟩
  have h1 := hin.below b1
  clear b1 hin HCN
  have hw1 := h1.lt
  go_wp2_with (refine wpList_make_own _ rfl _ _ 52 rfl (w.heap.size + 1) 24 i0 (.int .u32 0) 1 Try.underlying52 hi hz0 hz1 .i64 .i64 _ N rfl rfl rfl (by rw [hz2]; omega) (by unfold maxLen; omega) (by omega) ?_)
  intro w2 hown hgrow
  have b2 : Below w1.heap.size w1 w2 := (Below.refl _ _).grown hgrow (Nat.le_refl _) (fun k hk => by cases hk)
  have HA0 : Hid (AllAt p a c w w2 w1.heap.size N 0) := ⟨h1.below b2, hown⟩
  clear hown hgrow b2
  generalize w1.heap.size = g at *
  clear h1
  go_wp2_with fail
  go_loopw [3, 4] (fun t i wr => ∃ k : Nat, k ≤ 2048 ∧ i = .int .u32 ((k + 1 : Nat) : Int) ∧ t = .slice (some ⟨g, 0, none⟩) (tkPL p k).length N ∧ Hid (AllAt p a c w wr g N k)) (fun _ i _ => 2049 - (intOf i).toNat)
  case atStart => exact ⟨0, Nat.zero_le _, rfl, rfl, HA0⟩
  case round =>
    obtain ⟨k, hk, hi4, rfl, HA⟩ := hrel
    clear HA0
    obtain ⟨n, Hn⟩ : ∃ n : Nat, Hid (k + 1 = n) := ⟨_, rfl⟩
    rw [Hn.out] at hi4
    subst hi4
    have hkn : k < n := by rw [← Hn.out]; omega
    have hnk : n ≤ k + 1 := by rw [← Hn.out]; exact Nat.le_refl _
    have hin := HA.out.page
    obtain ⟨x0, x1, x2, x3, x4⟩ : _ ∧ _ ∧ _ ∧ _ ∧ _ := ⟨hin.c0, hin.c1, hin.c2, hin.c3, hin.c4⟩
    by_cases hlt : k < 2048
    · have hlt' : (n : Int) ≤ 2048 := by omega
      have HSN : Hid (tkPL p n = tkPL p k ++ (if tkP p n then [n] else [])) := by have := tkPL_snoc p k; rw [Hn.out] at this; exact this
      have HK := HTK.out n (by omega)
      by_cases c2 : tkP p n = true
      · rw [c2] at HK HSN
        have HK' : Hid (∀ wx, Below w.heap.size w wx → Calls Try.prog 15 #[.agg #[.int .u32 p.num, .int .u64 p.lsn, .int .i64 p.kind, .string p.head, .slice a p.slots.length c], .int .u32 (n : Int)] wx fun e w' => e = .returned (.bool true) ∧ Below wx.heap.size wx w') := HK
        clear HK
        have hroom : (tkPL p k).length + 1 ≤ N := by
          rw [← HCT.out]
          have := tkPL_mono p n (2048 - n)
          rw [show n + (2048 - n) = 2048 from by omega, HSN.out] at this
          simpa using this
        go_wp2_with fail
        refine (HK'.out _ hin.bel).mono ?_
        rintro e w3 ⟨rfl, b3⟩
        have h3 := hin.below b3
        have hown3 := (own_keep HA.out.own b3).alloc (.cells #[.int .u32 (n : Int)] 24)
        clear HA hin x0 x1 x2 x3 x4 b3
        have hw3 := h3.lt
        have hnews : ∀ j u, ([.int .u32 (n : Int)] : List Value)[j]? = some u → (w3.alloc (.cells #[.int .u32 (n : Int)] 24)).cell? ((⟨w3.heap.size, 0, none⟩ : Addr).add j) = some u := fun j u hj => by
          match j, hj with
          | 0, hj => simp at hj; subst hj; simp [Addr.add]
        obtain ⟨M, HM⟩ : ∃ M, Hid ((tkPL p k).length = M) := ⟨_, rfl⟩
        rw [HM.out] at hroom hown3 ⊢
        go_wp2_with (at_builtin; refine wpList_append_own_spare _ rfl _ _ 52 rfl (w.heap.size + 1) 24 i0 1 Try.underlying52 hi hz1 g M N (pgL (tkPL p k)) rfl hown3 ⟨w3.heap.size, 0, none⟩ 1 1 [.int .u32 (n : Int)] rfl rfl hnews (by intro u hu; simp at hu; subst hu; rfl) hroom ?_)
        intro w4 hown4 hgrow4
        have b4 := (Below.refl (w.heap.size + 1) _).grown hgrow4 (by simp; omega) (fun k hk => by cases hk; exact (hown3.lt g rfl).1)
        have h4 : PageIn p a c w w4 := by
          have b5 : Below (w.heap.size + 1) w3 w4 := ((Below.refl _ _).alloc (by omega) _).trans b4
          have e := fun i => b5.cell (p := ⟨w.heap.size, i, none⟩) (by show w.heap.size < w.heap.size + 1; omega)
          exact ⟨h3.bel.trans (b5.mono (by omega)), Nat.lt_of_lt_of_le h3.lt b5.size, (e 0).trans h3.c0, (e 1).trans h3.c1, (e 2).trans h3.c2, (e 3).trans h3.c3, (e 4).trans h3.c4⟩
        have hL : (tkPL p n).length = M + 1 := by rw [HSN.out, List.length_append, HM.out]; rfl
        have HA4 : Hid (AllAt p a c w w4 g N n) := ⟨h4, by rw [hL, HSN.out]; unfold pgL at hown4 ⊢; rw [List.map_append]; exact hown4⟩
        have HL := hL.symm
        rw [HL]
        clear hown4 hgrow4 b4 h4 hown3 hnews h3 HM hroom hL
        go_wp2
        go_roundw
        case rel => exact ⟨n, by omega, by go_num, rfl, HA4⟩
        case measure => simp [intOf]; omega
      · have c2' : tkP p n = false := by simpa using c2
        rw [c2'] at HK HSN
        have HK' : Hid (∀ wx, Below w.heap.size w wx → Calls Try.prog 15 #[.agg #[.int .u32 p.num, .int .u64 p.lsn, .int .i64 p.kind, .string p.head, .slice a p.slots.length c], .int .u32 (n : Int)] wx fun e w' => e = .returned (.bool false) ∧ Below wx.heap.size wx w') := HK
        clear HK
        have hL : tkPL p n = tkPL p k := by rw [HSN.out]; simp
        have HL : Hid (tkPL p n = tkPL p k) := hL
        clear hL HSN
        go_wp2_with fail
        refine (HK'.out _ hin.bel).mono ?_
        rintro e w3 ⟨rfl, b3⟩
        have HA4 : Hid (AllAt p a c w w3 g N n) := ⟨hin.below b3, by rw [HL.out]; exact own_keep HA.out.own b3⟩
        clear b3 HA hin x0 x1 x2 x3 x4
        go_wp2
        go_roundw
        case rel => exact ⟨n, by omega, by go_num, by rw [HL.out], HA4⟩
        case measure => simp [intOf]; omega
    · obtain rfl : k = 2048 := by omega
      have hn' : ¬ (n : Int) ≤ 2048 := by omega
      go_wp2
      go_ret
      exact ⟨g, N, rfl, hin.bel, HA.out.own⟩

end
end Go.Proofs.Ytkknglcckjhngaa

namespace Go.Proofs.Ytkknglcckjhngaa
open Go.RowKit
set_option linter.unusedVariables false

/-- Byte j of the map whose first k pages are taken. -/
def frF : Nat → Nat → Nat
  | 0, _ => 0
  | k + 1, j => if j = k / 8 then frF k j ||| 2 ^ (k % 8) else frF k j

theorem frF_lt (k j : Nat) : frF k j < 256 := by
  induction k with
  | zero => simp [frF]
  | succ k ih =>
    simp only [frF]
    split
    · exact Nat.or_lt_two_pow (n := 8) ih (Nat.pow_lt_pow_of_lt (a := 2) (m := 8) (by decide) (Nat.mod_lt _ (by decide)))
    · exact ih

theorem frF_bit (k j i : Nat) (hi : i < 8) : (frF k j).testBit i = decide (8 * j + i < k) := by
  induction k with
  | zero => simp [frF]
  | succ k ih =>
    simp only [frF]
    split
    · rename_i e
      rw [Nat.testBit_or, ih]
      by_cases c : k % 8 = i
      · subst c
        rw [Nat.testBit_two_pow_self]
        have : 8 * j + k % 8 < k + 1 := by omega
        simp [this]
      · rw [Nat.testBit_two_pow_of_ne c, Bool.or_false]
        by_cases d : 8 * j + i < k
        · simp [d, Nat.lt_succ_of_lt d]
        · simp [d]; omega
    · rename_i e
      rw [ih]
      by_cases d : 8 * j + i < k
      · simp [d, Nat.lt_succ_of_lt d]
      · simp [d]; omega

/-- The slot of the map whose first k pages are taken. -/
def freshL (k : Nat) : List UInt8 := (List.range 256).map fun j => UInt8.ofNat (frF k j)
def freshS (k : Nat) : ByteArray := ⟨(freshL k).toArray⟩

theorem freshL_length (k : Nat) : (freshL k).length = 256 := by unfold freshL; rw [List.length_map, List.length_range]
theorem freshS_size (k : Nat) : (freshS k).size = 256 := by
  show (freshL k).toArray.size = 256
  rw [List.size_toArray, freshL_length]

theorem freshL_at (k j : Nat) (hj : j < (freshL k).length) : (freshL k)[j].toNat = frF k j := by
  simp only [freshL, List.getElem_map, List.getElem_range]
  exact UInt8.toNat_ofNat_of_lt' (by simpa using frF_lt k j)

theorem fresh_byt (k j : Nat) (hj : j < 256) : bytN (freshS k) j = frF k j := by
  unfold bytN freshS
  have h : j < (freshL k).length := by rw [freshL_length]; exact hj
  rw [List.getD_eq_getElem?_getD, show (ByteArray.mk (freshL k).toArray).data.toList = freshL k from by simp, List.getElem?_eq_getElem h]
  exact freshL_at k j h

theorem fresh_tk (k n : Nat) : tkB (freshS k) n = decide (1 ≤ n ∧ n ≤ 2048 ∧ n ≤ k) := by
  unfold tkB bitS
  by_cases h : 1 ≤ n ∧ n ≤ 2048
  · rw [fresh_byt k (atN n) (atN_lt h.2), frF_bit k _ _ (Nat.mod_lt _ (by decide))]
    have : (8 * atN n + (n - 1) % 8 < k) ↔ n ≤ k := by unfold atN; omega
    simp [h.1, h.2, this]
  · simp only [h, decide_false, Bool.false_and]
    simp; omega

/-- Two changes one behind the other. -/
structure TwoOps (w : World) (g : Nat) (v0 v1 v2 v3 u0 u1 u2 u3 : Value) : Prop where
  lt : g < w.heap.size
  c0 : w.cell? ⟨g, 0, none⟩ = some v0
  c1 : w.cell? ⟨g, 1, none⟩ = some v1
  c2 : w.cell? ⟨g, 2, none⟩ = some v2
  c3 : w.cell? ⟨g, 3, none⟩ = some v3
  c4 : w.cell? ⟨g, 4, none⟩ = some u0
  c5 : w.cell? ⟨g, 5, none⟩ = some u1
  c6 : w.cell? ⟨g, 6, none⟩ = some u2
  c7 : w.cell? ⟨g, 7, none⟩ = some u3

theorem TwoOps.below {w w' : World} {g : Nat} {v0 v1 v2 v3 u0 u1 u2 u3 : Value} (h : TwoOps w g v0 v1 v2 v3 u0 u1 u2 u3) (k : Below w.heap.size w w') : TwoOps w' g v0 v1 v2 v3 u0 u1 u2 u3 :=
  have e := fun i => k.cell (p := ⟨g, i, none⟩) h.lt
  ⟨Nat.lt_of_lt_of_le h.lt k.size, (e 0).trans h.c0, (e 1).trans h.c1, (e 2).trans h.c2, (e 3).trans h.c3, (e 4).trans h.c4, (e 5).trans h.c5, (e 6).trans h.c6, (e 7).trans h.c7⟩

/-- The two changes that make the map. -/
def FreshOps (w : World) (g k : Nat) : Prop := TwoOps w g (.int .i64 1) (.int .i64 1) (.string ⟨#[]⟩) (.string ⟨#[]⟩) (.int .i64 2) (.int .i64 0) (.string (freshS k)) (.string ⟨#[]⟩)

set_option maxHeartbeats 400000 in
theorem fresh_no (k : Int) (w : World) (h : k < 1 ∨ 2048 < k) :
    Calls Try.prog 8 #[.int .i64 k] w fun e w' => e = .returned (.tuple #[.slice none 0 0, .int .i64 1]) ∧ w' = w := by
  by_cases c : k < 1
  · go_enter Try.func8, Try.ntmps8
    go_wp2
    go_ret2
    exact ⟨rfl, rfl⟩
  · have c' : 2048 < k := by omega
    go_enter Try.func8, Try.ntmps8
    go_wp2
    go_ret2
    exact ⟨rfl, rfl⟩

set_option maxHeartbeats 1600000 in
set_option maxRecDepth 8000 in
theorem fresh_ok (K : Nat) (w : World) (h1 : 1 ≤ K) (h2 : K ≤ 2048) :
    Calls Try.prog 8 #[.int .i64 K] w fun e w' => ∃ g, e = .returned (.tuple #[.slice (some ⟨g, 0, none⟩) 2 2, .int .i64 0]) ∧ Below w.heap.size w w' ∧ w.heap.size < g ∧ FreshOps w' g K := by
  have hmk : ∀ wx : World, (Instr.makeSlice 61 (.int .i64 256) (.int .i64 256)).run Try.prog wx = .ok (.slice (some ⟨wx.heap.size, 0, none⟩) 256 256) (wx.alloc (.cells (madeCells #[.int .u8 0] 256) 5)) := fun wx => run_make_row' (P := Try.prog) 61 5 (.int .u8 0) 1 Try.underlying61 info5 rfl .i64 .i64 256 (by omega) (by omega) wx
  have c1 : ¬ (K : Int) < 1 := by omega
  have c2 : ¬ 2048 < (K : Int) := by omega
  have HR0 : Hid (RowU (w.alloc (.cells (madeCells #[.int .u8 0] 256) 5)) w.heap.size 256 (fun j => (frF 0 j : Int))) := (RowU.made w 256 _).congr (fun j _ => by simp [frF])
  have B0 : Below w.heap.size w (w.alloc (.cells (madeCells #[.int .u8 0] 256) 5)) := (Below.refl _ _).alloc (Nat.le_refl _) _
  have Z0 : w.heap.size < (w.alloc (.cells (madeCells #[.int .u8 0] 256) 5)).heap.size := by simp
  obtain ⟨W, HW⟩ : ∃ W, Hid (W = w.alloc (.cells (madeCells #[.int .u8 0] 256) 5)) := ⟨_, rfl⟩
  rw [← HW.out] at HR0 B0 Z0
  go_enter Try.func8, Try.ntmps8
  go_wp2_with fail
  rw [← HW.out]
  clear HW
  go_loopw [16] (fun i wr => ∃ k : Nat, k ≤ K ∧ i = .int .i64 k ∧ Hid (RowU wr w.heap.size 256 (fun j => (frF k j : Int))) ∧ Hid (Below w.heap.size w wr ∧ w.heap.size < wr.heap.size)) (fun i _ => K - (intOf i).toNat)
  case atStart => exact ⟨0, Nat.zero_le _, rfl, HR0, B0, Z0⟩
  case round =>
    obtain ⟨k, hk, rfl, HR, HB⟩ := hrel
    clear HR0 B0 Z0 hmk
    by_cases hlt : k < K
    · have HPL : Hid (∀ wx, Calls Try.prog 21 #[.int .u32 ((k + 1 : Nat) : Int)] wx fun e w' => e = .returned (.tuple #[.int .i64 (k / 8 : Nat), .int .u8 (2 ^ (k % 8) : Nat)]) ∧ ∃ m, w' = wx.drewN m) := fun wx => place_any (k + 1) wx (by omega) (by omega)
      have hA : k / 8 < 256 := by omega
      have hQ : 2 ^ (k % 8) < 256 := pwN_lt (k + 1)
      have hF := frF_lt k (k / 8)
      have HN : Hid (∀ j, frF (k + 1) j = if j = k / 8 then frF k j ||| 2 ^ (k % 8) else frF k j) := fun j => rfl
      generalize 2 ^ (k % 8) = Q at *
      generalize k / 8 = A at *
      have hor : bits .or .u8 ((frF k A : Nat) : Int) (Q : Int) = ((frF k A ||| Q : Nat) : Int) := u8_or_nat _ _ hF hQ
      have hlt' : (k : Int) < K := by omega
      go_wp2_with fail
      refine (HPL.out _).mono ?_
      rintro e w2 ⟨rfl, m, rfl⟩
      have HR2 : Hid (RowU (wr.drewN m) w.heap.size 256 (fun j => (frF k j : Int))) := HR.out
      have HB2 : Hid (Below w.heap.size w (wr.drewN m) ∧ w.heap.size < (wr.drewN m).heap.size) := ⟨below_drewN HB.out.1 m, HB.out.2⟩
      obtain ⟨V, HV⟩ : ∃ V, Hid (V = wr.drewN m) := ⟨_, rfl⟩
      rw [← HV.out] at HR2 HB2 ⊢
      clear HV HR HB HPL
      have hcA := (HR2.out A hA).1
      have hfA := (HR2.out A hA).2
      simp only at hcA
      have HR3 : Hid (RowU (V.setCell ⟨w.heap.size, A, none⟩ (.int .u8 ((frF k A ||| Q : Nat) : Int))) w.heap.size 256 (fun j => (frF (k + 1) j : Int))) := (HR2.out.set hA _).congr (fun j _ => by
        rw [HN.out j]
        by_cases e : j = A
        · subst e; simp
        · simp [e])
      have HB3 : Hid (Below w.heap.size w (V.setCell ⟨w.heap.size, A, none⟩ (.int .u8 ((frF k A ||| Q : Nat) : Int))) ∧ w.heap.size < (V.setCell ⟨w.heap.size, A, none⟩ (.int .u8 ((frF k A ||| Q : Nat) : Int))).heap.size) := ⟨HB2.out.1.setCell (Nat.le_refl _) _, by simpa using HB2.out.2⟩
      clear HN
      generalize frF k A = X at *
      go_wp2
      go_roundw
      case rel => exact ⟨k + 1, by omega, by go_num, HR3, HB3⟩
      case measure => simp [intOf]; omega
    · obtain rfl : k = K := by omega
      have hcv : (convert 61 9 (.slice (some ⟨w.heap.size, 0, none⟩) 256 256)).run Try.prog wr = .ok (.string (freshS k)) wr :=
        HR.out.toString (freshL k) (freshL_length k) (fun j hj => by rw [freshL_at k j hj]) _ _ _ Try.underlying61 Try.underlying5 Try.underlying9
      obtain ⟨s, HS⟩ : ∃ s, Hid (freshS k = s) := ⟨_, rfl⟩
      rw [HS.out] at hcv
      go_wp2
      go_ret2
      refine ⟨wr.heap.size, rfl, HB.out.1.alloc (by have := HB.out.2; omega) _, HB.out.2, ?_⟩
      unfold FreshOps
      rw [HS.out]
      exact ⟨by simp, by simp, by simp, by simp, by simp, by simp, by simp, by simp, by simp⟩

end Go.Proofs.Ytkknglcckjhngaa

namespace Go.Proofs.Ytkknglcckjhngaa
open Go.RowKit Go.Sort
set_option linter.unusedVariables false

/-- An OpInsert of S at k. -/
def opIns (k : Nat) (S : ByteArray) : OpV := ⟨2, k, S, ⟨#[]⟩⟩

theorem opIns_ok (k : Nat) (S : ByteArray) (hk : k ≤ 63) (hS : S.size ≤ 512) : (opIns k S).Ok := ⟨by show (-9223372036854775808 : Int) ≤ 2 ∧ (2 : Int) ≤ _; omega, by show (-9223372036854775808 : Int) ≤ (k : Int) ∧ (k : Int) ≤ _; omega, by show S.size ≤ _; omega, by show (0 : Nat) ≤ _; omega⟩

theorem opIns_chk (k : Nat) (S : ByteArray) (hk : k ≤ 63) (hS : S.size ≤ 512) : chkB (opIns k S) = true := by
  have h0 : (ByteArray.mk #[]).size = 0 := rfl
  simp [chkB, mayB, opIns, hS, h0]; omega

theorem apply_ins {p : SheetV} {w : World} {a : Option Addr} {c : Nat} (lsn k : Nat) (S : ByteArray) (h : p.Ok w a) (f : p.Fits) (hk : k ≤ 63) (hS : S.size ≤ 512) :
    Calls Try.prog 12 #[p.val a c, .agg #[.int .i64 2, .int .i64 k, .string S, .string ⟨#[]⟩], .int .u64 lsn] w fun e w' => ∃ X, e = .returned (.tuple #[X, .int .i64 (insE p (opIns k S))]) ∧ Below w.heap.size w w' ∧
      (insE p (opIns k S) = 0 → ∃ a' c', X = ({ p with slots := insL p.slots k S, lsn := lsn } : SheetV).val a' c' ∧ StrsFrom w.heap.size w' a' (insL p.slots k S)) ∧ (insE p (opIns k S) ≠ 0 → X = sheet0.val none 0) := by
  have hd := change_ins f (opIns_ok k S hk hS) rfl (by show (0 : Int) ≤ (k : Int); omega)
  have := apply_of (w := w) (c := c) lsn h f (opIns_ok k S hk hS) (opIns_chk k S hk hS) hd
  exact this



/-- '(at%(n+1) + n + 1) % (n+1)'. -/
def placeAt (at' : Int) (n : Nat) : Nat := ((at'.tmod ((n : Int) + 1) + (n : Int) + 1).tmod ((n : Int) + 1)).toNat

theorem place_bounds (at' : Int) (n : Nat) : -((n : Int) + 1) < at'.tmod ((n : Int) + 1) ∧ at'.tmod ((n : Int) + 1) < (n : Int) + 1 :=
  ⟨Int.lt_tmod_of_pos at' (by omega), Int.tmod_lt_of_pos at' (by omega)⟩

theorem placeAt_le (at' : Int) (n : Nat) : placeAt at' n ≤ n := by
  unfold placeAt
  have := Int.tmod_lt_of_pos (at'.tmod ((n : Int) + 1) + (n : Int) + 1) (show (0 : Int) < (n : Int) + 1 by omega)
  omega

theorem placeAt_cast (at' : Int) (n : Nat) : (at'.tmod ((n : Int) + 1) + (n : Int) + 1).tmod ((n : Int) + 1) = ((placeAt at' n : Nat) : Int) := by
  unfold placeAt
  have := place_bounds at' n
  have h3 := Int.tmod_nonneg ((n : Int) + 1) (show (0 : Int) ≤ at'.tmod ((n : Int) + 1) + (n : Int) + 1 by omega)
  omega

end Go.Proofs.Ytkknglcckjhngaa

namespace Go.Proofs.Ytkknglcckjhngaa
open Go.RowKit Go.Sort
set_option linter.unusedVariables false

theorem SheetV.Fits.ok {q : SheetV} {w : World} {a : Option Addr} (f : q.Fits) (h : StrsAt w a q.slots) : q.Ok w a := by
  have hf := f.fits
  refine ⟨f.num, f.lsn, ⟨by have := f.kind0; omega, by have := f.kind1; omega⟩, by have := f.head; omega, by have := f.len; omega, fun s hs => ?_, h⟩
  obtain ⟨j, hj, rfl⟩ := List.mem_iff_getElem.1 hs
  have := slotSum_at q.slots j hj
  omega



end Go.Proofs.Ytkknglcckjhngaa

namespace Go.Proofs.Ytkknglcckjhngaa
open Go.RowKit Go.Sort
set_option linter.unusedVariables false

/-- The page that an OpFormat leaves. -/
def fmtQ (p : SheetV) (o : OpV) : SheetV := ⟨p.num, 0, o.at', o.S, []⟩

set_option maxHeartbeats 1600000 in
theorem change_fmt {p : SheetV} {o : OpV} (ho : o.Ok) (hk : o.kind = 1) : ChangeDoes p o 0 (fmtQ p o) := by
  intro B w b bs h
  have hb1 := h.b1
  have hlt := h.lt
  obtain ⟨K, A, S, T⟩ := o
  simp only at hk ⊢
  subst hk
  unfold fmtQ
  simp only [OpV.val]
  obtain ⟨W, HW⟩ : ∃ W, Hid (W = w.alloc (.cells #[.int .i64 1, .int .i64 A, .string S, .string T] 41)) := ⟨_, rfl⟩
  have bW : Below w.heap.size w W := by rw [HW.out]; exact (Below.refl _ _).alloc (Nat.le_refl _) _
  have h1 := h.below bW
  have r1 : RowV W w.heap.size 4 (four (.int .i64 1) (.int .i64 A) (.string S) (.string T)) := by rw [HW.out]; exact RowV.four_new w _ _ _ _ _
  obtain ⟨x0, x1, x2, x3, x4⟩ := h1.row.cells5
  obtain ⟨g0, g1, g2, g3, g4⟩ := h1.row.open5
  obtain ⟨y0, y1, y2, y3⟩ := r1.cells4
  have bB : Below B w W := bW.mono (by omega)
  have hbo : b ≠ w.heap.size := by omega
  go_enter Try.func26, Try.ntmps26
  go_wp2_with fail
  rw [← HW.out]
  clear HW
  go_still_tail 11, (by kernel_rfl)
  change wpList _ _ _ _ _ W.drew
  have h2 : SheetAt B W.drew b bs p := h1.below ((Below.refl _ _).drew)
  have B2 : Below B w W.drew := bB.drew
  obtain ⟨V, HV⟩ : ∃ V, Hid (V = W.drew) := ⟨_, rfl⟩
  rw [← HV.out] at h2 B2 ⊢
  clear HV h1 x0 x1 x2 x3 x4 g0 g1 g2 g3 g4 y0 y1 y2 y3 r1 bB bW
  obtain ⟨x0, x1, x2, x3, x4⟩ := h2.row.cells5
  obtain ⟨g0, g1, g2, g3, g4⟩ := h2.row.open5
  go_wp2
  go_ret
  refine ⟨rfl, below_set5 B2 hb1 _ _ _ _ _, fun _ => ⟨none, 0, h2.row.set5 _ _ _ _ _, .inl rfl⟩⟩

/-- The change that begins a map's page. -/
def opF : OpV := ⟨1, 1, ⟨#[]⟩, ⟨#[]⟩⟩

theorem opF_ok : opF.Ok := ⟨by show (-9223372036854775808 : Int) ≤ 1 ∧ (1 : Int) ≤ _; omega, by show (-9223372036854775808 : Int) ≤ 1 ∧ (1 : Int) ≤ _; omega, by show (0 : Nat) ≤ _; omega, by show (0 : Nat) ≤ _; omega⟩

theorem opF_chk : chkB opF = true := by decide

/-- A page that is a map with the slot s. -/
def mapV (l : Nat) (s : ByteArray) : SheetV := ⟨1, l, 1, ⟨#[]⟩, [s]⟩

theorem mapV_fits (l : Nat) (s : ByteArray) (hl : l < 18446744073709551616) (hs : s.size = 256) : (mapV l s).Fits := by
  refine ⟨by show 1 < _; omega, hl, by show (0 : Int) ≤ 1; omega, by show (1 : Int) ≤ 255; omega, by show (0 : Nat) ≤ 32; omega, by show 1 ≤ 64; omega, ?_⟩
  show 0 + slotSum [s] ≤ 485
  simp only [slotSum]; omega

theorem mapV_is (l : Nat) (s : ByteArray) (hs : s.size = 256) : isB (mapV l s) = true := by
  unfold isB
  rw [decide_eq_true_eq]
  exact ⟨rfl, rfl, hs⟩

theorem mapV_slot (l : Nat) (s : ByteArray) : slot0 (mapV l s) = s := rfl

theorem Fits.lies {p : SheetV} {w : World} {a : Option Addr} (f : p.Fits) (h : StrsAt w a p.slots) : p.Lies w a := by
  refine ⟨by have := f.len; omega, fun s hs => ?_, h⟩
  obtain ⟨j, hj, rfl⟩ := List.mem_iff_getElem.1 hs
  have := slotSum_at p.slots j hj
  have := f.fits
  omega

/-- page.Apply of a change that turns a bit of a map over. -/
theorem apply_turn {l : Nat} {s : ByteArray} {w : World} {a : Option Addr} {c : Nat} (l' n : Nat) (hl : l < 18446744073709551616) (hs : s.size = 256) (hn : n ≤ 2048) (h : StrsAt w a [s]) :
    Calls Try.prog 12 #[(mapV l s).val a c, turnV s n, .int .u64 l'] w fun e w' => ∃ a' c', e = .returned (.tuple #[(mapV l' (flipS s n)).val a' c', .int .i64 0]) ∧ Below w.heap.size w w' ∧ StrsFrom w.heap.size w' a' [flipS s n] := by
  have f := mapV_fits l s hl hs
  have hd := turnO_do (p := mapV l s) (n := n) rfl hs hn
  have := does f (turnO_ok s n hn) (turnO_chk s n hn) (turnO_kind s n)
  rw [hd.1, hd.2] at this
  refine (apply_of l' (SheetV.Fits.ok f h) f (turnO_ok s n hn) (turnO_chk s n hn) this).mono ?_
  rintro e w' ⟨X, rfl, b, hX, _⟩
  obtain ⟨a', c', rfl, hq⟩ := hX rfl
  exact ⟨a', c', rfl, b, hq⟩

/-- The blank page 1, and behind an OpFormat. -/
def page0 : SheetV := ⟨1, 0, 0, ⟨#[]⟩, []⟩
def page1 : SheetV := ⟨1, 1, 1, ⟨#[]⟩, []⟩

theorem page0_fits : page0.Fits := ⟨by decide, by decide, by decide, by decide, by decide, by decide, by decide⟩
theorem page1_fits : page1.Fits := ⟨by decide, by decide, by decide, by decide, by decide, by decide, by decide⟩

theorem apply_fmt {w : World} {a : Option Addr} {c : Nat} :
    Calls Try.prog 12 #[page0.val a c, opF.val, .int .u64 1] w fun e w' => ∃ a' c', e = .returned (.tuple #[page1.val a' c', .int .i64 0]) ∧ Below w.heap.size w w' ∧ StrsFrom w.heap.size w' a' page1.slots := by
  refine (apply_of 1 (SheetV.Fits.ok page0_fits (.inl rfl)) page0_fits opF_ok opF_chk (change_fmt opF_ok rfl)).mono ?_
  rintro e w' ⟨X, rfl, b, hX, _⟩
  obtain ⟨a', c', rfl, hq⟩ := hX rfl
  exact ⟨a', c', rfl, b, hq⟩

theorem apply_slot {w : World} {a : Option Addr} {c : Nat} (s : ByteArray) (hs : s.size = 256) :
    Calls Try.prog 12 #[page1.val a c, (opIns 0 s).val, .int .u64 1] w fun e w' => ∃ a' c', e = .returned (.tuple #[(mapV 1 s).val a' c', .int .i64 0]) ∧ Below w.heap.size w w' ∧ StrsFrom w.heap.size w' a' (mapV 1 s).slots := by
  have hE : insE page1 (opIns 0 s) = 0 := by
    unfold insE
    rw [if_neg (by show ¬ ((0 : Nat) : Int) < ((0 : Nat) : Int); omega), if_neg (by show ¬ 64 ≤ 0; omega), if_neg (by show ¬ 485 < 0 + 0 + (2 + s.size); omega)]
  refine (apply_ins 1 0 s (SheetV.Fits.ok page1_fits (.inl rfl)) page1_fits (by omega) (by omega)).mono ?_
  rintro e w' ⟨X, rfl, b, hX, _⟩
  obtain ⟨a', c', rfl, hq⟩ := hX hE
  exact ⟨a', c', by rw [hE]; rfl, b, hq⟩

end Go.Proofs.Ytkknglcckjhngaa
