/-
  The walks of node.most, Full, Half.
-/
import Derived.Test.YtnljephojonilaaNodePgC
import Derived.Deep.QuietTactic
import Derived.BigQuiet
namespace Go.Proofs.Ytnljephojonilaa
open Go.RowKit Go.Sort
set_option linter.unusedVariables false
set_option linter.unusedSimpArgs false

def mostN (k : Int) : Int := if k = 4 then 76 else 73
def fullB (p : SheetV) : Bool := decide (64 ≤ p.slots.length) || decide (roomF p < mostN p.kind)

set_option maxHeartbeats 400000 in
set_option maxRecDepth 60000 in
theorem most_any (k : Int) (w : World) : Calls Try.prog 52 #[.int .i64 k] w fun e w' => e = .returned (.int .i64 (mostN k)) ∧ w' = w := by
  unfold mostN
  by_cases h : k = 4
  · subst h
    go_enter Try.func52, Try.ntmps52
    go_wp2
    go_ret
    exact ⟨rfl, rfl⟩
  · have h' : (k == 4) = false := by rw [beq_eq_false_iff_ne]; exact h
    rw [if_neg h]
    go_enter Try.func52, Try.ntmps52
    go_wp2
    go_ret
    exact ⟨rfl, rfl⟩

set_option maxHeartbeats 1600000 in
set_option maxRecDepth 60000 in
theorem full_any (p : SheetV) (a : Option Addr) (c : Nat) (w : World) (hp : p.Ok w a) :
    Calls Try.prog 29 #[p.val a c] w fun e w' => e = .returned (.bool (fullB p)) ∧ Below w.heap.size w w' := by
  have HR : Hid (∀ wx, Below w.heap.size w wx → Calls Try.prog 30 #[p.val a c] wx fun e w' => e = .returned (.int .i64 (roomF p)) ∧ Below wx.heap.size wx w') := fun wx hb => (hp.below hb).room c
  have HM : Hid (∀ wx, Calls Try.prog 52 #[.int .i64 p.kind] wx fun e w' => e = .returned (.int .i64 (mostN p.kind)) ∧ w' = wx) := fun wx => most_any _ wx
  have hlen := hp.len
  unfold fullB
  generalize roomF p = R at *
  generalize mostN p.kind = M at *
  obtain ⟨num, lsn, kind, hd, L⟩ := p
  simp only [SheetV.val] at *
  obtain ⟨W, HW⟩ : ∃ W, Hid (W = w.alloc (.cells #[.int .u32 num, .int .u64 lsn, .int .i64 kind, .string hd, .slice a L.length c] 29)) := ⟨_, rfl⟩
  have rW : RowV W w.heap.size 5 (five (.int .u32 num) (.int .u64 lsn) (.int .i64 kind) (.string hd) (.slice a L.length c)) := by rw [HW.out]; exact RowV.five_new _ _ _ _ _ _ _
  have bW : Below w.heap.size w W := by rw [HW.out]; exact (Below.refl _ _).alloc (Nat.le_refl _) _
  have zW : w.heap.size < W.heap.size := by rw [HW.out]; simp
  obtain ⟨x0, x1, x2, x3, x4⟩ := rW.cells5
  by_cases h : 64 ≤ L.length
  · have hd64 : decide ((64 : Int) ≤ (L.length : Int)) = true := by rw [decide_eq_true_eq]; omega
    go_enter Try.func29, Try.ntmps29
    go_wp2_with fail
    rw [← HW.out]
    clear HW
    go_quiet (fail)
    go_wp2
    go_ret
    exact ⟨nret_bool (by simp [h]), below_drewN bW _⟩
  · have hd64 : decide ((64 : Int) ≤ (L.length : Int)) = false := by rw [decide_eq_false_iff_not]; omega
    go_enter Try.func29, Try.ntmps29
    go_wp2_with fail
    rw [← HW.out]
    clear HW
    go_region_held3 (fun wy => (wy.cell? ⟨w.heap.size, 0, none⟩ = some (.int .u32 num) ∧ wy.cell? ⟨w.heap.size, 1, none⟩ = some (.int .u64 lsn) ∧ wy.cell? ⟨w.heap.size, 2, none⟩ = some (.int .i64 kind) ∧ wy.cell? ⟨w.heap.size, 3, none⟩ = some (.string hd) ∧ wy.cell? ⟨w.heap.size, 4, none⟩ = some (.slice a L.length c)))
      (first | (go_keep; done) | exact s1)
      (first
        | (go_at_call 30; refine (HR.out _ (by exact ⟨bW.os, bW.tape, bW.output, bW.size, bW.block⟩)).mono ?_; rintro x w1 ⟨rfl, b1⟩
           have b1' : Below W.heap.size W w1 := ⟨b1.os, b1.tape, b1.output, b1.size, b1.block⟩
           have s1 := (rW.below b1' zW).cells5
           have B1 := hidn (below_chain bW b1'))
        | (go_at_call 52; refine (HM.out _).mono ?_; rintro x w2 ⟨rfl, rfl⟩))
    go_wp2
    go_ret
    exact ⟨nret_bool (by simp [h]), B1.out⟩

/-- The bytes of texts, as the machine adds them up. -/
def szN : List ByteArray → Nat
  | [] => 0
  | s :: L => s.size + szN L

theorem szN_append (L M : List ByteArray) : szN (L ++ M) = szN L + szN M := by
  induction L with
  | nil => simp [szN]
  | cons s L ih => simp only [List.cons_append, szN, ih]; omega

def accF (L : List ByteArray) (k : Nat) : Int := wrap64 (szN (L.take k) : Nat)

theorem nwrap_add (x y : Int) : wrap64 (wrap64 x + y) = wrap64 (x + y) := by
  unfold wrap64; omega

theorem accF_succ (L : List ByteArray) (k : Nat) (h : k < L.length) : accF L (k + 1) = wrap64 (accF L k + (L[k].size : Int)) := by
  unfold accF
  rw [nwrap_add, ← List.take_append_getElem h, szN_append]
  simp [szN]

theorem accF_zero (L : List ByteArray) : accF L 0 = 0 := by
  unfold accF; simp [szN, wrap64]

/-- Does the page go over its half with slot k? -/
def hitF (L : List ByteArray) (k : Nat) : Bool := decide (accF L L.length ≤ wrap64 (2 * accF L (k + 1)))
def hIdx (L : List ByteArray) : Int := idxF (hitF L) (List.range L.length)

theorem hIdx_hit {L : List ByteArray} {k : Nat} (hk : k < L.length) (hp : hitF L k = true) (hn : ∀ j, j < k → hitF L j = false) : hIdx L = k := by
  unfold hIdx
  exact idxF_hit (k := k) (by rw [List.length_range]; exact hk) (by simpa using hp) (fun j hj hjk => by simpa using hn j hjk)

theorem hIdx_miss {L : List ByteArray} (hn : ∀ j, j < L.length → hitF L j = false) : hIdx L = -1 := by
  unfold hIdx
  refine idxF_miss (fun j hj => ?_)
  rw [List.length_range] at hj
  simpa using hn j hj

theorem hIdx_lo (L : List ByteArray) : -1 ≤ hIdx L ∧ hIdx L < 9223372036854775807 ∨ 9223372036854775807 ≤ (L.length : Int) := by
  unfold hIdx idxF
  split
  · rename_i h; rw [List.length_range] at h; omega
  · omega

set_option maxHeartbeats 800000 in
set_option maxRecDepth 60000 in
theorem half1_any (s : ByteArray) (U A : Nat) (u x : Int) (w : World) (hs : s.size ≤ 281474976710656) (hu : w.cell? ⟨U, 0, none⟩ = some (.int .i64 u)) (fu : w.frozen? ⟨U, 0, none⟩ = false) (ha : w.cell? ⟨A, 0, none⟩ = some (.int .i64 x)) (hne : U ≠ A) :
    Calls Try.prog 54 #[.string s, .pointer (some ⟨U, 0, none⟩), .pointer (some ⟨A, 0, none⟩)] w fun e w' => e = .returned (.bool (decide (x ≤ wrap64 (2 * wrap64 (u + (s.size : Int)))))) ∧ w' = w.setCell ⟨U, 0, none⟩ (.int .i64 (wrap64 (u + (s.size : Int)))) := by
  have hne' : A ≠ U := fun e => hne e.symm
  go_enter Try.func54, Try.ntmps54
  go_wp2
  go_ret
  exact ⟨nret_bool (by simp), rfl⟩

set_option maxHeartbeats 1600000 in
set_option maxRecDepth 60000 in
theorem indexS (a : Option Addr) (c : Nat) (L : List ByteArray) (U A : Nat) (w0 w : World) (hm : StrsAt w0 a L) (hw : Below w0.heap.size w0 w) (hl : L.length ≤ 8796093021952) (hs : ∀ s ∈ L, s.size ≤ 281474976710656)
    (hU : U < w.heap.size) (hA : A < w.heap.size) (hne : U ≠ A) (hUa : w0.heap.size ≤ U) (hu : w.cell? ⟨U, 0, none⟩ = some (.int .i64 0)) (fu : w.frozen? ⟨U, 0, none⟩ = false) (ha : w.cell? ⟨A, 0, none⟩ = some (.int .i64 (accF L L.length))) :
    Calls Try.prog 53 #[.slice a L.length c, .func (.func 54) #[] #[.pointer (some ⟨U, 0, none⟩), .pointer (some ⟨A, 0, none⟩)]] w fun r w' => r = .returned (.int .i64 (hIdx L)) ∧ Only U w w' := by
  obtain ⟨R, HR⟩ : ∃ R, Hid (hIdx L = R) := ⟨_, rfl⟩
  rw [HR.out]
  go_enter Try.func53, Try.ntmps53
  go_wp2_with fail
  go_loopw [8] (fun i wr => ∃ k : Nat, k ≤ L.length ∧ i = .int .i64 k ∧ Hid (Only U w wr) ∧ Hid (wr.cell? ⟨U, 0, none⟩ = some (.int .i64 (accF L k))) ∧ Hid (wr.frozen? ⟨U, 0, none⟩ = false) ∧ Hid (∀ j, j < k → hitF L j = false)) (fun i _ => L.length - (intOf i).toNat)
  case atStart => exact ⟨0, by omega, rfl, Only.refl _ _, by show _ = _; rw [accF_zero]; exact hu, fu, fun j h => by omega⟩
  case round =>
    obtain ⟨k, hk, rfl, HO, HU, HF, HN⟩ := hrel
    by_cases hlt : k < L.length
    · obtain ⟨bb, o, rfl, hb, hck⟩ : ∃ b o, a = some ⟨b, o, none⟩ ∧ b < w.heap.size ∧ wr.cell? ⟨b, o + k, none⟩ = some (.string L[k]) := by
        rcases hm with hm | ⟨b, o, e, hb, hc⟩
        · rw [hm] at hlt; simp at hlt
        · exact ⟨b, o, e, Nat.lt_of_lt_of_le hb hw.size, (HO.out.cell (p := ⟨b, o + k, none⟩) (Nat.lt_of_lt_of_le hb hw.size) (by show b ≠ U; omega)).trans ((hw.cell (p := ⟨b, o + k, none⟩) hb).trans (hc k hlt))⟩
      have hsk := hs L[k] (List.getElem_mem hlt)
      have HC := hidn (half1_any L[k] U A _ _ wr hsk HU.out HF.out ((HO.out.cell (p := ⟨A, 0, none⟩) hA (fun e => hne e.symm)).trans ha) hne)
      rw [← accF_succ L k hlt] at HC
      have hHit : Hid (decide (accF L L.length ≤ wrap64 (2 * accF L (k + 1))) = hitF L k) := rfl
      rw [hHit.out] at HC
      have HH : Hid (hitF L k = true → R = k) := fun h => by rw [← HR.out]; exact hIdx_hit hlt h HN.out
      have HFF : Hid (hitF L k = false → ∀ j, j < k + 1 → hitF L j = false) := fun h j hj => by
        by_cases e1 : j = k
        · subst e1; exact h
        · exact HN.out j (by omega)
      generalize L[k] = x at *
      have hi0 : (0 : Int) ≤ (k : Int) := by omega
      have hi1 : (k : Int) < (L.length : Int) := by omega
      cases hq : hitF L k with
      | true =>
        rw [hq] at HC
        have hR := hidn (HH.out hq)
        go_wp2_with fail
        refine HC.out.mono ?_
        rintro r w1 ⟨rfl, rfl⟩
        go_wp2
        go_ret
        exact ⟨nret_int hR.out.symm, HO.out.setCell 0 _⟩
      | false =>
        rw [hq] at HC
        go_wp2_with fail
        refine HC.out.mono ?_
        rintro r w1 ⟨rfl, rfl⟩
        go_wp2
        go_roundw
        case rel => exact ⟨k + 1, by omega, by go_num, HO.out.setCell 0 _, World.cell?_setCell_same _ _ _ HU.out, by show _ = _; rw [World.frozen?_setCell]; exact HF.out, HFF.out hq⟩
        case measure => simp [intOf]; omega
    · obtain rfl : k = L.length := by omega
      have hR := hidn (hIdx_miss HN.out)
      go_wp2
      go_ret
      exact ⟨nret_int (by rw [← HR.out]; exact hR.out.symm), HO.out⟩

/-- Where a page is cut in two. -/
def halfF (L : List ByteArray) : Int := max (min (max (hIdx L) 1) ((L.length : Int) - 1)) 0

set_option maxHeartbeats 3200000 in
set_option maxRecDepth 60000 in
theorem half_any (p : SheetV) (a : Option Addr) (c : Nat) (w : World) (hp : p.Ok w a) :
    Calls Try.prog 31 #[p.val a c] w fun e w' => e = .returned (.int .i64 (halfF p.slots)) ∧ Below w.heap.size w w' := by
  have hlen := hp.len
  have hsl := hp.slots
  have hm := hp.mem
  clear hp
  obtain ⟨num, lsn, kind, hd, L⟩ := p
  simp only [SheetV.val] at *
  obtain ⟨W, HW⟩ : ∃ W, Hid (W = (w.alloc (.cells #[.int .u32 num, .int .u64 lsn, .int .i64 kind, .string hd, .slice a L.length c] 29)).alloc (.cells #[.int .i64 0] 3)) := ⟨_, rfl⟩
  have x4 : W.cell? ⟨w.heap.size, 4, none⟩ = some (.slice a L.length c) := by rw [HW.out]; simp
  have bW : Below w.heap.size w W := by rw [HW.out]; exact ((Below.refl _ _).alloc (Nat.le_refl _) _).alloc (by simp) _
  have zW : W.heap.size = w.heap.size + 2 := by rw [HW.out]; simp
  have y0 : W.cell? ⟨w.heap.size + 1, 0, none⟩ = some (.int .i64 0) := by rw [HW.out]; simp
  have f0 : W.frozen? ⟨w.heap.size + 1, 0, none⟩ = false := by rw [HW.out]; simp
  go_enter Try.func31, Try.ntmps31
  go_wp2_with fail
  rw [← HW.out]
  clear HW
  go_loopw [11] (fun i wr => ∃ k : Nat, k ≤ L.length ∧ i = .int .i64 k ∧ Hid (Below w.heap.size w wr) ∧ wr.heap.size = w.heap.size + 2 ∧ wr.cell? ⟨w.heap.size, 4, none⟩ = some (.slice a L.length c) ∧ wr.cell? ⟨w.heap.size + 1, 0, none⟩ = some (.int .i64 (accF L k)) ∧ wr.frozen? ⟨w.heap.size + 1, 0, none⟩ = false) (fun i _ => L.length - (intOf i).toNat)
  case atStart => exact ⟨0, by omega, rfl, bW, zW, x4, by rw [accF_zero]; exact y0, f0⟩
  case round =>
    obtain ⟨k, hk, rfl, HB, hz, q4, q0, qf⟩ := hrel
    by_cases hlt : k < L.length
    · obtain ⟨bb, o, rfl, hb, hck⟩ : ∃ b o, a = some ⟨b, o, none⟩ ∧ b < w.heap.size ∧ wr.cell? ⟨b, o + k, none⟩ = some (.string L[k]) := by
        rcases hm with hm | ⟨b, o, e, hb, hc⟩
        · rw [hm] at hlt; simp at hlt
        · exact ⟨b, o, e, hb, (HB.out.cell (p := ⟨b, o + k, none⟩) hb).trans (hc k hlt)⟩
      have hsk := hsl L[k] (List.getElem_mem hlt)
      have HS := hidn (accF_succ L k hlt)
      generalize L[k] = x at *
      generalize accF L k = u at *
      have hi0 : (0 : Int) ≤ (k : Int) := by omega
      have hi1 : (k : Int) < (L.length : Int) := by omega
      go_wp2
      go_roundw
      case rel =>
        refine ⟨k + 1, by omega, by go_num, HB.out.setCell (p := ⟨w.heap.size + 1, 0, none⟩) (by show _ ≤ w.heap.size + 1; omega) _, by simpa using hz, ?_, ?_, by rw [World.frozen?_setCell]; exact qf⟩
        · rw [World.cell?_setCell_other _ _ _ _ (by intro q; have := congrArg Addr.block q; simp only at this; omega)]; exact q4
        · rw [HS.out]; exact World.cell?_setCell_same _ _ _ q0
      case measure => simp [intOf]; omega
    · obtain rfl : k = L.length := by omega
      obtain ⟨V, HV⟩ : ∃ V, Hid (V = wr.alloc (.cells #[.int .i64 0] 3)) := ⟨_, rfl⟩
      have bV : Below w.heap.size w V := by rw [HV.out]; exact HB.out.alloc (by omega) _
      have kV : Below wr.heap.size wr V := by rw [HV.out]; exact (Below.refl _ _).alloc (Nat.le_refl _) _
      have v4 := (kV.cell (p := ⟨w.heap.size, 4, none⟩) (by show w.heap.size < _; omega)).trans q4
      have v0 := (kV.cell (p := ⟨w.heap.size + 1, 0, none⟩) (by show w.heap.size + 1 < _; omega)).trans q0
      have u0 : V.cell? ⟨wr.heap.size, 0, none⟩ = some (.int .i64 0) := by rw [HV.out]; simp
      have uf : V.frozen? ⟨wr.heap.size, 0, none⟩ = false := by rw [HV.out]; simp
      have hzV : V.heap.size = wr.heap.size + 1 := by rw [HV.out]; simp
      have HI := hidn (indexS a c L wr.heap.size (w.heap.size + 1) w V hm bV hlen (fun s hs => Nat.le_trans (hsl s hs) (by omega)) (by omega) (by omega) (by omega) (by omega) u0 uf v0)
      have HH : Hid (halfF L = max (min (max (hIdx L) 1) ((L.length : Int) - 1)) 0) := rfl
      have hlo := hIdx_lo L
      generalize hIdx L = I at *
      go_wp2_with fail
      rw [← HV.out]
      rw [hz] at HI
      refine HI.out.mono ?_
      rintro r w1 ⟨rfl, o1⟩
      have w4 := (o1.cell (p := ⟨w.heap.size, 4, none⟩) (by show w.heap.size < _; omega) (by show w.heap.size ≠ _; omega)).trans v4
      have B1 := hidn (o1.below bV (by omega) (Nat.le_refl _))
      go_wp2
      go_ret
      refine ⟨nret_int ?_, B1.out⟩
      rw [HH.out]

end Go.Proofs.Ytnljephojonilaa
