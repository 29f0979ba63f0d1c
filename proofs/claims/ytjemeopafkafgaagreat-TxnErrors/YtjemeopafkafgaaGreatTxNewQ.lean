/-
  The walk of txn.New.
  The walks of (*txn.Manager).Begin where there are too many, and of girderlaw09.back.
  The walk of girderlaw09.begun.
  The walk of girderlaw09.awake.
-/
import Derived.Test.YtjemeopafkafgaaGreatTxMarkQ
import Derived.Test.YtjemeopafkafgaaGreatPoolReadQ
import Derived.Test.YtjemeopafkafgaaGreatTxLineQ
namespace Go.Proofs.YtjemeopafkafgaaGreat
open Go.RowKit Go.Sort
set_option linter.unusedVariables false
set_option linter.unusedSimpArgs false

/-- A manager without transactions. -/
def mg0 : MgG := ⟨fun _ => none, 0, 1, []⟩

theorem MgAt.start (w : World) (p : Nat) (X : Int → Nat) :
    MgAt ((w.alloc (.map #[] 0)).alloc (.cells #[.pointer (some ⟨p, 0, none⟩), .map (some w.heap.size), .int .i64 1, .slice none 0 0] 104)) (w.heap.size + 1) w.heap.size (.slice none 0 0) (.map []) X (fun _ _ => False) (fun k => k = w.heap.size ∨ k = w.heap.size + 1) p mg0 := by
  have z : (w.alloc (.map #[] 0)).heap.size = w.heap.size + 1 := by simp
  refine ⟨?_, ?_, fun n _ => rfl, (fun n t e => by cases e), (fun l hl => by cases hl), World.ownsRow_nil _ _ _ _, fun n n' _ h => absurd rfl h, fun n h => absurd rfl h, (fun e => by cases e), .inr rfl, .inl rfl, (fun g e => by cases e), fun n h => absurd rfl h, ?_⟩
  · have := Blk.made (w.alloc (.map #[] 0)) #[.pointer (some ⟨p, 0, none⟩), .map (some w.heap.size), .int .i64 1, .slice none 0 0] 104
    rw [z] at this
    exact this
  · exact (MapV.made 3 w).same (heap_old _ _ (by rw [z]; omega))
  · rintro k (rfl | rfl)
    · simp; omega
    · simp

section
variable {w : World} {p : Nat} {A : Nat → Prop} {P : PG} {l : LG} {d : DG}

set_option maxHeartbeats 1600000 in
set_option maxRecDepth 20000 in
theorem tnew_any (h : Sys w p A P l d) (X : Int → Nat) :
    Calls Tryz.prog 19 #[.pointer (some ⟨p, 0, none⟩)] w fun e w' => e = .returned (.pointer (some ⟨w.heap.size + 1, 0, none⟩)) ∧ ∃ A', MSys w' (w.heap.size + 1) p X A' P l d mg0 ∧ Moves A A' w w' := by
  have b : Below w.heap.size w ((w.alloc (.map #[] 0)).alloc (.cells #[.pointer (some ⟨p, 0, none⟩), .map (some w.heap.size), .int .i64 1, .slice none 0 0] 104)) := ((Below.refl _ _).alloc (Nat.le_refl _) _).alloc (by simp) _
  have hM := MgAt.start w p X
  have HF : Hid (∃ A', MSys ((w.alloc (.map #[] 0)).alloc (.cells #[.pointer (some ⟨p, 0, none⟩), .map (some w.heap.size), .int .i64 1, .slice none 0 0] 104)) (w.heap.size + 1) p X A' P l d mg0 ∧ Moves A A' w ((w.alloc (.map #[] 0)).alloc (.cells #[.pointer (some ⟨p, 0, none⟩), .map (some w.heap.size), .int .i64 1, .slice none 0 0] 104))) := by
    refine hidx ⟨fun k => A k ∨ (k = w.heap.size ∨ k = w.heap.size + 1), ⟨⟨A, fun k => k = w.heap.size ∨ k = w.heap.size + 1, h.below b, ⟨_, _, _, _, hM⟩, fun k x y => ?_, fun k x => x⟩, ?_⟩, (Kept.of_below b), ?_⟩
    · have := h.lt k x; omega
    · rintro k (x | x)
      · exact Nat.lt_of_lt_of_le (h.lt k x) b.size
      · exact hM.lt k x
    · rintro k (x | x)
      · exact .inl x
      · exact .inr (by omega)
  have hmm := @run_makeMap Tryz.prog
  clear h b hM
  go_enter Tryz.func19, Tryz.ntmps19
  go_wp2
  go_ret
  exact ⟨rfl, HF.out⟩

end

end Go.Proofs.YtjemeopafkafgaaGreat

namespace Go.Proofs.YtjemeopafkafgaaGreat
open Go.RowKit Go.Sort
set_option linter.unusedVariables false
set_option linter.unusedSimpArgs false

section
variable {w : World} {m p : Nat} {X : Int → Nat} {A : Nat → Prop} {P : PG} {l : LG} {d : DG} {M : MgG}

set_option maxHeartbeats 1600000 in
set_option maxRecDepth 20000 in
theorem back_any (m : Nat) (w : World) :
    Calls Tryz.prog 28 #[.pointer (some ⟨m, 0, none⟩)] w fun r w' => r = .returned (.func (.func 75) #[] #[.pointer (some ⟨w.heap.size, 0, none⟩)]) ∧ w.alloc (.cells #[.pointer (some ⟨m, 0, none⟩)] 23) = w' := by
  have hmf : ∀ (fn : Fn) (first cap : Array Value) (w : World), (Instr.makeFunc fn first cap).run Tryz.prog w = .ok (.func fn first cap) w := fun _ _ _ _ => rfl
  go_enter Tryz.func28, Tryz.ntmps28
  go_wp2
  go_ret
  exact ⟨rfl, rfl⟩

end

end Go.Proofs.YtjemeopafkafgaaGreat

namespace Go.Proofs.YtjemeopafkafgaaGreat
open Go.RowKit Go.Sort
set_option linter.unusedVariables false
set_option linter.unusedSimpArgs false

/-- The pages that begun puts, and the pool behind the first k of them. -/
def bSheet (n : Nat) : SheetV := ⟨n, 0, 9, ⟨#[]⟩, [⟨#[48]⟩]⟩
def begP (dp lp : Nat) : Nat → PG
  | 0 => pool0 dp lp 8
  | k + 1 => putP (begP dp lp k) (bSheet (k + 1))

theorem bSheet_fits (n : Nat) (h1 : 1 ≤ n) (h2 : n ≤ 2048) : (bSheet n).Fits := ⟨by show n < _; omega, by show (0 : Nat) < 18446744073709551616; decide, by show (0 : Int) ≤ 9; decide, by show (9 : Int) ≤ 255; decide, by show (ByteArray.mk #[]).size ≤ 32; decide, by show [ByteArray.mk #[48]].length ≤ 64; decide, by show (ByteArray.mk #[]).size + slotSum [ByteArray.mk #[48]] ≤ 485; decide⟩

theorem begP_F (dp lp : Nat) : ∀ k n, (begP dp lp k).F n = if 1 ≤ n ∧ n ≤ k then some ⟨bSheet n, 1⟩ else none
  | 0, n => by
    rw [if_neg (by omega)]
    rfl
  | k + 1, n => by
    have ih := begP_F dp lp k (k + 1)
    rw [if_neg (by omega)] at ih
    show (if n = k + 1 then some (FrV.mk (bSheet (k + 1)) (sinceF (oldS (begP dp lp k) (k + 1)) 0)) else (begP dp lp k).F n) = _
    have ho : oldS (begP dp lp k) (k + 1) = 0 := by unfold oldS; rw [ih]
    rw [ho]
    by_cases e : n = k + 1
    · rw [if_pos e, if_pos (by omega), e]
      rfl
    · rw [if_neg e, begP_F dp lp k n]
      by_cases q : 1 ≤ n ∧ n ≤ k
      · rw [if_pos q, if_pos (by omega)]
      · rw [if_neg q, if_neg (by omega)]

theorem begP_z (dp lp : Nat) : ∀ k, (begP dp lp k).z = k
  | 0 => rfl
  | k + 1 => by
    have ih := begP_F dp lp k (k + 1)
    rw [if_neg (by omega)] at ih
    show (if ((begP dp lp k).F (bSheet (k + 1)).num).isSome = true then _ else _) = _
    have e : (begP dp lp k).F (bSheet (k + 1)).num = none := ih
    rw [e]
    simp [begP_z dp lp k]

theorem begP_most (dp lp : Nat) : ∀ k, (begP dp lp k).most = 8
  | 0 => rfl
  | k + 1 => begP_most dp lp k

/-- What begun hands back. -/
structure TBegun (w : World) (e : Ending) (w' : World) : Prop where
  out : ∃ m p dp lp A, e = .returned (.tuple #[.pointer (some ⟨m, 0, none⟩), .bool true]) ∧ MSys w' m p (fun _ => 0) A (begP dp lp 5) (log0 dp) (newD 64) mg0 ∧ (∀ k, A k → w.heap.size ≤ k) ∧ Below w.heap.size w w'

/-- Where begun stands behind the first k pages. -/
structure TBeg (w w' : World) (m p dp lp k : Nat) : Prop where
  ex : ∃ A, MSys w' m p (fun _ => 0) A (begP dp lp k) (log0 dp) (newD 64) mg0 ∧ (∀ k, A k → w.heap.size ≤ k)
  bl : Below w.heap.size w w'

set_option maxHeartbeats 3200000 in
set_option maxRecDepth 8000 in
theorem tbegun_any (w : World) : Calls Tryz.prog 5 #[] w (TBegun w) := by
  go_enter Tryz.func5, Tryz.ntmps5
  go_wp2_with fail
  refine (wnew_out w 64 (by omega) (by omega)).mono ?_
  rintro e w1 ⟨dp, rfl, ⟨D, hD, hDn⟩, b1⟩
  go_wp2_with fail
  refine (open_out hD rfl (by show 0 ≤ _; omega) (by show (scan ⟨#[]⟩ (0 + 1) 0).2 = 0; rw [scan_none])).mono ?_
  rintro e w2 ⟨lp, rfl, ⟨L, hL, hLn⟩, b2⟩
  rw [openL_new] at hL
  go_wp2_with fail
  refine (pnew_ok w2 dp lp 8 (by omega) (by omega)).mono ?_
  rintro e w3 ⟨p, S, rfl, hP, hSn, b3⟩
  have z1 := b1.size
  have z2 := b2.size
  have hD3 := (hD.below b2).below b3
  have hL3 := hL.below b3
  have hSys : Sys w3 p (fun k => S k ∨ L k ∨ D k) (pool0 dp lp 8) (log0 dp) (newD 64) := by
    refine ⟨⟨S, L, D, hP, hL3, hD3, ?_, ?_, ?_, fun _ x => x⟩, rfl, ?_⟩
    · intro k x y
      have := hSn k x
      have := hL.lt y
      omega
    · intro k x y
      have := hSn k x
      have := (hD.below b2).lt y
      omega
    · intro k x y
      have := hLn k x
      have := hD.lt y
      omega
    · rintro k (x | x | x)
      · exact hP.lt x
      · exact hL3.lt x
      · exact hD3.lt x
  have hAn : ∀ k, (S k ∨ L k ∨ D k) → w.heap.size ≤ k := by
    rintro k (x | x | x)
    · have := hSn k x; omega
    · have := hLn k x; omega
    · exact hDn k x
  have hbel := below_chain (below_chain b1 b2) b3
  have HTN := hidx (tnew_any hSys (fun _ => 0))
  have HAN := hidx hAn
  have HBL := hidx hbel
  clear hSys hAn hbel hD hDn hL hLn hP hSn b1 b2 b3 hD3 hL3 z1 z2
  go_wp2_with fail
  refine HTN.out.mono ?_
  rintro e w4 ⟨rfl, A4, h4, mv4⟩
  have HB0 : Hid (TBeg w w4 (w3.heap.size + 1) p dp lp 0) := by
    refine hidx ⟨⟨A4, h4, fun k x => ?_⟩, below_kept HBL.out mv4.1 HAN.out⟩
    rcases mv4.2 k x with y | y
    · exact HAN.out k y
    · have := HBL.out.size; omega
  clear HTN HAN HBL h4 mv4
  obtain ⟨m, Hm⟩ : ∃ m, Hid (w3.heap.size + 1 = m) := ⟨_, rfl⟩
  rw [Hm.out] at HB0
  rw [Hm.out]
  clear Hm
  go_wp2_with fail
  go_loopw [10] (fun v10 wr => ∃ k : Nat, k ≤ 5 ∧ v10 = .int .u32 ((k : Int) + 1) ∧ Hid (TBeg w wr m p dp lp k)) (fun v _ => 6 - (intOf v).toNat)
  case atStart => exact ⟨0, by omega, rfl, HB0⟩
  case round =>
    obtain ⟨k, hk, rfl, HB⟩ := hrel
    clear HB0
    by_cases hlt : k < 5
    · obtain ⟨A, hM, hA⟩ := HB.out.ex
      obtain ⟨W3, HW3⟩ : ∃ W3, Hid (W3 = wr.alloc (.cells #[.string ⟨#[48]⟩] 9)) := ⟨_, rfl⟩
      have b3 : Below wr.heap.size wr W3 := by rw [HW3.out]; exact (Below.refl _ _).alloc (Nat.le_refl _) _
      have k3 : Blk W3 wr.heap.size #[.string ⟨#[48]⟩] 9 := by rw [HW3.out]; exact Blk.made wr _ _
      obtain ⟨A1, hS, hA1, step⟩ := (hM.below b3).sys
      have hst : StrsAt W3 (some ⟨wr.heap.size, 0, none⟩) (bSheet (k + 1)).slots := .inr ⟨wr.heap.size, 0, rfl, k3.lt, fun i hi => by
        have : i = 0 := by simp [bSheet] at hi; exact hi
        subst this
        exact k3.cell 0⟩
      have hfit := bSheet_fits (k + 1) (by omega) (by omega)
      have hX := hfit.ok hst
      have hno : (begP dp lp k).F (bSheet (k + 1)).num = none := by
        have := begP_F dp lp k (k + 1)
        rw [if_neg (by omega)] at this
        exact this
      have HPU := hidx (poolPut_any (P1 := begP dp lp k) (l1 := log0 dp) (d1 := newD 64) hS (bSheet (k + 1)) (some ⟨wr.heap.size, 0, none⟩) 1 hX (fun b o e => by cases e; intro x; have := hM.lt _ (hA1 _ x); omega) (by show 1 ≤ k + 1; omega) (by show k + 1 ≤ 2048; omega) ((encE_fits hX).2 hfit)
        (fun _ => ⟨room_roomy (by rw [begP_z, begP_most]; omega) (by rw [begP_most]; omega), hno⟩) (fun h => absurd hno h) (by rw [begP_z]; omega))
      have HV : Hid ((bSheet (k + 1)).val (some ⟨wr.heap.size, 0, none⟩) 1 = .agg #[.int .u32 ((k : Int) + 1), .int .u64 0, .int .i64 9, .string ⟨#[]⟩, .slice (some ⟨wr.heap.size, 0, none⟩) 1 1]) := rfl
      rw [HV.out] at HPU
      have HST := hidx step
      have HAA := hidx hA
      have HB3 := hidx b3
      have HBB := hidx HB.out.bl
      clear hM hA b3 k3 hS hA1 step hst hfit hX hno HB HV
      go_wp2_with fail
      rw [← HW3.out]
      clear HW3
      refine HPU.out.mono ?_
      rintro e w4 ⟨rfl, A4, hS4, mv4⟩
      obtain ⟨A5, h5, mv5⟩ := HST.out _ _ _ _ _ hS4 mv4
      have HB5 : Hid (TBeg w w4 m p dp lp (k + 1)) := by
        have mv : Moves A A5 wr w4 := (Moves.of_kept (Kept.of_below HB3.out)).trans mv5
        refine hidx ⟨⟨A5, h5, fun i x => ?_⟩, below_kept HBB.out mv.1 HAA.out⟩
        rcases mv.2 i x with y | y
        · exact HAA.out i y
        · have := HBB.out.size; omega
      clear HPU HST HAA HB3 HBB hS4 mv4 h5 mv5
      go_wp2_with fail
      go_roundw
      case rel => exact ⟨k + 1, by omega, by go_num, HB5⟩
      case measure => simp [intOf]; omega
    · obtain rfl : k = 5 := by omega
      go_wp2
      refine bodyPost_ret (v := .tuple #[.pointer (some ⟨m, 0, none⟩), .bool true]) (by simp [results, Tryz.results5, go_sem]) rfl ?_
      obtain ⟨A, hM, hA⟩ := HB.out.ex
      exact ⟨⟨m, p, dp, lp, A, rfl, hM, hA, HB.out.bl⟩⟩

end Go.Proofs.YtjemeopafkafgaaGreat

namespace Go.Proofs.YtjemeopafkafgaaGreat
open Go.RowKit Go.Sort
set_option linter.unusedVariables false
set_option linter.unusedSimpArgs false

/-- All blocks of A are newer than w, and nothing of w has turned. -/
structure Ours (w wi : World) (A : Nat → Prop) : Prop where
  ge : ∀ k, A k → w.heap.size ≤ k
  bl : Below w.heap.size w wi

theorem Ours.step {w wi wj : World} {A A' : Nat → Prop} (h : Ours w wi A) (mv : Moves A A' wi wj) : Ours w wj A' := by
  refine ⟨fun k x => ?_, below_kept h.bl mv.1 h.ge⟩
  rcases mv.2 k x with y | y
  · exact h.ge k y
  · have := h.bl.size; omega

theorem Ours.below {w wi wj : World} {A : Nat → Prop} (h : Ours w wi A) (b : Below wi.heap.size wi wj) : Ours w wj A := ⟨h.ge, below_chain h.bl b⟩

theorem PgTo.begun (dp lp pg : Nat) (h1 : 1 ≤ pg) (h2 : pg ≤ 5) : PgTo (begP dp lp 5) (begP dp lp 5) pg ⟨#[48]⟩ := by
  refine ⟨⟨⟨bSheet pg, 1⟩, ?_, bSheet_fits pg h1 (by omega), rfl, rfl, rfl⟩, fun _ _ => rfl, rfl, rfl, rfl, rfl, rfl⟩
  rw [begP_F, if_pos ⟨h1, h2⟩]

theorem PgTo.str {P0 P : PG} {pg : Nat} {v : ByteArray} (h : PgTo P0 P pg v) : ∃ f, P.F pg = some f ∧ f.sh.slots = [v] := by
  obtain ⟨f, h1, _, _, h4, _⟩ := h.slot
  exact ⟨f, h1, h4⟩

set_option maxHeartbeats 3200000 in
set_option maxRecDepth 8000 in
theorem tawake_any (w : World) : Calls Tryz.prog 6 #[] w fun e w' => e = .returned (.bool true) ∧ Below w.heap.size w w' := by
  have HB := hidx (tbegun_any w)
  go_enter Tryz.func6, Tryz.ntmps6
  go_wp2_with fail
  refine HB.out.mono ?_
  rintro e w1 ⟨⟨m, p, dp, lp, A1, rfl, h1, hA1, b1⟩⟩
  have O1 : Hid (Ours w w1 A1) := hidx ⟨hA1, b1⟩
  have HBE := hidx (begin_ok h1 (by show 1 ≤ _; omega) rfl (by show 0 < 64; omega) (by show 0 ≤ _; omega) (by show 0 + 128 + 0 ≤ _; omega))
  clear HB h1 hA1 b1
  go_wp2_with fail
  refine HBE.out.mono ?_
  rintro e w2 ⟨rfl, A2, b, h2, mv2⟩
  have e1 : (mg0.next : Int) = 1 := rfl
  rw [e1] at h2
  rw [e1]
  have O2 := hidx (O1.out.step mv2)
  have hT2 : mg0.born.T (1 : Nat) = some (fresh 1) := rfl
  have hL2 : TxLine { log0 dp with kept := (log0 dp).kept + 128 } [] (fresh 1) 1 1 ⟨#[48]⟩ [] 0 := TxLine.start ⟨(RecsAt.nil dp).starts, (RecsAt.nil dp).long, (RecsAt.nil dp).text⟩ rfl (by show 0 + (0 + 128) ≤ _; omega) (by decide)
  have HLO := hidx (line_log h2 hT2 hL2 rfl rfl (PgTo.begun dp lp 1 (by omega) (by omega)) (by rw [begP_z]; omega) (by omega) (by omega) (by omega) ⟨#[49]⟩ (by decide) (by show 0 + (0 + 128) + (234 + 1 + 1 + (1 + 1)) ≤ 4194304; decide))
  have HCV : Hid ((setC 1 ⟨#[49]⟩ (nowOf ⟨#[48]⟩ [])).cells = #[.int .u32 1, .int .i64 4, .int .i64 0, .string ⟨#[49]⟩, .string ⟨#[48]⟩, .int .i64 1, .int .i64 0, .string ⟨#[]⟩, .int .u32 0, .int .i64 0, .bool false]) := rfl
  rw [HCV.out] at HLO
  clear HBE O1 h2 mv2 hT2 hL2 HCV
  go_wp2_with fail
  refine HLO.out.mono ?_
  rintro e w3 ⟨rfl, hlog⟩
  obtain ⟨A3, P3, l3, rs3, t3, h3, mv3, hL3, hst3, hla3, hk3, hb3, hP3⟩ := hlog.ex
  have O3 := hidx (O2.out.step mv3)
  obtain ⟨f3, hf3, hs3⟩ := hP3.str
  have HSL := hidx (slot_any h3 1 (by omega) (by omega) hf3 _ hs3)
  have H3 := hidx h3
  have HL3 := hidx hL3
  have HP3 := hidx hP3
  have HS3 := hidx hst3
  have HK3 := hidx hk3
  clear HLO O2 hlog h3 mv3 hL3 hst3 hla3 hk3 hb3 hP3 hf3 hs3
  go_wp2_with fail
  refine HSL.out.mono ?_
  rintro e w4 ⟨rfl, b4⟩
  have H4 := hidx (H3.out.below b4)
  have O4 := hidx (O3.out.below b4)
  have HBK := hidx (back_any m w4)
  clear HSL b4 H3 O3
  go_wp2_with fail
  refine HBK.out.mono ?_
  rintro e w5 ⟨rfl, hw5⟩
  have b5 : Below w4.heap.size w4 w5 := by rw [← hw5]; exact (Below.refl _ _).alloc (Nat.le_refl _) _
  have x5 : Blk w5 w4.heap.size #[.pointer (some ⟨m, 0, none⟩)] 23 := by rw [← hw5]; exact Blk.made _ _ _
  have h5 := H4.out.below b5
  have hT5 : (mg0.born.set (1 : Nat) t3).T (1 : Nat) = some t3 := MgG.set_get _ _ _
  have hk5 : roomSum [⟨({ log0 dp with kept := (log0 dp).kept + 128 } : LG).bytes.length + 1, ⟨#[49]⟩, nowOf ⟨#[48]⟩ []⟩] + 50 ≤ t3.kept := by
    rw [HK3.out]; show 0 + (197 + 1 + 1) + 50 ≤ 128 + (197 + 1 + 1); omega
  have hn5 : ¬ A3 w4.heap.size := fun x => by have := H4.out.lt _ x; omega
  have HAB := hidx (line_abort h5 hT5 HL3.out HS3.out hk5 HP3.out (by rw [begP_z]; omega) (by omega) (by omega) (by omega) w4.heap.size (x5.cell 0) hn5)
  have O5 := hidx (O4.out.below b5)
  clear HBK H4 O4 b5 x5 h5 hT5 hk5 hn5 hw5 HL3 HP3 HS3 HK3
  go_wp2_with fail
  refine HAB.out.mono ?_
  rintro e w6 ⟨rfl, hab⟩
  obtain ⟨A6, P6, l6, rs6, h6, mv6, hP6, _⟩ := hab.ex
  have O6 := hidx (O5.out.step mv6)
  obtain ⟨f6, hf6, hs6⟩ := hP6.str
  have HS6 := hidx (slot_any h6 1 (by omega) (by omega) hf6 _ hs6)
  clear HAB O5 hab h6 mv6 hP6 hf6 hs6
  go_wp2_with fail
  refine HS6.out.mono ?_
  rintro e w7 ⟨rfl, b7⟩
  have HF := hidx (O6.out.below b7).bl
  clear HS6 O6 b7
  go_wp2
  go_ret
  exact ⟨rfl, HF.out⟩

end Go.Proofs.YtjemeopafkafgaaGreat
