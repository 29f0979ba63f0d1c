/-
  The walk of girderlaw02.DiskKeeps.
-/
import Derived.Test.YtkgehckldeegjaaKeepsParts
namespace Go.Proofs.Ytkgehckldeegjaa
open Go.RowKit
set_option linter.unusedVariables false

/-- Numbers of 16 bits as an argument. -/
def IsU16 (w : World) (a : Option Addr) (len : Nat) (A : Nat → Nat) : Prop :=
  len ≤ 9223372036854775807 ∧ (len = 0 ∨ ∃ b o, a = some ⟨b, o, none⟩ ∧ b < w.heap.size ∧ ∀ i, i < len → w.cell? ⟨b, o + i, none⟩ = some (.int .u16 (A i)) ∧ A i < 65536)

set_option maxHeartbeats 8000000 in
set_option maxRecDepth 8000 in
theorem keeps_walk (a : Option Addr) (n c : Nat) (A : Nat → Nat) (L : ByteArray) (hL : L.size ≤ 1000000000000000) (f : FG) (hf : f.keep < 18446744073709551616) (w : World) (h1 : IsU16 w a n A) :
    Calls Try.prog 4 #[.slice a n c, .string L, .agg (fcells f).toArray] w fun e w' => e = .returned (.bool true) ∧ Below w.heap.size w w' := by
  have H1 : Hid (IsU16 w a n A) := h1
  have hn1 := h1.1
  clear h1
  obtain ⟨w0, hw0⟩ : ∃ w0, w0 = w.alloc (.cells (fcells f).toArray 34) := ⟨_, rfl⟩
  have HBX : Hid (Blk w0 w.heap.size (fcells f).toArray 34 ∧ Below w.heap.size w w0) := by rw [hw0]; exact ⟨Blk.made _ _ _, (Below.refl _ _).alloc (Nat.le_refl _) _⟩
  unfold fcells at hw0 ⊢
  go_enter Try.func4, Try.ntmps4
  go_wp2_with fail
  rw [← hw0]
  clear hw0
  refine (new_out w0 64 (by omega) (by omega) (fun _ => False)).mono ?_
  rintro e w1 ⟨p, rfl, ⟨S1, hd1, hm1, hS1⟩, hb1⟩
  have HD1 : Hid (IsDisk w1 p S1 (newD 64) ∧ Below w0.heap.size w0 w1 ∧ ∀ i, S1 i → w0.heap.size ≤ i) := ⟨hd1, hb1, hS1⟩
  clear hd1 hm1 hS1 hb1
  go_wp2_with fail
  refine (awake_any _).mono ?_
  rintro e w2 ⟨rfl, b2⟩
  have HD2 : Hid (IsDisk w2 p S1 (newD 64) ∧ Below w0.heap.size w0 w2 ∧ ∀ i, S1 i → w0.heap.size ≤ i) := ⟨HD1.out.1.below b2, HD1.out.2.1.trans (b2.mono HD1.out.2.1.size), HD1.out.2.2⟩
  clear b2 HD1
  have hmm := @run_makeMap Try.prog
  obtain ⟨L', hL', hLs⟩ : ∃ L' : ByteArray, (L' = if 100000 < L.size then L.extract 0 100000 else L) ∧ L'.size ≤ 100000 := ⟨_, rfl, by split <;> (try rw [ByteArray.size_extract]) <;> omega⟩
  have HL' : Hid (L' = if 100000 < L.size then L.extract 0 100000 else L) := hL'
  clear hL'
  by_cases hbig : 100000 < L.size
  all_goals
    first | (have hbg : (100000 : Int) < (L.size : Int) := by omega) | (have hbg : ¬ (100000 : Int) < (L.size : Int) := by omega)
    have hLv := HL'.out
    first | rw [if_pos hbig] at hLv | rw [if_neg hbig] at hLv
    go_wp2
    rw [← hLv]
    clear hLv
    go_loopw [10] (fun i wr => ∃ (k : Nat) (S : Nat → Prop) (d : DG) (lf : Nat → Option UInt8), k ≤ n ∧ k ≤ 100 ∧ i = .int .i64 k ∧ Hid (Kp w0 wr p w2.heap.size S d lf k k)) (fun i _ => 100 - (intOf i).toNat)
    case atStart => exact ⟨0, S1, newD 64, _, by omega, by omega, rfl, Kp.start HD2.out⟩
    case round =>
      obtain ⟨k, S, d, lf, hk1, hk2, rfl, HK⟩ := hrel
      by_cases hlt : k < n ∧ k < 100
      · obtain ⟨g1, g2⟩ := hlt
        have g1' : (k : Int) < n := by omega
        have g2' : (k : Int) < 100 := by omega
        obtain ⟨b, o, rfl, hb, hcell⟩ : ∃ b o, a = some ⟨b, o, none⟩ ∧ b < w.heap.size ∧ ∀ i, i < n → w.cell? ⟨b, o + i, none⟩ = some (.int .u16 (A i)) ∧ A i < 65536 := by
          rcases H1.out.2 with h | h
          · omega
          · exact h
        have hb0 : b < w0.heap.size := Nat.lt_of_lt_of_le hb HBX.out.2.size
        have q0 := (World.cell?_of_block (w := w) (w' := wr) (a := ⟨b, o + k, none⟩) ((HK.out.bel.block b hb0).trans (HBX.out.2.block b hb))).trans (hcell k g1).1
        have hx := (hcell k g1).2
        generalize A k = x at *
        obtain ⟨q, hq⟩ : ∃ q : Nat, q = x % 64 + 1 := ⟨_, rfl⟩
        have hq1 : 1 ≤ q ∧ q ≤ 64 := by omega
        have hq2 : (x : Int) % 64 + 1 = (q : Int) := by omega
        have hq3 : ((x : Int)).tmod 64 = (x : Int) % 64 := Int.tmod_eq_emod_of_nonneg (by omega)
        have hw1 : IntKind.u32.wrap (q : Int) = (q : Int) := by rw [IntKind.wrap_u32]; omega
        have hw2 : IntKind.u8.wrap (k : Int) = (k : Int) := by rw [IntKind.wrap_u8]; omega
        clear hq hcell
        go_wp2_with fail
        refine (page_n (by omega) _).mono ?_
        rintro e w3 ⟨rfl, b3⟩
        have HK3 : Hid (Kp w0 w3 p w2.heap.size S d lf k k) := HK.out.below b3
        clear b3 HK q0
        go_wp2_with fail
        refine (write_out HK3.out.disk HK3.out.calm.dead HK3.out.calm.plan (by have h1 := HK3.out.calm.calls; have h2 := HK3.out.calm.nF; have h3 := HK3.out.calm.long; omega) q (by omega) (by rw [HK3.out.room]; exact checkE_ok (by omega) (by omega) (by omega)) _ (pageS_size _)).mono ?_
        rintro e w4 ⟨rfl, S4, hd4, hm4⟩
        have hlast : IsLast w4 w2.heap.size k lf := HK3.out.last.same (hm4.off HK3.out.last.lt HK3.out.off).1
        obtain ⟨w5, hr5, hl5, ht5⟩ := hlast.put (by omega) (p := q) (by omega) (UInt8.ofNat k)
        have hku : ((UInt8.ofNat k).toNat : Int) = (k : Int) := by rw [UInt8.toNat_ofNat']; omega
        rw [hku] at hr5
        have HK5 : Hid (Kp w0 w5 p w2.heap.size S4 (wrD d q (pageS (UInt8.ofNat k))) (setL lf q (UInt8.ofNat k)) (k + 1) (k + 1)) := HK3.out.write (by omega) (by omega) (by omega) hd4 hm4 hl5 ht5
        clear hd4 hm4 hlast hl5 ht5 HK3 hku
        go_wp2
        go_roundw
        case rel => exact ⟨k + 1, S4, _, _, by omega, by omega, by go_num, HK5⟩
        case measure => simp [intOf]; omega
      · have hex : ¬ (k : Int) < n ∨ (k : Int) < n ∧ ¬ (k : Int) < 100 := by omega
        obtain ⟨T, HT, hT1, hT2, hT3, C5, C4, C3, C2, C1, HRD⟩ := keeps_end HK.out hk2 L' hLs f
        have HR0 : Hid (d.room = 64) := HK.out.room
        have HF0 : Hid (Fr w0 wr p w2.heap.size S d lf k) := HK.out.fr
        have HC0 : Hid (Calm d k ∧ d.log = []) := ⟨HK.out.calm, HK.out.log⟩
        clear HK
        have hms : (L' ++ moreS).size = L'.size + 4 := by rw [ByteArray.size_append]; rfl
        unfold moreS at hT3 hms
        have hno : ¬ (9223372036854775807 < L'.size + (ByteArray.mk #[109, 111, 114, 101]).size) := by show ¬ (_ < L'.size + 4); omega
        rcases hex with hex | ⟨hex0, hex⟩
        all_goals
          go_wp2_with fail
          refine (appendLog_out HF0.out.disk HC0.out.1.dead HC0.out.1.plan (by have := HC0.out.1.calls; omega) L' (by rw [HC0.out.2]; simp; omega)).mono ?_
          rintro e w3 ⟨rfl, S3, hd3, hm3⟩
          have HF3 := Fr.hid HF0 hd3 hm3
          clear hd3 hm3 HF0
          go_wp2_with fail
          refine (syncLog_out HF3.out.disk C1.out.1.dead C1.out.1.plan (by have := C1.out.1.calls; omega) (by have := C1.out.2; omega)).mono ?_
          rintro e w4 ⟨rfl, S4, hd4, hm4⟩
          have HF4 : Hid (Fr w0 w4 p w2.heap.size S4 (lgD d L') lf k) := Fr.hid HF3 hd4 hm4
          clear hd4 hm4 HF3
          go_wp2_with fail
          refine (sync_out HF4.out.disk C2.out.dead C2.out.plan (by have := C2.out.calls; omega) C2.out.ok).mono ?_
          rintro e w5 ⟨rfl, S5, hd5, hm5⟩
          have HF5 := Fr.hid HF4 hd5 hm5
          clear hd5 hm5 HF4
          go_wp2_with fail
          refine (appendLog_out HF5.out.disk C3.out.1.dead C3.out.1.plan (by have := C3.out.1.calls; omega) moreS (by rw [C3.out.2]; show L'.size + 4 ≤ _; omega)).mono ?_
          rintro e w6 ⟨rfl, S6, hd6, hm6⟩
          have HF6 := Fr.hid HF5 hd6 hm6
          clear hd6 hm6 HF5
          have hbx := HBX.out.1.same (HF6.out.bel.block _ HBX.out.1.lt)
          have x0 := hbx.cell 0
          have x1 := hbx.cell 1
          have x2 := hbx.cell 2
          have x3 := hbx.cell 3
          have x4 := hbx.cell 4
          unfold fcells at x0 x1 x2 x3 x4
          simp only [List.getElem?_toArray, List.getElem?_cons_zero, List.getElem?_cons_succ] at x0 x1 x2 x3 x4
          clear hbx
          go_wp2_with fail
          refine (crash_out HF6.out.disk C4.out.dead C4.out.ok f hf).mono ?_
          rintro e w7 ⟨rfl, S7, hd7, hm7⟩
          have HF7 := Fr.hid HF6 hd7 hm7
          clear hd7 hm7 HF6 x0 x1 x2 x3 x4
          go_wp2_with fail
          refine (up_out HF7.out.disk).mono ?_
          rintro e w8 ⟨rfl, S8, hd8, hm8⟩
          have HF8 : Hid (Fr w0 w8 p w2.heap.size S8 (upD f (putD (syncD (lgD d L')) moreS)) lf k) := Fr.hid HF7 hd8 hm8
          clear hd8 hm8 HF7
          go_wp2_with fail
          refine (readLog_out HF8.out.disk C5.out.dead).mono ?_
          rintro e w9 ⟨rfl, b9⟩
          rw [HT.out]
          have HF9 := Fr.hidb HF8 b9
          clear b9 HF8
          have hd1 : decide ((T.size : Int) < (L'.size : Int)) = false := decide_eq_false (by omega)
          have hd2 : decide (T.size < L'.size) = false := decide_eq_false (by omega)
          have hd3 : decide ((L'.size : Int) + 4 < (T.size : Int)) = false := decide_eq_false (by omega)
          go_wp2
          clear hT1 hT2 hT3 hms hno C1 C2 C3 C4 HT
          go_loopw [14] (fun i wr => ∃ j : Nat, 1 ≤ j ∧ j ≤ 65 ∧ i = .int .i64 j ∧ Hid (Fr w0 wr p w2.heap.size S8 (upD f (putD (syncD (lgD d L')) moreS)) lf k)) (fun i _ => 65 - (intOf i).toNat)
          case atStart => exact ⟨1, by omega, by omega, rfl, HF9⟩
          case round =>
            obtain ⟨j, hj1, hj2, rfl, HF⟩ := hrel
            by_cases hlt : j ≤ 64
            · have hlt' : (j : Int) ≤ 64 := by omega
              have hlk := HF.out.last.look (p := j) (by omega)
              have hw1 : IntKind.u32.wrap (j : Int) = (j : Int) := by rw [IntKind.wrap_u32]; omega
              have hrd := HRD.out j hj1
              have HRm : Hid (checkE (upD f (putD (syncD (lgD d L')) moreS)).room j = 0) := by
                show checkE d.room j = 0
                rw [HR0.out]
                exact checkE_ok (by omega) (by omega) (by omega)
              cases e : lf j with
              | none =>
                rw [e] at hlk hrd
                simp only [Option.getD, Option.isSome, Option.map] at hlk hrd
                have HRD2 : Hid (readD (upD f (putD (syncD (lgD d L')) moreS)) j = zerosS) := hrd
                clear hrd e
                go_wp2_with fail
                refine (read_out HF.out.disk C5.out.dead j (by omega) HRm.out (by rw [HRD2.out, zerosS_size]; omega)).mono ?_
                rintro z w10 ⟨rfl, b10⟩
                rw [HRD2.out]
                have HF10 := Fr.hidb HF b10
                clear b10 HF hlk
                go_wp2_with fail
                refine (zerosRef_any _).mono ?_
                rintro z w11 ⟨rfl, b11⟩
                have HF11 := Fr.hidb HF10 b11
                clear b11 HF10 HRD2 HRm
                go_wp2
                first
                  | (refine ⟨⟨_, _, _, _, _, _, _, _, _, _, _, _, _, _, _, _, _, _, _, _, _, _, _, _, _, _, _, _, _, _, _, _, _, _, _, _, _, _, _, _, _, _, _, ⟨j + 1, by omega, by omega, by go_num, HF11⟩, rfl⟩, ?_⟩; simp [intOf]; omega)
                  | (refine ⟨⟨_, _, _, _, _, _, _, _, _, _, _, _, _, _, _, _, _, _, _, _, _, _, _, _, _, _, _, _, _, _, _, _, _, _, _, _, _, _, _, _, _, _, ⟨j + 1, by omega, by omega, by go_num, HF11⟩, rfl⟩, ?_⟩; simp [intOf]; omega)
                  | (refine ⟨⟨_, _, _, _, _, _, _, _, _, _, _, _, _, _, _, _, _, _, _, _, _, _, _, _, _, _, _, _, _, _, _, _, _, _, _, _, _, _, _, _, _, _, _, _, ⟨j + 1, by omega, by omega, by go_num, HF11⟩, rfl⟩, ?_⟩; simp [intOf]; omega)
                  | (refine ⟨⟨_, _, _, _, _, _, _, _, _, _, _, _, _, _, _, _, _, _, _, _, _, _, _, _, _, _, _, _, _, _, _, _, _, _, _, _, _, _, _, _, _, ⟨j + 1, by omega, by omega, by go_num, HF11⟩, rfl⟩, ?_⟩; simp [intOf]; omega)
                  | (refine ⟨⟨_, _, _, _, _, _, _, _, _, _, _, _, _, _, _, _, _, _, _, _, _, _, _, _, _, _, _, _, _, _, _, _, _, _, _, _, _, _, _, _, _, _, _, _, _, ⟨j + 1, by omega, by omega, by go_num, HF11⟩, rfl⟩, ?_⟩; simp [intOf]; omega)
                  | (refine ⟨⟨j + 1, by omega, by omega, by first | omega | go_num, HF11⟩, ?_⟩; simp [intOf]; omega)
                  | (go_roundw; case rel => exact ⟨j + 1, by omega, by omega, by go_num, HF11⟩; case measure => (simp [intOf]; omega))
                  | (refine ⟨?_, ?_⟩; exact ⟨j + 1, by omega, by omega, by simp, HF11⟩; simp [intOf]; omega)
              | some b =>
                rw [e] at hlk hrd
                simp only [Option.getD, Option.isSome, Option.map] at hlk hrd
                have HRD2 : Hid (readD (upD f (putD (syncD (lgD d L')) moreS)) j = pageS b) := hrd
                clear hrd e
                go_wp2_with fail
                refine (read_out HF.out.disk C5.out.dead j (by omega) HRm.out (by rw [HRD2.out, pageS_size]; omega)).mono ?_
                rintro z w10 ⟨rfl, b10⟩
                rw [HRD2.out]
                have HF10 := Fr.hidb HF b10
                clear b10 HF hlk
                go_wp2_with fail
                refine (page_any b _).mono ?_
                rintro z w11 ⟨rfl, b11⟩
                have HF11 := Fr.hidb HF10 b11
                clear b11 HF10 HRD2 HRm
                generalize pageS b = pgb at *
                go_wp2
                first
                  | (refine ⟨⟨_, _, _, _, _, _, _, _, _, _, _, _, _, _, _, _, _, _, _, _, _, _, _, _, _, _, _, _, _, _, _, _, _, _, _, _, _, _, _, _, _, _, _, ⟨j + 1, by omega, by omega, by go_num, HF11⟩, rfl⟩, ?_⟩; simp [intOf]; omega)
                  | (refine ⟨⟨_, _, _, _, _, _, _, _, _, _, _, _, _, _, _, _, _, _, _, _, _, _, _, _, _, _, _, _, _, _, _, _, _, _, _, _, _, _, _, _, _, _, ⟨j + 1, by omega, by omega, by go_num, HF11⟩, rfl⟩, ?_⟩; simp [intOf]; omega)
                  | (refine ⟨⟨_, _, _, _, _, _, _, _, _, _, _, _, _, _, _, _, _, _, _, _, _, _, _, _, _, _, _, _, _, _, _, _, _, _, _, _, _, _, _, _, _, _, _, _, ⟨j + 1, by omega, by omega, by go_num, HF11⟩, rfl⟩, ?_⟩; simp [intOf]; omega)
                  | (refine ⟨⟨_, _, _, _, _, _, _, _, _, _, _, _, _, _, _, _, _, _, _, _, _, _, _, _, _, _, _, _, _, _, _, _, _, _, _, _, _, _, _, _, _, ⟨j + 1, by omega, by omega, by go_num, HF11⟩, rfl⟩, ?_⟩; simp [intOf]; omega)
                  | (refine ⟨⟨_, _, _, _, _, _, _, _, _, _, _, _, _, _, _, _, _, _, _, _, _, _, _, _, _, _, _, _, _, _, _, _, _, _, _, _, _, _, _, _, _, _, _, _, _, ⟨j + 1, by omega, by omega, by go_num, HF11⟩, rfl⟩, ?_⟩; simp [intOf]; omega)
                  | (refine ⟨⟨j + 1, by omega, by omega, by first | omega | go_num, HF11⟩, ?_⟩; simp [intOf]; omega)
                  | (go_roundw; case rel => exact ⟨j + 1, by omega, by omega, by go_num, HF11⟩; case measure => (simp [intOf]; omega))
                  | (refine ⟨?_, ?_⟩; exact ⟨j + 1, by omega, by omega, by simp, HF11⟩; simp [intOf]; omega)
            · go_wp2
              go_ret
              exact ⟨rfl, HBX.out.2.trans (HF.out.bel.mono HBX.out.2.size)⟩

end Go.Proofs.Ytkgehckldeegjaa
