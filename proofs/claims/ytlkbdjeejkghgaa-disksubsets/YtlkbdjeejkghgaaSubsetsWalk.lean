/-
  The walk of girderlaw02.DiskSubsets.
-/
import Derived.Test.YtlkbdjeejkghgaaSubsetsParts
import Derived.Test.YtlkbdjeejkghgaaRegionLast
import Derived.Deep.CutRange
namespace Go.Proofs.Ytlkbdjeejkghgaa
open Go.RowKit
set_option linter.unusedVariables false

theorem ba_left (s x : ByteArray) : s.extract 0 0 ++ x = x := by
  apply ByteArray.ext
  apply Array.ext'
  simp

theorem ba_right (x t : ByteArray) (h : t.size = 512) : x ++ t.extract 512 512 = x := by
  apply ByteArray.ext
  apply Array.ext'
  have : (t.extract 512 512).data.toList = [] := by
    rw [ByteArray.data_extract]
    simp
  rw [ByteArray.data_append, Array.toList_append, this, List.append_nil]

theorem mixed2 : Try.prog.follows .mixedOrders = true := by kernel_rfl

set_option maxHeartbeats 8000000 in
set_option maxRecDepth 8000 in
theorem subsets_walk (a : Option Addr) (n c : Nat) (A : Nat → UInt8) (keep : Nat) (hkp : keep < 18446744073709551616) (torn bytes : Int) (ht : -9223372036854775808 ≤ torn ∧ torn ≤ 9223372036854775807) (w : World) (h1 : IsBytes w a n c A) :
    Calls Try.prog 3 #[.slice a n c, .int .u64 keep, .agg #[.int .i64 torn, .int .i64 bytes]] w fun e w' => e = .returned (.bool true) ∧ Below w.heap.size w w' := by
  have H1 : Hid (IsBytes w a n c A) := h1
  have hn1 := h1.1
  have hn2 := h1.2.1
  clear h1
  go_enter Try.func3, Try.ntmps3
  go_wp2
  go_quiet (fail)
  go_wp2_with fail
  have HB0 : Hid (Below w.heap.size w ((w.alloc (.cells #[.int .i64 torn, .int .i64 bytes] 24)).drewN nq)) := ((Below.refl _ _).alloc (Nat.le_refl _) _).trans (below_drewN' _ _ |>.mono (by simp))
  generalize (w.alloc (.cells #[.int .i64 torn, .int .i64 bytes] 24)).drewN nq = w0 at *
  refine (new_out w0 8 (by omega) (by omega) (fun _ => False)).mono ?_
  rintro e w1 ⟨p, rfl, ⟨S1, hd1, hm1, hS1⟩, hb1⟩
  have HD1 : Hid (IsDisk w1 p S1 (newD 8) ∧ Below w.heap.size w w1 ∧ ∀ i, S1 i → w.heap.size ≤ i) := ⟨hd1, HB0.out.trans (hb1.mono HB0.out.size), fun i hi => Nat.le_trans HB0.out.size (hS1 i hi)⟩
  clear hd1 hm1 hS1 hb1
  go_wp2_with fail
  refine (awake_any _).mono ?_
  rintro e w2 ⟨rfl, b2⟩
  have HD2 : Hid (IsDisk w2 p S1 (newD 8) ∧ Below w.heap.size w w2 ∧ ∀ i, S1 i → w.heap.size ≤ i) := ⟨HD1.out.1.below b2, HD1.out.2.1.trans (b2.mono HD1.out.2.1.size), HD1.out.2.2⟩
  clear b2 HD1
  obtain ⟨N, hN, hNn, hN40⟩ : ∃ N : Nat, (N = if 40 < n then 40 else n) ∧ N ≤ n ∧ N ≤ 40 := ⟨_, rfl, by split <;> omega, by split <;> omega⟩
  have HN : Hid (N = if 40 < n then 40 else n) := hN
  clear hN
  by_cases h40 : 40 < n
  all_goals
    first | (have hbg : (40 : Int) < (n : Int) := by omega) | (have hbg : ¬ (40 : Int) < (n : Int) := by omega)
    have hNe : N = n ∨ N = 40 := by have := HN.out; split at this <;> omega
    have hNv := HN.out
    first | rw [if_pos h40] at hNv | rw [if_neg h40] at hNv
    go_wp2
    rw [← hNv]
    clear hNv
    go_loopw [12] (fun i wr => ∃ k : Nat, k ≤ 9 ∧ i = .int .i64 k ∧ Hid (SubW w wr p w2.heap.size S1 (newD 8) (fun j => if j < k then zerosS else ⟨#[]⟩) 0)) (fun i _ => 9 - (intOf i).toNat)
    case atStart => exact ⟨0, by omega, rfl, sub_start HD2.out ((row9 _ _).congr fun j _ => (if_neg (Nat.not_lt_zero j)).symm)⟩
    case round =>
      obtain ⟨k, hk, rfl, HS⟩ := hrel
      by_cases hlt : k < 9
      · have hlt' : (k : Int) < 9 := by omega
        go_wp2_with fail
        refine (zerosRef_any _).mono ?_
        rintro e w3 ⟨rfl, b3⟩
        have HS3 : Hid (SubW w w3 p w2.heap.size S1 (newD 8) (fun j => if j < k then zerosS else ⟨#[]⟩) 0) := HS.out.below b3
        clear b3 HS
        have q0 := (HS3.out.row k hlt).1
        have q1 := (HS3.out.row k hlt).2
        have HS4 : Hid (SubW w (w3.setCell ⟨w2.heap.size, k, none⟩ (.string zerosS)) p w2.heap.size S1 (newD 8) (fun j => if j < k + 1 then zerosS else ⟨#[]⟩) 0) := HS3.out.set hlt zerosS fun j hj => by
          by_cases c1 : j = k
          · rw [if_pos c1, if_pos (by omega)]
          · rw [if_neg c1]
            by_cases c2 : j < k
            · rw [if_pos c2, if_pos (by omega)]
            · rw [if_neg c2, if_neg (by omega)]
        go_wp2
        go_roundw
        case rel => exact ⟨k + 1, by omega, by go_num, HS4⟩
        case measure => simp [intOf]; omega
      · obtain rfl : k = 9 := by omega
        have HS2 : Hid (Sub w wr p w2.heap.size S1 (newD 8) ⟨0, keep, torn, bytes, 0⟩ 0) := HS.out.toSub fun j hj => by rw [if_pos hj]; rfl
        clear HS
        go_wp2
        go_loopw [13] (fun i wr => ∃ (k : Nat) (S : Nat → Prop) (d : DG), k ≤ N ∧ i = .int .i64 k ∧ Hid (Sub w wr p w2.heap.size S d ⟨0, keep, torn, bytes, 0⟩ k)) (fun i _ => N - (intOf i).toNat)
        case atStart => exact ⟨0, S1, newD 8, by omega, rfl, HS2⟩
        case round =>
          obtain ⟨k, S, d, hk, rfl, HS⟩ := hrel
          by_cases hlt : k < N
          · obtain ⟨b, o, rfl, hb, hcell⟩ : ∃ b o, a = some ⟨b, o, none⟩ ∧ b < w.heap.size ∧ ∀ i, i < n → w.cell? ⟨b, o + i, none⟩ = some (.int .u8 (A i).toNat) := by
              rcases H1.out.2.2 with h | h
              · omega
              · exact h
            have q0 := (World.cell?_of_block (w := w) (w' := wr) (a := ⟨b, o + k, none⟩) (HS.out.bel.block b hb)).trans (hcell k (by omega))
            have hx : (A k).toNat < 256 := (A k).toNat_lt
            have hlt' : (k : Int) < (N : Int) := by omega
            generalize (A k).toNat = x at *
            obtain ⟨q, hq⟩ : ∃ q : Nat, q = x % 8 + 1 := ⟨_, rfl⟩
            have hq1 : 1 ≤ q ∧ q ≤ 8 := by omega
            have hq2 : (x : Int) % 8 + 1 = (q : Int) := by omega
            have hq3 : ((x : Int)).tmod 8 = (x : Int) % 8 := Int.tmod_eq_emod_of_nonneg (by omega)
            have hw1 : IntKind.u32.wrap (q : Int) = (q : Int) := by rw [IntKind.wrap_u32]; omega
            have hw2 : IntKind.u8.wrap ((k : Int) + 1) = (k : Int) + 1 := by rw [IntKind.wrap_u8]; omega
            clear hq hcell
            go_wp2_with fail
            refine (page_k (by omega) _).mono ?_
            rintro e w3 ⟨rfl, b3⟩
            have HS3 := sub_below HS b3
            clear b3 HS q0
            have hs512 := pageS_size (UInt8.ofNat (k + 1))
            generalize hsg : pageS (UInt8.ofNat (k + 1)) = s at *
            have HSG : Hid (pageS (UInt8.ofNat (k + 1)) = s) := hsg
            clear hsg
            go_wp2_with fail
            refine (write_out HS3.out.disk HS3.out.calm.dead HS3.out.calm.plan (by have h1 := HS3.out.calm.calls; have h2 := HS3.out.calm.nF; have h3 := HS3.out.long; omega) q (by omega) (by rw [HS3.out.room]; exact checkE_ok (by omega) (by omega) (by omega)) s hs512).mono ?_
            rintro e w4 ⟨rfl, S4, hd4, hm4⟩
            obtain ⟨HW4, HF, ht512⟩ := sub_write HS3 hd4 hm4 (by omega) (by omega) (by omega) hs512
            clear hd4 hm4 HS3
            have r0 := (HW4.out.row q (by omega)).1
            have r1 := (HW4.out.row q (by omega)).2
            have hq9 : (q : Int) < 9 := by omega
            generalize htg : fallen ⟨0, keep, torn, bytes, 0⟩ d q = t at *
            have HTG : Hid (fallen ⟨0, keep, torn, bytes, 0⟩ d q = t) := htg
            clear htg
            by_cases ht1 : (k : Int) + 1 = torn
            · have ht2 : (0 : Int) < torn := by omega
              have ht3 : ((k : Int) == torn - 1) = true := by rw [beq_iff_eq]; omega
              have HF2 : Hid (fallen ⟨0, keep, torn, bytes, 0⟩ (wrD d q s) = fun j => if j = q then mix (tornN bytes) s t else fallen ⟨0, keep, torn, bytes, 0⟩ d j) := by
                have := HF.out; rw [if_pos ht1] at this; exact this
              have hm3 : ∃ m : Nat, m ≤ 512 ∧ tornN bytes = m ∧ (bytes < 0 ∧ m = 0 ∨ ¬ bytes < 0 ∧ 512 < bytes ∧ m = 512 ∨ bytes = (m : Int)) := by
                by_cases b0 : bytes < 0
                · exact ⟨0, by omega, by unfold tornN; omega, .inl ⟨b0, rfl⟩⟩
                · by_cases b1 : 512 < bytes
                  · exact ⟨512, by omega, by unfold tornN; omega, .inr (.inl ⟨b0, b1, rfl⟩)⟩
                  · exact ⟨bytes.toNat, by omega, by unfold tornN; omega, .inr (.inr (by omega))⟩
              obtain ⟨m, hm, HM, hm3⟩ := hm3
              have HE : Hid (∀ w5, Below w4.heap.size w4 w5 → Sub w (w5.setCell ⟨w2.heap.size, q, none⟩ (.string (s.extract 0 m ++ t.extract m 512))) p w2.heap.size S4 (wrD d q s) ⟨0, keep, torn, bytes, 0⟩ (k + 1)) := fun w5 b5 =>
                ((subw_below HW4 b5).out.set (by omega) (s.extract 0 m ++ t.extract m 512) (g' := fallen ⟨0, keep, torn, bytes, 0⟩ (wrD d q s)) fun j hj => by rw [HF2.out, HM]; unfold mix; rw [ht512]).toSub fun j hj => rfl
              have HR : Hid (∀ w5, Below w4.heap.size w4 w5 → w5.cell? ⟨w2.heap.size, q, none⟩ = some (.string t) ∧ w5.frozen? ⟨w2.heap.size, q, none⟩ = false) := fun w5 b5 => by
                have h := (subw_below HW4 b5).out.row q (by omega)
                rw [HTG.out] at h
                exact h
              have hno : ¬ (9223372036854775807 < (s.extract 0 m).size + (t.extract m 512).size) := by simp only [ByteArray.size_extract]; omega
              have hm5 : (m : Int) ≤ (s.size : Int) := by omega
              have hm6 : (m : Int) ≤ (t.size : Int) := by omega
              have hm7 : (m : Int) ≤ 512 := by omega
              clear HW4 HF HF2 HM
              have hwt : IntKind.u8.wrap (IntKind.i64.wrap torn) = (k : Int) + 1 := by rw [IntKind.wrap_i64, IntKind.wrap_u8]; omega
              have cP : ∀ dd os, Calls Try.prog 8 #[.int .u8 (IntKind.u8.wrap (IntKind.i64.wrap torn))] (Go.Sort.grow (redrawn w4 dd) os) fun e w'' => e = .returned (.string s) ∧ ∃ p : Regrown, w'' = Go.Sort.grow (redrawn w4 p.d) p.os := fun dd os => by
                have := page_k (k := k) (by omega) (Go.Sort.grow (redrawn w4 dd) os)
                rw [HSG.out] at this
                rw [hwt]
                exact Calls.regrown_of this
              clear hwt
              have gr0 := cell_regrown r0
              rcases hm3 with ⟨b0, rfl⟩ | ⟨b0, b1, rfl⟩ | rfl
              all_goals
                go_wp2_with fail
                refine wp_region_quiet_last { dst := none, op := Op.move (Operand.tmp 0), type := 0, pos := "", after := #[], guard := none } mixed2 rfl (by kernel_rfl) (by kernel_rfl) ?_
                simp only [List.dropLast_cons_cons, List.dropLast_singleton, List.getLast?_cons_cons, List.getLast?_singleton, Option.getD_some]
                iterate 14 (quiet_step (first | (go_at_call 8; exact cP _ _)))
                refine wpQuiet_nil ?_
                intro w5 hw'
                obtain ⟨⟨dq, osq⟩, hw''⟩ := hw'
                have b5 := below_regrown w4 dq osq
                rw [← hw''] at b5
                clear hw''
                obtain ⟨r0', r1'⟩ := HR.out w5 b5
                show Oper.wp _ _ _ _ _ _
                go_simp
                have HTK : Hid (Value.int .i64 torn = .int .i64 ((k + 1 : Nat) : Int)) := by show _ = _; congr 1; omega
                go_wp2_with fail
                refine ⟨⟨_, _, _, _, _, _, _, _, _, _, _, _, _, _, _, _, _, _, _, _, _, _, _, _, _, _, _, _, _, _, _, _, _, _, _, _, _, _, _, _, _, _, _, _, _, _, _, _, _, _, _, _, _, _, _, _, _, _, _, _, _, _, _, _, _, _, ⟨k + 1, S4, wrD d q s, by omega, HTK.out, by first | exact HE.out w5 b5 | (have h := HE.out w5 b5; rw [ba_left] at h; exact h) | (have h := HE.out w5 b5; rw [ba_right _ _ ht512] at h; exact h)⟩, rfl⟩, ?_⟩
                simp [intOf]
                omega
            · have HF2 : Hid (fallen ⟨0, keep, torn, bytes, 0⟩ (wrD d q s) = if bitB keep k then (fun j => if j = q then s else fallen ⟨0, keep, torn, bytes, 0⟩ d j) else fallen ⟨0, keep, torn, bytes, 0⟩ d) := by
                have := HF.out; rw [if_neg ht1] at this; exact this
              have hbit := bit_test hkp k
              have hw3 : IntKind.u64.wrap ((k : Int) % 64) = (k : Int) % 64 := by rw [IntKind.wrap_u64]; omega
              have hw4 : ((k : Int)).tmod 64 = (k : Int) % 64 := Int.tmod_eq_emod_of_nonneg (by omega)
              have hcases : (0 < torn ∧ ((k : Int) == torn - 1) = false) ∨ ¬ 0 < torn := by
                by_cases h : 0 < torn
                · exact .inl ⟨h, by rw [beq_eq_false_iff_ne]; omega⟩
                · exact .inr h
              rcases hcases with ⟨ht2, ht3⟩ | ht2
              all_goals
                cases hbt : bitB keep k with
                | true =>
                  rw [hbt] at hbit
                  go_wp2_with fail
                  refine (page_k (by omega) _).mono ?_
                  rintro e w5 ⟨rfl, b5⟩
                  rw [HSG.out]
                  have HW5 := subw_below HW4 b5
                  clear b5
                  have r0' := (HW5.out.row q (by omega)).1
                  have r1' := (HW5.out.row q (by omega)).2
                  have HE : Hid (Sub w (w5.setCell ⟨w2.heap.size, q, none⟩ (.string s)) p w2.heap.size S4 (wrD d q s) ⟨0, keep, torn, bytes, 0⟩ (k + 1)) :=
                    (HW5.out.set (by omega) s (g' := fallen ⟨0, keep, torn, bytes, 0⟩ (wrD d q s)) fun j hj => by have := HF2.out; rw [if_pos hbt] at this; rw [this]).toSub fun j hj => rfl
                  clear HW4 HW5 r0 r1
                  go_wp2
                  first
                    | (refine ⟨⟨_, _, _, _, _, _, _, _, _, _, _, _, _, _, _, _, _, _, _, _, _, _, _, _, _, _, _, _, _, _, _, _, _, _, _, _, _, _, _, _, _, _, _, _, _, _, _, _, _, _, _, _, _, _, _, _, _, _, _, _, _, _, _, _, _, _, ⟨k + 1, S4, wrD d q s, by omega, by go_num, HE⟩, rfl⟩, ?_⟩; simp [intOf]; omega)
                    | (refine ⟨⟨k + 1, by omega, by omega, S4, wrD d q s, HE⟩, ?_⟩; simp [intOf]; omega)
                | false =>
                  rw [hbt] at hbit
                  have HE : Hid (Sub w w4 p w2.heap.size S4 (wrD d q s) ⟨0, keep, torn, bytes, 0⟩ (k + 1)) := HW4.out.toSub fun j hj => by have := HF2.out; rw [if_neg (by rw [hbt]; decide)] at this; rw [this]
                  clear HW4
                  go_wp2
                  first
                    | (refine ⟨⟨_, _, _, _, _, _, _, _, _, _, _, _, _, _, _, _, _, _, _, _, _, _, _, _, _, _, _, _, _, _, _, _, _, _, _, _, _, _, _, _, _, _, _, _, _, _, _, _, _, _, _, _, _, _, _, _, _, _, _, _, _, _, _, _, _, _, ⟨k + 1, S4, wrD d q s, by omega, by go_num, HE⟩, rfl⟩, ?_⟩; simp [intOf]; omega)
                    | (refine ⟨⟨k + 1, by omega, by omega, S4, wrD d q s, HE⟩, ?_⟩; simp [intOf]; omega)
          · obtain rfl : k = N := by omega
            have hf64 : (⟨0, keep, torn, bytes, 0⟩ : FG).keep < 18446744073709551616 := hkp
            go_wp2_with fail
            refine (crash_out HS.out.disk HS.out.calm.dead HS.out.calm.ok ⟨0, keep, torn, bytes, 0⟩ hf64).mono ?_
            rintro e w5 ⟨rfl, S5, hd5, hm5⟩
            have HS5 := sub_crash HS hd5 hm5 (by omega)
            clear hd5 hm5 HS
            go_wp2_with fail
            refine (dead_out HS5.out.1).mono ?_
            rintro e w6 ⟨rfl, rfl⟩
            rw [show (failD ⟨0, keep, torn, bytes, 0⟩ d).dead = true from rfl]
            go_wp2_with fail
            refine (up_out HS5.out.1).mono ?_
            rintro e w7 ⟨rfl, S7, hd7, hm7⟩
            rw [show (failD ⟨0, keep, torn, bytes, 0⟩ d).dead = true from rfl]
            have HS7 := sub_up HS5 hd7 hm7
            clear hd7 hm7 HS5
            go_wp2
            go_loopw [16] (fun i wr => ∃ k : Nat, 1 ≤ k ∧ k ≤ 9 ∧ i = .int .i64 k ∧ Hid (SubU w wr p w2.heap.size S7 (upD ⟨0, keep, torn, bytes, 0⟩ d))) (fun i _ => 9 - (intOf i).toNat)
            case atStart => exact ⟨1, by omega, by omega, rfl, HS7⟩
            case round =>
              obtain ⟨k, hk1, hk9, rfl, HU⟩ := hrel
              by_cases hlt : k ≤ 8
              · have hlt' : (k : Int) ≤ 8 := by omega
                have hk9' : (k : Int) < 9 := by omega
                have hw1 : IntKind.u32.wrap (k : Int) = (k : Int) := by rw [IntKind.wrap_u32]; omega
                go_wp2_with fail
                refine (read_out HU.out.disk HU.out.calm.dead k (by omega) (by rw [HU.out.room]; exact checkE_ok (by omega) (by omega) (by omega)) (by have := HU.out.calm.ok.sure k; rw [HU.out.read]; omega)).mono ?_
                rintro e w8 ⟨rfl, b8⟩
                rw [HU.out.read]
                have HU8 := subu_below HU b8
                clear b8 HU
                have r0 := (HU8.out.row k (by omega)).1
                generalize (upD ⟨0, keep, torn, bytes, 0⟩ d).sure k = v at *
                go_wp2
                go_roundw
                case rel => exact ⟨k + 1, by omega, by omega, by go_num, HU8⟩
                case measure => simp [intOf]; omega
              · go_wp2
                go_ret
                exact ⟨rfl, HU.out.bel⟩

end Go.Proofs.Ytlkbdjeejkghgaa
