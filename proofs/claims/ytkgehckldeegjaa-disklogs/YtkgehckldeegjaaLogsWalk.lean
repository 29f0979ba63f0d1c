/-
  The walk of girderlaw02.DiskLogs.
-/
import Derived.Test.YtkgehckldeegjaaDiskAwake
import Derived.Test.YtkgehckldeegjaaStrs
namespace Go.Proofs.Ytkgehckldeegjaa
open Go.RowKit
set_option linter.unusedVariables false

/-- A text, cut to 1000 bytes. -/
def cutK (s : ByteArray) : ByteArray := if 1000 < s.size then s.extract 0 1000 else s

theorem cutK_size (s : ByteArray) : (cutK s).size ≤ 1000 := by
  unfold cutK
  split
  · rw [ByteArray.size_extract]; omega
  · omega

theorem Calm.put {d : DG} {n : Nat} (h : Calm d n) (hn : n < 1000000) {s : ByteArray} (hs : d.log.length + s.size ≤ 4194304) : Calm (putD d s) (n + 1) := by
  have h1 := h.long
  have h2 := h.calls
  have h3 := h.nF
  have h4 := h.ok.sl
  refine ⟨h.dead, h.plan, by show d.calls + 1 ≤ _; omega, ⟨h.ok.loose, h.ok.sure, h.ok.n, ?_, ?_⟩, by show d.nS + d.loose.length ≤ _; omega, by show d.nF ≤ _; omega⟩
  · show (d.log ++ s.data.toList).length ≤ _
    simp; omega
  · show d.sl ≤ (d.log ++ s.data.toList).length
    simp; omega

theorem Calm.sync2 {d : DG} {n : Nat} (h : Calm d n) (hn : n < 1000000) : Calm { d with calls := d.calls + 1, sl := d.log.length } (n + 1) := by
  have h1 := h.long
  have h2 := h.calls
  have h3 := h.nF
  exact ⟨h.dead, h.plan, by show d.calls + 1 ≤ _; omega, ⟨h.ok.loose, h.ok.sure, h.ok.n, h.ok.log, Nat.le_refl _⟩, by show d.nS + d.loose.length ≤ _; omega, by show d.nF ≤ _; omega⟩

theorem logs_step {w wr w3 : World} {p k : Nat} {S S3 : Nat → Prop} {d : DG} {T s : ByteArray} {L : List UInt8} (HD : Hid (IsDisk wr p S d ∧ Moves (fun _ => False) S w wr ∧ Calm d k ∧ d.log = L ++ T.data.toList)) (hd : IsDisk w3 p S3 (putD d s)) (hm : Moves S S3 wr w3) (hk : k < 1000000)
    (hs : d.log.length + s.size ≤ 4194304) : Hid (IsDisk w3 p S3 (putD d s) ∧ Moves (fun _ => False) S3 w w3 ∧ Calm (putD d s) (k + 1) ∧ (putD d s).log = L ++ (T ++ s).data.toList) := by
  obtain ⟨h1, h2, h3, h4⟩ := HD.out
  refine ⟨hd, h2.trans hm, h3.put hk hs, ?_⟩
  show d.log ++ s.data.toList = _
  rw [h4, List.append_assoc]
  congr 1

theorem logs_end (T T2 : ByteArray) (d : DG) (keep : Int) (hl : d.log = T.data.toList ++ T2.data.toList) (hs : d.sl = T.size) :
    (keep < 0 ∧ Hid ((⟨(upD ⟨0, 0, 0, 0, keep⟩ d).log.toArray⟩ : ByteArray) = T ++ T2.extract 0 0)) ∨ (¬ keep < 0 ∧ (T2.size : Int) < keep ∧ Hid ((⟨(upD ⟨0, 0, 0, 0, keep⟩ d).log.toArray⟩ : ByteArray) = T ++ T2.extract 0 T2.size)) ∨
    (∃ n : Nat, keep = (n : Int) ∧ n ≤ T2.size ∧ Hid ((⟨(upD ⟨0, 0, 0, 0, keep⟩ d).log.toArray⟩ : ByteArray) = T ++ T2.extract 0 n)) := by
  have hlen : d.log.length = T.size + T2.size := by rw [hl]; simp
  have key : ∀ n : Nat, n ≤ T2.size → logN d keep = T.size + n → (⟨(upD ⟨0, 0, 0, 0, keep⟩ d).log.toArray⟩ : ByteArray) = T ++ T2.extract 0 n := by
    intro n hn e
    apply byteArray_ext
    show (d.log.take (logN d keep)) = _
    rw [e, hl, List.take_append]
    have e1 : T.data.toList.length = T.size := by simp
    rw [List.take_of_length_le (by rw [e1]; omega), e1, show T.size + n - T.size = n from by omega]
    simp
  by_cases h0 : keep < 0
  · exact .inl ⟨h0, key 0 (by omega) (by unfold logN; omega)⟩
  · by_cases h1 : (T2.size : Int) < keep
    · exact .inr (.inl ⟨h0, h1, key T2.size (Nat.le_refl _) (by unfold logN; omega)⟩)
    · obtain ⟨n, rfl⟩ := Int.eq_ofNat_of_zero_le (show 0 ≤ keep by omega)
      exact .inr (.inr ⟨n, rfl, by omega, key n (by omega) (by unfold logN; omega)⟩)

set_option maxHeartbeats 8000000 in
set_option maxRecDepth 8000 in
theorem logs_walk (a1 a2 : Option Addr) (n1 n2 c1 c2 : Nat) (A1 A2 : Nat → ByteArray) (keep : Int) (hkp : -9223372036854775808 ≤ keep ∧ keep ≤ 9223372036854775807) (w : World) (h1 : IsStrs w a1 n1 A1) (h2 : IsStrs w a2 n2 A2) :
    Calls Try.prog 7 #[.slice a1 n1 c1, .slice a2 n2 c2, .int .i64 keep] w fun e w' => e = .returned (.bool true) ∧ Below w.heap.size w w' := by
  have H1 : Hid (IsStrs w a1 n1 A1) := h1
  have H2 : Hid (IsStrs w a2 n2 A2) := h2
  have hn1 := h1.1
  have hn2 := h2.1
  unfold maxLen at hn1 hn2
  clear h1 h2
  go_enter Try.func7, Try.ntmps7
  go_wp2_with fail
  refine (new_out w 8 (by omega) (by omega) (fun _ => False)).mono ?_
  rintro e w1 ⟨p, rfl, ⟨S1, hd1, hm1, _⟩, _⟩
  have HD1 : Hid (IsDisk w1 p S1 (newD 8) ∧ Moves (fun _ => False) S1 w w1) := ⟨hd1, hm1⟩
  clear hd1 hm1
  go_wp2_with fail
  refine (awake_any _).mono ?_
  rintro e w2 ⟨rfl, b2⟩
  have HD2 : Hid (IsDisk w2 p S1 (newD 8) ∧ Moves (fun _ => False) S1 w w2) := ⟨HD1.out.1.below b2, HD1.out.2.kept (Kept.of_below b2)⟩
  clear b2 HD1
  go_wp2
  go_loopw [9, 11] (fun sv i wr => ∃ (k : Nat) (T : ByteArray) (S : Nat → Prop) (d : DG), k ≤ n1 ∧ k ≤ 20 ∧ i = .int .i64 k ∧ sv = .string T ∧ T.size ≤ 1000 * k ∧
      Hid (IsDisk wr p S d ∧ Moves (fun _ => False) S w wr ∧ Calm d k ∧ d.log = [] ++ T.data.toList)) (fun _ i _ => 20 - (intOf i).toNat)
  case atStart => exact ⟨0, ⟨#[]⟩, S1, newD 8, by omega, by omega, rfl, rfl, Nat.le_refl 0, HD2.out.1, HD2.out.2, Calm.new, rfl⟩
  case round =>
    obtain ⟨k, T, S, d, hk1, hk2, rfl, rfl, hT, HD⟩ := hrel
    by_cases hlt : k < n1 ∧ k < 20
    · obtain ⟨g1, g2⟩ := hlt
      have g1' : (k : Int) < n1 := by omega
      have g2' : (k : Int) < 20 := by omega
      obtain ⟨b, o, rfl, hb, hcell⟩ : ∃ b o, a1 = some ⟨b, o, none⟩ ∧ b < w.heap.size ∧ ∀ i, i < n1 → w.cell? ⟨b, o + i, none⟩ = some (.string (A1 i)) ∧ (A1 i).size ≤ maxLen := by
        rcases H1.out.2 with h | h
        · omega
        · exact h
      have q0 := (World.cell?_of_block (w := w) (w' := wr) (a := ⟨b, o + k, none⟩) (HD.out.2.1.1.block b hb id)).trans (hcell k g1).1
      have hAk := (hcell k g1).2
      unfold maxLen at hAk
      have hcs := cutK_size (A1 k)
      have HC : Hid (cutK (A1 k) = if 1000 < (A1 k).size then (A1 k).extract 0 1000 else A1 k) := rfl
      have hno : ¬ (9223372036854775807 < T.size + (cutK (A1 k)).size) := by omega
      have HL : Hid (d.log.length + (cutK (A1 k)).size ≤ 4194304) := by
        show d.log.length + _ ≤ _
        rw [HD.out.2.2.2, List.nil_append]
        have : T.data.toList.length = T.size := by simp
        omega
      by_cases hbig : 1000 < (A1 k).size
      all_goals
        first | (have hbg : (1000 : Int) < ((A1 k).size : Int) := by omega) | (have hbg : ¬ (1000 : Int) < ((A1 k).size : Int) := by omega)
        have HC2 := HC.out
        first | rw [if_pos hbig] at HC2 | rw [if_neg hbig] at HC2
        rw [HC2] at hcs hno
        go_wp2_with fail
        refine (appendLog_out HD.out.1 HD.out.2.2.1.dead HD.out.2.2.1.plan (by have := HD.out.2.2.1.calls; omega) _ (by have := HL.out; rw [HC2] at this; exact this)).mono ?_
        rintro e w3 ⟨rfl, S3, hd3, hm3⟩
        have HN := logs_step HD hd3 hm3 (by omega) (by have := HL.out; rw [HC2] at this; exact this)
        have hsz : ∀ s : ByteArray, (T ++ s).size = T.size + s.size := fun s => ByteArray.size_append
        clear hd3 hm3 HD HL q0 hcell
        go_wp2
        go_roundw
        case rel => exact ⟨k + 1, _, S3, _, by omega, by omega, by go_num, rfl, by rw [hsz]; omega, HN⟩
        case measure => simp [intOf]; omega
    · have hex : ¬ (k : Int) < n1 ∨ (k : Int) < n1 ∧ ¬ (k : Int) < 20 := by omega
      have HT : Hid (T.data.toList.length = T.size) := by show _ = _; simp
      rcases hex with hex | ⟨hex0, hex⟩
      all_goals
        go_wp2_with fail
        refine (syncLog_out HD.out.1 HD.out.2.2.1.dead HD.out.2.2.1.plan (by have := HD.out.2.2.1.calls; omega) (by have := HD.out.2.2.1.ok.log; omega)).mono ?_
        rintro e w3 ⟨rfl, S3, hd3, hm3⟩
        have HD3 : Hid (∃ d3, IsDisk w3 p S3 d3 ∧ Moves (fun _ => False) S3 w w3 ∧ Calm d3 (k + 1) ∧ d3.log = T.data.toList ++ (ByteArray.mk #[]).data.toList ∧ d3.sl = T.size) :=
          ⟨_, hd3, HD.out.2.1.trans hm3, HD.out.2.2.1.sync2 (by omega), by show d.log = _; rw [HD.out.2.2.2, List.nil_append]; simp, by show d.log.length = _; rw [HD.out.2.2.2, List.nil_append]; exact HT.out⟩
        clear hd3 hm3 HD
        obtain ⟨d3, HD3'⟩ := HD3.out
        clear HD3
        have HD3 : Hid (IsDisk w3 p S3 d3 ∧ Moves (fun _ => False) S3 w w3 ∧ Calm d3 (k + 1) ∧ d3.log = T.data.toList ++ (ByteArray.mk #[]).data.toList ∧ d3.sl = T.size) := HD3'
        clear HD3'
        go_wp2
        go_loopw [10, 13] (fun sv i wr => ∃ (j : Nat) (T2 : ByteArray) (S : Nat → Prop) (d : DG), j ≤ n2 ∧ j ≤ 20 ∧ i = .int .i64 j ∧ sv = .string T2 ∧ T2.size ≤ 1000 * j ∧
            Hid (IsDisk wr p S d ∧ Moves (fun _ => False) S w wr ∧ Calm d (k + 1 + j) ∧ d.log = T.data.toList ++ T2.data.toList) ∧ Hid (d.sl = T.size)) (fun _ i _ => 20 - (intOf i).toNat)
        case atStart => exact ⟨0, ⟨#[]⟩, S3, d3, by omega, by omega, rfl, rfl, Nat.le_refl 0, ⟨HD3.out.1, HD3.out.2.1, HD3.out.2.2.1, HD3.out.2.2.2.1⟩, HD3.out.2.2.2.2⟩
        case round =>
          obtain ⟨j, T2, S, d, hj1, hj2, rfl, rfl, hT2, HD, HSL⟩ := hrel
          by_cases hlt : j < n2 ∧ j < 20
          · obtain ⟨g1, g2⟩ := hlt
            have g1' : (j : Int) < n2 := by omega
            have g2' : (j : Int) < 20 := by omega
            obtain ⟨b, o, rfl, hb, hcell⟩ : ∃ b o, a2 = some ⟨b, o, none⟩ ∧ b < w.heap.size ∧ ∀ i, i < n2 → w.cell? ⟨b, o + i, none⟩ = some (.string (A2 i)) ∧ (A2 i).size ≤ maxLen := by
              rcases H2.out.2 with h | h
              · omega
              · exact h
            have q0 := (World.cell?_of_block (w := w) (w' := wr) (a := ⟨b, o + j, none⟩) (HD.out.2.1.1.block b hb id)).trans (hcell j g1).1
            have hAk := (hcell j g1).2
            unfold maxLen at hAk
            have hcs := cutK_size (A2 j)
            have HC : Hid (cutK (A2 j) = if 1000 < (A2 j).size then (A2 j).extract 0 1000 else A2 j) := rfl
            have hno : ¬ (9223372036854775807 < T2.size + (cutK (A2 j)).size) := by omega
            have HL : Hid (d.log.length + (cutK (A2 j)).size ≤ 4194304) := by
              show d.log.length + _ ≤ _
              rw [HD.out.2.2.2, List.length_append, HT.out]
              have : T2.data.toList.length = T2.size := by simp
              omega
            by_cases hbig : 1000 < (A2 j).size
            all_goals
              first | (have hbg : (1000 : Int) < ((A2 j).size : Int) := by omega) | (have hbg : ¬ (1000 : Int) < ((A2 j).size : Int) := by omega)
              have HC2 := HC.out
              first | rw [if_pos hbig] at HC2 | rw [if_neg hbig] at HC2
              rw [HC2] at hcs hno
              go_wp2_with fail
              refine (appendLog_out HD.out.1 HD.out.2.2.1.dead HD.out.2.2.1.plan (by have := HD.out.2.2.1.calls; omega) _ (by have := HL.out; rw [HC2] at this; exact this)).mono ?_
              rintro e w4 ⟨rfl, S4, hd4, hm4⟩
              have HN := logs_step HD hd4 hm4 (by omega) (by have := HL.out; rw [HC2] at this; exact this)
              have hsz : ∀ s : ByteArray, (T2 ++ s).size = T2.size + s.size := fun s => ByteArray.size_append
              clear hd4 hm4 HD HL q0 hcell
              go_wp2
              go_roundw
              case rel => exact ⟨j + 1, _, S4, _, by omega, by omega, by go_num, rfl, by rw [hsz]; omega, HN, HSL⟩
              case measure => simp [intOf]; omega
          · have hex2 : ¬ (j : Int) < n2 ∨ (j : Int) < n2 ∧ ¬ (j : Int) < 20 := by omega
            have hTk : T2.size ≤ 20000 := by omega
            have HE := logs_end T T2 d keep HD.out.2.2.2 HSL.out
            rcases hex2 with hey | ⟨hey0, hey⟩
            all_goals
              go_wp2_with fail
              refine (crash_out HD.out.1 HD.out.2.2.1.dead HD.out.2.2.1.ok ⟨0, 0, 0, 0, keep⟩ (by show 0 < 18446744073709551616; omega)).mono ?_
              rintro e w5 ⟨rfl, S5, hd5, hm5⟩
              have HD5 : Hid (IsDisk w5 p S5 (failD ⟨0, 0, 0, 0, keep⟩ d) ∧ Moves (fun _ => False) S5 w w5) := ⟨hd5, HD.out.2.1.trans hm5⟩
              clear hd5 hm5
              go_wp2_with fail
              refine (up_out HD5.out.1).mono ?_
              rintro e w6 ⟨rfl, S6, hd6, hm6⟩
              have HD6 : Hid (IsDisk w6 p S6 (upD ⟨0, 0, 0, 0, keep⟩ d) ∧ Moves (fun _ => False) S6 w w6) := ⟨hd6, HD5.out.2.trans hm6⟩
              clear hd6 hm6 HD5 HD
              rcases HE with ⟨hk0, HE⟩ | ⟨hk0, hk1, HE⟩ | ⟨n, rfl, hn, HE⟩
              all_goals
                go_wp2_with fail
                refine (readLog_out HD6.out.1 rfl).mono ?_
                rintro e w7 ⟨rfl, b7⟩
                rw [HE.out]
                have hk7 := (HD6.out.2.kept (Kept.of_below b7)).1
                have HB7 : Hid (Below w.heap.size w w7) := ⟨hk7.os, hk7.tape, hk7.output, hk7.size, fun k hk => hk7.block k hk id⟩
                clear hk7 b7 HD6
                go_wp2
                go_ret
                exact ⟨rfl, HB7.out⟩

end Go.Proofs.Ytkgehckldeegjaa
