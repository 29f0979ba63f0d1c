/-
  The walk of girderlaw05.WalFalls (printed by wip/genfw.py).
-/
import Derived.Test.YthmhigjdjclckaaBase9C
import Derived.Deep.CutRange
namespace Go.Proofs.Ythmhigjdjclckaa
open Go.RowKit
set_option linter.unusedVariables false

theorem infoStr : (Try.prog.info? 9).map (fun i => (i.zero, i.size, i.bytes)) = some (some (.string ⟨#[]⟩), 1, 16) := by kernel_rfl

set_option maxHeartbeats 6400000 in
set_option maxRecDepth 20000 in
theorem falls_walk (a : Option Addr) (n c : Nat) (AA : Nat → AcV) (f1 : Int) (f2 : Nat) (f3 f4 f5 : Int) (w : World) (hA : ArgAcs w a n AA) (hn : n ≤ 9223372036854775807) (hf2 : f2 < 18446744073709551616) (hf1 : -9223372036854775808 ≤ f1 ∧ f1 ≤ 9223372036854775807) :
    Calls Try.prog 4 #[.slice a n c, .agg #[.int .i64 f1, .int .u64 f2, .int .i64 f3, .int .i64 f4, .int .i64 f5]] w fun e w' => e = .returned (.bool true) ∧ Below w.heap.size w w' := by
  have HAI : Hid (ArgAcs w a n AA) := hA
  clear hA
  obtain ⟨i0, hi, hz0, hz1, hz2⟩ := info_parts infoStr
  have HW0 : Hid (Below w.heap.size w (w.alloc (.cells #[.int .i64 f1, .int .u64 f2, .int .i64 f3, .int .i64 f4, .int .i64 f5] 38)) ∧ Blk (w.alloc (.cells #[.int .i64 f1, .int .u64 f2, .int .i64 f3, .int .i64 f4, .int .i64 f5] 38)) w.heap.size #[.int .i64 f1, .int .u64 f2, .int .i64 f3, .int .i64 f4, .int .i64 f5] 38 ∧ (w.alloc (.cells #[.int .i64 f1, .int .u64 f2, .int .i64 f3, .int .i64 f4, .int .i64 f5] 38)).heap.size = w.heap.size + 1) := ⟨(Below.refl _ _).alloc (Nat.le_refl _) _, Blk.made _ _ _, by simp⟩
  go_enter Try.func4, Try.ntmps4
  go_wp2_with fail
  generalize w.alloc (.cells #[.int .i64 f1, .int .u64 f2, .int .i64 f3, .int .i64 f4, .int .i64 f5] 38) = W0 at *
  refine (wnew_out W0 8 (by omega) (by omega)).mono ?_
  rintro e w1 ⟨p, rfl, ⟨D1, hd1, hn1⟩, b1⟩
  have HO := hid (open_out hd1 rfl (by show (0 : Nat) ≤ _; omega) (by
    have h0 : frameN ⟨(newD 8).log.toArray⟩ (allL ([] : List ByteArray)).length = 0 := frameN_end (by rw [bytes_size]; show (0 : Nat) < 0 + 4; omega)
    exact (open_recs p (newD 8) [] [] rfl (fun r hr => by cases hr) h0).2.2.2))
  have H1 : Hid (IsDisk w1 p D1 (newD 8) ∧ (∀ k, D1 k → W0.heap.size ≤ k) ∧ Below W0.heap.size W0 w1) := ⟨hd1, hn1, b1⟩
  clear hd1 hn1 b1
  go_wp2_with fail
  refine HO.out.mono ?_
  rintro e w2 ⟨q, rfl, ⟨S, hl2, hS2⟩, b2⟩
  have H2 : Hid (FaS w w2 p q S D1 ⟨f1, f2, f3, f4, f5⟩) := by
    obtain ⟨x1, x2, x3⟩ := HW0.out
    have hb2 : Below W0.heap.size W0 w2 := below_chain H1.out.2.2 b2
    have hz := H1.out.2.2.size
    refine ⟨hl2, H1.out.1.below b2, fun k y z => ?_, fun k y => ?_, ⟨hb2.os.trans x1.os, hb2.tape.trans x1.tape, hb2.output.trans x1.output, by have := hb2.size; omega, fun k hk => (hb2.block k (by omega)).trans (x1.block k hk)⟩, x2.same (hb2.block _ (by omega))⟩
    · have := hS2 k y
      have := H1.out.1.lt z
      omega
    · rcases y with y | y
      · have := hS2 k y; omega
      · have := H1.out.2.1 k y; omega
  clear hl2 hS2 b2 H1 HO HW0
  go_wp2_with fail
  refine (awake_any _).mono ?_
  rintro e w3 ⟨rfl, b3⟩
  have H3 : Hid (FaS w w3 p q S D1 ⟨f1, f2, f3, f4, f5⟩) := H2.out.below b3
  clear b3 H2
  have bx0 : w3.cell? ⟨w.heap.size, 0, none⟩ = some (.int .i64 f1) := H3.out.box.cell 0
  have bf0 : w3.frozen? ⟨w.heap.size, 0, none⟩ = false := H3.out.box.frozen 0
  go_upto_if 46 with fail
  go_cut [] from 46 to 47 (fun wx => ∃ v1 : Int, 0 ≤ v1 ∧ v1 ≤ 9223372036854775807 ∧ Hid (FaS w wx p q S D1 ⟨v1, f2, f3, f4, f5⟩))
  case first =>
    by_cases hneg : f1 < 0
    · have s1 : decide (f1 < 0) = true := by simp [hneg]
      have HS1 : Hid (FaS w (w3.setCell ⟨w.heap.size, 0, none⟩ (.int .i64 0)) p q S D1 ⟨0, f2, f3, f4, f5⟩) := H3.out.set 0
      go_wp2_with fail
      go_meet
      case rel => exact ⟨0, by omega, by omega, HS1⟩
    · have s1 : decide (f1 < 0) = false := by simp; omega
      go_wp2_with fail
      go_meet
      case rel => exact ⟨f1, by omega, by omega, H3⟩
  case rest =>
    obtain ⟨v1, hv0, hv1, H4⟩ := hcut
    clear H3 bx0 bf0
    have cx0 : wc.cell? ⟨w.heap.size, 0, none⟩ = some (.int .i64 v1) := H4.out.box.cell 0
    have cf0 : wc.frozen? ⟨w.heap.size, 0, none⟩ = false := H4.out.box.frozen 0
    have hm1 : v1.tmod 30 = v1 % 30 := Int.tmod_eq_emod_of_nonneg hv0
    have HS5 : Hid (FaS w (wc.setCell ⟨w.heap.size, 0, none⟩ (.int .i64 (v1 % 30))) p q S D1 ⟨v1 % 30, f2, f3, f4, f5⟩) := H4.out.set (v1 % 30)
    go_upto_region 8 with fail
    have hf : 0 ≤ v1 % 30 := by omega
    generalize hff : v1 % 30 = v5 at *
    clear hff hm1 H4 cx0 cf0 hv0 hv1
    generalize wc.setCell ⟨w.heap.size, 0, none⟩ (.int .i64 v5) = W5 at *
    obtain ⟨f, hfE⟩ : ∃ f : FG, f = ⟨v5, f2, f3, f4, f5⟩ := ⟨_, rfl⟩
    have y0 : W5.cell? ⟨w.heap.size, 0, none⟩ = some (.int .i64 v5) := HS5.out.box.cell 0
    have y1 : W5.cell? ⟨w.heap.size, 1, none⟩ = some (.int .u64 f2) := HS5.out.box.cell 1
    have y2 : W5.cell? ⟨w.heap.size, 2, none⟩ = some (.int .i64 f3) := HS5.out.box.cell 2
    have y3 : W5.cell? ⟨w.heap.size, 3, none⟩ = some (.int .i64 f4) := HS5.out.box.cell 3
    have y4 : W5.cell? ⟨w.heap.size, 4, none⟩ = some (.int .i64 f5) := HS5.out.box.cell 4
    have HPL := hid (fa_plan1 HS5.out hf hf2 (V := W5.alloc (.cells #[.int .i64 v5, .int .u64 f2, .int .i64 f3, .int .i64 f4, .int .i64 f5] 38)) rfl)
    rw [← hfE] at HPL
    have HLG : Hid (f5 = f.log) := by rw [hfE]; rfl
    clear hfE
    go_wp2_with fail
    refine HPL.out.mono ?_
    rintro e w6 ⟨rfl, D6, h6⟩
    have H6 : Hid (∃ S D l d, FaAt w (w6.alloc (.cells #[] 9)) p q S D l d [] [] 0 f 0 (.slice (some ⟨w6.heap.size, 0, none⟩) 0 0)) := ⟨_, _, _, _, h6⟩
    clear h6 HPL HS5 y0 y1 y2 y3 y4
    go_wp2_with fail
    go_loopw [10, 11, 12] (fun tv sv x wr => ∃ (i sure : Nat) (rs : List ByteArray), x = .int .i64 (i : Int) ∧ sv = .int .i64 (sure : Int) ∧ i ≤ n ∧ i ≤ 40 ∧ ((Hid (∃ S D l d, FaAt w wr p q S D l d rs rs sure f i tv)) ∨ Hid (∃ D d, FaE w wr p D d rs sure f tv ∧ d.dead = true))) (fun _ _ x _ => 40 - (intOf x).toNat)
    case atStart => exact ⟨0, 0, [], rfl, rfl, Nat.zero_le _, Nat.zero_le _, .inl H6⟩
    case round =>
      obtain ⟨i, sure, rs, rfl, rfl, hin, hi40, hst⟩ := hrel
      clear H6
      by_cases hlt : i < n ∧ i < 40
      · obtain ⟨hl1, hl2⟩ := hlt
        have d1 : decide ((i : Int) < (n : Int)) = true := by simp; omega
        have d2 : decide ((i : Int) < 40) = true := by simp; omega
        rcases hst with HF | HE
        · obtain ⟨S, D, l, d, hF⟩ := HF.out
          have H7 : Hid (FaAt w wr p q S D l d rs rs sure f i u10) := hF
          have hdd : d.dead = false := hF.L.dead
          have HDD := hid (dead_out hF.L.disk)
          rw [hdd] at HDD
          have HEN := hid (end_out hF.L.log (by have := hF.L.blen hi40; omega))
          obtain ⟨ta, tc, htv⟩ := owns_slice hF.tx
          have hsz := hF.L.blen hi40
          have hrn : rs.length ≤ 40 := by have := hF.L.cnt; omega
          clear hF HF
          obtain ⟨ab, ao, rfl, hab, hact⟩ : ∃ ab ao, a = some ⟨ab, ao, none⟩ ∧ ab < w.heap.size ∧ ∀ i, i < n → AcAt w ab (ao + i * 9) (AA i) ∧ AcOk (AA i) := by
            rcases HAI.out with h | h
            · omega
            · exact h
          obtain ⟨hact1, hok⟩ := hact i hl1
          obtain ⟨A, HAk⟩ : ∃ A, Hid (AA i = A) := ⟨_, rfl⟩
          rw [HAk.out] at hact1 hok
          have ca0 := (hact1.same (H7.out.bel.block ab hab)).c0
          have ca2 := (hact1.same (H7.out.bel.block ab hab)).c2
          have hss := hok.s
          unfold maxLen at hss
          clear hact hact1 HAk hok
          have i1 : (0 : Int) ≤ (i : Int) := by omega
          have i2 : (i : Int) < (n : Int) := by omega
          obtain ⟨kd, hkd⟩ : ∃ kd, A.kind = kd := ⟨_, rfl⟩
          obtain ⟨s, hs⟩ : ∃ s, A.s = s := ⟨_, rfl⟩
          rw [hkd] at ca0
          rw [hs] at ca2 hss
          subst htv
          by_cases hk4 : kd = 4
          · subst hk4
            have HFL := hid (wf_flush H7.out.L hi40)
            go_wp2_with (first | (go_at_call 11; refine HDD.out.mono ?_; rintro e v1 ⟨rfl, rfl⟩) | (go_at_call 13; refine HEN.out.mono ?_; rintro e v2 ⟨rfl, rfl⟩))
            refine HFL.out.mono ?_
            intro e v3 ho
            rcases H7.out.fl e ho with ⟨rfl, D', l', d', h8⟩ | ⟨rfl, D', d', h8, h8d⟩
            · have H8 : Hid (∃ S D l d, FaAt w v3 p q S D l d rs rs rs.length f (i + 1) (.slice ta rs.length tc)) := ⟨_, _, _, _, h8⟩
              clear h8 ho
              go_wp2_with fail
              exact ⟨⟨i + 1, rs.length, rs, by simp, rfl, by omega, by omega, .inl H8⟩, by simp [intOf]; omega⟩
            · have H8 : Hid (∃ D d, FaE w v3 p D d rs sure f (.slice ta rs.length tc) ∧ d.dead = true) := ⟨_, _, h8, h8d⟩
              clear h8 ho
              go_wp2_with fail
              exact ⟨⟨i + 1, sure, rs, by simp, rfl, by omega, by omega, .inr H8⟩, by simp [intOf]; omega⟩
          · have hk4' : (kd == 4) = false := by simp [hk4]
            have hsl : l.starts.length = rs.length := H7.out.L.recs.len
            have hkp : l.kept = 0 := H7.out.L.keeps
            by_cases c1 : s.size < 1
            · have t1 : decide ((s.size : Int) < 1) = true := by simp; omega
              have HAP := hid (append_out H7.out.L.log (by omega) (by omega) (by omega) ⟨#[114, 101, 99, 111, 114, 100]⟩ (by decide) (by decide) (by show 6 + 12 + _ + _ ≤ _; omega))
              go_wp2_with (first | (go_at_call 11; refine HDD.out.mono ?_; rintro e v1 ⟨rfl, rfl⟩))
              refine HAP.out.mono ?_
              rintro e v4 ⟨rfl, S', hl', hm'⟩
              have H8 : Hid (FaAt w v4 p q S' D (putG l ⟨#[114, 101, 99, 111, 114, 100]⟩) d (rs ++ [⟨#[114, 101, 99, 111, 114, 100]⟩]) rs sure f (i + 1) (.slice ta rs.length tc)) := H7.out.push hl' hm' (by decide) (by decide)
              have HO8 : Hid ((v4.alloc (.cells #[.string ⟨#[114, 101, 99, 111, 114, 100]⟩] 9)).ownsRow 0 9 1 (.slice ta rs.length tc) rs.length (rs.map Value.string)) := (H8.out.below ((Below.refl _ _).alloc (Nat.le_refl _) _)).tx
              have HN8 : Hid (∀ j u, [Value.string ⟨#[114, 101, 99, 111, 114, 100]⟩][j]? = some u → (v4.alloc (.cells #[.string ⟨#[114, 101, 99, 111, 114, 100]⟩] 9)).cell? ((⟨v4.heap.size, 0, none⟩ : Addr).add j) = some u) := World.news_of_block (w := v4.alloc (.cells #[.string ⟨#[114, 101, 99, 111, 114, 100]⟩] 9)) (heap_alloc_new v4 _)
              have H1C : Hid (∀ u ∈ [Value.string ⟨#[114, 101, 99, 111, 114, 100]⟩], u.oneCell' = true) := by intro u hu; simp at hu; subst hu; rfl
              clear hl' hm' HAP
              go_wp2_with (at_builtin; refine wpList_append_own_at _ rfl _ _ 31 rfl 0 9 i0 _ 1 16 Try.underlying31 hi hz0 hz1 hz2 rfl (by decide) (.slice ta rs.length tc) rs.length (rs.map Value.string) rfl HO8.out ⟨v4.heap.size, 0, none⟩ 1 1 [.string ⟨#[114, 101, 99, 111, 114, 100]⟩] rfl rfl HN8.out H1C.out (by unfold maxLen; omega) (by omega) (Nat.zero_le _) ?_; intro tv' w9 hown9 hgr9 hnil9 hloc9)
              have H9 : Hid (∃ S D l d, FaAt w w9 p q S D l d (rs ++ [⟨#[114, 101, 99, 111, 114, 100]⟩]) (rs ++ [⟨#[114, 101, 99, 111, 114, 100]⟩]) sure f (i + 1) tv') := ⟨_, _, _, _, H8.out.row ((Below.refl _ _).alloc (Nat.le_refl _) _) hgr9 hown9 (fun k hk => by
                rcases hloc9 with x | x
                · exact .inl (x ▸ hk)
                · rw [x] at hk
                  have k' := Option.some.inj hk
                  exact .inr (by omega))⟩
              clear hown9 hgr9 hnil9 hloc9
              go_wp2_with fail
              exact ⟨⟨i + 1, sure, rs ++ [⟨#[114, 101, 99, 111, 114, 100]⟩], by simp, rfl, by omega, by omega, .inl H9⟩, by simp [intOf]; omega⟩
            · by_cases c2 : 500 < s.size
              · have t1 : decide ((s.size : Int) < 1) = false := by simp; omega
                have t2 : decide ((500 : Int) < (s.size : Int)) = true := by simp; omega
                have HAP := hid (append_out H7.out.L.log (by omega) (by omega) (by omega) ⟨#[114, 101, 99, 111, 114, 100]⟩ (by decide) (by decide) (by show 6 + 12 + _ + _ ≤ _; omega))
                go_wp2_with (first | (go_at_call 11; refine HDD.out.mono ?_; rintro e v1 ⟨rfl, rfl⟩))
                refine HAP.out.mono ?_
                rintro e v4 ⟨rfl, S', hl', hm'⟩
                have H8 : Hid (FaAt w v4 p q S' D (putG l ⟨#[114, 101, 99, 111, 114, 100]⟩) d (rs ++ [⟨#[114, 101, 99, 111, 114, 100]⟩]) rs sure f (i + 1) (.slice ta rs.length tc)) := H7.out.push hl' hm' (by decide) (by decide)
                have HO8 : Hid ((v4.alloc (.cells #[.string ⟨#[114, 101, 99, 111, 114, 100]⟩] 9)).ownsRow 0 9 1 (.slice ta rs.length tc) rs.length (rs.map Value.string)) := (H8.out.below ((Below.refl _ _).alloc (Nat.le_refl _) _)).tx
                have HN8 : Hid (∀ j u, [Value.string ⟨#[114, 101, 99, 111, 114, 100]⟩][j]? = some u → (v4.alloc (.cells #[.string ⟨#[114, 101, 99, 111, 114, 100]⟩] 9)).cell? ((⟨v4.heap.size, 0, none⟩ : Addr).add j) = some u) := World.news_of_block (w := v4.alloc (.cells #[.string ⟨#[114, 101, 99, 111, 114, 100]⟩] 9)) (heap_alloc_new v4 _)
                have H1C : Hid (∀ u ∈ [Value.string ⟨#[114, 101, 99, 111, 114, 100]⟩], u.oneCell' = true) := by intro u hu; simp at hu; subst hu; rfl
                clear hl' hm' HAP
                go_wp2_with (at_builtin; refine wpList_append_own_at _ rfl _ _ 31 rfl 0 9 i0 _ 1 16 Try.underlying31 hi hz0 hz1 hz2 rfl (by decide) (.slice ta rs.length tc) rs.length (rs.map Value.string) rfl HO8.out ⟨v4.heap.size, 0, none⟩ 1 1 [.string ⟨#[114, 101, 99, 111, 114, 100]⟩] rfl rfl HN8.out H1C.out (by unfold maxLen; omega) (by omega) (Nat.zero_le _) ?_; intro tv' w9 hown9 hgr9 hnil9 hloc9)
                have H9 : Hid (∃ S D l d, FaAt w w9 p q S D l d (rs ++ [⟨#[114, 101, 99, 111, 114, 100]⟩]) (rs ++ [⟨#[114, 101, 99, 111, 114, 100]⟩]) sure f (i + 1) tv') := ⟨_, _, _, _, H8.out.row ((Below.refl _ _).alloc (Nat.le_refl _) _) hgr9 hown9 (fun k hk => by
                  rcases hloc9 with x | x
                  · exact .inl (x ▸ hk)
                  · rw [x] at hk
                    have k' := Option.some.inj hk
                    exact .inr (by omega))⟩
                clear hown9 hgr9 hnil9 hloc9
                go_wp2_with fail
                exact ⟨⟨i + 1, sure, rs ++ [⟨#[114, 101, 99, 111, 114, 100]⟩], by simp, rfl, by omega, by omega, .inl H9⟩, by simp [intOf]; omega⟩
              · have t1 : decide ((s.size : Int) < 1) = false := by simp; omega
                have t2 : decide ((500 : Int) < (s.size : Int)) = false := by simp; omega
                have HAP := hid (append_out H7.out.L.log (by omega) (by omega) (by omega) s (by omega) (by omega) (by omega))
                go_wp2_with (first | (go_at_call 11; refine HDD.out.mono ?_; rintro e v1 ⟨rfl, rfl⟩))
                refine HAP.out.mono ?_
                rintro e v4 ⟨rfl, S', hl', hm'⟩
                have H8 : Hid (FaAt w v4 p q S' D (putG l s) d (rs ++ [s]) rs sure f (i + 1) (.slice ta rs.length tc)) := H7.out.push hl' hm' (by omega) (by omega)
                have HO8 : Hid ((v4.alloc (.cells #[.string s] 9)).ownsRow 0 9 1 (.slice ta rs.length tc) rs.length (rs.map Value.string)) := (H8.out.below ((Below.refl _ _).alloc (Nat.le_refl _) _)).tx
                have HN8 : Hid (∀ j u, [Value.string s][j]? = some u → (v4.alloc (.cells #[.string s] 9)).cell? ((⟨v4.heap.size, 0, none⟩ : Addr).add j) = some u) := World.news_of_block (w := v4.alloc (.cells #[.string s] 9)) (heap_alloc_new v4 _)
                have H1C : Hid (∀ u ∈ [Value.string s], u.oneCell' = true) := by intro u hu; simp at hu; subst hu; rfl
                clear hl' hm' HAP
                go_wp2_with (at_builtin; refine wpList_append_own_at _ rfl _ _ 31 rfl 0 9 i0 _ 1 16 Try.underlying31 hi hz0 hz1 hz2 rfl (by decide) (.slice ta rs.length tc) rs.length (rs.map Value.string) rfl HO8.out ⟨v4.heap.size, 0, none⟩ 1 1 [.string s] rfl rfl HN8.out H1C.out (by unfold maxLen; omega) (by omega) (Nat.zero_le _) ?_; intro tv' w9 hown9 hgr9 hnil9 hloc9)
                have H9 : Hid (∃ S D l d, FaAt w w9 p q S D l d (rs ++ [s]) (rs ++ [s]) sure f (i + 1) tv') := ⟨_, _, _, _, H8.out.row ((Below.refl _ _).alloc (Nat.le_refl _) _) hgr9 hown9 (fun k hk => by
                  rcases hloc9 with x | x
                  · exact .inl (x ▸ hk)
                  · rw [x] at hk
                    have k' := Option.some.inj hk
                    exact .inr (by omega))⟩
                clear hown9 hgr9 hnil9 hloc9
                go_wp2_with fail
                exact ⟨⟨i + 1, sure, rs ++ [s], by simp, rfl, by omega, by omega, .inl H9⟩, by simp [intOf]; omega⟩
        · obtain ⟨D, d, hE, hdd⟩ := HE.out
          have HDD := hid (dead_out hE.E.disk)
          rw [hdd] at HDD
          have HX : Hid ((∃ q S l j, j ≤ 40 ∧ FaAt w wr p q S D l d rs rs sure f j u10) ∨ (FaE w wr p D d rs sure f u10 ∧ d.dead = true)) := .inr ⟨hE, hdd⟩
          clear hE HE
          obtain ⟨ta, tc, htv⟩ : ∃ ta tc, u10 = .slice ta rs.length tc := by
            rcases HX.out with ⟨_, _, _, _, _, hx⟩ | ⟨hx, _⟩
            · exact owns_slice hx.tx
            · exact owns_slice hx.tx
          subst htv
          have hbx : wr.cell? ⟨w.heap.size, 4, none⟩ = some (.int .i64 f.log) := by
            rcases HX.out with ⟨_, _, _, _, _, hx⟩ | ⟨hx, _⟩
            · exact hx.box.cell 4
            · exact hx.box.cell 4
          have HCR := hid (fa_crash HX.out f.log)
          clear HX
          go_wp2_with (first | (go_at_call 11; refine HDD.out.mono ?_; rintro e v0 ⟨rfl, rfl⟩))
          refine HCR.out.mono ?_
          rintro e v1 ⟨rfl, D1, d1, h1⟩
          have HU := hid (fa_up h1)
          clear h1 HCR hbx
          go_wp2_with fail
          refine HU.out.mono ?_
          rintro e v2 ⟨⟨ub, rfl⟩, D2, h2⟩
          have HPN := hid (fa_plan h2)
          clear h2 HU
          go_wp2_with fail
          refine HPN.out.mono ?_
          rintro e v3 ⟨rfl, D3, h3⟩
          have HOP := hid (fa_open h3 rfl rfl)
          clear h3 HPN
          go_wp2_with fail
          refine HOP.out.mono ?_
          rintro e v4 ⟨q4, k, t4, rfl, hsk, S4, l4, h4⟩
          have H4 : Hid (FaO w v4 q4 k S4 l4 rs (.slice ta rs.length tc)) := h4
          have hk := h4.le
          have hlk : l4.starts.length = k := by rw [h4.recs.len, List.length_take]; omega
          have hkb : k ≤ 4194304 := by
            have x1 := h4.recs.long
            have x2 := h4.few
            have x3 := placeOf_mono (rs.take k) (Nat.zero_le (rs.take k).length)
            have x4 : (rs.take k).length = k := by rw [List.length_take]; omega
            omega
          clear h4 HOP
          have HLN : Hid (∀ W, Below v4.heap.size v4 W → Calls Try.prog 17 #[.pointer (some ⟨q4, 0, none⟩)] W fun e w' => e = .returned (.int .i64 (k : Int)) ∧ W = w') := fun W b => by
            have := len_out (H4.out.log.below b)
            rw [hlk] at this
            exact this.mono fun e w' x => ⟨x.1, x.2.symm⟩
          have t1 : decide ((k : Int) < (sure : Int)) = false := by simp; omega
          have t2 : decide ((rs.length : Int) < (k : Int)) = false := by simp; omega
          have t1' : decide (k < sure) = false := by simp; omega
          have t2' : decide (rs.length < k) = false := by simp; omega
          go_wp2_with (first | (go_at_call 17; refine (HLN.out _ (Below.refl _ _)).mono ?_; rintro e v5 ⟨rfl, rfl⟩))
          go_loopw [19, 20] (fun av iv wx => ∃ m : Nat, m ≤ k ∧ av = .int .u64 (placeOf (rs.take k) m : Nat) ∧ iv = .int .i64 (m : Int) ∧ Hid (Below v4.heap.size v4 wx)) (fun _ iv _ => k - (intOf iv).toNat)
          case atStart => exact ⟨0, Nat.zero_le _, rfl, rfl, Below.refl _ _⟩
          case round =>
            obtain ⟨m, hm, rfl, rfl, HB⟩ := hrel
            have H5 : Hid (FaO w wr q4 k S4 l4 rs (.slice ta rs.length tc)) := H4.out.below HB.out
            have hlt' : (rs.take k).length = k := by rw [List.length_take]; omega
            by_cases hmk : m < k
            · have e1 : decide ((m : Int) < (k : Int)) = true := by simp; omega
              have e1' : decide (m < k) = true := by simp; omega
              have HG := hid (get_recs H5.out.log H5.out.recs (by rw [hlt']; omega) H5.out.few m (by rw [hlt']; exact hmk))
              have eg : (rs.take k).getD m ⟨#[]⟩ = rs.getD m ⟨#[]⟩ := by
                rw [List.getD_eq_getElem?_getD, List.getD_eq_getElem?_getD, List.getElem?_take, if_pos hmk]
              rw [eg] at HG
              obtain ⟨tg, rfl, HT⟩ : ∃ tg, ta = some ⟨tg, 0, none⟩ ∧ Hid (∀ W, Below wr.heap.size wr W → W.cell? ⟨tg, m, none⟩ = some (.string (rs.getD m ⟨#[]⟩))) := by
                rcases H5.out.tx.2 with ⟨x1, x2⟩ | ⟨g, cap', cur, x1, _⟩
                · omega
                · simp only [Value.slice.injEq] at x1
                  obtain ⟨rfl, _, rfl⟩ := x1
                  refine ⟨g, rfl, fun W b => ?_⟩
                  have ho := owns_same (w' := W) H5.out.tx fun g k => b.block g (owns_lt H5.out.tx k)
                  have := owns_cells ho m (.string (rs.getD m ⟨#[]⟩)) (by simp [show m < rs.length by omega])
                  simpa [Addr.add_lit] using this
              obtain ⟨R, HR⟩ : ∃ R, Hid (rs.getD m ⟨#[]⟩ = R) := ⟨_, rfl⟩
              rw [HR.out] at HG HT
              have e2 : (0 : Int) ≤ (m : Int) := by omega
              have e3 : (m : Int) < (rs.length : Int) := by omega
              go_wp2_with (first | (go_at_call 17; refine (HLN.out _ HB.out).mono ?_; rintro e v5 ⟨rfl, rfl⟩))
              refine HG.out.mono ?_
              rintro e v6 ⟨rfl, nq6, hv6⟩
              have b6 : Below wr.heap.size wr v6 := by rw [hv6]; exact below_drewN' _ _
              have ct := HT.out _ b6
              have HB6 : Hid (Below v4.heap.size v4 v6) := below_chain HB.out b6
              clear hv6 b6
              go_wp2_with fail
              exact ⟨⟨m + 1, by omega, rfl, by simp, HB6⟩, by simp [intOf]; omega⟩
            · obtain rfl : m = k := by omega
              have e1 : decide ((m : Int) < (m : Int)) = false := by simp
              have hlong : l4.bytes.length + 1 = placeOf (rs.take m) m := by have := H5.out.recs.long; rw [hlt'] at this; exact this
              have HE := hid (end_out H5.out.log H5.out.few)
              have HF := hid (flushed_out H5.out.log (by rw [H5.out.fl]; exact H5.out.few))
              rw [hlong] at HE
              rw [H5.out.fl, hlong] at HF
              have HBL : Hid (Below w.heap.size w wr) := H5.out.bel
              go_wp2_with (first | (go_at_call 17; refine (HLN.out _ HB.out).mono ?_; rintro e v5 ⟨rfl, rfl⟩) | (go_at_call 13; refine HE.out.mono ?_; rintro e v6 ⟨rfl, rfl⟩) | (go_at_call 19; refine HF.out.mono ?_; rintro e v7 ⟨rfl, rfl⟩))
              go_ret
              exact ⟨by simp, HBL.out⟩
      · obtain ⟨D, d, HX⟩ : ∃ D d, Hid ((∃ q S l j, j ≤ 40 ∧ FaAt w wr p q S D l d rs rs sure f j u10) ∨ (FaE w wr p D d rs sure f u10 ∧ d.dead = true)) := by
          rcases hst with HF | HE
          · obtain ⟨S, D, l, d, hF⟩ := HF.out
            exact ⟨D, d, .inl ⟨q, S, l, i, hi40, hF⟩⟩
          · obtain ⟨D, d, hE, hdd⟩ := HE.out
            exact ⟨D, d, .inr ⟨hE, hdd⟩⟩
        clear hst
        have HDD : Hid (True) := trivial
        by_cases x1 : i < n
        · have d1 : decide ((i : Int) < (n : Int)) = true := by simp; omega
          have d1' : decide (i < n) = true := by simp; omega
          have d2 : decide ((i : Int) < 40) = false := by simp; omega
          have d2' : decide (i < 40) = false := by simp; omega
          obtain ⟨ta, tc, htv⟩ : ∃ ta tc, u10 = .slice ta rs.length tc := by
            rcases HX.out with ⟨_, _, _, _, _, hx⟩ | ⟨hx, _⟩
            · exact owns_slice hx.tx
            · exact owns_slice hx.tx
          subst htv
          have hbx : wr.cell? ⟨w.heap.size, 4, none⟩ = some (.int .i64 f.log) := by
            rcases HX.out with ⟨_, _, _, _, _, hx⟩ | ⟨hx, _⟩
            · exact hx.box.cell 4
            · exact hx.box.cell 4
          have HCR := hid (fa_crash HX.out f.log)
          clear HX
          go_wp2_with (first | (go_at_call 11; refine HDD.out.mono ?_; rintro e v0 ⟨rfl, rfl⟩))
          refine HCR.out.mono ?_
          rintro e v1 ⟨rfl, D1, d1, h1⟩
          have HU := hid (fa_up h1)
          clear h1 HCR hbx
          go_wp2_with fail
          refine HU.out.mono ?_
          rintro e v2 ⟨⟨ub, rfl⟩, D2, h2⟩
          have HPN := hid (fa_plan h2)
          clear h2 HU
          go_wp2_with fail
          refine HPN.out.mono ?_
          rintro e v3 ⟨rfl, D3, h3⟩
          have HOP := hid (fa_open h3 rfl rfl)
          clear h3 HPN
          go_wp2_with fail
          refine HOP.out.mono ?_
          rintro e v4 ⟨q4, k, t4, rfl, hsk, S4, l4, h4⟩
          have H4 : Hid (FaO w v4 q4 k S4 l4 rs (.slice ta rs.length tc)) := h4
          have hk := h4.le
          have hlk : l4.starts.length = k := by rw [h4.recs.len, List.length_take]; omega
          have hkb : k ≤ 4194304 := by
            have x1 := h4.recs.long
            have x2 := h4.few
            have x3 := placeOf_mono (rs.take k) (Nat.zero_le (rs.take k).length)
            have x4 : (rs.take k).length = k := by rw [List.length_take]; omega
            omega
          clear h4 HOP
          have HLN : Hid (∀ W, Below v4.heap.size v4 W → Calls Try.prog 17 #[.pointer (some ⟨q4, 0, none⟩)] W fun e w' => e = .returned (.int .i64 (k : Int)) ∧ W = w') := fun W b => by
            have := len_out (H4.out.log.below b)
            rw [hlk] at this
            exact this.mono fun e w' x => ⟨x.1, x.2.symm⟩
          have t1 : decide ((k : Int) < (sure : Int)) = false := by simp; omega
          have t2 : decide ((rs.length : Int) < (k : Int)) = false := by simp; omega
          have t1' : decide (k < sure) = false := by simp; omega
          have t2' : decide (rs.length < k) = false := by simp; omega
          go_wp2_with (first | (go_at_call 17; refine (HLN.out _ (Below.refl _ _)).mono ?_; rintro e v5 ⟨rfl, rfl⟩))
          go_loopw [19, 20] (fun av iv wx => ∃ m : Nat, m ≤ k ∧ av = .int .u64 (placeOf (rs.take k) m : Nat) ∧ iv = .int .i64 (m : Int) ∧ Hid (Below v4.heap.size v4 wx)) (fun _ iv _ => k - (intOf iv).toNat)
          case atStart => exact ⟨0, Nat.zero_le _, rfl, rfl, Below.refl _ _⟩
          case round =>
            obtain ⟨m, hm, rfl, rfl, HB⟩ := hrel
            have H5 : Hid (FaO w wr q4 k S4 l4 rs (.slice ta rs.length tc)) := H4.out.below HB.out
            have hlt' : (rs.take k).length = k := by rw [List.length_take]; omega
            by_cases hmk : m < k
            · have e1 : decide ((m : Int) < (k : Int)) = true := by simp; omega
              have e1' : decide (m < k) = true := by simp; omega
              have HG := hid (get_recs H5.out.log H5.out.recs (by rw [hlt']; omega) H5.out.few m (by rw [hlt']; exact hmk))
              have eg : (rs.take k).getD m ⟨#[]⟩ = rs.getD m ⟨#[]⟩ := by
                rw [List.getD_eq_getElem?_getD, List.getD_eq_getElem?_getD, List.getElem?_take, if_pos hmk]
              rw [eg] at HG
              obtain ⟨tg, rfl, HT⟩ : ∃ tg, ta = some ⟨tg, 0, none⟩ ∧ Hid (∀ W, Below wr.heap.size wr W → W.cell? ⟨tg, m, none⟩ = some (.string (rs.getD m ⟨#[]⟩))) := by
                rcases H5.out.tx.2 with ⟨x1, x2⟩ | ⟨g, cap', cur, x1, _⟩
                · omega
                · simp only [Value.slice.injEq] at x1
                  obtain ⟨rfl, _, rfl⟩ := x1
                  refine ⟨g, rfl, fun W b => ?_⟩
                  have ho := owns_same (w' := W) H5.out.tx fun g k => b.block g (owns_lt H5.out.tx k)
                  have := owns_cells ho m (.string (rs.getD m ⟨#[]⟩)) (by simp [show m < rs.length by omega])
                  simpa [Addr.add_lit] using this
              obtain ⟨R, HR⟩ : ∃ R, Hid (rs.getD m ⟨#[]⟩ = R) := ⟨_, rfl⟩
              rw [HR.out] at HG HT
              have e2 : (0 : Int) ≤ (m : Int) := by omega
              have e3 : (m : Int) < (rs.length : Int) := by omega
              go_wp2_with (first | (go_at_call 17; refine (HLN.out _ HB.out).mono ?_; rintro e v5 ⟨rfl, rfl⟩))
              refine HG.out.mono ?_
              rintro e v6 ⟨rfl, nq6, hv6⟩
              have b6 : Below wr.heap.size wr v6 := by rw [hv6]; exact below_drewN' _ _
              have ct := HT.out _ b6
              have HB6 : Hid (Below v4.heap.size v4 v6) := below_chain HB.out b6
              clear hv6 b6
              go_wp2_with fail
              exact ⟨⟨m + 1, by omega, rfl, by simp, HB6⟩, by simp [intOf]; omega⟩
            · obtain rfl : m = k := by omega
              have e1 : decide ((m : Int) < (m : Int)) = false := by simp
              have hlong : l4.bytes.length + 1 = placeOf (rs.take m) m := by have := H5.out.recs.long; rw [hlt'] at this; exact this
              have HE := hid (end_out H5.out.log H5.out.few)
              have HF := hid (flushed_out H5.out.log (by rw [H5.out.fl]; exact H5.out.few))
              rw [hlong] at HE
              rw [H5.out.fl, hlong] at HF
              have HBL : Hid (Below w.heap.size w wr) := H5.out.bel
              go_wp2_with (first | (go_at_call 17; refine (HLN.out _ HB.out).mono ?_; rintro e v5 ⟨rfl, rfl⟩) | (go_at_call 13; refine HE.out.mono ?_; rintro e v6 ⟨rfl, rfl⟩) | (go_at_call 19; refine HF.out.mono ?_; rintro e v7 ⟨rfl, rfl⟩))
              go_ret
              exact ⟨by simp, HBL.out⟩
        · have d1 : decide ((i : Int) < (n : Int)) = false := by simp; omega
          have d1' : decide (i < n) = false := by simp; omega
          obtain ⟨ta, tc, htv⟩ : ∃ ta tc, u10 = .slice ta rs.length tc := by
            rcases HX.out with ⟨_, _, _, _, _, hx⟩ | ⟨hx, _⟩
            · exact owns_slice hx.tx
            · exact owns_slice hx.tx
          subst htv
          have hbx : wr.cell? ⟨w.heap.size, 4, none⟩ = some (.int .i64 f.log) := by
            rcases HX.out with ⟨_, _, _, _, _, hx⟩ | ⟨hx, _⟩
            · exact hx.box.cell 4
            · exact hx.box.cell 4
          have HCR := hid (fa_crash HX.out f.log)
          clear HX
          go_wp2_with (first | (go_at_call 11; refine HDD.out.mono ?_; rintro e v0 ⟨rfl, rfl⟩))
          refine HCR.out.mono ?_
          rintro e v1 ⟨rfl, D1, d1, h1⟩
          have HU := hid (fa_up h1)
          clear h1 HCR hbx
          go_wp2_with fail
          refine HU.out.mono ?_
          rintro e v2 ⟨⟨ub, rfl⟩, D2, h2⟩
          have HPN := hid (fa_plan h2)
          clear h2 HU
          go_wp2_with fail
          refine HPN.out.mono ?_
          rintro e v3 ⟨rfl, D3, h3⟩
          have HOP := hid (fa_open h3 rfl rfl)
          clear h3 HPN
          go_wp2_with fail
          refine HOP.out.mono ?_
          rintro e v4 ⟨q4, k, t4, rfl, hsk, S4, l4, h4⟩
          have H4 : Hid (FaO w v4 q4 k S4 l4 rs (.slice ta rs.length tc)) := h4
          have hk := h4.le
          have hlk : l4.starts.length = k := by rw [h4.recs.len, List.length_take]; omega
          have hkb : k ≤ 4194304 := by
            have x1 := h4.recs.long
            have x2 := h4.few
            have x3 := placeOf_mono (rs.take k) (Nat.zero_le (rs.take k).length)
            have x4 : (rs.take k).length = k := by rw [List.length_take]; omega
            omega
          clear h4 HOP
          have HLN : Hid (∀ W, Below v4.heap.size v4 W → Calls Try.prog 17 #[.pointer (some ⟨q4, 0, none⟩)] W fun e w' => e = .returned (.int .i64 (k : Int)) ∧ W = w') := fun W b => by
            have := len_out (H4.out.log.below b)
            rw [hlk] at this
            exact this.mono fun e w' x => ⟨x.1, x.2.symm⟩
          have t1 : decide ((k : Int) < (sure : Int)) = false := by simp; omega
          have t2 : decide ((rs.length : Int) < (k : Int)) = false := by simp; omega
          have t1' : decide (k < sure) = false := by simp; omega
          have t2' : decide (rs.length < k) = false := by simp; omega
          go_wp2_with (first | (go_at_call 17; refine (HLN.out _ (Below.refl _ _)).mono ?_; rintro e v5 ⟨rfl, rfl⟩))
          go_loopw [19, 20] (fun av iv wx => ∃ m : Nat, m ≤ k ∧ av = .int .u64 (placeOf (rs.take k) m : Nat) ∧ iv = .int .i64 (m : Int) ∧ Hid (Below v4.heap.size v4 wx)) (fun _ iv _ => k - (intOf iv).toNat)
          case atStart => exact ⟨0, Nat.zero_le _, rfl, rfl, Below.refl _ _⟩
          case round =>
            obtain ⟨m, hm, rfl, rfl, HB⟩ := hrel
            have H5 : Hid (FaO w wr q4 k S4 l4 rs (.slice ta rs.length tc)) := H4.out.below HB.out
            have hlt' : (rs.take k).length = k := by rw [List.length_take]; omega
            by_cases hmk : m < k
            · have e1 : decide ((m : Int) < (k : Int)) = true := by simp; omega
              have e1' : decide (m < k) = true := by simp; omega
              have HG := hid (get_recs H5.out.log H5.out.recs (by rw [hlt']; omega) H5.out.few m (by rw [hlt']; exact hmk))
              have eg : (rs.take k).getD m ⟨#[]⟩ = rs.getD m ⟨#[]⟩ := by
                rw [List.getD_eq_getElem?_getD, List.getD_eq_getElem?_getD, List.getElem?_take, if_pos hmk]
              rw [eg] at HG
              obtain ⟨tg, rfl, HT⟩ : ∃ tg, ta = some ⟨tg, 0, none⟩ ∧ Hid (∀ W, Below wr.heap.size wr W → W.cell? ⟨tg, m, none⟩ = some (.string (rs.getD m ⟨#[]⟩))) := by
                rcases H5.out.tx.2 with ⟨x1, x2⟩ | ⟨g, cap', cur, x1, _⟩
                · omega
                · simp only [Value.slice.injEq] at x1
                  obtain ⟨rfl, _, rfl⟩ := x1
                  refine ⟨g, rfl, fun W b => ?_⟩
                  have ho := owns_same (w' := W) H5.out.tx fun g k => b.block g (owns_lt H5.out.tx k)
                  have := owns_cells ho m (.string (rs.getD m ⟨#[]⟩)) (by simp [show m < rs.length by omega])
                  simpa [Addr.add_lit] using this
              obtain ⟨R, HR⟩ : ∃ R, Hid (rs.getD m ⟨#[]⟩ = R) := ⟨_, rfl⟩
              rw [HR.out] at HG HT
              have e2 : (0 : Int) ≤ (m : Int) := by omega
              have e3 : (m : Int) < (rs.length : Int) := by omega
              go_wp2_with (first | (go_at_call 17; refine (HLN.out _ HB.out).mono ?_; rintro e v5 ⟨rfl, rfl⟩))
              refine HG.out.mono ?_
              rintro e v6 ⟨rfl, nq6, hv6⟩
              have b6 : Below wr.heap.size wr v6 := by rw [hv6]; exact below_drewN' _ _
              have ct := HT.out _ b6
              have HB6 : Hid (Below v4.heap.size v4 v6) := below_chain HB.out b6
              clear hv6 b6
              go_wp2_with fail
              exact ⟨⟨m + 1, by omega, rfl, by simp, HB6⟩, by simp [intOf]; omega⟩
            · obtain rfl : m = k := by omega
              have e1 : decide ((m : Int) < (m : Int)) = false := by simp
              have hlong : l4.bytes.length + 1 = placeOf (rs.take m) m := by have := H5.out.recs.long; rw [hlt'] at this; exact this
              have HE := hid (end_out H5.out.log H5.out.few)
              have HF := hid (flushed_out H5.out.log (by rw [H5.out.fl]; exact H5.out.few))
              rw [hlong] at HE
              rw [H5.out.fl, hlong] at HF
              have HBL : Hid (Below w.heap.size w wr) := H5.out.bel
              go_wp2_with (first | (go_at_call 17; refine (HLN.out _ HB.out).mono ?_; rintro e v5 ⟨rfl, rfl⟩) | (go_at_call 13; refine HE.out.mono ?_; rintro e v6 ⟨rfl, rfl⟩) | (go_at_call 19; refine HF.out.mono ?_; rintro e v7 ⟨rfl, rfl⟩))
              go_ret
              exact ⟨by simp, HBL.out⟩

end Go.Proofs.Ythmhigjdjclckaa
