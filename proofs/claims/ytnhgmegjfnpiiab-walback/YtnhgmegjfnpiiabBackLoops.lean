/-
  The walk of girderlaw05.WalBack.
-/
import Derived.Test.YtnhgmegjfnpiiabBackIn
import Derived.Deep.RegionLaw
namespace Go.Proofs.Ytnhgmegjfnpiiab
open Go.RowKit
set_option linter.unusedVariables false

theorem infoT : (Try.prog.info? 9).map (fun i => (i.zero, i.size, i.bytes)) = some (some (.string ⟨#[]⟩), 1, 16) := by kernel_rfl

set_option maxHeartbeats 800000 in
set_option maxRecDepth 8000 in
theorem walBack_any (w : World) (a : Option Addr) (len cap : Nat) (A : Nat → ByteArray) (hA : IsStrs w a len A) :
    Calls Try.prog 3 #[.slice a len cap] w fun e w' => e = .returned (.bool true) ∧ Below w.heap.size w w' := by
  have HA := hid hA
  clear hA
  go_enter Try.func3, Try.ntmps3
  go_wp2_with fail
  refine (wnew_out w 8 (by omega) (by omega)).mono ?_
  rintro e w1 ⟨p, rfl, ⟨D1, hd1, hn1⟩, b1⟩
  have HD1 : Hid (IsDisk w1 p D1 (newD 8) ∧ Below w.heap.size w w1) := ⟨hd1, b1⟩
  clear hd1 hn1 b1
  go_wp2_with fail
  refine (open_out HD1.out.1 rfl (by show 0 ≤ _; omega) (by show (scan ⟨#[]⟩ (0 + 1) 0).2 = 0; rw [scan_none])).mono ?_
  rintro e w2 ⟨q, rfl, ⟨S2, hl2, hn2⟩, b2⟩
  rw [openL_new] at hl2
  have HD2 : Hid (IsLog w2 q S2 (log0 p) ∧ (∀ k, S2 k → w.heap.size ≤ k) ∧ Below w.heap.size w w2) := ⟨hl2, fun k x => Nat.le_trans HD1.out.2.size (hn2 k x), HD1.out.2.trans (b2.mono HD1.out.2.size)⟩
  clear HD1 hl2 hn2 b2
  go_wp2_with fail
  refine (awake_any _).mono ?_
  rintro e w3 ⟨rfl, b3⟩
  have HD3 : Hid (IsLog w3 q S2 (log0 p) ∧ (∀ k, S2 k → w.heap.size ≤ k) ∧ Below w.heap.size w w3) := ⟨HD2.out.1.below b3, HD2.out.2.1, below_chain HD2.out.2.2 b3⟩
  clear HD2 b3
  go_wp2_with fail
  obtain ⟨i0, hi, hz0, hz1, hz2⟩ := info_parts infoL
  obtain ⟨j0, hj, hy0, hy1, hy2⟩ := info_parts infoT
  have HB0 : Hid (BackIn w ((w3.alloc (.cells #[] 33)).alloc (.cells #[] 9)) q (.slice (some ⟨w3.heap.size, 0, none⟩) 0 0) (.slice (some ⟨w3.heap.size + 1, 0, none⟩) 0 0) (log0 p) [] S2) := by
    obtain ⟨h1, h2, h3⟩ := HD3.out
    have b : Below w3.heap.size w3 ((w3.alloc (.cells #[] 33)).alloc (.cells #[] 9)) := ((Below.refl _ _).alloc (Nat.le_refl _) _).alloc (by simp) _
    have hz := h3.size
    have e1 : ((w3.alloc (.cells #[] 33)).alloc (.cells #[] 9)).heap[w3.heap.size]? = some (.cells #[] 33 (0, 0)) :=
      (Below.heap_alloc _ _ _ (by simp)).trans (heap_alloc_new w3 _)
    have e2 : ((w3.alloc (.cells #[] 33)).alloc (.cells #[] 9)).heap[w3.heap.size + 1]? = some (.cells #[] 9 (0, 0)) := by
      have := heap_alloc_new (w3.alloc (.cells #[] 33)) (.cells #[] 9)
      simpa using this
    refine ⟨h1.below b, h2, below_chain h3 b, RecsAt.nil p, rfl, Nat.zero_le _, ⟨rfl, .inr ⟨w3.heap.size, 0, #[], rfl, Nat.zero_le _, e1, Nat.le_refl _, Nat.zero_le _, rfl, rfl⟩⟩, ⟨rfl, .inr ⟨w3.heap.size + 1, 0, #[], rfl, Nat.zero_le _, e2, Nat.le_refl _, Nat.zero_le _, rfl, rfl⟩⟩, ?_, ?_⟩
    · intro g k
      have k' : w3.heap.size = g := Option.some.inj k
      exact ⟨fun x => by have := h1.lt x; omega, by omega⟩
    · intro g k
      have k' : w3.heap.size + 1 = g := Option.some.inj k
      exact ⟨fun x => by have := h1.lt x; omega, by omega⟩
  clear HD3
  go_loopw [8, 9, 10] (fun pv tv x wr => ∃ (i : Nat) (l : LG) (rs : List ByteArray) (S : Nat → Prop), x = .int .i64 i ∧ i ≤ len ∧ i ≤ 60 ∧ rs.length ≤ i ∧ Hid (BackIn w wr q pv tv l rs S)) (fun _ _ x _ => 60 - (intOf x).toNat)
  case atStart => exact ⟨0, _, _, _, rfl, Nat.zero_le _, Nat.zero_le _, Nat.zero_le _, HB0⟩
  case round =>
    obtain ⟨i, l, rs, S, rfl, hil, hi60, hrl, HB⟩ := hrel
    clear HB0
    by_cases hlt : i < len ∧ i < 60
    · obtain ⟨hl1, hl2⟩ := hlt
      obtain ⟨hml, hcase⟩ := HA.out
      rcases hcase with h0 | ⟨ab, ao, rfl, hab, hcells⟩
      · omega
      have hsz : (A i).size ≤ maxLen := (hcells i hl1).2
      have ca : wr.cell? ⟨ab, ao + i, none⟩ = some (.string (A i)) := (World.cell?_of_block (w := w) (a := ⟨ab, ao + i, none⟩) (HB.out.bel.block ab hab)).trans (hcells i hl1).1
      have d1 : decide ((i : Int) < (len : Int)) = true := by simp; omega
      have d2 : decide ((i : Int) < 60) = true := by simp; omega
      have i1 : (0 : Int) ≤ (i : Int) := by omega
      have i2 : (i : Int) < (len : Int) := by omega
      have HC : Hid (∀ W : World, W.heap[ab]? = w.heap[ab]? → W.cell? ⟨ab, ao + i, none⟩ = some (.string (A i))) := fun W hW => (World.cell?_of_block (w := w) (a := ⟨ab, ao + i, none⟩) hW).trans (hcells i hl1).1
      unfold maxLen at hsz
      clear hcells
      obtain ⟨r, hr⟩ : ∃ r, A i = r := ⟨_, rfl⟩
      rw [hr] at ca hsz
      have HC : Hid (∀ W : World, W.heap[ab]? = w.heap[ab]? → W.cell? ⟨ab, ao + i, none⟩ = some (.string r)) := by have := HC.out; rw [hr] at this; exact this
      clear hr
      by_cases hsize : r.size < 1 ∨ 8192 < r.size
      · rcases hsize with hsize | hsize
        · have t1 : decide ((r.size : Int) < 1) = true := by simp; omega
          go_wp2_with fail
          exact ⟨⟨i + 1, l, rs, S, by simp, by omega, by omega, by omega, HB⟩, by simp [intOf]; omega⟩
        · have t1 : decide ((r.size : Int) < 1) = false := by simp; omega
          have t2 : decide ((8192 : Int) < (r.size : Int)) = true := by simp; omega
          go_wp2_with fail
          exact ⟨⟨i + 1, l, rs, S, by simp, by omega, by omega, by omega, HB⟩, by simp [intOf]; omega⟩
      · have s1 : 1 ≤ r.size := by omega
        have s2 : r.size ≤ 8192 := by omega
        have t1 : decide ((r.size : Int) < 1) = false := by simp; omega
        have t2 : decide ((8192 : Int) < (r.size : Int)) = false := by simp; omega
        have hfew := HB.out.few
        have hlen := HB.out.recs.len
        have hkept := HB.out.kept
        go_wp2_with fail
        refine (append_out HB.out.log (by omega) (by omega) (by omega) r s1 s2 (by omega)).mono ?_
        rintro e w4 ⟨rfl, S4, hl4, hm4⟩
        have HM := hid (HB.out.put s2 hl4 hm4)
        clear hl4 hm4 HB
        go_wp2_with fail
        have hw4 := HM.out.bel
        have hmr : rs.length ≤ 60 := by omega
        have H1 : Hid (∀ u ∈ [Value.int .u64 ((l.bytes.length : Int) + 1)], u.oneCell' = true) := by intro u hu; simp at hu; subst hu; rfl
        have H2 : Hid (∀ u ∈ [Value.string r], u.oneCell' = true) := by intro u hu; simp at hu; subst hu; rfl
        have habz : ab < w4.heap.size := Nat.lt_of_lt_of_le hab hw4.size
        have hab4 : w4.heap[ab]? = w.heap[ab]? := hw4.block ab hab
        have c4 := HC.out w4 hab4
        have c4a : (w4.alloc (.cells #[.int .u64 ((l.bytes.length : Int) + 1)] 33)).cell? ⟨ab, ao + i, none⟩ = some (.string r) := HC.out _ ((Below.heap_alloc _ _ ab habz).trans hab4)
        have M1 : Hid (BackMid w ((w4.alloc (.cells #[.int .u64 ((l.bytes.length : Int) + 1)] 33)).drew) q u8 u9 l rs r S4) := HM.out.below (((Below.refl _ _).alloc (Nat.le_refl _) _).drew)
        have M2 : Hid (BackMid w (((w4.alloc (.cells #[.int .u64 ((l.bytes.length : Int) + 1)] 33)).alloc (.cells #[.string r] 9)).drew) q u8 u9 l rs r S4) := HM.out.below ((((Below.refl _ _).alloc (Nat.le_refl _) _).alloc (by simp) _).drew)
        have M3 : Hid (BackMid w (((w4.alloc (.cells #[.string r] 9)).alloc (.cells #[.int .u64 ((l.bytes.length : Int) + 1)] 33)).drew) q u8 u9 l rs r S4) := HM.out.below ((((Below.refl _ _).alloc (Nat.le_refl _) _).alloc (by simp) _).drew)
        have N1 : Hid (∀ j u, [Value.int .u64 ((l.bytes.length : Int) + 1)][j]? = some u → ((w4.alloc (.cells #[.int .u64 ((l.bytes.length : Int) + 1)] 33)).drew).cell? ((⟨w4.heap.size, 0, none⟩ : Addr).add j) = some u) := World.news_of_block (w := (w4.alloc (.cells #[.int .u64 ((l.bytes.length : Int) + 1)] 33)).drew) (heap_alloc_new w4 _)
        have N2 : Hid (∀ j u, [Value.int .u64 ((l.bytes.length : Int) + 1)][j]? = some u → (((w4.alloc (.cells #[.int .u64 ((l.bytes.length : Int) + 1)] 33)).alloc (.cells #[.string r] 9)).drew).cell? ((⟨w4.heap.size, 0, none⟩ : Addr).add j) = some u) := World.news_of_block (w := ((w4.alloc (.cells #[.int .u64 ((l.bytes.length : Int) + 1)] 33)).alloc (.cells #[.string r] 9)).drew) ((Below.heap_alloc _ _ _ (by simp)).trans (heap_alloc_new w4 _))
        have E3 : ((w4.alloc (.cells #[.string r] 9)).alloc (.cells #[.int .u64 ((l.bytes.length : Int) + 1)] 33)).heap[w4.heap.size + 1]? = some (.cells #[.int .u64 ((l.bytes.length : Int) + 1)] 33 (0, 0)) := by
          have := heap_alloc_new (w4.alloc (.cells #[.string r] 9)) (.cells #[.int .u64 ((l.bytes.length : Int) + 1)] 33)
          simpa using this
        have E2 : ((w4.alloc (.cells #[.int .u64 ((l.bytes.length : Int) + 1)] 33)).alloc (.cells #[.string r] 9)).heap[w4.heap.size + 1]? = some (.cells #[.string r] 9 (0, 0)) := by
          have := heap_alloc_new (w4.alloc (.cells #[.int .u64 ((l.bytes.length : Int) + 1)] 33)) (.cells #[.string r] 9)
          simpa using this
        have N3 : Hid (∀ j u, [Value.int .u64 ((l.bytes.length : Int) + 1)][j]? = some u → (((w4.alloc (.cells #[.string r] 9)).alloc (.cells #[.int .u64 ((l.bytes.length : Int) + 1)] 33)).drew).cell? ((⟨w4.heap.size + 1, 0, none⟩ : Addr).add j) = some u) := World.news_of_block (w := ((w4.alloc (.cells #[.string r] 9)).alloc (.cells #[.int .u64 ((l.bytes.length : Int) + 1)] 33)).drew) E3
        have hpb : ∀ g, u8.ownBlock = some g → g < w4.heap.size := fun g k => owns_lt HM.out.pl k
        have hpab : u8.ownBlock ≠ some ab := fun k => by have := (HM.out.offp ab k).2; omega
        have X1 : Hid (∀ w5 : World, ((w4.alloc (.cells #[.int .u64 ((l.bytes.length : Int) + 1)] 33)).drew).grownBy w5 u8.ownBlock → w5.cell? ⟨ab, ao + i, none⟩ = some (.string r) ∧ w5.ownsRow 0 9 1 u9 rs.length (rs.map Value.string) ∧ True) := by
          intro w5 hg
          refine ⟨HC.out _ ?_, M1.out.txAt hg, trivial⟩
          exact (hg.block ab (by simp; omega) fun e => hpab e.symm).trans ((Below.heap_alloc _ _ ab habz).trans hab4)
        have X2 : Hid (∀ w5 : World, (((w4.alloc (.cells #[.int .u64 ((l.bytes.length : Int) + 1)] 33)).alloc (.cells #[.string r] 9)).drew).grownBy w5 u8.ownBlock → w5.cell? ⟨ab, ao + i, none⟩ = some (.string r) ∧ w5.ownsRow 0 9 1 u9 rs.length (rs.map Value.string) ∧ (∀ j u, [Value.string r][j]? = some u → w5.cell? ((⟨w4.heap.size + 1, 0, none⟩ : Addr).add j) = some u)) := by
          intro w5 hg
          refine ⟨HC.out _ ?_, M2.out.txAt hg, World.news_of_block (cs := #[.string r]) (t := 9) (fr := (0, 0)) ?_⟩
          · exact (hg.block ab (by simp; omega) fun e => hpab e.symm).trans ((Below.heap_alloc _ _ ab (by simp; omega)).trans ((Below.heap_alloc _ _ ab habz).trans hab4))
          · exact (hg.block (w4.heap.size + 1) (by simp) fun e => by have := hpb _ e.symm; omega).trans E2
        have X3 : Hid (∀ w5 : World, (((w4.alloc (.cells #[.string r] 9)).alloc (.cells #[.int .u64 ((l.bytes.length : Int) + 1)] 33)).drew).grownBy w5 u8.ownBlock → w5.cell? ⟨ab, ao + i, none⟩ = some (.string r) ∧ w5.ownsRow 0 9 1 u9 rs.length (rs.map Value.string) ∧ (∀ j u, [Value.string r][j]? = some u → w5.cell? ((⟨w4.heap.size, 0, none⟩ : Addr).add j) = some u)) := by
          intro w5 hg
          refine ⟨HC.out _ ?_, M3.out.txAt hg, World.news_of_block (cs := #[.string r]) (t := 9) (fr := (0, 0)) ?_⟩
          · exact (hg.block ab (by simp; omega) fun e => hpab e.symm).trans ((Below.heap_alloc _ _ ab (by simp; omega)).trans ((Below.heap_alloc _ _ ab habz).trans hab4))
          · exact (hg.block w4.heap.size (by simp; omega) fun e => by have := hpb _ e.symm; omega).trans ((Below.heap_alloc _ _ _ (by simp)).trans (heap_alloc_new w4 _))
        clear E2 E3 hpb hpab HM
        go_region_law (first | (refine step_append_lies _ (by rfl) _ _ 31 (by rfl) 0 33 i0 _ 1 8 Try.underlying31 hi hz0 hz1 hz2 (by rfl) (by decide) u8 rs.length (lsnCells l.starts) (by rfl) M1.out.pl ⟨w4.heap.size, 0, none⟩ 1 1 [.int .u64 ((l.bytes.length : Int) + 1)] (by rfl) (by rfl) N1.out H1.out (by decide) (by unfold maxLen; omega) (by omega) (Nat.zero_le _) _ (by rfl) ?_; intro g5 cap5 w5 hown5 hgrow5 hloc5 hlt5; have hx5 := X1.out _ hgrow5; obtain ⟨ca5, tx5, nt5⟩ := hx5) | (refine step_append_lies _ (by rfl) _ _ 31 (by rfl) 0 33 i0 _ 1 8 Try.underlying31 hi hz0 hz1 hz2 (by rfl) (by decide) u8 rs.length (lsnCells l.starts) (by rfl) M2.out.pl ⟨w4.heap.size, 0, none⟩ 1 1 [.int .u64 ((l.bytes.length : Int) + 1)] (by rfl) (by rfl) N2.out H1.out (by decide) (by unfold maxLen; omega) (by omega) (Nat.zero_le _) _ (by rfl) ?_; intro g5 cap5 w5 hown5 hgrow5 hloc5 hlt5; have hx5 := X2.out _ hgrow5; obtain ⟨ca5, tx5, nt5⟩ := hx5) | (refine step_append_lies _ (by rfl) _ _ 31 (by rfl) 0 33 i0 _ 1 8 Try.underlying31 hi hz0 hz1 hz2 (by rfl) (by decide) u8 rs.length (lsnCells l.starts) (by rfl) M3.out.pl ⟨w4.heap.size + 1, 0, none⟩ 1 1 [.int .u64 ((l.bytes.length : Int) + 1)] (by rfl) (by rfl) N3.out H1.out (by decide) (by unfold maxLen; omega) (by omega) (Nat.zero_le _) _ (by rfl) ?_; intro g5 cap5 w5 hown5 hgrow5 hloc5 hlt5; have hx5 := X3.out _ hgrow5; obtain ⟨ca5, tx5, nt5⟩ := hx5) | (refine step_append_lies _ (by rfl) _ _ 22 (by rfl) 0 9 j0 _ 1 16 Try.underlying22 hj hy0 hy1 hy2 (by rfl) (by decide) u9 rs.length (rs.map Value.string) (by rfl) tx5 ⟨w4.heap.size + 1, 0, none⟩ 1 1 [.string r] (by rfl) (by rfl) nt5 H2.out (by decide) (by unfold maxLen; omega) (by omega) (Nat.zero_le _) _ (by rfl) ?_; intro g6 cap6 w6 hown6 hgrow6 hloc6 hlt6) | (refine step_append_lies _ (by rfl) _ _ 22 (by rfl) 0 9 j0 _ 1 16 Try.underlying22 hj hy0 hy1 hy2 (by rfl) (by decide) u9 rs.length (rs.map Value.string) (by rfl) tx5 ⟨w4.heap.size, 0, none⟩ 1 1 [.string r] (by rfl) (by rfl) nt5 H2.out (by decide) (by unfold maxLen; omega) (by omega) (Nat.zero_le _) _ (by rfl) ?_; intro g6 cap6 w6 hown6 hgrow6 hloc6 hlt6) | (refine step_append_lies _ (by rfl) _ _ 22 (by rfl) 0 9 j0 _ 1 16 Try.underlying22 hj hy0 hy1 hy2 (by rfl) (by decide) u9 rs.length (rs.map Value.string) (by rfl) (owns_same tx5 fun g k => Below.heap_alloc _ _ g (owns_lt tx5 k)) ⟨w5.heap.size, 0, none⟩ 1 1 [.string r] (by rfl) (by rfl) (World.news_of_block (heap_alloc_new w5 _)) H2.out (by decide) (by unfold maxLen; omega) (by omega) (Nat.zero_le _) _ (by rfl) ?_; intro g6 cap6 w6 hown6 hgrow6 hloc6 hlt6))
        all_goals
          have HN : Hid (BackIn w w6 q (.slice (some ⟨g5, 0, none⟩) (rs.length + 1) cap5) (.slice (some ⟨g6, 0, none⟩) (rs.length + 1) cap6) (putG l r) (rs ++ [r]) S4) := by
            first
            | exact M1.out.done hgrow5 hown5 (fun k hk => by have k' : g5 = k := Option.some.inj hk; subst k'; rcases hloc5 with e | e; exact .inl e; exact .inr (Nat.le_of_eq e.symm)) ((Below.refl _ _).alloc (Nat.le_refl _) _) hgrow6 hown6 (fun k hk => by have k' : g6 = k := Option.some.inj hk; subst k'; rcases hloc6 with e | e; exact .inl e; exact .inr (Nat.le_of_eq e.symm))
            | exact M2.out.done hgrow5 hown5 (fun k hk => by have k' : g5 = k := Option.some.inj hk; subst k'; rcases hloc5 with e | e; exact .inl e; exact .inr (Nat.le_of_eq e.symm)) (Below.refl _ _) hgrow6 hown6 (fun k hk => by have k' : g6 = k := Option.some.inj hk; subst k'; rcases hloc6 with e | e; exact .inl e; exact .inr (Nat.le_of_eq e.symm))
            | exact M3.out.done hgrow5 hown5 (fun k hk => by have k' : g5 = k := Option.some.inj hk; subst k'; rcases hloc5 with e | e; exact .inl e; exact .inr (Nat.le_of_eq e.symm)) (Below.refl _ _) hgrow6 hown6 (fun k hk => by have k' : g6 = k := Option.some.inj hk; subst k'; rcases hloc6 with e | e; exact .inl e; exact .inr (Nat.le_of_eq e.symm))
          clear hown5 hown6 hgrow5 hgrow6 hloc5 hloc6 hlt5 hlt6 ca5 tx5 nt5 M1 M2 M3 N1 N2 N3 X1 X2 X3 H1 H2 c4 c4a HC ca
          go_wp2_with fail
          exact ⟨⟨i + 1, putG l r, rs ++ [r], S4, by simp, by omega, by omega, by simp; omega, HN⟩, by simp [intOf]; omega⟩
    · have hfew := HB.out.few
      have hb : l.bytes.length ≤ 4194304 := by omega
      have HE := hid (end_out HB.out.log hb)
      rw [HB.out.recs.long] at HE
      obtain ⟨pa, pc, hpv⟩ := owns_slice HB.out.pl
      obtain ⟨ta, tc, htv⟩ := owns_slice HB.out.tx
      subst hpv
      subst htv
      have HCP : Hid (∀ (W : World) (m : Nat), Below wr.heap.size wr W → m < rs.length → ∃ g, pa = some ⟨g, 0, none⟩ ∧ W.cell? ⟨g, m, none⟩ = some (.int .u64 (placeOf rs m : Nat))) := by
        intro W m hW hm
        have ho := owns_same (w' := W) HB.out.pl fun g k => hW.block g (owns_lt HB.out.pl k)
        rcases ho.2 with ⟨e1, e2⟩ | ⟨g, cap', cur, e1, _⟩
        · omega
        · simp only [Value.slice.injEq] at e1
          obtain ⟨rfl, _, rfl⟩ := e1
          have hm' : m < l.starts.length := by rw [HB.out.recs.len]; exact hm
          have := owns_cells ho m (.int .u64 (l.starts.getD m 0 : Nat)) (by simp [lsnCells, hm'])
          rw [HB.out.recs.at hm] at this
          exact ⟨g, rfl, by simpa [Addr.add_lit] using this⟩
      have HCT : Hid (∀ (W : World) (m : Nat), Below wr.heap.size wr W → m < rs.length → ∃ g, ta = some ⟨g, 0, none⟩ ∧ W.cell? ⟨g, m, none⟩ = some (.string (rs.getD m ⟨#[]⟩))) := by
        intro W m hW hm
        have ho := owns_same (w' := W) HB.out.tx fun g k => hW.block g (owns_lt HB.out.tx k)
        rcases ho.2 with ⟨e1, e2⟩ | ⟨g, cap', cur, e1, _⟩
        · omega
        · simp only [Value.slice.injEq] at e1
          obtain ⟨rfl, _, rfl⟩ := e1
          have := owns_cells ho m (.string (rs.getD m ⟨#[]⟩)) (by simp [hm])
          exact ⟨g, rfl, by simpa [Addr.add_lit] using this⟩
      have hd : (¬ i < len ∧ i < 60) ∨ (¬ i < len ∧ ¬ i < 60) ∨ (i < len ∧ ¬ i < 60) := by omega
      rcases hd with ⟨x1, x2⟩ | ⟨x1, x2⟩ | ⟨x1, x2⟩
      · have d1 : decide ((i : Int) < (len : Int)) = false := by simp; omega
        have d1' : decide (i < len) = false := by simp; omega
        have d2 : decide ((i : Int) < 60) = true := by simp; omega
        have d2' : decide (i < 60) = true := by simp; omega
        go_wp2_with fail
        refine HE.out.mono ?_
        rintro e w4 ⟨rfl, rfl⟩
        go_wp2_with fail
        go_loopw [13, 14] (fun x y wx => ∃ m : Nat, m ≤ rs.length ∧ x = .int .u64 (placeOf rs m : Nat) ∧ y = .int .i64 ((m : Int) - 1) ∧ Below w4.heap.size w4 wx) (fun _ y _ => (intOf y + 1).toNat)
        case atStart => exact ⟨rs.length, Nat.le_refl _, rfl, rfl, Below.refl _ _⟩
        case round =>
          obtain ⟨m, hm, rfl, rfl, hbel⟩ := hrel
          cases m with
          | zero =>
            have HLX := hid (HB.out.log.below hbel)
            have HBX := hid (below_chain HB.out.bel hbel)
            have HBF := hid (back_first HLX.out HB.out.recs (by omega))
            go_wp2_with fail
            refine HBF.out.mono ?_
            rintro e w5 ⟨rfl, q5, rfl⟩
            have e1 : ((placeOf rs 0 : Nat) : Int) = 1 := rfl
            go_wp2
            go_ret
            exact ⟨rfl, below_drewN HBX.out q5⟩
          | succ m =>
            have HLX := hid (HB.out.log.below hbel)
            have HBK := hid (back_recs HLX.out HB.out.recs (by omega) hb m (by omega))
            obtain ⟨gp, rfl, cp⟩ := HCP.out wr m hbel (by omega)
            obtain ⟨gt, rfl, ct⟩ := HCT.out wr m hbel (by omega)
            have j1 : ((m + 1 : Nat) : Int) - 1 = (m : Int) := by omega
            have j2 : (m : Int) < (rs.length : Int) := by omega
            go_wp2_with fail
            refine HBK.out.mono ?_
            rintro e w5 ⟨rfl, q5, rfl⟩
            have HLY : Hid (IsLog (wr.drewN q5) q S l) := HLX.out.same (fun _ _ => rfl) (Nat.le_refl _)
            have HGT := hid (get_recs HLY.out HB.out.recs (by omega) hb m (by omega))
            go_wp2_with fail
            refine HGT.out.mono ?_
            rintro e w6 ⟨rfl, q6, rfl⟩
            generalize rs.getD m ⟨#[]⟩ = R at *
            go_wp2_with fail
            exact ⟨⟨m, by omega, rfl, rfl, below_drewN hbel _⟩, by simp only [intOf]; omega⟩
      · have d1 : decide ((i : Int) < (len : Int)) = false := by simp; omega
        have d1' : decide (i < len) = false := by simp; omega
        have d2 : decide ((i : Int) < 60) = false := by simp; omega
        have d2' : decide (i < 60) = false := by simp; omega
        go_wp2_with fail
        refine HE.out.mono ?_
        rintro e w4 ⟨rfl, rfl⟩
        go_wp2_with fail
        go_loopw [13, 14] (fun x y wx => ∃ m : Nat, m ≤ rs.length ∧ x = .int .u64 (placeOf rs m : Nat) ∧ y = .int .i64 ((m : Int) - 1) ∧ Below w4.heap.size w4 wx) (fun _ y _ => (intOf y + 1).toNat)
        case atStart => exact ⟨rs.length, Nat.le_refl _, rfl, rfl, Below.refl _ _⟩
        case round =>
          obtain ⟨m, hm, rfl, rfl, hbel⟩ := hrel
          cases m with
          | zero =>
            have HLX := hid (HB.out.log.below hbel)
            have HBX := hid (below_chain HB.out.bel hbel)
            have HBF := hid (back_first HLX.out HB.out.recs (by omega))
            go_wp2_with fail
            refine HBF.out.mono ?_
            rintro e w5 ⟨rfl, q5, rfl⟩
            have e1 : ((placeOf rs 0 : Nat) : Int) = 1 := rfl
            go_wp2
            go_ret
            exact ⟨rfl, below_drewN HBX.out q5⟩
          | succ m =>
            have HLX := hid (HB.out.log.below hbel)
            have HBK := hid (back_recs HLX.out HB.out.recs (by omega) hb m (by omega))
            obtain ⟨gp, rfl, cp⟩ := HCP.out wr m hbel (by omega)
            obtain ⟨gt, rfl, ct⟩ := HCT.out wr m hbel (by omega)
            have j1 : ((m + 1 : Nat) : Int) - 1 = (m : Int) := by omega
            have j2 : (m : Int) < (rs.length : Int) := by omega
            go_wp2_with fail
            refine HBK.out.mono ?_
            rintro e w5 ⟨rfl, q5, rfl⟩
            have HLY : Hid (IsLog (wr.drewN q5) q S l) := HLX.out.same (fun _ _ => rfl) (Nat.le_refl _)
            have HGT := hid (get_recs HLY.out HB.out.recs (by omega) hb m (by omega))
            go_wp2_with fail
            refine HGT.out.mono ?_
            rintro e w6 ⟨rfl, q6, rfl⟩
            generalize rs.getD m ⟨#[]⟩ = R at *
            go_wp2_with fail
            exact ⟨⟨m, by omega, rfl, rfl, below_drewN hbel _⟩, by simp only [intOf]; omega⟩
      · have d1 : decide ((i : Int) < (len : Int)) = true := by simp; omega
        have d1' : decide (i < len) = true := by simp; omega
        have d2 : decide ((i : Int) < 60) = false := by simp; omega
        have d2' : decide (i < 60) = false := by simp; omega
        go_wp2_with fail
        refine HE.out.mono ?_
        rintro e w4 ⟨rfl, rfl⟩
        go_wp2_with fail
        go_loopw [13, 14] (fun x y wx => ∃ m : Nat, m ≤ rs.length ∧ x = .int .u64 (placeOf rs m : Nat) ∧ y = .int .i64 ((m : Int) - 1) ∧ Below w4.heap.size w4 wx) (fun _ y _ => (intOf y + 1).toNat)
        case atStart => exact ⟨rs.length, Nat.le_refl _, rfl, rfl, Below.refl _ _⟩
        case round =>
          obtain ⟨m, hm, rfl, rfl, hbel⟩ := hrel
          cases m with
          | zero =>
            have HLX := hid (HB.out.log.below hbel)
            have HBX := hid (below_chain HB.out.bel hbel)
            have HBF := hid (back_first HLX.out HB.out.recs (by omega))
            go_wp2_with fail
            refine HBF.out.mono ?_
            rintro e w5 ⟨rfl, q5, rfl⟩
            have e1 : ((placeOf rs 0 : Nat) : Int) = 1 := rfl
            go_wp2
            go_ret
            exact ⟨rfl, below_drewN HBX.out q5⟩
          | succ m =>
            have HLX := hid (HB.out.log.below hbel)
            have HBK := hid (back_recs HLX.out HB.out.recs (by omega) hb m (by omega))
            obtain ⟨gp, rfl, cp⟩ := HCP.out wr m hbel (by omega)
            obtain ⟨gt, rfl, ct⟩ := HCT.out wr m hbel (by omega)
            have j1 : ((m + 1 : Nat) : Int) - 1 = (m : Int) := by omega
            have j2 : (m : Int) < (rs.length : Int) := by omega
            go_wp2_with fail
            refine HBK.out.mono ?_
            rintro e w5 ⟨rfl, q5, rfl⟩
            have HLY : Hid (IsLog (wr.drewN q5) q S l) := HLX.out.same (fun _ _ => rfl) (Nat.le_refl _)
            have HGT := hid (get_recs HLY.out HB.out.recs (by omega) hb m (by omega))
            go_wp2_with fail
            refine HGT.out.mono ?_
            rintro e w6 ⟨rfl, q6, rfl⟩
            generalize rs.getD m ⟨#[]⟩ = R at *
            go_wp2_with fail
            exact ⟨⟨m, by omega, rfl, rfl, below_drewN hbel _⟩, by simp only [intOf]; omega⟩

end Go.Proofs.Ytnhgmegjfnpiiab
