/-
  The walk of WalPlays.
-/
import Derived.Test.YthmhigjdjclckaaBase11C
namespace Go.Proofs.Ythmhigjdjclckaa
open Go.RowKit
set_option linter.unusedVariables false
set_option linter.unusedSimpArgs false

theorem texts_off {w : World} {mb n tc sure kept mark : Nat} {ta ta' : Option Addr} {t : TypeId} {rs' : List ByteArray} (hT : TextsAt w ta' rs') (hb : Blk w mb (mCells ta n tc sure kept mark) t) : rs' ≠ [] → ∀ x, ta' = some x → x.block ≠ mb := by
  intro hne x hx e
  rcases hT with y | ⟨b, o, e', hlt, hc⟩
  · exact hne y
  · rw [e'] at hx
    obtain rfl := Option.some.inj hx
    simp only at e
    subst e
    have h0 := hc 0 (List.length_pos_iff.2 hne)
    rw [hb.cell] at h0
    unfold mCells at h0
    match o, h0 with
    | 0, h0 => simp at h0
    | 1, h0 => simp at h0
    | 2, h0 => simp at h0
    | 3, h0 => simp at h0
    | n + 4, h0 => simp at h0

theorem one4 (ta : Option Addr) (n tc sure kept mark : Nat) : (mCells ta n tc sure kept mark).all (·.oneCell') = true := by simp [mCells, Value.oneCell']

theorem acs_of {w wx : World} {b o : Nat} {A : AcV} (h : AcAt w b o A) (hb : b < w.heap.size) (k : Below w.heap.size w wx) : AcAt wx b o A := h.same (k.block b hb)

set_option maxHeartbeats 6400000 in
set_option maxRecDepth 20000 in
theorem plays_walk (a : Option Addr) (n c : Nat) (AA : Nat → AcV) (w : World) (hA : ArgAcs w a n AA) (hn : n ≤ 9223372036854775807) :
    Calls Try.prog 3 #[.slice a n c] w fun e w' => e = .returned (.bool true) ∧ Below w.heap.size w w' := by
  have HN := hid (new_any w 8 (by omega) (by omega))
  have HAI : Hid (ArgAcs w a n AA) := hA
  have HAW : Hid (∀ wx, Calls Try.prog 7 #[] wx fun e w' => e = .returned (.bool true) ∧ Below wx.heap.size wx w') := fun wx => awake_any wx
  clear hA
  go_enter Try.func3, Try.ntmps3
  go_wp2_with fail
  refine HN.out.mono ?_
  rintro e w1 ⟨p, rfl, ⟨m, hd1, hm1⟩, b1⟩
  have hD1 : IsDisk w1 p (m.has p) (newD 8) := ⟨m, hd1, fun k hk => hk, fun k hk => by rcases hk with rfl | hk; exact hd1.lt; exact hd1.rest_lt hk⟩
  have HO := hid (open_out hD1 rfl (by show (0 : Nat) ≤ _; omega) (by
    have h0 : frameN ⟨(newD 8).log.toArray⟩ (allL ([] : List ByteArray)).length = 0 := frameN_end (by rw [bytes_size]; show (0 : Nat) < 0 + 4; omega)
    exact (open_recs p (newD 8) [] [] rfl (fun r hr => by cases hr) h0).2.2.2))
  have H1 : Hid (IsDisk w1 p (m.has p) (newD 8) ∧ (∀ k, m.has p k → w.heap.size ≤ k) ∧ Below w.heap.size w w1) := ⟨hD1, hm1, b1⟩
  clear hd1 hm1 hD1 b1 HN
  go_wp2_with fail
  refine HO.out.mono ?_
  rintro e w2 ⟨q, rfl, ⟨S, hl2, hS2⟩, b2⟩
  have H2 : Hid (WpL w2 p q S (m.has p) (openL p (newD 8)) (newD 8) [] 0 0 0 0 ∧ (∀ i, S i ∨ m.has p i → w.heap.size ≤ i) ∧ Below w.heap.size w w2) := by
    refine ⟨wp_start (H1.out.1.below b2) hl2 (fun k x y => ?_), fun i y => ?_, below_chain H1.out.2.2 b2⟩
    · have := hS2 k x
      have := H1.out.1.lt y
      omega
    · rcases y with y | y
      · have := hS2 i y; have := H1.out.2.2.size; omega
      · exact H1.out.2.1 i y
  clear hl2 hS2 b2 H1 HO
  go_wp2_with fail
  refine (HAW.out _).mono ?_
  rintro e w3 ⟨rfl, b3⟩
  have H3 : Hid (PwAt w (w3.alloc (.cells (mCells none 0 0 0 0 0) 34)) w3.heap.size p q S (m.has p) (openL p (newD 8)) (newD 8) [] 0 0 0 0 none 0) := by
    have bb : Below w3.heap.size w3 (w3.alloc (.cells (mCells none 0 0 0 0 0) 34)) := (Below.refl _ _).alloc (Nat.le_refl _) _
    have hb3 := below_chain H2.out.2.2 b3
    refine ⟨below_chain hb3 bb, (H2.out.1.below b3).below bb, .inl rfl, fun h => absurd rfl h, Nat.le_refl _, H2.out.2.1, Blk.made w3 _ _, hb3.size, fun i y e => ?_, fun h => absurd rfl h⟩
    have := b3.size
    rcases y with y | y
    · have := H2.out.1.log.lt y; omega
    · have := H2.out.1.disk.lt y; omega
  obtain ⟨V3, HV3⟩ : ∃ V, Hid (V = w3.alloc (.cells (mCells none 0 0 0 0 0) 34)) := ⟨_, rfl⟩
  rw [← HV3.out] at H3
  unfold mCells at HV3
  simp only [Int.natCast_zero] at HV3
  obtain ⟨mb, Hmb⟩ : ∃ b, Hid (w3.heap.size = b) := ⟨_, rfl⟩
  rw [Hmb.out] at H3
  clear H2 b3 HAW
  go_upto_region 6 with fail
  rw [← HV3.out, Hmb.out]
  clear HV3 Hmb
  have H30 : Hid (∃ (ta : Option Addr) (tc sure kept mark : Nat) (rs : List ByteArray) (S D : Nat → Prop) (l : LG) (d : DG), PwAt w V3 mb p q S D l d rs sure kept mark 0 ta tc) := ⟨_, _, _, _, _, _, _, _, _, _, H3.out⟩
  clear H3
  go_wp2_with fail
  go_loopw [5, 9] (fun xv i wr => ∃ (k q : Nat), k ≤ n ∧ k ≤ 50 ∧ xv = .pointer (some ⟨q, 0, none⟩) ∧ i = .int .i64 (k : Int) ∧ Hid (∃ (ta : Option Addr) (tc sure kept mark : Nat) (rs : List ByteArray) (S D : Nat → Prop) (l : LG) (d : DG), PwAt w wr mb p q S D l d rs sure kept mark k ta tc)) (fun _ i _ => 50 - (intOf i).toNat)
  case atStart => exact ⟨0, q, by omega, by omega, rfl, rfl, H30⟩
  case round =>
    obtain ⟨k, q, hk, hk50, rfl, rfl, H4⟩ := hrel
    clear H30
    by_cases hlt : k < n ∧ k < 50
    · obtain ⟨ta, tc, sure, kept, mark, rs, S, D, l, d, hP⟩ := H4.out
      clear H4
      have hi1 : (k : Int) < n := by omega
      have hi0 : (0 : Int) ≤ k := by omega
      have hi2 : (k : Int) < 50 := by omega
      obtain ⟨ab, ao, rfl, hab, hact⟩ : ∃ ab ao, a = some ⟨ab, ao, none⟩ ∧ ab < w.heap.size ∧ ∀ i, i < n → AcAt w ab (ao + i * 9) (AA i) ∧ AcOk (AA i) := by
        rcases HAI.out with h | h
        · omega
        · exact h
      obtain ⟨hact1, hok⟩ := hact k hlt.1
      obtain ⟨A, HAk⟩ : ∃ A, Hid (AA k = A) := ⟨_, rfl⟩
      rw [HAk.out] at hact1 hok
      have HACT : Hid (∀ wx, Below w.heap.size w wx → AcAt wx ab (ao + k * 9) A) := fun wx b => acs_of hact1 hab b
      clear hact hact1 HAk
      have HP : Hid (PwAt w wr mb p q S D l d rs sure kept mark k ta tc) := hP
      have HONE := hid (one_any (hP.wp.below ((Below.refl wr.heap.size wr).drew)) (by omega) (hP.tx.below ((Below.refl wr.heap.size wr).drew)) hP.off tc hP.hc A.kind A.n A.s A.x A.f1 A.f2 A.f3 A.f4 A.f5 hok.s hok.x hok.f2)
      have hcells := HACT.out wr hP.bel
      have hmc := mcells hP.mbk
      clear hP
      obtain ⟨d0, d1, d2, d3⟩ : wr.drew.cell? ⟨mb, 0, none⟩ = some (.slice ta rs.length tc) ∧ wr.drew.cell? ⟨mb, 1, none⟩ = some (.int .i64 sure) ∧ wr.drew.cell? ⟨mb, 2, none⟩ = some (.int .i64 kept) ∧ wr.drew.cell? ⟨mb, 3, none⟩ = some (.int .u64 mark) := hmc
      go_upto_region 10 with fail
      refine wp_region_noPanic ?_
      refine wp_region_held_drew (S := (fun wy : World => (wy.cell? ⟨ab, ao + k * 9, none⟩ = some (.int .i64 A.kind) ∧ wy.cell? ⟨ab, ao + k * 9 + 1, none⟩ = some (.int .i64 A.n) ∧ wy.cell? ⟨ab, ao + k * 9 + 2, none⟩ = some (.string A.s) ∧ wy.cell? ⟨ab, ao + k * 9 + 3, none⟩ = some (.int .u64 A.x) ∧ wy.cell? ⟨ab, ao + k * 9 + 4, none⟩ = some (.int .i64 A.f1) ∧ wy.cell? ⟨ab, ao + k * 9 + 5, none⟩ = some (.int .u64 A.f2) ∧ wy.cell? ⟨ab, ao + k * 9 + 6, none⟩ = some (.int .i64 A.f3) ∧ wy.cell? ⟨ab, ao + k * 9 + 7, none⟩ = some (.int .i64 A.f4) ∧ wy.cell? ⟨ab, ao + k * 9 + 8, none⟩ = some (.int .i64 A.f5)))) wmixed ⟨hcells.c0, hcells.c1, hcells.c2, hcells.c3, hcells.c4, hcells.c5, hcells.c6, hcells.c7, hcells.c8⟩ (fun hH => ?_)
      clear hcells
      refine wpAnyH_take (i := 0) (v := (.pointer (some ⟨p, 0, none⟩))) (by simp only [List.getElem?_toArray, List.getElem?_cons_zero]; rfl) (by kernel_rfl) (by kernel_rfl) (by kernel_rfl) (fun _ _ _ h => h) (Or.inl ⟨by rfl, ?_⟩) hH ?_
      · intro wz hSw
        obtain ⟨c0, c1, c2, c3, c4, c5, c6, c7, c8⟩ := hSw
        go_simp
      try simp only [Act.put, List.setIfInBounds_toArray, List.set_cons_zero, List.set_cons_succ]
      refine wpAnyH_take (i := 1) (v := (.pointer (some ⟨q, 0, none⟩))) (by simp only [List.getElem?_toArray, List.getElem?_cons_succ, List.getElem?_cons_zero]; rfl) (by kernel_rfl) (by kernel_rfl) (by kernel_rfl) (fun _ _ _ h => h) (Or.inl ⟨by rfl, ?_⟩) hH ?_
      · intro wz hSw
        obtain ⟨c0, c1, c2, c3, c4, c5, c6, c7, c8⟩ := hSw
        go_simp
      try simp only [Act.put, List.setIfInBounds_toArray, List.set_cons_zero, List.set_cons_succ]
      refine wpAnyH_take (i := 3) (v := (.slice (some ⟨ab, ao, none⟩) n c)) (by simp only [List.getElem?_toArray, List.getElem?_cons_succ, List.getElem?_cons_zero]; rfl) (by kernel_rfl) (by kernel_rfl) (by kernel_rfl) (fun _ _ _ h => h) (Or.inl ⟨by rfl, ?_⟩) hH ?_
      · intro wz hSw
        obtain ⟨c0, c1, c2, c3, c4, c5, c6, c7, c8⟩ := hSw
        go_simp
      try simp only [Act.put, List.setIfInBounds_toArray, List.set_cons_zero, List.set_cons_succ]
      refine wpAnyH_take (i := 4) (v := (.int .i64 k)) (by simp only [List.getElem?_toArray, List.getElem?_cons_succ, List.getElem?_cons_zero]; rfl) (by kernel_rfl) (by kernel_rfl) (by kernel_rfl) (fun _ _ _ h => h) (Or.inl ⟨by rfl, ?_⟩) hH ?_
      · intro wz hSw
        obtain ⟨c0, c1, c2, c3, c4, c5, c6, c7, c8⟩ := hSw
        go_simp
      try simp only [Act.put, List.setIfInBounds_toArray, List.set_cons_zero, List.set_cons_succ]
      refine wpAnyH_take (i := 5) (v := (.pointer (some ⟨ab, ao + k * 9, none⟩))) (by simp only [List.getElem?_toArray, List.getElem?_cons_succ, List.getElem?_cons_zero]; rfl) (by kernel_rfl) (by kernel_rfl) (by kernel_rfl) (fun _ _ _ h => h) (Or.inl ⟨by rfl, ?_⟩) hH ?_
      · intro wz hSw
        obtain ⟨c0, c1, c2, c3, c4, c5, c6, c7, c8⟩ := hSw
        go_simp
      try simp only [Act.put, List.setIfInBounds_toArray, List.set_cons_zero, List.set_cons_succ]
      refine wpAnyH_take (i := 6) (v := (.agg #[.int .i64 A.kind, .int .i64 A.n, .string A.s, .int .u64 A.x, .int .i64 A.f1, .int .u64 A.f2, .int .i64 A.f3, .int .i64 A.f4, .int .i64 A.f5])) (by simp only [List.getElem?_toArray, List.getElem?_cons_succ, List.getElem?_cons_zero]; rfl) (by kernel_rfl) (by kernel_rfl) (by kernel_rfl) (fun _ _ _ h => h) (Or.inl ⟨by rfl, ?_⟩) hH ?_
      · intro wz hSw
        obtain ⟨c0, c1, c2, c3, c4, c5, c6, c7, c8⟩ := hSw
        go_simp
      try simp only [Act.put, List.setIfInBounds_toArray, List.set_cons_zero, List.set_cons_succ]
      refine wpAnyH_ready (rs := [2]) (by kernel_rfl) (by simp) ?_
      refine AllReadyH.cons (i := 2) (by simp only [List.getElem?_toArray, List.getElem?_cons_succ, List.getElem?_cons_zero]; rfl) (fun K hK => ?_) AllReadyH.nil
      go_simp
      refine hK.out _ _ hH (fun hH2 => ?_)
      clear hK K hH d0 d1 d2 d3
      try simp only [Act.put, List.setIfInBounds_toArray, List.set_cons_zero, List.set_cons_succ]
      refine wpAnyH_ready (rs := [7]) (by kernel_rfl) (by simp) ?_
      refine AllReadyH.cons (i := 7) (by simp only [List.getElem?_toArray, List.getElem?_cons_succ, List.getElem?_cons_zero]; rfl) (fun K hK => ?_) AllReadyH.nil
      go_simp
      refine HONE.out.mono ?_
      rintro e w5 ⟨q', ta', tc', sure', kept', mark', rs', S', D', l', d', rfl, hw5, hT5, hO5, hc5, hm5⟩
      have hm5' : Moves (fun i => S i ∨ D i) (fun i => S' i ∨ D' i) wr w5 := hm5.undrew
      have hmb5 : Blk w5 mb (mCells ta rs.length tc sure kept mark) 34 := HP.out.mbk.same (hm5'.1.block mb HP.out.mbk.lt (fun y => HP.out.mbo mb y rfl))
      have HP6 := hid (HP.out.one hw5 hT5 hO5 hc5 hm5' (texts_off hT5 hmb5))
      have hbel5 : Below w.heap.size w w5 := ⟨hm5'.1.os.trans HP.out.bel.os, hm5'.1.tape.trans HP.out.bel.tape, hm5'.1.output.trans HP.out.bel.output, Nat.le_trans HP.out.bel.size hm5'.1.size, fun i hi => (hm5'.1.block i (by have := HP.out.bel.size; omega) (fun y => by have := HP.out.new i y; omega)).trans (HP.out.bel.block i hi)⟩
      have hc5' := HACT.out w5 hbel5
      have HMB5 := hid hmb5
      clear HONE HP hw5 hT5 hO5 hc5 hm5 hm5' hbel5
      refine hK.out _ _ ⟨hc5'.c0, hc5'.c1, hc5'.c2, hc5'.c3, hc5'.c4, hc5'.c5, hc5'.c6, hc5'.c7, hc5'.c8⟩ (fun hH6 => ?_)
      clear hK K hH2 hc5' hmb5
      try simp only [Act.put, List.setIfInBounds_toArray, List.set_cons_zero, List.set_cons_succ]
      refine wpAnyH_take (i := 8) (v := (.tuple #[.pointer (some ⟨q', 0, none⟩), .agg #[.slice ta' rs'.length tc', .int .i64 sure', .int .i64 kept', .int .u64 mark'], .bool true])) (by simp only [List.getElem?_toArray, List.getElem?_cons_succ, List.getElem?_cons_zero]; rfl) (by kernel_rfl) (by kernel_rfl) (by kernel_rfl) (fun _ _ _ h => h) (Or.inl ⟨by rfl, ?_⟩) hH6 ?_
      · intro wz hSw
        obtain ⟨c0, c1, c2, c3, c4, c5, c6, c7, c8⟩ := hSw
        go_simp
      try simp only [Act.put, List.setIfInBounds_toArray, List.set_cons_zero, List.set_cons_succ]
      refine wpAnyH_take (i := 9) (v := (.pointer (some ⟨q', 0, none⟩))) (by simp only [List.getElem?_toArray, List.getElem?_cons_succ, List.getElem?_cons_zero]; rfl) (by kernel_rfl) (by kernel_rfl) (by kernel_rfl) (fun _ _ _ h => h) (Or.inl ⟨by rfl, ?_⟩) hH6 ?_
      · intro wz hSw
        obtain ⟨c0, c1, c2, c3, c4, c5, c6, c7, c8⟩ := hSw
        go_simp
      try simp only [Act.put, List.setIfInBounds_toArray, List.set_cons_zero, List.set_cons_succ]
      refine wpAnyH_take (i := 10) (v := (.agg #[.slice ta' rs'.length tc', .int .i64 sure', .int .i64 kept', .int .u64 mark'])) (by simp only [List.getElem?_toArray, List.getElem?_cons_succ, List.getElem?_cons_zero]; rfl) (by kernel_rfl) (by kernel_rfl) (by kernel_rfl) (fun _ _ _ h => h) (Or.inl ⟨by rfl, ?_⟩) hH6 ?_
      · intro wz hSw
        obtain ⟨c0, c1, c2, c3, c4, c5, c6, c7, c8⟩ := hSw
        go_simp
      try simp only [Act.put, List.setIfInBounds_toArray, List.set_cons_zero, List.set_cons_succ]
      refine wpAnyH_take (i := 11) (v := (.bool true)) (by simp only [List.getElem?_toArray, List.getElem?_cons_succ, List.getElem?_cons_zero]; rfl) (by kernel_rfl) (by kernel_rfl) (by kernel_rfl) (fun _ _ _ h => h) (Or.inl ⟨by rfl, ?_⟩) hH6 ?_
      · intro wz hSw
        obtain ⟨c0, c1, c2, c3, c4, c5, c6, c7, c8⟩ := hSw
        go_simp
      try simp only [Act.put, List.setIfInBounds_toArray, List.set_cons_zero, List.set_cons_succ]
      refine wpAnyH_take (i := 12) (v := (.pointer (some ⟨q', 0, none⟩))) (by simp only [List.getElem?_toArray, List.getElem?_cons_succ, List.getElem?_cons_zero]; rfl) (by kernel_rfl) (by kernel_rfl) (by kernel_rfl) (fun _ _ _ h => h) (Or.inl ⟨by rfl, ?_⟩) hH6 ?_
      · intro wz hSw
        obtain ⟨c0, c1, c2, c3, c4, c5, c6, c7, c8⟩ := hSw
        go_simp
      try simp only [Act.put, List.setIfInBounds_toArray, List.set_cons_zero, List.set_cons_succ]
      refine wpAnyH_ready (rs := [13]) (by kernel_rfl) (by simp) ?_
      refine AllReadyH.cons (i := 13) (by simp only [List.getElem?_toArray, List.getElem?_cons_succ, List.getElem?_cons_zero]; rfl) (fun K hK => ?_) AllReadyH.nil
      refine step_storeRow (by rfl) _ _ _ (by rfl) (by rfl) mb (by rfl) (mCells ta' rs'.length tc' sure' kept' mark') (mCells ta rs.length tc sure kept mark) (by rfl) _ HMB5.out (by kernel_rfl) (by rfl) (one4 _ _ _ _ _ _) ?_
      obtain ⟨V6, HV6⟩ : ∃ V, Hid (V = w5.setRow mb (mCells ta' rs'.length tc' sure' kept' mark')) := ⟨_, rfl⟩
      rw [← HV6.out] at HP6 ⊢
      clear HV6 HMB5
      have hc6 := HACT.out V6 HP6.out.bel
      refine hK.out _ _ ⟨hc6.c0, hc6.c1, hc6.c2, hc6.c3, hc6.c4, hc6.c5, hc6.c6, hc6.c7, hc6.c8⟩ (fun hH7 => ?_)
      clear hK K hH6 hc6
      try simp only [Act.put, List.setIfInBounds_toArray, List.set_cons_zero, List.set_cons_succ]
      refine wpAnyH_take (i := 14) (v := (.bool true)) (by simp only [List.getElem?_toArray, List.getElem?_cons_succ, List.getElem?_cons_zero]; rfl) (by kernel_rfl) (by kernel_rfl) (by kernel_rfl) (fun _ _ _ h => h) (Or.inl ⟨by rfl, ?_⟩) hH7 ?_
      · intro wz hSw
        obtain ⟨c0, c1, c2, c3, c4, c5, c6, c7, c8⟩ := hSw
        go_simp
      try simp only [Act.put, List.setIfInBounds_toArray, List.set_cons_zero, List.set_cons_succ]
      refine wpAnyH_done (by kernel_rfl) ?_ _
      refine NoPanic.normal ?_
      clear hH7
      have HSAY := hid (says_any (HP6.out.wp.below ((Below.refl V6.heap.size V6).drew)) (by omega) (HP6.out.tx.below ((Below.refl V6.heap.size V6).drew)) tc' A.kind A.n A.s A.x A.f1 A.f2 A.f3 A.f4 A.f5)
      have hcells := HACT.out V6 HP6.out.bel
      have hmc := mcells HP6.out.mbk
      go_upto_region 11 with fail
      refine wp_region_noPanic ?_
      refine wp_region_held_drew (S := (fun wy : World => (wy.cell? ⟨mb, 0, none⟩ = some (.slice ta' rs'.length tc') ∧ wy.cell? ⟨mb, 1, none⟩ = some (.int .i64 sure') ∧ wy.cell? ⟨mb, 2, none⟩ = some (.int .i64 kept') ∧ wy.cell? ⟨mb, 3, none⟩ = some (.int .u64 mark')) ∧ (wy.cell? ⟨ab, ao + k * 9, none⟩ = some (.int .i64 A.kind) ∧ wy.cell? ⟨ab, ao + k * 9 + 1, none⟩ = some (.int .i64 A.n) ∧ wy.cell? ⟨ab, ao + k * 9 + 2, none⟩ = some (.string A.s) ∧ wy.cell? ⟨ab, ao + k * 9 + 3, none⟩ = some (.int .u64 A.x) ∧ wy.cell? ⟨ab, ao + k * 9 + 4, none⟩ = some (.int .i64 A.f1) ∧ wy.cell? ⟨ab, ao + k * 9 + 5, none⟩ = some (.int .u64 A.f2) ∧ wy.cell? ⟨ab, ao + k * 9 + 6, none⟩ = some (.int .i64 A.f3) ∧ wy.cell? ⟨ab, ao + k * 9 + 7, none⟩ = some (.int .i64 A.f4) ∧ wy.cell? ⟨ab, ao + k * 9 + 8, none⟩ = some (.int .i64 A.f5)))) wmixed ⟨hmc, ⟨hcells.c0, hcells.c1, hcells.c2, hcells.c3, hcells.c4, hcells.c5, hcells.c6, hcells.c7, hcells.c8⟩⟩ (fun hH => ?_)
      clear hmc hcells
      refine wpAnyH_take (i := 0) (v := (.bool true)) (by simp only [List.getElem?_toArray, List.getElem?_cons_zero]; rfl) (by kernel_rfl) (by kernel_rfl) (by kernel_rfl) (fun _ _ _ h => h) (Or.inl ⟨by rfl, ?_⟩) hH ?_
      · intro wz hSw
        obtain ⟨⟨p0, p1, p2, p3⟩, ⟨c0, c1, c2, c3, c4, c5, c6, c7, c8⟩⟩ := hSw
        go_simp
      try simp only [Act.put, List.setIfInBounds_toArray, List.set_cons_zero, List.set_cons_succ]
      refine wpAnyH_take (i := 1) (v := (.bool false)) (by simp only [List.getElem?_toArray, List.getElem?_cons_succ, List.getElem?_cons_zero]; rfl) (by kernel_rfl) (by kernel_rfl) (by kernel_rfl) (fun _ _ _ h => h) (Or.inl ⟨by rfl, ?_⟩) hH ?_
      · intro wz hSw
        obtain ⟨⟨p0, p1, p2, p3⟩, ⟨c0, c1, c2, c3, c4, c5, c6, c7, c8⟩⟩ := hSw
        go_simp
      try simp only [Act.put, List.setIfInBounds_toArray, List.set_cons_zero, List.set_cons_succ]
      refine wpAnyH_take (i := 2) (v := (.bool false)) (by simp only [List.getElem?_toArray, List.getElem?_cons_succ, List.getElem?_cons_zero]; rfl) (by kernel_rfl) (by kernel_rfl) (by kernel_rfl) (fun _ _ _ h => h) (Or.inl ⟨by rfl, ?_⟩) hH ?_
      · intro wz hSw
        obtain ⟨⟨p0, p1, p2, p3⟩, ⟨c0, c1, c2, c3, c4, c5, c6, c7, c8⟩⟩ := hSw
        go_simp
      try simp only [Act.put, List.setIfInBounds_toArray, List.set_cons_zero, List.set_cons_succ]
      refine wpAnyH_take (i := 3) (v := (.pointer (some ⟨q', 0, none⟩))) (by simp only [List.getElem?_toArray, List.getElem?_cons_succ, List.getElem?_cons_zero]; rfl) (by kernel_rfl) (by kernel_rfl) (by kernel_rfl) (fun _ _ _ h => h) (Or.inl ⟨by rfl, ?_⟩) hH ?_
      · intro wz hSw
        obtain ⟨⟨p0, p1, p2, p3⟩, ⟨c0, c1, c2, c3, c4, c5, c6, c7, c8⟩⟩ := hSw
        go_simp
      try simp only [Act.put, List.setIfInBounds_toArray, List.set_cons_zero, List.set_cons_succ]
      refine wpAnyH_take (i := 4) (v := (.agg #[.slice ta' rs'.length tc', .int .i64 sure', .int .i64 kept', .int .u64 mark'])) (by simp only [List.getElem?_toArray, List.getElem?_cons_succ, List.getElem?_cons_zero]; rfl) (by kernel_rfl) (by kernel_rfl) (by kernel_rfl) (fun _ _ _ h => h) (Or.inl ⟨by rfl, ?_⟩) hH ?_
      · intro wz hSw
        obtain ⟨⟨p0, p1, p2, p3⟩, ⟨c0, c1, c2, c3, c4, c5, c6, c7, c8⟩⟩ := hSw
        go_simp
      try simp only [Act.put, List.setIfInBounds_toArray, List.set_cons_zero, List.set_cons_succ]
      refine wpAnyH_take (i := 5) (v := (.slice (some ⟨ab, ao, none⟩) n c)) (by simp only [List.getElem?_toArray, List.getElem?_cons_succ, List.getElem?_cons_zero]; rfl) (by kernel_rfl) (by kernel_rfl) (by kernel_rfl) (fun _ _ _ h => h) (Or.inl ⟨by rfl, ?_⟩) hH ?_
      · intro wz hSw
        obtain ⟨⟨p0, p1, p2, p3⟩, ⟨c0, c1, c2, c3, c4, c5, c6, c7, c8⟩⟩ := hSw
        go_simp
      try simp only [Act.put, List.setIfInBounds_toArray, List.set_cons_zero, List.set_cons_succ]
      refine wpAnyH_take (i := 6) (v := (.int .i64 k)) (by simp only [List.getElem?_toArray, List.getElem?_cons_succ, List.getElem?_cons_zero]; rfl) (by kernel_rfl) (by kernel_rfl) (by kernel_rfl) (fun _ _ _ h => h) (Or.inl ⟨by rfl, ?_⟩) hH ?_
      · intro wz hSw
        obtain ⟨⟨p0, p1, p2, p3⟩, ⟨c0, c1, c2, c3, c4, c5, c6, c7, c8⟩⟩ := hSw
        go_simp
      try simp only [Act.put, List.setIfInBounds_toArray, List.set_cons_zero, List.set_cons_succ]
      refine wpAnyH_take (i := 7) (v := (.pointer (some ⟨ab, ao + k * 9, none⟩))) (by simp only [List.getElem?_toArray, List.getElem?_cons_succ, List.getElem?_cons_zero]; rfl) (by kernel_rfl) (by kernel_rfl) (by kernel_rfl) (fun _ _ _ h => h) (Or.inl ⟨by rfl, ?_⟩) hH ?_
      · intro wz hSw
        obtain ⟨⟨p0, p1, p2, p3⟩, ⟨c0, c1, c2, c3, c4, c5, c6, c7, c8⟩⟩ := hSw
        go_simp
      try simp only [Act.put, List.setIfInBounds_toArray, List.set_cons_zero, List.set_cons_succ]
      refine wpAnyH_take (i := 8) (v := (.agg #[.int .i64 A.kind, .int .i64 A.n, .string A.s, .int .u64 A.x, .int .i64 A.f1, .int .u64 A.f2, .int .i64 A.f3, .int .i64 A.f4, .int .i64 A.f5])) (by simp only [List.getElem?_toArray, List.getElem?_cons_succ, List.getElem?_cons_zero]; rfl) (by kernel_rfl) (by kernel_rfl) (by kernel_rfl) (fun _ _ _ h => h) (Or.inl ⟨by rfl, ?_⟩) hH ?_
      · intro wz hSw
        obtain ⟨⟨p0, p1, p2, p3⟩, ⟨c0, c1, c2, c3, c4, c5, c6, c7, c8⟩⟩ := hSw
        go_simp
      try simp only [Act.put, List.setIfInBounds_toArray, List.set_cons_zero, List.set_cons_succ]
      refine wpAnyH_ready (rs := [9]) (by kernel_rfl) (by simp) ?_
      refine AllReadyH.cons (i := 9) (by simp only [List.getElem?_toArray, List.getElem?_cons_succ, List.getElem?_cons_zero]; rfl) (fun K hK => ?_) AllReadyH.nil
      go_simp
      refine HSAY.out.mono ?_
      rintro e w7 ⟨rfl, b7⟩
      have b7' := below_chain ((Below.refl V6.heap.size V6).drew) b7
      have HP7 := hid (HP6.out.below b7')
      have hc7 := HACT.out w7 HP7.out.bel
      refine hK.out _ _ ⟨mcells HP7.out.mbk, ⟨hc7.c0, hc7.c1, hc7.c2, hc7.c3, hc7.c4, hc7.c5, hc7.c6, hc7.c7, hc7.c8⟩⟩ (fun hH8 => ?_)
      clear hK K hH b7 b7' hc7 HSAY HP6
      try simp only [Act.put, List.setIfInBounds_toArray, List.set_cons_zero, List.set_cons_succ]
      refine wpAnyH_take (i := 10) (v := (.bool false)) (by simp only [List.getElem?_toArray, List.getElem?_cons_succ, List.getElem?_cons_zero]; rfl) (by kernel_rfl) (by kernel_rfl) (by kernel_rfl) (fun _ _ _ h => h) (Or.inl ⟨by rfl, ?_⟩) hH8 ?_
      · intro wz hSw
        obtain ⟨⟨p0, p1, p2, p3⟩, ⟨c0, c1, c2, c3, c4, c5, c6, c7, c8⟩⟩ := hSw
        go_simp
      try simp only [Act.put, List.setIfInBounds_toArray, List.set_cons_zero, List.set_cons_succ]
      refine wpAnyH_take (i := 11) (v := (.bool false)) (by simp only [List.getElem?_toArray, List.getElem?_cons_succ, List.getElem?_cons_zero]; rfl) (by kernel_rfl) (by kernel_rfl) (by kernel_rfl) (fun _ _ _ h => h) (Or.inl ⟨by rfl, ?_⟩) hH8 ?_
      · intro wz hSw
        obtain ⟨⟨p0, p1, p2, p3⟩, ⟨c0, c1, c2, c3, c4, c5, c6, c7, c8⟩⟩ := hSw
        go_simp
      try simp only [Act.put, List.setIfInBounds_toArray, List.set_cons_zero, List.set_cons_succ]
      refine wpAnyH_done (by kernel_rfl) ?_ _
      refine NoPanic.normal ?_
      clear hH8
      have HF : Hid (∃ (ta : Option Addr) (tc sure kept mark : Nat) (rs : List ByteArray) (S D : Nat → Prop) (l : LG) (d : DG), PwAt w w7 mb p q' S D l d rs sure kept mark (k + 1) ta tc) := ⟨_, _, _, _, _, _, _, _, _, _, HP7.out⟩
      clear HP7 HACT hok
      go_wp2
      go_roundw
      case rel => exact ⟨k + 1, q', by omega, by omega, rfl, by go_num, HF⟩
      case measure => simp [intOf]; omega
    · have hbel : Hid (Below w.heap.size w wr) := by obtain ⟨ta, tc, sure, kept, mark, rs, S, D, l, d, hP⟩ := H4.out; exact hP.bel
      clear H4
      by_cases hjn : (k : Int) < n
      · have hj3 : ¬ (k : Int) < 50 := by omega
        clear hlt
        go_wp2
        go_ret
        exact ⟨rfl, hbel.out⟩
      · clear hlt
        go_wp2
        go_ret
        exact ⟨rfl, hbel.out⟩

end Go.Proofs.Ythmhigjdjclckaa
