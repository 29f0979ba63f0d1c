/-
  The walk of girderlaw05.says.
-/
import Derived.Test.YthmhigjdjclckaaWalTornOpenC
import Derived.Test.YthmhigjdjclckaaWalModel3C
import Derived.Lib.QuietBelow
namespace Go.Proofs.Ythmhigjdjclckaa
open Go.RowKit Go.Sort
set_option linter.unusedVariables false

theorem wmixed : Try.prog.follows .mixedOrders = true := by kernel_rfl

theorem get_nowhere {w : World} {p : Nat} {S : Nat → Prop} {l : LG} {rs : List ByteArray} (h : IsLog w p S l) (hR : RecsAt l rs) (hn : rs.length ≤ 10000000) (x : Nat) (hx : ∀ i, i < rs.length → placeOf rs i ≠ x) :
    Calls Try.prog 18 #[.pointer (some ⟨p, 0, none⟩), .int .u64 x] w fun e w' => e = .returned (.tuple #[.string ⟨#[]⟩, .int .u64 0, .bool false]) ∧ ∃ q, w' = w.drewN q := by
  have hl := hR.len
  have HH : Hid (∀ i b, Found l.starts x i b → b = false) := fun i b hf => by
    rw [hf.2.2.2]
    exact decide_eq_false fun k => hx i (by omega) (by rw [← hR.at (by omega)]; exact k.2)
  have HF := hid (find_out h hR.rising (by omega) x)
  clear hx
  go_enter Try.func18, Try.ntmps18
  go_wp2_with fail
  refine HF.out.mono ?_
  rintro e w1 ⟨⟨i', b, rfl, hf⟩, q, rfl⟩
  obtain rfl := HH.out i' b hf
  clear hf
  go_wp2
  go_ret3
  exact ⟨rfl, q, rfl⟩

set_option maxHeartbeats 3200000 in
set_option maxRecDepth 8000 in
theorem says_more (w : World) (p : Nat) (S D : Nat → Prop) (l : LG) (d : DG) (rs : List ByteArray) (ta : Option Addr) (tc sure kept mark : Nat) (k n : Int) (s : ByteArray) (x : Nat) (f1 f2 f3 f4 f5 : Int)
    (h : IsLog w p S l) (hR : RecsAt l rs) (hd : IsDisk w l.dp D d) (hdead : d.dead = false) (hT : TextsAt w ta rs) (hs : Sized rs) (hn : rs.length ≤ 400000) (hb : l.bytes.length ≤ 4194304)
    (hfl : l.flushed + 1 = placeOf rs sure) (hsu : sure ≤ rs.length) (hk : l.kept = kept) (hm : (mark = d.mark ∧ ∃ j, j < l.starts.length ∧ l.starts.getD j 0 = d.mark) ∨ (mark = 0 ∧ ∀ j, j < l.starts.length → l.starts.getD j 0 ≠ d.mark)) (j : Nat) (hj : j + 1 = rs.length) :
    Calls Try.prog 9 #[.pointer (some ⟨p, 0, none⟩), .agg #[.slice ta rs.length tc, .int .i64 sure, .int .i64 kept, .int .u64 mark], .agg #[.int .i64 k, .int .i64 n, .string s, .int .u64 x, .int .i64 f1, .int .u64 f2, .int .i64 f3, .int .i64 f4, .int .i64 f5]] w fun e w' => e = .returned (.bool true) ∧ Below w.heap.size w w' := by
  obtain ⟨W, HW⟩ : ∃ W, Hid (W = (w.alloc (.cells #[.slice ta rs.length tc, .int .i64 sure, .int .i64 kept, .int .u64 mark] 34)).alloc (.cells #[.int .i64 k, .int .i64 n, .string s, .int .u64 x, .int .i64 f1, .int .u64 f2, .int .i64 f3, .int .i64 f4, .int .i64 f5] 40)) := ⟨_, rfl⟩
  go_enter Try.func9, Try.ntmps9
  go_wp2_with fail
  rw [← HW.out]
  have hbel : Below w.heap.size w W := by rw [HW.out]; exact ((Below.refl _ _).alloc (Nat.le_refl _) _).alloc (by simp) _
  refine (at_any W ta tc rs sure kept mark (hT.below hbel) hs (by omega)).mono ?_
  rintro e w1 ⟨g, c, rfl, b1, hc⟩
  have hT1 := (hT.below hbel).below b1
  have h1 := (h.below hbel).below b1
  have hbm : Blk W w.heap.size #[.slice ta rs.length tc, .int .i64 sure, .int .i64 kept, .int .u64 mark] 34 := by
    rw [HW.out]; exact (Blk.made w _ _).same (Below.heap_alloc _ _ _ (by simp))
  have hba : Blk W (w.heap.size + 1) #[.int .i64 k, .int .i64 n, .string s, .int .u64 x, .int .i64 f1, .int .u64 f2, .int .i64 f3, .int .i64 f4, .int .i64 f5] 40 := by
    rw [HW.out]
    have := Blk.made (w.alloc (.cells #[.slice ta rs.length tc, .int .i64 sure, .int .i64 kept, .int .u64 mark] 34)) #[.int .i64 k, .int .i64 n, .string s, .int .u64 x, .int .i64 f1, .int .u64 f2, .int .i64 f3, .int .i64 f4, .int .i64 f5] 40
    simpa using this
  have hbm1 := hbm.same (b1.block _ hbm.lt)
  have hba1 := hba.same (b1.block _ hba.lt)
  have m0 : w1.cell? ⟨w.heap.size, 0, none⟩ = some (.slice ta rs.length tc) := hbm1.cell 0
  have m1 : w1.cell? ⟨w.heap.size, 1, none⟩ = some (.int .i64 sure) := hbm1.cell 1
  have m2 : w1.cell? ⟨w.heap.size, 2, none⟩ = some (.int .i64 kept) := hbm1.cell 2
  have m3 : w1.cell? ⟨w.heap.size, 3, none⟩ = some (.int .u64 mark) := hbm1.cell 3
  have a3 : w1.cell? ⟨w.heap.size + 1, 3, none⟩ = some (.int .u64 x) := hba1.cell 3
  have HLA := hid (last_recs h1 hR (by omega) hb j hj)
  have HB1 := hid (below_chain hbel b1)
  have HBL := hid hbel
  have HB01 := hid b1
  have HC := hid hc
  clear hbm hba hbm1 hba1 HW hc b1 hbel
  go_wp2_with fail
  refine HLA.out.mono ?_
  rintro e w2 ⟨rfl, q2, rfl⟩
  go_wp2_with fail
  obtain ⟨V, HV⟩ : ∃ V, Hid (V = w1.drewN q2) := ⟨_, rfl⟩
  rw [← HV.out]
  have hlv : IsLog V p S l := by rw [HV.out]; exact h1.same (fun _ _ => rfl) (Nat.le_refl _)
  have hdv : IsDisk V l.dp D d := by rw [HV.out]; exact IsDisk.same (w := w1) ((hd.below HBL.out).below HB01.out) (fun _ _ => rfl) (Nat.le_refl _)
  have hTv : TextsAt V ta rs := by rw [HV.out]; exact hT1.below (below_drewN (Below.refl _ _) q2)
  have hbv : Below w.heap.size w V := by rw [HV.out]; exact below_drewN HB1.out q2
  have v0 : V.cell? ⟨w.heap.size, 0, none⟩ = some (.slice ta rs.length tc) := by rw [HV.out]; exact m0
  have v1 : V.cell? ⟨w.heap.size, 1, none⟩ = some (.int .i64 sure) := by rw [HV.out]; exact m1
  have v2 : V.cell? ⟨w.heap.size, 2, none⟩ = some (.int .i64 kept) := by rw [HV.out]; exact m2
  have v3 : V.cell? ⟨w.heap.size, 3, none⟩ = some (.int .u64 mark) := by rw [HV.out]; exact m3
  have b3 : V.cell? ⟨w.heap.size + 1, 3, none⟩ = some (.int .u64 x) := by rw [HV.out]; exact a3
  have HCV : Hid (∀ i, i ≤ rs.length → V.cell? ⟨g, i, none⟩ = some (.int .u64 (placeOf rs i : Nat))) := by show ∀ i, _; rw [HV.out]; exact HC.out
  have g0 := cell_regrown v0
  have g1 := cell_regrown v1
  have g2 := cell_regrown v2
  have g3 := cell_regrown v3
  have gn := cell_regrown (HCV.out rs.length (Nat.le_refl _))
  have gs := cell_regrown (HCV.out sure hsu)
  have gj := cell_regrown (HCV.out j (by omega))
  have HGV : Hid (∀ dd os, IsLog (grow (redrawn V dd) os) p S l ∧ IsDisk (grow (redrawn V dd) os) l.dp D d ∧ TextsAt (grow (redrawn V dd) os) ta rs) := fun dd os => ⟨hlv.below (below_regrown V dd os), hdv.below (below_regrown V dd os), hTv.below (below_regrown V dd os)⟩
  have hlen := hR.len
  have hlong := hR.long
  have cE : ∀ dd os, Calls Try.prog 13 #[.pointer (some ⟨p, 0, none⟩)] (grow (redrawn V dd) os) fun e w'' => e = .returned (.int .u64 (placeOf rs rs.length : Nat)) ∧ ∃ p : Regrown, w'' = grow (redrawn V p.d) p.os := fun dd os => Calls.regrown_of ((end_out (HGV.out dd os).1 hb).mono fun e w' ⟨a, b⟩ => ⟨by rw [a, hlong], by rw [b]; exact Below.refl _ _⟩)
  have cF : ∀ dd os, Calls Try.prog 19 #[.pointer (some ⟨p, 0, none⟩)] (grow (redrawn V dd) os) fun e w'' => e = .returned (.int .u64 (placeOf rs sure : Nat)) ∧ ∃ p : Regrown, w'' = grow (redrawn V p.d) p.os := fun dd os => Calls.regrown_of ((flushed_out (HGV.out dd os).1 (by have := placeOf_le rs hs sure hsu; omega)).mono fun e w' ⟨a, b⟩ => ⟨by rw [a, hfl], by rw [b]; exact Below.refl _ _⟩)
  have cL : ∀ dd os, Calls Try.prog 17 #[.pointer (some ⟨p, 0, none⟩)] (grow (redrawn V dd) os) fun e w'' => e = .returned (.int .i64 rs.length) ∧ ∃ p : Regrown, w'' = grow (redrawn V p.d) p.os := fun dd os => Calls.regrown_of ((len_out (HGV.out dd os).1).mono fun e w' ⟨a, b⟩ => ⟨by rw [a, hlen], by rw [b]; exact Below.refl _ _⟩)
  have cR : ∀ dd os, Calls Try.prog 34 #[.pointer (some ⟨p, 0, none⟩)] (grow (redrawn V dd) os) fun e w'' => e = .returned (.int .i64 ((4194305 : Int) - (placeOf rs rs.length : Nat))) ∧ ∃ p : Regrown, w'' = grow (redrawn V p.d) p.os := fun dd os => Calls.regrown_of ((room_out (HGV.out dd os).1 hb).mono fun e w' ⟨a, b⟩ => ⟨by rw [a]; congr 2; omega, by rw [b]; exact Below.refl _ _⟩)
  have cMR : ∀ dd os, Calls Try.prog 28 #[.agg #[.slice ta rs.length tc, .int .i64 sure, .int .i64 kept, .int .u64 mark]] (grow (redrawn V dd) os) fun e w'' => e = .returned (.int .i64 ((4194305 : Int) - (placeOf rs rs.length : Nat))) ∧ ∃ p : Regrown, w'' = grow (redrawn V p.d) p.os := fun dd os => Calls.regrown_of (mroom_any _ ta tc rs sure kept mark (HGV.out dd os).2.2 hs hn)
  have cK : ∀ dd os, Calls Try.prog 35 #[.pointer (some ⟨p, 0, none⟩)] (grow (redrawn V dd) os) fun e w'' => e = .returned (.int .i64 kept) ∧ ∃ p : Regrown, w'' = grow (redrawn V p.d) p.os := fun dd os => Calls.regrown_of ((kept_out (HGV.out dd os).1).mono fun e w' ⟨a, b⟩ => ⟨by rw [a, hk], by rw [b]; exact Below.refl _ _⟩)
  have cMA : ∀ dd os, Calls Try.prog 36 #[.pointer (some ⟨p, 0, none⟩)] (grow (redrawn V dd) os) fun e w'' => e = .returned (.int .u64 (mark : Nat)) ∧ ∃ p : Regrown, w'' = grow (redrawn V p.d) p.os := fun dd os => Calls.regrown_of ((master_out (HGV.out dd os).1 (HGV.out dd os).2.1 hdead hR.rising (by omega) mark hm).mono fun e w' ⟨a, ⟨qq, b⟩⟩ => ⟨a, by rw [b]; exact below_drewN (Below.refl _ _) qq⟩)
  have pl1 := placeOf_le rs hs rs.length (Nat.le_refl _)
  have pl2 := placeOf_le rs hs sure hsu
  have pl3 := placeOf_le rs hs j (by omega)
  have j1 : (rs.length : Int) - 1 = (j : Int) := by omega
  have i1 : (rs.length : Int) < (rs.length : Int) + 1 := by omega
  have i2 : (sure : Int) < (rs.length : Int) + 1 := by omega
  have i3 : (j : Int) < (rs.length : Int) + 1 := by omega
  have d0 : decide ((0 : Int) < (rs.length : Int)) = true := by simp; omega
  have z0 : 0 < rs.length := by omega
  have z1 : decide (0 < rs.length) = true := decide_eq_true z0
  have z3 : rs ≠ [] := List.ne_nil_of_length_pos z0
  have z4 : decide (rs = []) = false := decide_eq_false z3
  have z5 : (true != decide ((0 : Int) < (rs.length : Int))) = false := by rw [d0]; rfl
  have z6 : IntKind.i64.wrap ((rs.length : Int) - 1) = (j : Int) := by rw [IntKind.wrap_i64]; omega
  have z7 : (0 : Int) ≤ (j : Int) := by omega
  have z8 : IntKind.i64.wrap (j : Int) = (j : Int) := by rw [IntKind.wrap_i64]; omega
  refine wp_region_quiet_below wmixed (by kernel_rfl) ?_
  repeat (quiet_step (first | (go_at_call 13; exact cE _ _) | (go_at_call 19; exact cF _ _) | (go_at_call 17; exact cL _ _) | (go_at_call 34; exact cR _ _) | (go_at_call 28; exact cMR _ _) | (go_at_call 35; exact cK _ _) | (go_at_call 36; exact cMA _ _)))
  refine wpQuiet_nil ?_
  intro _ hw'
  obtain ⟨⟨dq, osq⟩, hw''⟩ := hw'
  subst hw''
  have hbx := below_regrown V dq osq
  obtain ⟨X, HX⟩ : ∃ X, Hid (X = grow (redrawn V dq) osq) := ⟨_, rfl⟩
  rw [← HX.out] at hbx ⊢
  have HLX := hid (hlv.below hbx)
  have HTX := hid (hTv.below hbx)
  have HBX := hid (below_chain hbv hbx)
  have x0 : X.cell? ⟨w.heap.size, 0, none⟩ = some (.slice ta rs.length tc) := by rw [HX.out]; exact g0 _ _
  have x3 : X.cell? ⟨w.heap.size + 1, 3, none⟩ = some (.int .u64 x) := by rw [HX.out]; exact cell_regrown b3 _ _
  have HCX : Hid (∀ i, i ≤ rs.length → X.cell? ⟨g, i, none⟩ = some (.int .u64 (placeOf rs i : Nat))) := by show ∀ i, _; rw [HX.out]; exact fun i hi => cell_regrown (HCV.out i hi) _ _
  have y1 : X.cell? ⟨w.heap.size, 1, none⟩ = some (.int .i64 sure) := by rw [HX.out]; exact g1 _ _
  have y2 : X.cell? ⟨w.heap.size, 2, none⟩ = some (.int .i64 kept) := by rw [HX.out]; exact g2 _ _
  have y3 : X.cell? ⟨w.heap.size, 3, none⟩ = some (.int .u64 mark) := by rw [HX.out]; exact g3 _ _
  clear HX hbx g0 g1 g2 g3 gn gs gj cE cF cL cR cMR cK cMA v0 v1 v2 v3 b3 hlv hdv hTv hbv HCV HGV m0 m1 m2 m3 a3
  go_wp2_with fail
  have hgX : g < X.heap.size := World.block_lt_of_cell? _ _ (HCX.out 0 (Nat.zero_le _))
  have hmX : w.heap.size < X.heap.size := World.block_lt_of_cell? _ _ x0
  go_loopw [11] (fun y wr => ∃ m : Nat, m ≤ rs.length ∧ y = .int .i64 m ∧ Hid (Below X.heap.size X wr)) (fun y _ => rs.length - (intOf y).toNat)
  case atStart => exact ⟨0, Nat.zero_le _, rfl, Below.refl _ _⟩
  case round =>
    obtain ⟨m, hm', rfl, HBR⟩ := hrel
    have r0 : wr.cell? ⟨w.heap.size, 0, none⟩ = some (.slice ta rs.length tc) := (World.cell?_of_block (w := X) (a := ⟨w.heap.size, 0, none⟩) (HBR.out.block _ hmX)).trans x0
    have HCR : Hid (∀ i, i ≤ rs.length → wr.cell? ⟨g, i, none⟩ = some (.int .u64 (placeOf rs i : Nat))) := fun i hi => (World.cell?_of_block (w := X) (a := ⟨g, i, none⟩) (HBR.out.block _ hgX)).trans (HCX.out i hi)
    by_cases hlt : m < rs.length
    · have q0 := HCR.out m hm'
      have q1 := HCR.out (m + 1) (by omega)
      obtain ⟨tg, tf, rfl, ct⟩ : ∃ tg tf, ta = some ⟨tg, tf, none⟩ ∧ wr.cell? ⟨tg, tf + m, none⟩ = some (.string (rs.getD m ⟨#[]⟩)) := by
        rcases HTX.out.below HBR.out with h0 | ⟨tg, tf, e, _, hc0⟩
        · rw [h0] at hlt; simp at hlt
        · exact ⟨tg, tf, e, hc0 m hlt⟩
      have HGT := hid (get_recs (HLX.out.below HBR.out) hR (by omega) hb m hlt)
      have e1 : decide ((m : Int) < (rs.length : Int)) = true := by simp; omega
      have e2 : (m : Int) < (rs.length : Int) + 1 := by omega
      have e3 : (m : Int) + 1 < (rs.length : Int) + 1 := by omega
      have e4 : (m : Int) < (rs.length : Int) := by omega
      generalize rs.getD m ⟨#[]⟩ = R at *
      go_wp2_with fail
      refine HGT.out.mono ?_
      rintro e w6 ⟨rfl, q6, rfl⟩
      have HBK := hid (back_recs (w := wr.drewN q6) ((HLX.out.below HBR.out).same (fun _ _ => rfl) (Nat.le_refl _)) hR (by omega) hb m hlt)
      go_wp2_with fail
      refine HBK.out.mono ?_
      rintro e w7 ⟨rfl, q7, rfl⟩
      go_wp2_with fail
      exact ⟨⟨m + 1, by omega, by simp, below_drewN HBR.out _⟩, by simp [intOf]; omega⟩
    · obtain rfl : m = rs.length := by omega
      have r3 : wr.cell? ⟨w.heap.size + 1, 3, none⟩ = some (.int .u64 x) := (World.cell?_of_block (w := X) (a := ⟨w.heap.size + 1, 3, none⟩) (HBR.out.block _ (World.block_lt_of_cell? _ _ x3))).trans x3
      have r1 : wr.cell? ⟨w.heap.size, 1, none⟩ = some (.int .i64 sure) := (World.cell?_of_block (w := X) (a := ⟨w.heap.size, 1, none⟩) (HBR.out.block _ hmX)).trans y1
      have r2 : wr.cell? ⟨w.heap.size, 2, none⟩ = some (.int .i64 kept) := (World.cell?_of_block (w := X) (a := ⟨w.heap.size, 2, none⟩) (HBR.out.block _ hmX)).trans y2
      have rm : wr.cell? ⟨w.heap.size, 3, none⟩ = some (.int .u64 mark) := (World.cell?_of_block (w := X) (a := ⟨w.heap.size, 3, none⟩) (HBR.out.block _ hmX)).trans y3
      have HLR := hid (HLX.out.below HBR.out)
      by_cases hx : ∃ i, i < rs.length ∧ placeOf rs i = x
      · obtain ⟨i, hi, rfl⟩ := hx
        have HG := hid (get_recs HLR.out hR (by omega) hb i hi)
        go_wp2_with fail
        refine HG.out.mono ?_
        rintro e w6 ⟨rfl, q6, rfl⟩
        have HB1' := hid (back_first (w := wr.drewN q6) (HLR.out.same (fun _ _ => rfl) (Nat.le_refl _)) hR (by omega))
        go_wp2_with fail
        refine HB1'.out.mono ?_
        rintro e w7 ⟨rfl, q7, rfl⟩
        go_wp2_with fail
        refine (mfind_any (wr.drewN (q6 + q7)) ta tc rs sure kept mark (placeOf rs i) (HTX.out.below (below_drewN HBR.out _)) hs hn).mono ?_
        rintro e w8 ⟨⟨v, rfl, hv⟩, b8⟩
        have hv0 : decide ((0 : Int) ≤ v) = true := by
          rcases hv with ⟨_, h0⟩ | ⟨i', rfl, _⟩
          · exact absurd rfl (h0 i hi)
          · exact decide_eq_true (by omega)
        have HBZ := hid (below_chain (below_chain HBX.out (below_drewN HBR.out (q6 + q7))) b8)
        clear hv b8
        go_wp2
        go_ret
        exact ⟨rfl, HBZ.out⟩
      · have HG := hid (get_nowhere HLR.out hR (by omega) x fun i hi e => hx ⟨i, hi, e⟩)
        go_wp2_with fail
        refine HG.out.mono ?_
        rintro e w6 ⟨rfl, q6, rfl⟩
        have HB1' := hid (back_first (w := wr.drewN q6) (HLR.out.same (fun _ _ => rfl) (Nat.le_refl _)) hR (by omega))
        go_wp2_with fail
        refine HB1'.out.mono ?_
        rintro e w7 ⟨rfl, q7, rfl⟩
        go_wp2_with fail
        refine (mfind_any (wr.drewN (q6 + q7)) ta tc rs sure kept mark (x) (HTX.out.below (below_drewN HBR.out _)) hs hn).mono ?_
        rintro e w8 ⟨⟨v, rfl, hv⟩, b8⟩
        have hv0 : decide ((0 : Int) ≤ v) = false := by
          rcases hv with ⟨rfl, _⟩ | ⟨i', rfl, h1', h2'⟩
          · rfl
          · exact absurd ⟨i', h1', h2'⟩ hx
        have HBZ := hid (below_chain (below_chain HBX.out (below_drewN HBR.out (q6 + q7))) b8)
        clear hv b8
        go_wp2
        go_ret
        exact ⟨rfl, HBZ.out⟩

end Go.Proofs.Ythmhigjdjclckaa
