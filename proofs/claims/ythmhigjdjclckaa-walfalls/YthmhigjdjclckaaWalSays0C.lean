/-
  The walk of girderlaw05.says where there is no record.
-/
import Derived.Test.YthmhigjdjclckaaWalSaysC
import Derived.BigQuiet
namespace Go.Proofs.Ythmhigjdjclckaa
open Go.RowKit Go.Sort
set_option linter.unusedVariables false

set_option maxHeartbeats 1200000 in
set_option maxRecDepth 8000 in
theorem says_none (w : World) (p : Nat) (S D : Nat → Prop) (l : LG) (d : DG) (ta : Option Addr) (tc kept : Nat) (k n : Int) (s : ByteArray) (x : Nat) (f1 f2 f3 f4 f5 : Int)
    (h : IsLog w p S l) (hR : RecsAt l []) (hd : IsDisk w l.dp D d) (hdead : d.dead = false) (hfl : l.flushed = 0) (hk : l.kept = kept) :
    Calls Try.prog 9 #[.pointer (some ⟨p, 0, none⟩), .agg #[.slice ta 0 tc, .int .i64 0, .int .i64 kept, .int .u64 0], .agg #[.int .i64 k, .int .i64 n, .string s, .int .u64 x, .int .i64 f1, .int .u64 f2, .int .i64 f3, .int .i64 f4, .int .i64 f5]] w fun e w' => e = .returned (.bool true) ∧ Below w.heap.size w w' := by
  have hlong : l.bytes.length = 0 := by have := hR.long; change l.bytes.length + 1 = 1 at this; omega
  have hlen : l.starts.length = 0 := hR.len
  have hS0 : Sized [] := by have e : placeOf [] ([] : List ByteArray).length = 1 := rfl; unfold Sized; rw [e]; omega
  obtain ⟨M, HM0⟩ : ∃ M : Int, Hid (M = 4194304) := ⟨_, rfl⟩
  have hp0 : placeOf [] ([] : List ByteArray).length = 1 := rfl
  obtain ⟨W, HW⟩ : ∃ W, Hid (W = (w.alloc (.cells #[.slice ta 0 tc, .int .i64 0, .int .i64 kept, .int .u64 0] 34)).alloc (.cells #[.int .i64 k, .int .i64 n, .string s, .int .u64 x, .int .i64 f1, .int .u64 f2, .int .i64 f3, .int .i64 f4, .int .i64 f5] 40)) := ⟨_, rfl⟩
  go_enter Try.func9, Try.ntmps9
  go_wp2_with fail
  rw [← HW.out]
  have hbel : Below w.heap.size w W := by rw [HW.out]; exact ((Below.refl _ _).alloc (Nat.le_refl _) _).alloc (by simp) _
  have HAT : Hid (Calls Try.prog 30 #[.agg #[.slice ta 0 tc, .int .i64 0, .int .i64 kept, .int .u64 0]] W fun e w' => ∃ g c, e = .returned (.slice (some ⟨g, 0, none⟩) 1 c) ∧ Below W.heap.size W w' ∧ w'.cell? ⟨g, 0, none⟩ = some (.int .u64 1)) :=
    (at_any W ta tc [] 0 kept 0 (.inl rfl) hS0 (by simp)).mono fun e w' ⟨g, c, e1, e2, e3⟩ => ⟨g, c, e1, e2, e3 0 (Nat.le_refl _)⟩
  refine HAT.out.mono ?_
  rintro e w1 ⟨g, c, rfl, b1, hc⟩
  have h1 := (h.below hbel).below b1
  have hbm : Blk W w.heap.size #[.slice ta 0 tc, .int .i64 0, .int .i64 kept, .int .u64 0] 34 := by
    rw [HW.out]; exact (Blk.made w _ _).same (Below.heap_alloc _ _ _ (by simp))
  have hba : Blk W (w.heap.size + 1) #[.int .i64 k, .int .i64 n, .string s, .int .u64 x, .int .i64 f1, .int .u64 f2, .int .i64 f3, .int .i64 f4, .int .i64 f5] 40 := by
    rw [HW.out]
    have := Blk.made (w.alloc (.cells #[.slice ta 0 tc, .int .i64 0, .int .i64 kept, .int .u64 0] 34)) #[.int .i64 k, .int .i64 n, .string s, .int .u64 x, .int .i64 f1, .int .u64 f2, .int .i64 f3, .int .i64 f4, .int .i64 f5] 40
    simpa using this
  have hbm1 := hbm.same (b1.block _ hbm.lt)
  have hba1 := hba.same (b1.block _ hba.lt)
  have m0 : w1.cell? ⟨w.heap.size, 0, none⟩ = some (.slice ta 0 tc) := hbm1.cell 0
  have m1 : w1.cell? ⟨w.heap.size, 1, none⟩ = some (.int .i64 0) := hbm1.cell 1
  have m2 : w1.cell? ⟨w.heap.size, 2, none⟩ = some (.int .i64 kept) := hbm1.cell 2
  have m3 : w1.cell? ⟨w.heap.size, 3, none⟩ = some (.int .u64 0) := hbm1.cell 3
  have a3 : w1.cell? ⟨w.heap.size + 1, 3, none⟩ = some (.int .u64 x) := hba1.cell 3
  have HLA := hid (last_none h1 hR)
  have HB1 := hid (below_chain hbel b1)
  have HBL := hid hbel
  have HB01 := hid b1
  have HC := hid hc
  clear hbm hba hbm1 hba1 HW hc b1 hbel HAT
  go_wp2_with fail
  refine HLA.out.mono ?_
  rintro e w2 ⟨rfl, q2, rfl⟩
  go_wp2_with fail
  obtain ⟨V, HV⟩ : ∃ V, Hid (V = w1.drewN q2) := ⟨_, rfl⟩
  rw [← HV.out]
  have hlv : IsLog V p S l := by rw [HV.out]; exact h1.same (fun _ _ => rfl) (Nat.le_refl _)
  have hdv : IsDisk V l.dp D d := by rw [HV.out]; exact IsDisk.same (w := w1) ((hd.below HBL.out).below HB01.out) (fun _ _ => rfl) (Nat.le_refl _)
  have hbv : Below w.heap.size w V := by rw [HV.out]; exact below_drewN HB1.out q2
  have v0 : V.cell? ⟨w.heap.size, 0, none⟩ = some (.slice ta 0 tc) := by rw [HV.out]; exact m0
  have v1 : V.cell? ⟨w.heap.size, 1, none⟩ = some (.int .i64 0) := by rw [HV.out]; exact m1
  have v2 : V.cell? ⟨w.heap.size, 2, none⟩ = some (.int .i64 kept) := by rw [HV.out]; exact m2
  have v3 : V.cell? ⟨w.heap.size, 3, none⟩ = some (.int .u64 0) := by rw [HV.out]; exact m3
  have b3 : V.cell? ⟨w.heap.size + 1, 3, none⟩ = some (.int .u64 x) := by rw [HV.out]; exact a3
  have v4 : V.cell? ⟨g, 0, none⟩ = some (.int .u64 1) := by rw [HV.out]; exact HC.out
  have g0 := cell_regrown v0
  have g1 := cell_regrown v1
  have g2 := cell_regrown v2
  have g3 := cell_regrown v3
  have gn := cell_regrown v4
  have HGV : Hid (∀ dd os, IsLog (grow (redrawn V dd) os) p S l ∧ IsDisk (grow (redrawn V dd) os) l.dp D d) := fun dd os => ⟨hlv.below (below_regrown V dd os), hdv.below (below_regrown V dd os)⟩
  have cE : ∀ dd os, Calls Try.prog 13 #[.pointer (some ⟨p, 0, none⟩)] (grow (redrawn V dd) os) fun e w'' => e = .returned (.int .u64 1) ∧ ∃ p : Regrown, w'' = grow (redrawn V p.d) p.os := fun dd os => Calls.regrown_of ((end_out (HGV.out dd os).1 (by omega)).mono fun e w' ⟨a, b⟩ => ⟨by rw [a, hlong]; rfl, by rw [b]; exact Below.refl _ _⟩)
  have cF : ∀ dd os, Calls Try.prog 19 #[.pointer (some ⟨p, 0, none⟩)] (grow (redrawn V dd) os) fun e w'' => e = .returned (.int .u64 1) ∧ ∃ p : Regrown, w'' = grow (redrawn V p.d) p.os := fun dd os => Calls.regrown_of ((flushed_out (HGV.out dd os).1 (by omega)).mono fun e w' ⟨a, b⟩ => ⟨by rw [a, hfl]; rfl, by rw [b]; exact Below.refl _ _⟩)
  have cL : ∀ dd os, Calls Try.prog 17 #[.pointer (some ⟨p, 0, none⟩)] (grow (redrawn V dd) os) fun e w'' => e = .returned (.int .i64 0) ∧ ∃ p : Regrown, w'' = grow (redrawn V p.d) p.os := fun dd os => Calls.regrown_of ((len_out (HGV.out dd os).1).mono fun e w' ⟨a, b⟩ => ⟨by rw [a, hlen]; rfl, by rw [b]; exact Below.refl _ _⟩)
  have cR : ∀ dd os, Calls Try.prog 34 #[.pointer (some ⟨p, 0, none⟩)] (grow (redrawn V dd) os) fun e w'' => e = .returned (.int .i64 M) ∧ ∃ p : Regrown, w'' = grow (redrawn V p.d) p.os := fun dd os => Calls.regrown_of ((room_out (HGV.out dd os).1 (by omega)).mono fun e w' ⟨a, b⟩ => ⟨by rw [a]; exact ret_int (by rw [hlong, HM0.out]; omega), by rw [b]; exact Below.refl _ _⟩)
  have cMR : ∀ dd os, Calls Try.prog 28 #[.agg #[.slice ta 0 tc, .int .i64 0, .int .i64 kept, .int .u64 0]] (grow (redrawn V dd) os) fun e w'' => e = .returned (.int .i64 M) ∧ ∃ p : Regrown, w'' = grow (redrawn V p.d) p.os := fun dd os => Calls.regrown_of ((mroom_any _ ta tc [] 0 kept 0 (.inl rfl) hS0 (by simp)).mono fun e w' ⟨a, b⟩ => ⟨by rw [a]; exact ret_int (by rw [hp0, HM0.out]; omega), b⟩)
  have cK : ∀ dd os, Calls Try.prog 35 #[.pointer (some ⟨p, 0, none⟩)] (grow (redrawn V dd) os) fun e w'' => e = .returned (.int .i64 kept) ∧ ∃ p : Regrown, w'' = grow (redrawn V p.d) p.os := fun dd os => Calls.regrown_of ((kept_out (HGV.out dd os).1).mono fun e w' ⟨a, b⟩ => ⟨by rw [a, hk], by rw [b]; exact Below.refl _ _⟩)
  have cMA : ∀ dd os, Calls Try.prog 36 #[.pointer (some ⟨p, 0, none⟩)] (grow (redrawn V dd) os) fun e w'' => e = .returned (.int .u64 0) ∧ ∃ p : Regrown, w'' = grow (redrawn V p.d) p.os := fun dd os => Calls.regrown_of ((master_out (HGV.out dd os).1 (HGV.out dd os).2 hdead hR.rising (by omega) 0 (.inr ⟨rfl, fun j hj => by omega⟩)).mono fun e w' ⟨a, ⟨qq, b⟩⟩ => ⟨a, by rw [b]; exact below_drewN (Below.refl _ _) qq⟩)
  refine wp_region_quiet_below wmixed (by kernel_rfl) ?_
  repeat (first | go_big_quiet_step (first | (go_at_call 13; exact cE _ _) | (go_at_call 19; exact cF _ _) | (go_at_call 17; exact cL _ _) | (go_at_call 34; exact cR _ _) | (go_at_call 28; exact cMR _ _) | (go_at_call 35; exact cK _ _) | (go_at_call 36; exact cMA _ _)) | quiet_step (first | (go_at_call 13; exact cE _ _) | (go_at_call 19; exact cF _ _) | (go_at_call 17; exact cL _ _) | (go_at_call 34; exact cR _ _) | (go_at_call 28; exact cMR _ _) | (go_at_call 35; exact cK _ _) | (go_at_call 36; exact cMA _ _)))
  refine wpQuiet_nil ?_
  intro _ hw'
  obtain ⟨⟨dq, osq⟩, hw''⟩ := hw'
  subst hw''
  have hbx := below_regrown V dq osq
  obtain ⟨X, HX⟩ : ∃ X, Hid (X = grow (redrawn V dq) osq) := ⟨_, rfl⟩
  rw [← HX.out] at hbx ⊢
  have HLX := hid (hlv.below hbx)
  have HBX := hid (below_chain hbv hbx)
  have x0 : X.cell? ⟨w.heap.size, 0, none⟩ = some (.slice ta 0 tc) := by rw [HX.out]; exact g0 _ _
  have x3 : X.cell? ⟨w.heap.size + 1, 3, none⟩ = some (.int .u64 x) := by rw [HX.out]; exact cell_regrown b3 _ _
  have y1 : X.cell? ⟨w.heap.size, 1, none⟩ = some (.int .i64 0) := by rw [HX.out]; exact g1 _ _
  have y2 : X.cell? ⟨w.heap.size, 2, none⟩ = some (.int .i64 kept) := by rw [HX.out]; exact g2 _ _
  have y3 : X.cell? ⟨w.heap.size, 3, none⟩ = some (.int .u64 0) := by rw [HX.out]; exact g3 _ _
  clear HX hbx g0 g1 g2 g3 gn cE cF cL cR cMR cK cMA v0 v1 v2 v3 v4 b3 hlv hdv hbv HGV m0 m1 m2 m3 a3
  go_wp2_with fail
  go_loopw [11] (fun y wr => y = .int .i64 0 ∧ wr = X) (fun y _ => 0)
  case atStart => exact ⟨rfl, rfl⟩
  case round =>
    obtain ⟨rfl, rfl⟩ := hrel
    have HG := hid (get_nowhere HLX.out hR (by simp) x fun i hi e => absurd hi (Nat.not_lt_zero _))
    go_wp2_with fail
    refine HG.out.mono ?_
    rintro e w6 ⟨rfl, q6, rfl⟩
    have HB1' := hid (back_first (w := wr.drewN q6) (HLX.out.same (fun _ _ => rfl) (Nat.le_refl _)) hR (by simp))
    go_wp2_with fail
    refine HB1'.out.mono ?_
    rintro e w7 ⟨rfl, q7, rfl⟩
    have HMF : Hid (Calls Try.prog 32 #[.agg #[.slice ta 0 tc, .int .i64 0, .int .i64 kept, .int .u64 0], .int .u64 x] (wr.drewN (q6 + q7)) fun e w' => e = .returned (.int .i64 (-1)) ∧ Below (wr.drewN (q6 + q7)).heap.size (wr.drewN (q6 + q7)) w') :=
      (mfind_any (wr.drewN (q6 + q7)) ta tc [] 0 kept 0 x (.inl rfl) hS0 (by simp)).mono fun e w' ⟨⟨v, e1, hv⟩, b⟩ => ⟨by
        rcases hv with ⟨rfl, _⟩ | ⟨i, _, hi, _⟩
        · exact e1
        · exact absurd hi (Nat.not_lt_zero _), b⟩
    go_wp2_with fail
    refine HMF.out.mono ?_
    rintro e w8 ⟨rfl, b8⟩
    have HBZ := hid (below_chain (below_drewN HBX.out (q6 + q7)) b8)
    clear b8
    go_wp2
    go_ret
    exact ⟨rfl, HBZ.out⟩

end Go.Proofs.Ythmhigjdjclckaa
