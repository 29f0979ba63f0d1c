/-
  The walk of girderref03.Encode, of a page that fits.
-/
import Derived.Test.YtbkdedkifbffhaaRefEncode
import Derived.Test.YtbkdedkifbffhaaPageAwake
import Derived.Deep.RegionWith
namespace Go.Proofs.Ytbkdedkifbffhaa
open Go.RowKit Go.Sort
set_option linter.unusedVariables false

theorem rput_is (n k : Nat) (w : World) (hn : n < 18446744073709551616) (hk : k ≤ 8) :
    Calls Try.prog 39 #[.int .u64 n, .int .i64 k] w fun e w' => e = .returned (.string ⟨(putL n k).toArray⟩) ∧ Below w.heap.size w w' := by
  have := rput_any n k w hn
  rw [show longOf (k : Int) = k from by unfold longOf; omega] at this
  exact this

set_option maxHeartbeats 3200000 in
set_option maxRecDepth 20000 in
theorem refEncode_ok (p : SheetV) (a : Option Addr) (c : Nat) (w : World) (h : p.Ok w a) (k1 : 0 ≤ p.kind) (k2 : p.kind ≤ 255) (k3 : p.head.size ≤ 32) (k4 : p.slots.length ≤ 64) (hf : p.head.size + slotSum p.slots ≤ 485) :
    Calls Try.prog 10 #[p.val a c] w fun e w' => e = .returned (.tuple #[.string ⟨(encL p).toArray⟩, .int .i64 0]) ∧ Below w.heap.size w w' := by
  have hr := roomF_eq h k4
  have hmem := h.mem
  have hnum := h.num
  have hlsn := h.lsn
  have HR : Hid (∀ wx, Below w.heap.size w wx → Calls Try.prog 16 #[p.val a c] wx fun e w' => e = .returned (.int .i64 (485 - (p.head.size : Int) - (slotSum p.slots : Int))) ∧ Below wx.heap.size wx w') := fun wx hb => by
    have := (h.below hb).refRoom c
    rw [hr] at this
    exact this
  have HE : Hid (encL p = putL (crcSum 0 (restL p)) 4 ++ restL p) := rfl
  have HRL : Hid (restL p = bodyL p ++ List.replicate (485 - p.head.size - slotSum p.slots) 0 ++ putL p.lsn 8) := rfl
  have HB : Hid (bodyL p = putL p.lsn 8 ++ putL p.num 4 ++ putL p.kind.toNat 1 ++ putL p.head.size 1 ++ p.head.data.toList ++ putL p.slots.length 1 ++ slotLens p.slots ++ slotBytes p.slots) := rfl
  have hrl := restL_length p hf
  have hbl := bodyL_length p
  have hsl := slot_lengths p.slots
  have hlens := slotLens_length p.slots
  clear h hr
  generalize encL p = E at *
  generalize restL p = R at *
  generalize bodyL p = Bd at *
  obtain ⟨num, lsn, kind, head, L⟩ := p
  unfold SheetV.val at *
  simp only at *
  have hhl : head.data.toList.length = head.size := by simp
  obtain ⟨kn, rfl⟩ := Int.eq_ofNat_of_zero_le k1
  obtain ⟨W, HW⟩ : ∃ W, Hid (W = w.alloc (.cells #[.int .u32 num, .int .u64 lsn, .int .i64 kn, .string head, .slice a L.length c] 35)) := ⟨_, rfl⟩
  have bel : Below w.heap.size w W := by rw [HW.out]; exact (Below.refl _ _).alloc (Nat.le_refl _) _
  have zW : w.heap.size < W.heap.size := by rw [HW.out]; simp
  have r0 : RowV W w.heap.size 5 (five (.int .u32 num) (.int .u64 lsn) (.int .i64 kn) (.string head) (.slice a L.length c)) := by rw [HW.out]; exact RowV.five_new w _ _ _ _ _ _
  have v1 : decide ((kn : Int) < 0) = false := by simp
  have v2 : decide ((255 : Int) < (kn : Int)) = false := by simp; omega
  have v3 : decide ((32 : Int) < (head.size : Int)) = false := by simp; omega
  have v4 : decide ((64 : Int) < (L.length : Int)) = false := by simp; omega
  have v5 : decide (485 - (head.size : Int) - (slotSum L : Int) < 0) = false := by simp; omega
  go_enter Try.func10, Try.ntmps10
  go_wp2_with fail
  rw [← HW.out]
  clear HW
  refine (HR.out _ bel).mono ?_
  rintro e w1 ⟨rfl, b1⟩
  have r1 := r0.below b1 zW
  have bel1 := below_chain bel b1
  have z1 := Nat.lt_of_lt_of_le zW b1.size
  clear r0 bel zW b1
  obtain ⟨x0, x1, x2, x3, x4⟩ := r1.cells5
  go_wp2_with fail
  obtain ⟨A1, HA1⟩ : ∃ A : ByteArray, Hid (A = ⟨(putL lsn 8).toArray⟩) := ⟨_, rfl⟩
  obtain ⟨A2, HA2⟩ : ∃ A : ByteArray, Hid (A = ⟨(putL num 4).toArray⟩) := ⟨_, rfl⟩
  obtain ⟨A3, HA3⟩ : ∃ A : ByteArray, Hid (A = ⟨(putL kn 1).toArray⟩) := ⟨_, rfl⟩
  obtain ⟨A4, HA4⟩ : ∃ A : ByteArray, Hid (A = ⟨(putL head.size 1).toArray⟩) := ⟨_, rfl⟩
  obtain ⟨A5, HA5⟩ : ∃ A : ByteArray, Hid (A = ⟨(putL L.length 1).toArray⟩) := ⟨_, rfl⟩
  have s1 : A1.size = 8 := by rw [HA1.out, bytes_size, putL_length]
  have s2 : A2.size = 4 := by rw [HA2.out, bytes_size, putL_length]
  have s3 : A3.size = 1 := by rw [HA3.out, bytes_size, putL_length]
  have s4 : A4.size = 1 := by rw [HA4.out, bytes_size, putL_length]
  have s5 : A5.size = 1 := by rw [HA5.out, bytes_size, putL_length]
  have gx0 := cell_regrown x0
  have gx1 := cell_regrown x1
  have gx2 := cell_regrown x2
  have gx3 := cell_regrown x3
  have gx4 := cell_regrown x4
  have q1 : ∀ dd os, Calls Try.prog 39 #[.int .u64 lsn, .int .i64 8] (grow (redrawn w1 dd) os) fun e w'' => e = .returned (.string A1) ∧ ∃ p : Regrown, w'' = grow (redrawn w1 p.d) p.os := fun dd os => Calls.regrown_of (by rw [HA1.out]; exact rput_is lsn 8 _ hlsn (by omega))
  have q2 : ∀ dd os, Calls Try.prog 39 #[.int .u64 num, .int .i64 4] (grow (redrawn w1 dd) os) fun e w'' => e = .returned (.string A2) ∧ ∃ p : Regrown, w'' = grow (redrawn w1 p.d) p.os := fun dd os => Calls.regrown_of (by rw [HA2.out]; exact rput_is num 4 _ (by omega) (by omega))
  have q3 : ∀ dd os, Calls Try.prog 39 #[.int .u64 kn, .int .i64 1] (grow (redrawn w1 dd) os) fun e w'' => e = .returned (.string A3) ∧ ∃ p : Regrown, w'' = grow (redrawn w1 p.d) p.os := fun dd os => Calls.regrown_of (by rw [HA3.out]; exact rput_is kn 1 _ (by omega) (by omega))
  have q4 : ∀ dd os, Calls Try.prog 39 #[.int .u64 head.size, .int .i64 1] (grow (redrawn w1 dd) os) fun e w'' => e = .returned (.string A4) ∧ ∃ p : Regrown, w'' = grow (redrawn w1 p.d) p.os := fun dd os => Calls.regrown_of (by rw [HA4.out]; exact rput_is head.size 1 _ (by omega) (by omega))
  have q5 : ∀ dd os, Calls Try.prog 39 #[.int .u64 L.length, .int .i64 1] (grow (redrawn w1 dd) os) fun e w'' => e = .returned (.string A5) ∧ ∃ p : Regrown, w'' = grow (redrawn w1 p.d) p.os := fun dd os => Calls.regrown_of (by rw [HA5.out]; exact rput_is L.length 1 _ (by omega) (by omega))
  have u2 : IntKind.u64.wrap (num : Int) = (num : Int) := by rw [IntKind.wrap_u64]; omega
  have u3 : IntKind.u64.wrap (kn : Int) = (kn : Int) := by rw [IntKind.wrap_u64]; omega
  have u4 : IntKind.u64.wrap (head.size : Int) = (head.size : Int) := by rw [IntKind.wrap_u64]; omega
  have u5 : IntKind.u64.wrap (L.length : Int) = (L.length : Int) := by rw [IntKind.wrap_u64]; omega
  have n1 : ¬ (9223372036854775807 < 8 + 4 + 1 + 1 + head.size) := by omega
  have n2 : ¬ (9223372036854775807 < 8 + 4 + 1 + 1 + head.size + 1) := by omega
  refine wp_region_quiet_below mixed (by kernel_rfl) ?_
  iterate 3 (quiet_step (first | (go_at_call 39; exact q1 _ _)))
  iterate 4 (quiet_step (first | (go_at_call 39; exact q2 _ _)))
  iterate 5 (quiet_step (first | (go_at_call 39; exact q3 _ _)))
  iterate 6 (quiet_step (first | (go_at_call 39; exact q4 _ _)))
  iterate 11 (quiet_step (first | (go_at_call 39; exact q5 _ _)))
  refine wpQuiet_nil ?_
  intro _ hw'
  obtain ⟨⟨dq, osq⟩, hw''⟩ := hw'
  subst hw''
  have bG := below_regrown w1 dq osq
  have r2 := r1.below bG z1
  have bel2 := below_chain bel1 bG
  have z2 := Nat.lt_of_lt_of_le z1 bG.size
  obtain ⟨w2, HW2⟩ : ∃ w2, Hid (w2 = grow (redrawn w1 dq) osq) := ⟨_, rfl⟩
  obtain ⟨T0, HT0⟩ : ∃ T0, Hid (T0 = A1 ++ A2 ++ A3 ++ A4 ++ head ++ A5) := ⟨_, rfl⟩
  have hT0s : T0.size = 15 + head.size := by rw [HT0.out]; simp only [ByteArray.size_append, s1, s2, s3, s4, s5]; omega
  have HT0d : Hid (T0.data.toList = putL lsn 8 ++ putL num 4 ++ putL kn 1 ++ putL head.size 1 ++ head.data.toList ++ putL L.length 1) := by
    show _ = _
    rw [HT0.out]
    simp only [ByteArray.data_append, Array.toList_append, HA1.out, HA2.out, HA3.out, HA4.out, HA5.out]
  rw [← HT0.out]
  simp only
  rw [← HW2.out] at r2 bel2 z2 ⊢
  clear HW2 HT0 HA1 HA2 HA3 HA4 HA5 q1 q2 q3 q4 q5 gx0 gx1 gx2 gx3 gx4 x0 x1 x2 x3 x4 r1 bel1 z1 bG u2 u3 u4 u5 n1 n2 s1 s2 s3 s4 s5
  go_wp2_with fail
  go_loopw [4, 5] (fun t i wr => ∃ (k : Nat) (T : ByteArray), k ≤ L.length ∧ i = .int .i64 k ∧ t = .string T ∧ T.size = 15 + head.size + 2 * k ∧ Hid (T.data.toList = T0.data.toList ++ slotLens (L.take k)) ∧ RowV wr w.heap.size 5 (five (.int .u32 num) (.int .u64 lsn) (.int .i64 kn) (.string head) (.slice a L.length c)) ∧ Below w.heap.size w wr ∧ w.heap.size < wr.heap.size) (fun _ i _ => L.length - (intOf i).toNat)
  case atStart => exact ⟨0, T0, Nat.zero_le _, rfl, rfl, by omega, by show _ = _; simp [slotLens], r2, bel2, z2⟩
  case round =>
    clear r2 bel2 z2
    obtain ⟨k, T, hk, rfl, rfl, hTs, HTd, hr, hbel, hz⟩ := hrel
    obtain ⟨x0, x1, x2, x3, x4⟩ := hr.cells5
    by_cases hlt : k < L.length
    · obtain ⟨bs, o, rfl, hck⟩ := hmem.reach hbel hlt
      have hsn : Hid (slotLens (L.take (k + 1)) = slotLens (L.take k) ++ putL L[k].size 2) := slotLens_snoc L k hlt
      have hsz := slotSum_at L k hlt
      obtain ⟨s, hs⟩ : ∃ s, L[k] = s := ⟨_, rfl⟩
      rw [hs] at hck hsn hsz
      clear hs
      obtain ⟨Q, HQ⟩ : ∃ Q : ByteArray, Hid (Q = ⟨(putL s.size 2).toArray⟩) := ⟨_, rfl⟩
      have hQs : Q.size = 2 := by rw [HQ.out, bytes_size, putL_length]
      have HP : Hid (∀ wx, Calls Try.prog 39 #[.int .u64 s.size, .int .i64 2] wx fun e w' => e = .returned (.string Q) ∧ Below wx.heap.size wx w') := fun wx => by rw [HQ.out]; exact rput_is s.size 2 wx (by omega) (by omega)
      go_wp2_with fail
      refine (HP.out _).mono ?_
      rintro e w3 ⟨rfl, b3⟩
      go_wp2
      go_roundw
      case rel =>
        refine ⟨k + 1, T ++ Q, by omega, by go_num, rfl, by rw [ByteArray.size_append, hTs, hQs]; omega, ?_, hr.below b3 hz, below_chain hbel b3, Nat.lt_of_lt_of_le hz b3.size⟩
        show _ = _
        rw [ByteArray.data_append, Array.toList_append, HTd.out, hsn.out, HQ.out, List.append_assoc]
      case measure => simp [intOf]; omega
    · obtain rfl : k = L.length := by omega
      rw [List.take_length] at HTd
      obtain ⟨T1, HT1e⟩ : ∃ T1, T1 = T := ⟨_, rfl⟩
      subst HT1e
      go_wp2_with fail
      go_loopw [4, 6] (fun t i wr => ∃ (k : Nat) (T : ByteArray), k ≤ L.length ∧ i = .int .i64 k ∧ t = .string T ∧ T.size ≤ 500 ∧ Hid (T.data.toList = T1.data.toList ++ slotBytes (L.take k)) ∧ RowV wr w.heap.size 5 (five (.int .u32 num) (.int .u64 lsn) (.int .i64 kn) (.string head) (.slice a L.length c)) ∧ Below w.heap.size w wr ∧ w.heap.size < wr.heap.size) (fun _ i _ => L.length - (intOf i).toNat)
      case atStart => exact ⟨0, T1, Nat.zero_le _, rfl, rfl, by omega, by show _ = _; simp [slotBytes], hr, hbel, hz⟩
      case round =>
        clear x0 x1 x2 x3 x4 hr hbel hz
        obtain ⟨k, T, hk, rfl, rfl, hTs2, HTd2, hr, hbel, hz⟩ := hrel
        obtain ⟨x0, x1, x2, x3, x4⟩ := hr.cells5
        by_cases hlt : k < L.length
        · obtain ⟨bs, o, rfl, hck⟩ := hmem.reach hbel hlt
          have hsn : Hid (slotBytes (L.take (k + 1)) = slotBytes (L.take k) ++ L[k].data.toList) := slotBytes_snoc L k hlt
          have hsz := slotSum_snoc L k hlt
          have hst := slotSum_take L (k + 1)
          have hslk := slot_lengths (L.take k)
          have hsl2 := slotLens_length (L.take k)
          rw [List.length_take] at hsl2
          have hTs3 : T.size = 15 + head.size + 2 * L.length + (slotBytes (L.take k)).length := by
            have e := congrArg List.length HTd2.out
            have e1 : T.data.toList.length = T.size := by simp
            have e2 : T1.data.toList.length = T1.size := by simp
            rw [List.length_append] at e
            omega
          obtain ⟨s, hs⟩ : ∃ s, L[k] = s := ⟨_, rfl⟩
          rw [hs] at hck hsn hsz
          clear hs
          have hslL := slotBytes_len_snoc L k hlt
          have hkk : (slotBytes (L.take k)).length + s.size ≤ (slotBytes L).length := by
            have e3 := congrArg List.length hsn.out
            have e4 : (slotBytes (L.take (k + 1))).length ≤ (slotBytes L).length := by
              conv => rhs; rw [← List.take_append_drop (k + 1) L, slotBytes_append, List.length_append]
              omega
            have e5 : s.data.toList.length = s.size := by simp
            rw [List.length_append] at e3
            omega
          have hTf : T.size + s.size ≤ 500 := by omega
          go_wp2
          go_roundw
          case rel =>
            refine ⟨k + 1, T ++ s, by omega, by go_num, rfl, by rw [ByteArray.size_append]; omega, ?_, hr, hbel, hz⟩
            show _ = _
            rw [ByteArray.data_append, Array.toList_append, HTd2.out, hsn.out, List.append_assoc]
          case measure => simp [intOf]; omega
        · obtain rfl : k = L.length := by omega
          rw [List.take_length] at HTd2
          have HTB : Hid (T.data.toList = Bd) := by
            show _ = _
            rw [HTd2.out, HTd.out, HT0d.out, HB.out]
            simp
          have hTsz : T.size = 15 + head.size + slotSum L := by
            have e := congrArg List.length HTB.out
            rw [hbl] at e
            simpa using e
          clear HTd2 HTd HT0d HB
          obtain ⟨m, hm⟩ : ∃ m : Nat, m = 485 - head.size - slotSum L := ⟨_, rfl⟩
          rw [← hm] at HRL
          have hTm : T.size + m = 500 := by omega
          have hTm' : (500 : Int) - (T.size : Int) = (m : Int) := by omega
          have hwr : IntKind.i64.wrap (m : Int) = (m : Int) := wrap_small (by omega) (by omega)
          clear hTsz hm hTs2
          obtain ⟨Z, HZ⟩ : ∃ Z : ByteArray, Hid (Z = ⟨(List.replicate m 0).toArray⟩) := ⟨_, rfl⟩
          have hZs : Z.size = m := by rw [HZ.out, bytes_size, List.length_replicate]
          obtain ⟨Q, HQ⟩ : ∃ Q : ByteArray, Hid (Q = ⟨(putL lsn 8).toArray⟩) := ⟨_, rfl⟩
          have hQs : Q.size = 8 := by rw [HQ.out, bytes_size, putL_length]
          have hmk := run_make_row' (P := Try.prog) 67 5 (.int .u8 0) 1 Try.underlying67 info5 rfl .i64 .i64 m (by omega) (by omega)
          have HCV : Hid (∀ wx : World, (convert 67 9 (.slice (some ⟨wx.heap.size, 0, none⟩) m m)).run Try.prog (wx.alloc (.cells (madeCells #[.int .u8 0] m) 5)) = .ok (.string Z) (wx.alloc (.cells (madeCells #[.int .u8 0] m) 5))) := fun wx => by
            rw [HZ.out]
            exact (RowU.made wx m 5).toString (List.replicate m 0) (by simp) (fun j hj => by simp) 67 9 5 Try.underlying67 Try.underlying5 Try.underlying9
          have HCV2 : Hid (∀ wy : World, Below (wr.alloc (.cells (madeCells #[.int .u8 0] m) 5)).drew.heap.size (wr.alloc (.cells (madeCells #[.int .u8 0] m) 5)).drew wy → (convert 67 9 (.slice (some ⟨wr.heap.size, 0, none⟩) m m)).run Try.prog wy = .ok (.string Z) wy) := fun wy hb => by
            rw [HZ.out]
            have hrow : RowU wy wr.heap.size m (fun _ => 0) := fun j hj => by
              have := RowU.made wr.drew m 5 j hj
              exact ⟨(hb.cell (p := ⟨wr.heap.size, j, none⟩) (by simp)).trans this.1, (hb.frozen (p := ⟨wr.heap.size, j, none⟩) (by simp)).trans this.2⟩
            exact hrow.toString (List.replicate m 0) (by simp) (fun j hj => by simp) 67 9 5 Try.underlying67 Try.underlying5 Try.underlying9
          have hcv1 : (convert 67 9 (.slice (some ⟨wr.heap.size, 0, none⟩) m m)).run Try.prog (wr.alloc (.cells (madeCells #[.int .u8 0] m) 5)).drew = .ok (.string Z) (wr.alloc (.cells (madeCells #[.int .u8 0] m) 5)).drew := HCV.out wr.drew
          have HP : Hid (∀ wx, Below w.heap.size w wx → Calls Try.prog 39 #[.int .u64 lsn, .int .i64 8] wx fun e w' => e = .returned (.string Q) ∧ Below wx.heap.size wx w' ∧ Below w.heap.size w w') := fun wx hb => by
            rw [HQ.out]
            exact (rput_is lsn 8 wx hlsn (by omega)).mono fun e w' h => ⟨h.1, h.2, below_chain hb h.2⟩
          have a1 : ¬ (9223372036854775807 < Z.size + Q.size) := by omega
          have a2 : ¬ (9223372036854775807 < T.size + (Z.size + Q.size)) := by omega
          have a3 : ¬ (9223372036854775807 < m + 8) := by omega
          have a4 : ¬ (9223372036854775807 < T.size + (m + 8)) := by omega
          have bel3 : Below w.heap.size w wr.drew := hbel.drew
          have bel4 : Below w.heap.size w (wr.alloc (.cells (madeCells #[.int .u8 0] m) 5)).drew := (hbel.alloc hbel.size _).drew
          obtain ⟨TR, HTR⟩ : ∃ TR : ByteArray, Hid (TR = T ++ (Z ++ Q)) := ⟨_, rfl⟩
          have hTRs : TR.size = 508 := by rw [HTR.out, ByteArray.size_append, ByteArray.size_append, hZs, hQs]; omega
          have HTRd : Hid (TR.data.toList = R) := by
            show _ = _
            rw [HTR.out, ByteArray.data_append, Array.toList_append, ByteArray.data_append, Array.toList_append, HTB.out, HZ.out, HQ.out, HRL.out, List.append_assoc]
          have hcs : crcSum 0 R < 4294967296 := crcSum_lt _ _
          have HMO : Hid (∀ wx, Calls Try.prog 40 #[.int .u32 0, .string TR] wx fun e w' => e = .returned (.int .u32 (crcSum 0 R)) ∧ w' = wx) := fun wx => by
            have := rmore_any 0 TR wx (by omega) (by rw [hTRs]; unfold maxLen; omega)
            rw [HTRd.out] at this
            exact this
          obtain ⟨C4, HC4⟩ : ∃ C4 : ByteArray, Hid (C4 = ⟨(putL (crcSum 0 R) 4).toArray⟩) := ⟨_, rfl⟩
          have hC4s : C4.size = 4 := by rw [HC4.out, bytes_size, putL_length]
          have HPC : Hid (∀ wx, Calls Try.prog 39 #[.int .u64 (crcSum 0 R), .int .i64 4] wx fun e w' => e = .returned (.string C4) ∧ Below wx.heap.size wx w') := fun wx => by rw [HC4.out]; exact rput_is _ 4 wx (by omega) (by omega)
          have HFIN : Hid ((⟨E.toArray⟩ : ByteArray) = C4 ++ TR) := by
            show _ = _
            rw [HE.out, HC4.out, ← bytes_add, ← HTRd.out, bytes_self]
          generalize crcSum 0 R = CC at *
          go_wp2_with fail
          go_region_with (first | (go_at_call 39; refine (HP.out _ (by first | exact bel3 | exact bel4)).mono ?_; rintro e w5 ⟨rfl, b5, b6⟩; (try (have hcv5 := HCV2.out _ b5)); have hcv6 := HCV.out w5))
          all_goals
            rw [← HTR.out]
            clear hcv1 hcv6 HCV HCV2 hmk HTR
            try clear hcv5
            go_wp2_with fail
            refine (HMO.out _).mono ?_
            rintro e w7 ⟨rfl, rfl⟩
            go_wp2_with fail
            refine (HPC.out _).mono ?_
            rintro e w8 ⟨rfl, b8⟩
            go_wp2
            go_ret2
            refine ⟨by rw [HFIN.out]; rfl, ?_⟩
            first | exact below_chain b6 b8 | exact below_chain (b6.alloc b6.size _) b8

end Go.Proofs.Ytbkdedkifbffhaa
