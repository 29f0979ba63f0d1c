/-
  The walk of girderlaw05.WalTorn: up to the second loop.
-/
import Derived.Test.YtompofhdpkdbeaaTornIn
import Derived.Test.YtompofhdpkdbeaaStrs
import Derived.Deep.CutRange
import Derived.Deep.CutBlock
import Derived.Deep.RegionHeld3
import Derived.Deep.RegionLaw
import Derived.BigQuiet
namespace Go.Proofs.Ytompofhdpkdbeaa
open Go.RowKit Go.Sort
set_option linter.unusedVariables false

set_option maxHeartbeats 6400000 in
set_option maxRecDepth 8000 in
theorem walTorn_any (w : World) (a : Option Addr) (len cap : Nat) (A : Nat → ByteArray) (hA : IsStrs w a len A) (s : ByteArray) (hs : s.size ≤ maxLen) :
    Calls Try.prog 4 #[.slice a len cap, .string s] w fun e w' => e = .returned (.bool true) ∧ Below w.heap.size w w' := by
  have HA := hid hA
  clear hA
  unfold maxLen at hs
  go_enter Try.func4, Try.ntmps4
  go_upto_if 25 with fail
  go_cut [1] from 23 to 27 (fun rv wx => ∃ r : ByteArray, rv = .string r ∧ r.size ≤ 100000 ∧ wx = w)
  case first =>
    by_cases h : 100000 < s.size
    · have t1 : decide ((100000 : Int) < (s.size : Int)) = true := by simp; omega
      have i1 : (100000 : Int) ≤ (s.size : Int) := by omega
      go_wp2_with fail
      go_meet
      case rel => exact ⟨s.extract 0 100000, rfl, by rw [ByteArray.size_extract]; omega, rfl⟩
    · have t1 : decide ((100000 : Int) < (s.size : Int)) = false := by simp; omega
      go_wp2_with fail
      go_meet
      case rel => exact ⟨s, rfl, by omega, rfl⟩
  case rest =>
    obtain ⟨r, rfl, hr, hw⟩ := hcut
    obtain rfl := hw.symm
    clear hs
    go_wp2_with fail
    refine (wnew_out w 8 (by omega) (by omega)).mono ?_
    rintro e w1 ⟨p, rfl, ⟨D1, hd1, hn1⟩, b1⟩
    have HD1 : Hid (IsDisk w1 p D1 (newD 8) ∧ (∀ k, D1 k → w.heap.size ≤ k) ∧ Below w.heap.size w w1) := ⟨hd1, hn1, b1⟩
    clear hd1 hn1 b1
    go_upto_block 0 with fail
    have HT0 : Hid (TornIn w (w1.alloc (.cells #[.slice none 0 0, .int .i64 0, .int .i64 0, .int .u64 0] 34)) p w1.heap.size none 0 0 [] D1 (newD 8)) := by
      obtain ⟨h1, h2, h3⟩ := HD1.out
      exact ⟨h1.below ((Below.refl _ _).alloc (Nat.le_refl _) _), h2, h3.alloc h3.size _, Blk.made _ _ _, h3.size, fun x => by have := h1.lt x; omega, .inl rfl, fun x e => (by cases e), fun x hx => (by cases hx)⟩
    have hzw : w.heap.size ≤ w1.heap.size := HD1.out.2.2.size
    clear HD1
    generalize w1.heap.size = mb at *
    go_cut [8, 9, 10, 11, 12] from 33 to 63 (fun av _ _ _ _ wx => ∃ (rs : List ByteArray) (ta : Option Addr) (tc : Nat), av = .string ⟨(allL rs).toArray⟩ ∧ rs.length ≤ 20 ∧ (allL rs).length ≤ 164080 ∧ Hid (TornIn w wx p mb ta tc 0 rs D1 (newD 8)))
    case first =>
      go_wp2_with fail
      go_loopw [8, 9] (fun av x wr => ∃ (i : Nat) (rs : List ByteArray) (ta : Option Addr) (tc : Nat), x = .int .i64 i ∧ i ≤ len ∧ i ≤ 20 ∧ rs.length ≤ i ∧ (allL rs).length ≤ 8204 * i ∧ av = .string ⟨(allL rs).toArray⟩ ∧ Hid (TornIn w wr p mb ta tc 0 rs D1 (newD 8))) (fun _ x _ => 20 - (intOf x).toNat)
      case atStart => exact ⟨0, [], none, 0, rfl, Nat.zero_le _, Nat.zero_le _, Nat.zero_le _, Nat.zero_le _, rfl, HT0⟩
      case round =>
        obtain ⟨i, rs, ta, tc, rfl, hil, hi20, hrl, hal, rfl, HT⟩ := hrel
        clear HT0
        have hAl := allL_len rs
        by_cases hlt : i < len ∧ i < 20
        · obtain ⟨hl1, hl2⟩ := hlt
          obtain ⟨hml, hcase⟩ := HA.out
          rcases hcase with h0 | ⟨ab, ao, rfl, hab, hcells⟩
          · omega
          have HC : Hid (∀ W : World, Below w.heap.size w W → W.cell? ⟨ab, ao + i, none⟩ = some (.string (A i))) := fun W hW => (World.cell?_of_block (w := w) (a := ⟨ab, ao + i, none⟩) (hW.block ab hab)).trans (hcells i hl1).1
          have hsz : (A i).size ≤ maxLen := (hcells i hl1).2
          clear hcells
          obtain ⟨R, hR⟩ : ∃ R, A i = R := ⟨_, rfl⟩
          rw [hR] at hsz
          have HC : Hid (∀ W : World, Below w.heap.size w W → W.cell? ⟨ab, ao + i, none⟩ = some (.string R)) := by have := HC.out; rw [hR] at this; exact this
          clear hR
          have ca := HC.out wr HT.out.bel
          have c0 : wr.cell? ⟨mb, 0, none⟩ = some (.slice ta rs.length tc) := HT.out.mod.cell 0
          have c1 : wr.cell? ⟨mb, 1, none⟩ = some (.int .i64 0) := HT.out.mod.cell 1
          have c2 : wr.cell? ⟨mb, 2, none⟩ = some (.int .i64 0) := HT.out.mod.cell 2
          have c3 : wr.cell? ⟨mb, 3, none⟩ = some (.int .u64 0) := HT.out.mod.cell 3
          have hmbz : mb < wr.heap.size := HT.out.mod.lt
          have habz : ab < wr.heap.size := Nat.lt_of_lt_of_le hab HT.out.bel.size
          have d1 : decide ((i : Int) < (len : Int)) = true := by simp; omega
          have d2 : decide ((i : Int) < 20) = true := by simp; omega
          have i1 : (0 : Int) ≤ (i : Int) := by omega
          have i2 : (i : Int) < (len : Int) := by omega
          have hkeep : ∀ wy : World, Below wr.heap.size wr wy → wy.cell? ⟨mb, 0, none⟩ = some (.slice ta rs.length tc) ∧ wy.cell? ⟨mb, 1, none⟩ = some (.int .i64 0) ∧ wy.cell? ⟨mb, 2, none⟩ = some (.int .i64 0) ∧ wy.cell? ⟨mb, 3, none⟩ = some (.int .u64 0) ∧ wy.cell? ⟨ab, ao + i, none⟩ = some (.string R) := fun wy b =>
            ⟨(b.cell (p := ⟨mb, 0, none⟩) hmbz).trans c0, (b.cell (p := ⟨mb, 1, none⟩) hmbz).trans c1, (b.cell (p := ⟨mb, 2, none⟩) hmbz).trans c2, (b.cell (p := ⟨mb, 3, none⟩) hmbz).trans c3, (b.cell (p := ⟨ab, ao + i, none⟩) habz).trans ca⟩
          have HKEEP := hid hkeep
          have ne1 : mb ≠ wr.heap.size := by omega
          have ne2 : ab ≠ wr.heap.size := by omega
          clear hkeep
          by_cases hsize : R.size < 1 ∨ 8192 < R.size
          · have HM : Hid (∀ W' : World, Calls Try.prog 11 #[.agg #[.slice ta rs.length tc, .int .i64 0, .int .i64 0, .int .u64 0], .string R, .int .i64 0] W' fun e w'' => e = .returned (.tuple #[.agg #[.slice ta rs.length tc, .int .i64 0, .int .i64 0, .int .u64 0], .int .u64 0, .int .i64 51]) ∧ Below W'.heap.size W' w'') := fun W' => mput_no W' ta rs.length tc 0 0 0 R hsz hsize 0
            clear hsize hsz
            go_upto_region 9 with fail
            go_cut [10, 11, 12] from 33 to 63 (fun kp av fv wx => (∃ N : Nat, kp = .pointer (some ⟨N, 0, none⟩)) ∧ av = .int .u64 0 ∧ fv = .int .i64 51 ∧ Below wr.heap.size wr wx)
            case first =>
              go_region_held3 (fun w' => w'.cell? ⟨mb, 0, none⟩ = some (.slice ta rs.length tc) ∧ w'.cell? ⟨mb, 1, none⟩ = some (.int .i64 0) ∧ w'.cell? ⟨mb, 2, none⟩ = some (.int .i64 0) ∧ w'.cell? ⟨mb, 3, none⟩ = some (.int .u64 0) ∧ w'.cell? ⟨ab, ao + i, none⟩ = some (.string R))
                (first | go_keep | exact HKEEP.out _ c6 | exact HKEEP.out _ (c6.alloc c6.size _) | exact HKEEP.out _ ((((c6.setCell (Nat.le_refl _) _).setCell (Nat.le_refl _) _).setCell (Nat.le_refl _) _).setCell (Nat.le_refl _) _))
                (first
                  | (go_at_call 11; refine (HM.out (wr.drew.alloc (.cells #[.slice none 0 0, .int .i64 0, .int .i64 0, .int .u64 0] 34))).mono ?_; rintro e w6 ⟨rfl, b6⟩; have c6 : Below wr.heap.size wr w6 := below_chain (((Below.refl _ _).drew).alloc (Nat.le_refl _) _) b6; have hn6 : Blk w6 wr.heap.size #[.slice none 0 0, .int .i64 0, .int .i64 0, .int .u64 0] 34 := (Blk.made wr.drew _ _).same (b6.block _ (by simp)); have n0 := hn6.cell 0; have n1 := hn6.cell 1; have n2 := hn6.cell 2; have n3 := hn6.cell 3; have m0 := hn6.frozen 0; have m1 := hn6.frozen 1; have m2 := hn6.frozen 2; have m3 := hn6.frozen 3; simp only [List.getElem?_toArray, List.getElem?_cons_zero, List.getElem?_cons_succ] at n0 n1 n2 n3)
                  | (go_at_call 11; refine (HM.out wr.drew).mono ?_; rintro e w6 ⟨rfl, b6⟩; have c6 : Below wr.heap.size wr w6 := below_chain ((Below.refl _ _).drew) b6))
              · go_wp2_with fail
                go_meet
                case rel => exact ⟨⟨_, rfl⟩, rfl, rfl, c6.alloc c6.size _⟩
              · go_wp2_with fail
                go_meet
                case rel => exact ⟨⟨_, rfl⟩, rfl, rfl, (((c6.setCell (Nat.le_refl _) _).setCell (Nat.le_refl _) _).setCell (Nat.le_refl _) _).setCell (Nat.le_refl _) _⟩
            case rest =>
              obtain ⟨⟨N, rfl⟩, rfl, rfl, b6⟩ := hcut
              have HT6 := hid (HT.out.below b6)
              clear HT b6 HM
              go_wp2_with fail
              go_roundw
              case rel => exact ⟨i + 1, rs, ta, tc, by go_num, by omega, by omega, by omega, by omega, rfl, HT6⟩
              case measure => simp [intOf]; omega
          · have s1 : 1 ≤ R.size := by omega
            have s2 : R.size ≤ 8192 := by omega
            have HM : Hid (∀ W' : World, Below wr.heap.size wr W' → Calls Try.prog 11 #[.agg #[.slice ta rs.length tc, .int .i64 0, .int .i64 0, .int .u64 0], .string R, .int .i64 0] W' fun e w'' => ∃ a' c', e = .returned (.tuple #[.agg #[.slice a' (rs.length + 1) c', .int .i64 0, .int .i64 0, .int .u64 0], .int .u64 (placeOf rs rs.length : Nat), .int .i64 0]) ∧ Below W'.heap.size W' w'' ∧ TextsAt w'' a' (rs ++ [R]) ∧ NewAt W'.heap.size a') :=
              fun W' hW' => mput_ok W' ta tc rs 0 0 0 R (HT.out.txt.below hW') (by unfold Sized; omega) (by omega) s1 s2 0 (by omega) (by omega)
            have HPL : Hid ((allL rs).length + 1 = placeOf rs rs.length) := hAl
            have hpl : placeOf rs rs.length ≤ 164081 := by omega
            have hpn : rs.length + 1 = (rs ++ [R]).length := by simp
            have HPN := hid hpn
            clear hsize hsz hpn hAl
            go_upto_region 9 with fail
            go_cut [10, 11, 12] from 33 to 63 (fun kp av fv wx => ∃ (N : Nat) (a' : Option Addr) (c' : Nat), kp = .pointer (some ⟨N, 0, none⟩) ∧ av = .int .u64 (placeOf rs rs.length : Nat) ∧ fv = .int .i64 0 ∧ Below wr.heap.size wr wx ∧ Blk wx N #[.slice a' (rs.length + 1) c', .int .i64 0, .int .i64 0, .int .u64 0] 34 ∧ wr.heap.size ≤ N ∧ TextsAt wx a' (rs ++ [R]) ∧ NewAt wr.heap.size a')
            case first =>
              go_region_held3 (fun w' => w'.cell? ⟨mb, 0, none⟩ = some (.slice ta rs.length tc) ∧ w'.cell? ⟨mb, 1, none⟩ = some (.int .i64 0) ∧ w'.cell? ⟨mb, 2, none⟩ = some (.int .i64 0) ∧ w'.cell? ⟨mb, 3, none⟩ = some (.int .u64 0) ∧ w'.cell? ⟨ab, ao + i, none⟩ = some (.string R))
                (first | go_keep | exact HKEEP.out _ c6 | exact HKEEP.out _ (c6.alloc c6.size _) | exact HKEEP.out _ ((((c6.setCell (Nat.le_refl _) _).setCell (Nat.le_refl _) _).setCell (Nat.le_refl _) _).setCell (Nat.le_refl _) _))
                (first
                  | (go_at_call 11; refine (HM.out (wr.drew.alloc (.cells #[.slice none 0 0, .int .i64 0, .int .i64 0, .int .u64 0] 34)) (((Below.refl _ _).drew).alloc (Nat.le_refl _) _)).mono ?_; rintro e w6 ⟨a', c', rfl, b6, t6, k6⟩; have c6 : Below wr.heap.size wr w6 := below_chain (((Below.refl _ _).drew).alloc (Nat.le_refl _) _) b6; have hn6 : Blk w6 wr.heap.size #[.slice none 0 0, .int .i64 0, .int .i64 0, .int .u64 0] 34 := (Blk.made wr.drew _ _).same (b6.block _ (by simp)); have n0 := hn6.cell 0; have n1 := hn6.cell 1; have n2 := hn6.cell 2; have n3 := hn6.cell 3; have m0 := hn6.frozen 0; have m1 := hn6.frozen 1; have m2 := hn6.frozen 2; have m3 := hn6.frozen 3; simp only [List.getElem?_toArray, List.getElem?_cons_zero, List.getElem?_cons_succ] at n0 n1 n2 n3)
                  | (go_at_call 11; refine (HM.out wr.drew ((Below.refl _ _).drew)).mono ?_; rintro e w6 ⟨a', c', rfl, b6, t6, k6⟩; have c6 : Below wr.heap.size wr w6 := below_chain ((Below.refl _ _).drew) b6))
              · go_wp2_with fail
                go_meet
                case rel => exact ⟨w6.heap.size, a', c', rfl, rfl, rfl, c6.alloc c6.size _, Blk.made _ _ _, c6.size, t6.below ((Below.refl _ _).alloc (Nat.le_refl _) _), k6⟩
              · go_wp2_with fail
                go_meet
                case rel =>
                  refine ⟨wr.heap.size, a', c', rfl, rfl, rfl, (((c6.setCell (Nat.le_refl _) _).setCell (Nat.le_refl _) _).setCell (Nat.le_refl _) _).setCell (Nat.le_refl _) _, (((hn6.set 0 _).set 1 _).set 2 _).set 3 _, Nat.le_refl _, ?_, fun x e => by have := k6 x e; simp at this; omega⟩
                  have hk4 : Kept (fun k => k = wr.heap.size) w6 ((((w6.setCell ⟨wr.heap.size, 0, none⟩ (.slice a' (rs.length + 1) c')).setCell ⟨wr.heap.size, 1, none⟩ (.int .i64 0)).setCell ⟨wr.heap.size, 2, none⟩ (.int .i64 0)).setCell ⟨wr.heap.size, 3, none⟩ (.int .u64 0)) :=
                    (((Kept.setCell (fun k => k = wr.heap.size) _ _ _ _ rfl).trans (Kept.setCell (fun k => k = wr.heap.size) _ _ _ _ rfl)).trans (Kept.setCell (fun k => k = wr.heap.size) _ _ _ _ rfl)).trans (Kept.setCell (fun k => k = wr.heap.size) _ _ _ _ rfl)
                  exact t6.same (fun x e hx => hk4.block _ hx (fun e' => by have := k6 x e; simp at this; omega)) hk4.size
            case rest =>
              obtain ⟨N, a', c', rfl, rfl, rfl, b6, hn6, hN, t6, k6⟩ := hcut
              have HX6 : Hid (Below wr.heap.size wr wc ∧ Blk wc N #[.slice a' (rs.length + 1) c', .int .i64 0, .int .i64 0, .int .u64 0] 34 ∧ TextsAt wc a' (rs ++ [R]) ∧ NewAt wr.heap.size a') := ⟨b6, hn6, t6, k6⟩
              have ca6 := HC.out wc (below_chain HT.out.bel b6)
              have hbz : (ByteArray.mk (allL rs).toArray).size = (allL rs).length := bytes_size _
              have HSUM : Hid (ByteArray.mk (allL rs).toArray ++ frameB (placeOf rs rs.length) R = ⟨(allL (rs ++ [R])).toArray⟩) := by
                show _ = _
                rw [allL_snoc, HPL.out]
                unfold frameB
                rw [bytes_add]
              have hlen' : (allL (rs ++ [R])).length ≤ 8204 * (i + 1) := by
                rw [allL_snoc, List.length_append, frameL_length]
                simp only [Array.length_toList, ByteArray.size_data]
                omega
              have hfz := frameB_size (placeOf rs rs.length) R
              clear b6 hn6 t6 k6 HM
              have HF : Hid (Calls Try.prog 12 #[.int .u64 (placeOf rs rs.length : Nat), .string R] wc fun e w' => e = .returned (.string (frameB (placeOf rs rs.length) R)) ∧ Below wc.heap.size wc w') := rframe_any (placeOf rs rs.length) R wc (by omega) s2
              obtain ⟨AL, hAL⟩ : ∃ AL, AL = ByteArray.mk (allL rs).toArray := ⟨_, rfl⟩
              obtain ⟨FB, hFB⟩ : ∃ FB, FB = frameB (placeOf rs rs.length) R := ⟨_, rfl⟩
              rw [← hAL, ← hFB] at HSUM
              rw [← hAL]
              rw [← hFB] at HF hfz
              rw [← hAL] at hbz
              have z1 : AL.size ≤ 1000000 := by omega
              have z2 : FB.size ≤ 1000000 := by omega
              clear hAL hFB hbz hfz
              go_wp2_with fail
              refine HF.out.mono ?_
              rintro e w7 ⟨rfl, b7⟩
              have hb7 := HT.out.below (below_chain HX6.out.1 b7)
              have hm7 := hb7.mod
              have hn7 := HX6.out.2.1.same (b7.block _ HX6.out.2.1.lt)
              have n0 : w7.cell? ⟨N, 0, none⟩ = some (.slice a' (rs.length + 1) c') := hn7.cell 0
              have n1 : w7.cell? ⟨N, 1, none⟩ = some (.int .i64 0) := hn7.cell 1
              have n2 : w7.cell? ⟨N, 2, none⟩ = some (.int .i64 0) := hn7.cell 2
              have n3 : w7.cell? ⟨N, 3, none⟩ = some (.int .u64 0) := hn7.cell 3
              have m0 : w7.cell? ⟨mb, 0, none⟩ = some (.slice ta rs.length tc) := hm7.cell 0
              have m1 : w7.cell? ⟨mb, 1, none⟩ = some (.int .i64 0) := hm7.cell 1
              have m2 : w7.cell? ⟨mb, 2, none⟩ = some (.int .i64 0) := hm7.cell 2
              have m3 : w7.cell? ⟨mb, 3, none⟩ = some (.int .u64 0) := hm7.cell 3
              have f0 := hm7.frozen 0
              have f1 := hm7.frozen 1
              have f2 := hm7.frozen 2
              have f3 := hm7.frozen 3
              have HNEW : Hid (TornIn w ((((w7.setCell ⟨mb, 0, none⟩ (.slice a' (rs.length + 1) c')).setCell ⟨mb, 1, none⟩ (.int .i64 0)).setCell ⟨mb, 2, none⟩ (.int .i64 0)).setCell ⟨mb, 3, none⟩ (.int .u64 0)) p mb a' c' 0 (rs ++ [R]) D1 (newD 8)) :=
                HT.out.put (below_chain HX6.out.1 b7) (HX6.out.2.2.1.below b7) HX6.out.2.2.2 ((((Kept.setCell (fun k => k = mb) _ _ _ _ rfl).trans (Kept.setCell (fun k => k = mb) _ _ _ _ rfl)).trans (Kept.setCell (fun k => k = mb) _ _ _ _ rfl)).trans (Kept.setCell (fun k => k = mb) _ _ _ _ rfl)) ((((hm7.set 0 _).set 1 _).set 2 _).set 3 _) s1 s2
              clear hb7 hm7 hn7 b7 HX6 HT HF
              go_wp2_with fail
              go_roundw
              case rel => exact ⟨i + 1, rs ++ [R], a', c', by go_num, by omega, by omega, by have := HPN.out; omega, hlen', by rw [HSUM.out], HNEW⟩
              case measure => simp [intOf]; omega

        · have HEX : Hid (TornIn w wr p mb ta tc 0 rs D1 (newD 8)) := HT
          by_cases hl1 : i < len
          · have d1 : decide ((i : Int) < (len : Int)) = true := by simp; omega
            have d2 : decide ((i : Int) < 20) = false := by simp; omega
            go_wp2_with fail
            go_meet
            case rel => exact ⟨rs, ta, tc, rfl, by omega, by omega, HEX⟩
          · have d1 : decide ((i : Int) < (len : Int)) = false := by simp; omega
            go_wp2_with fail
            go_meet
            case rel => exact ⟨rs, ta, tc, rfl, by omega, by omega, HEX⟩
    case rest =>
      obtain ⟨rs, ta, tc, rfl, hrs, hal, HT⟩ := hcut
      clear HT0
      obtain ⟨AL, hAL⟩ : ∃ AL, AL = ByteArray.mk (allL rs).toArray := ⟨_, rfl⟩
      have zA : AL.size = (allL rs).length := by rw [hAL]; exact bytes_size _
      have HAL : Hid (AL.data.toList = allL rs) := by show _ = _; rw [hAL]
      rw [← hAL]
      clear hAL
      have z1 : AL.size ≤ 164080 := by omega
      have HZA := hid zA
      clear zA
      go_wp2_with fail
      refine (awake_any _).mono ?_
      rintro e w2 ⟨rfl, b2⟩
      have HT2 := hid (HT.out.below b2)
      clear HT b2
      have z3 : (AL ++ r).size = AL.size + r.size := ByteArray.size_append
      go_wp2_with fail
      refine (appendLog_out HT2.out.disk rfl rfl (by show 0 ≤ _; omega) (AL ++ r) (by show 0 + _ ≤ _; omega)).mono ?_
      rintro e w3 ⟨rfl, D3, hd3, hm3⟩
      have HT3 := hid (HT2.out.moves hd3 hm3)
      clear HT2 hd3 hm3
      go_wp2_with fail
      refine (syncLog_out HT3.out.disk rfl rfl (by show 0 + 1 ≤ _; omega) (by show ([] ++ (AL ++ r).data.toList).length ≤ _; simp only [List.nil_append, Array.length_toList, ByteArray.size_data]; omega)).mono ?_
      rintro e w4 ⟨rfl, D4, hd4, hm4⟩
      have HT4 := hid (HT3.out.moves hd4 hm4)
      clear HT3 hd4 hm4
      have HDD : Hid (({ putD (newD 8) (AL ++ r) with calls := (putD (newD 8) (AL ++ r)).calls + 1, sl := (putD (newD 8) (AL ++ r)).log.length } : DG).log = allL rs ++ r.data.toList) := by
        show [] ++ (AL ++ r).data.toList = _
        rw [← HAL.out]
        simp
      have HDE : Hid (({ putD (newD 8) (AL ++ r) with calls := (putD (newD 8) (AL ++ r)).calls + 1, sl := (putD (newD 8) (AL ++ r)).log.length } : DG).dead = false ∧ ({ putD (newD 8) (AL ++ r) with calls := (putD (newD 8) (AL ++ r)).calls + 1, sl := (putD (newD 8) (AL ++ r)).log.length } : DG).plan = [] ∧ ({ putD (newD 8) (AL ++ r) with calls := (putD (newD 8) (AL ++ r)).calls + 1, sl := (putD (newD 8) (AL ++ r)).log.length } : DG).mark = 0 ∧ ({ putD (newD 8) (AL ++ r) with calls := (putD (newD 8) (AL ++ r)).calls + 1, sl := (putD (newD 8) (AL ++ r)).log.length } : DG).calls ≤ 10) := ⟨rfl, rfl, rfl, by show 0 + 1 + 1 ≤ 10; omega⟩
      generalize ({ putD (newD 8) (AL ++ r) with calls := (putD (newD 8) (AL ++ r)).calls + 1, sl := (putD (newD 8) (AL ++ r)).log.length } : DG) = dd at *
      have hddl : dd.log.length ≤ 264080 := by rw [HDD.out, List.length_append, ← HZA.out]; simp; omega
      have hddz : dd.log.length = AL.size + r.size := by rw [HDD.out, List.length_append, ← HZA.out]; simp
      have HDZ := hid hddz
      clear hddz
      go_upto_block 2 with fail
      go_cut [13, 14, 15, 16] from 80 to 130 (fun _ _ _ _ wx => ∃ (rs : List ByteArray) (ta : Option Addr) (tc : Nat) (tail : List UInt8), Hid (TornIn w wx p mb ta tc 0 rs D4 dd) ∧ Hid (dd.log = allL rs ++ tail) ∧ Hid (frameN ⟨dd.log.toArray⟩ (allL rs).length = 0))
      case first =>
        go_wp2_with fail
        have hz0 : (allL rs).length + r.size ≤ 264080 := by have := HZA.out; omega
        go_loopg [13] r.size (fun m lv wr => ∃ (rs : List ByteArray) (ta : Option Addr) (tc : Nat) (L : ByteArray), lv = .string L ∧ L.size ≤ m ∧ (allL rs).length + L.size ≤ 264080 ∧ Hid (dd.log = allL rs ++ L.data.toList) ∧ Hid (TornIn w wr p mb ta tc 0 rs D4 dd))
        case atStart => exact ⟨rs, ta, tc, r, rfl, Nat.le_refl _, hz0, HDD, HT4⟩
        case round =>
          obtain ⟨rs, ta, tc, L, rfl, hLm, hz, HALL, HT⟩ := hrel
          clear HT4 HDD hz0
          have HAL2 : Hid ((ByteArray.mk dd.log.toArray).data.toList = allL rs ++ L.data.toList) := by show _ = _; rw [← HALL.out]
          by_cases h12 : L.size < 12
          · have t1 : decide ((12 : Int) ≤ (L.size : Int)) = false := by simp; omega
            go_wp2_with fail
            go_meet
            case rel => exact ⟨rs, ta, tc, L.data.toList, HT, HALL, torn_end1 HAL2.out h12⟩
          · have t1 : decide ((12 : Int) ≤ (L.size : Int)) = true := by simp; omega
            have HN := hid (rnumber_any (L.extract 0 4) wr (by rw [ByteArray.size_extract]; omega))
            obtain ⟨n, hn⟩ : ∃ n, le (L.extract 0 4).data.toList = n := ⟨_, rfl⟩
            have hnlt : n < 4294967296 := by
              have := le_lt (L.extract 0 4).data.toList
              rw [hn] at this
              have e4 : (L.extract 0 4).data.toList.length = 4 := by simp; omega
              rw [e4] at this
              omega
            rw [hn] at HN
            have HNN := hid hn
            clear hn
            have i4 : (4 : Int) ≤ (L.size : Int) := by omega
            go_wp2_with fail
            refine HN.out.mono ?_
            rintro e w5 ⟨rfl, hw5⟩
            obtain rfl := hw5.symm
            by_cases hbad : n < 1 ∨ 8192 < n ∨ L.size < n + 12
            · have HE := hid (torn_end2 (all := ⟨dd.log.toArray⟩) (A := allL rs) HAL2.out n HNN.out hbad)
              rcases hbad with hb | hb | hb
              · have t2 : decide ((n : Int) < 1) = true := by simp; omega
                go_wp2_with fail
                go_meet
                case rel => exact ⟨rs, ta, tc, L.data.toList, HT, HALL, HE⟩
              · have t2 : decide ((n : Int) < 1) = false := by simp; omega
                have t3 : decide ((8192 : Int) < (n : Int)) = true := by simp; omega
                go_wp2_with fail
                go_meet
                case rel => exact ⟨rs, ta, tc, L.data.toList, HT, HALL, HE⟩
              · by_cases hb1 : n < 1
                · have t2 : decide ((n : Int) < 1) = true := by simp; omega
                  go_wp2_with fail
                  go_meet
                  case rel => exact ⟨rs, ta, tc, L.data.toList, HT, HALL, HE⟩
                · by_cases hb2 : 8192 < n
                  · have t2 : decide ((n : Int) < 1) = false := by simp; omega
                    have t3 : decide ((8192 : Int) < (n : Int)) = true := by simp; omega
                    go_wp2_with fail
                    go_meet
                    case rel => exact ⟨rs, ta, tc, L.data.toList, HT, HALL, HE⟩
                  · have t2 : decide ((n : Int) < 1) = false := by simp; omega
                    have t3 : decide ((8192 : Int) < (n : Int)) = false := by simp; omega
                    have q1 : IntKind.u64.wrap (L.size : Int) = (L.size : Int) := by rw [IntKind.wrap_u64]; omega
                    have q2 : IntKind.u64.wrap ((n : Int) + 12) = (n : Int) + 12 := by rw [IntKind.wrap_u64]; omega
                    have t4 : decide ((L.size : Int) < (n : Int) + 12) = true := by simp; omega
                    go_wp2_with fail
                    go_meet
                    case rel => exact ⟨rs, ta, tc, L.data.toList, HT, HALL, HE⟩
            · have t2 : decide ((n : Int) < 1) = false := by simp; omega
              have t3 : decide ((8192 : Int) < (n : Int)) = false := by simp; omega
              have q1 : IntKind.u64.wrap (L.size : Int) = (L.size : Int) := by rw [IntKind.wrap_u64]; omega
              have q2 : IntKind.u64.wrap ((n : Int) + 12) = (n : Int) + 12 := by rw [IntKind.wrap_u64]; omega
              have q3 : IntKind.u64.wrap (8 + (n : Int)) = 8 + (n : Int) := by rw [IntKind.wrap_u64]; omega
              have t4 : decide ((L.size : Int) < (n : Int) + 12) = false := by simp; omega
              have j1 : (8 : Int) ≤ 8 + (n : Int) := by omega
              have j2 : 8 + (n : Int) ≤ (L.size : Int) := by omega
              have j3 : (n : Int) + 12 ≤ (L.size : Int) := by omega
              have c0 : wr.cell? ⟨mb, 0, none⟩ = some (.slice ta rs.length tc) := HT.out.mod.cell 0
              have c1 : wr.cell? ⟨mb, 1, none⟩ = some (.int .i64 0) := HT.out.mod.cell 1
              have c2 : wr.cell? ⟨mb, 2, none⟩ = some (.int .i64 0) := HT.out.mod.cell 2
              have c3 : wr.cell? ⟨mb, 3, none⟩ = some (.int .u64 0) := HT.out.mod.cell 3
              have hmbz : mb < wr.heap.size := HT.out.mod.lt
              have hpl := allL_len rs
              have hpm := placeOf_mono rs (Nat.zero_le rs.length)
              have hp0 : placeOf rs 0 = 1 := rfl
              have hnr : 12 * rs.length ≤ 264080 := by omega
              have HPL := hid hpl
              have HM : Hid (Calls Try.prog 16 #[.agg #[.slice ta rs.length tc, .int .i64 0, .int .i64 0, .int .u64 0]] wr.drew fun e w' => ∃ g c, e = .returned (.slice (some ⟨g, 0, none⟩) (rs.length + 1) c) ∧ Below wr.drew.heap.size wr.drew w' ∧ (∀ i, i ≤ rs.length → w'.cell? ⟨g, i, none⟩ = some (.int .u64 (placeOf rs i : Nat)))) :=
                at_any wr.drew ta tc rs 0 0 0 (HT.out.txt.below ((Below.refl _ _).drew)) (by unfold Sized; omega) (by omega)
              have HK : Hid (∀ w5, Below wr.drew.heap.size wr.drew w5 → w5.cell? ⟨mb, 0, none⟩ = some (.slice ta rs.length tc)) := fun w5 b' => (World.cell?_of_block (w := wr) (a := ⟨mb, 0, none⟩) (b'.block mb hmbz)).trans c0
              have k2 : (rs.length : Int) < (rs.length : Int) + 1 := by omega
              have hn1 : 1 ≤ n := by omega
              have hn2 : n ≤ 8192 := by omega
              clear hpl hpm hp0 hbad
              go_upto_region 20 with fail
              go_cut [16] from 80 to 130 (fun av wx => av = .int .u64 (placeOf rs rs.length : Nat) ∧ Below wr.heap.size wr wx)
              case first =>
                go_region_law (go_simp; go_at_call 16; refine HM.out.mono ?_; rintro x w5 ⟨g, c, rfl, b5, hc5⟩; have hr5 := hc5 rs.length (Nat.le_refl _); have hk5 := HK.out _ b5; have HB5 := hid b5; clear b5 hc5)
                all_goals
                  go_wp2_with fail
                  go_meet
                  case rel => exact ⟨rfl, below_chain ((Below.refl _ _).drew) HB5.out⟩
              case rest =>
                obtain ⟨rfl, b6⟩ := hcut
                have HT6 := hid (HT.out.below b6)
                clear HT HM HK c0 c1 c2 c3 hmbz b6
                have s8 : (L.extract 8 (8 + n)).size = n := by rw [ByteArray.size_extract]; omega
                have HE3 := hid (torn_end3 (all := ⟨dd.log.toArray⟩) (A := allL rs) HAL2.out n HNN.out)
                have HNX := hid (torn_next (A := allL rs) (L := L) n (by omega))
                rw [HPL.out] at HE3 HNX
                obtain ⟨S8, hS8⟩ : ∃ S8, S8 = L.extract 8 (8 + n) := ⟨_, rfl⟩
                obtain ⟨LX, hLX⟩ : ∃ LX, LX = L.extract 0 (n + 12) := ⟨_, rfl⟩
                obtain ⟨FB, hFB⟩ : ∃ FB, FB = frameB (placeOf rs rs.length) S8 := ⟨_, rfl⟩
                rw [← hS8] at s8 HE3 HNX ⊢
                rw [← hLX, ← hFB] at HE3 HNX
                have HLX : Hid (L.extract 0 (n + 12) = LX) := hLX.symm
                have hFs : FB.size = n + 12 := by rw [hFB, frameB_size, s8]
                have hpz : placeOf rs rs.length ≤ 264081 := by have := HPL.out; omega
                have cF : ∀ d' os', Calls Try.prog 12 #[.int .u64 (placeOf rs rs.length : Nat), .string S8] (grow (redrawn wc d') os') fun e w'' => e = .returned (.string FB) ∧ ∃ p : Regrown, w'' = grow (redrawn wc p.d) p.os := fun d' os' => Calls.regrown_of ((rframe_any (placeOf rs rs.length) S8 _ (by omega) (by omega)).mono fun e w' ⟨e1, e2⟩ => ⟨by rw [e1, hFB], e2⟩)
                have s81 : 1 ≤ S8.size := by omega
                have s82 : S8.size ≤ 8192 := by omega
                clear hS8 hFB
                have e0 : L.extract 0 (n + 12) = LX := hLX.symm
                clear hLX
                by_cases hfr : FB = LX
                · go_upto_region 21 with fail
                  refine wp_region_quiet_below wmixed (by kernel_rfl) ?_
                  repeat (first | go_big_quiet_step ((go_at_call 12; exact cF _ _)) | quiet_step ((go_at_call 12; exact cF _ _)))
                  refine wpQuiet_nil ?_
                  intro _ hw'
                  obtain ⟨⟨dq, osq⟩, hw''⟩ := hw'
                  subst hw''
                  have hbx := below_regrown wc dq osq
                  obtain ⟨X, HX⟩ : ∃ X, Hid (X = grow (redrawn wc dq) osq) := ⟨_, rfl⟩
                  rw [← HX.out] at hbx ⊢
                  have HTX := hid (HT6.out.below hbx)
                  clear HX hbx HT6 cF
                  have c0 : X.cell? ⟨mb, 0, none⟩ = some (.slice ta rs.length tc) := HTX.out.mod.cell 0
                  have hmbz : mb < X.heap.size := HTX.out.mod.lt
                  have f0 : X.frozen? ⟨mb, 0, none⟩ = false := HTX.out.mod.frozen 0
                  obtain ⟨j0, hj, hy0, hy1, hy2⟩ := info_parts infoT2
                  have hnr2 : rs.length ≤ 400000 := by omega
                  have c0a : (X.alloc (.cells #[] 9)).cell? ⟨mb, 0, none⟩ = some (.slice ta rs.length tc) := (World.cell?_of_block (w := X) (a := ⟨mb, 0, none⟩) (Below.heap_alloc _ _ _ hmbz)).trans c0
                  have c0b : ((X.alloc (.cells #[] 9)).alloc (.cells #[.string S8] 9)).cell? ⟨mb, 0, none⟩ = some (.slice ta rs.length tc) := (World.cell?_of_block (w := X.alloc (.cells #[] 9)) (a := ⟨mb, 0, none⟩) (Below.heap_alloc _ _ _ (by simp; omega))).trans c0a
                  have c0c : (X.alloc (.cells #[.string S8] 9)).cell? ⟨mb, 0, none⟩ = some (.slice ta rs.length tc) := (World.cell?_of_block (w := X) (a := ⟨mb, 0, none⟩) (Below.heap_alloc _ _ _ hmbz)).trans c0
                  have c0d : ((X.alloc (.cells #[.string S8] 9)).alloc (.cells #[] 9)).cell? ⟨mb, 0, none⟩ = some (.slice ta rs.length tc) := (World.cell?_of_block (w := X.alloc (.cells #[.string S8] 9)) (a := ⟨mb, 0, none⟩) (Below.heap_alloc _ _ _ (by simp; omega))).trans c0c
                  have BA : Hid (Below X.heap.size X (X.alloc (.cells #[] 9)).drew) := ((Below.refl _ _).alloc (Nat.le_refl _) _).drew
                  have BB : Hid (Below X.heap.size X ((X.alloc (.cells #[] 9)).alloc (.cells #[.string S8] 9)).drew) := (((Below.refl _ _).alloc (Nat.le_refl _) _).alloc (by simp) _).drew
                  have BC : Hid (Below X.heap.size X ((X.alloc (.cells #[.string S8] 9)).alloc (.cells #[] 9)).drew) := (((Below.refl _ _).alloc (Nat.le_refl _) _).alloc (by simp) _).drew
                  have GA : Hid (Blk (X.alloc (.cells #[] 9)).drew X.heap.size #[] 9) := Blk.made X _ _
                  have GB : Hid (Blk ((X.alloc (.cells #[] 9)).alloc (.cells #[.string S8] 9)).drew X.heap.size #[] 9) := (Blk.made X _ _).same (Below.heap_alloc _ _ _ (by simp))
                  have GC : Hid (Blk ((X.alloc (.cells #[.string S8] 9)).alloc (.cells #[] 9)).drew (X.heap.size + 1) #[] 9) := by
                    have := Blk.made (X.alloc (.cells #[.string S8] 9)) #[] 9
                    rw [show (X.alloc (.cells #[.string S8] 9)).heap.size = X.heap.size + 1 by simp] at this
                    exact this
                  have NB : Hid (Blk ((X.alloc (.cells #[] 9)).alloc (.cells #[.string S8] 9)).drew (X.heap.size + 1) #[.string S8] 9) := by
                    have := Blk.made (X.alloc (.cells #[] 9)) #[.string S8] 9
                    rw [show (X.alloc (.cells #[] 9)).heap.size = X.heap.size + 1 by simp] at this
                    exact this
                  have NC : Hid (Blk ((X.alloc (.cells #[.string S8] 9)).alloc (.cells #[] 9)).drew X.heap.size #[.string S8] 9) := (Blk.made X _ _).same (Below.heap_alloc _ _ _ (by simp))
                  have j4 : (0 : Int) ≤ (n : Int) + 12 := by omega
                  have j5 : ((n : Int) + 12).toNat = n + 12 := by omega
                  have H1 : Hid (∀ u ∈ [Value.string S8], u.oneCell' = true) := by intro u hu; simp at hu; subst hu; rfl
                  have HTT : Hid (∀ W', Below X.heap.size X W' → TextsAt W' ta rs) := fun W' b => HTX.out.txt.below b
                  have hzB : ((X.alloc (.cells #[] 9)).alloc (.cells #[.string S8] 9)).drew.heap.size = X.heap.size + 2 := by simp
                  have hzC : ((X.alloc (.cells #[.string S8] 9)).alloc (.cells #[] 9)).drew.heap.size = X.heap.size + 2 := by simp
                  have hzA : (X.alloc (.cells #[] 9)).drew.heap.size = X.heap.size + 1 := by simp
                  have HZ3 : Hid (((X.alloc (.cells #[] 9)).drew.heap.size = X.heap.size + 1) ∧ (((X.alloc (.cells #[] 9)).alloc (.cells #[.string S8] 9)).drew.heap.size = X.heap.size + 2) ∧ (((X.alloc (.cells #[.string S8] 9)).alloc (.cells #[] 9)).drew.heap.size = X.heap.size + 2)) := ⟨hzA, hzB, hzC⟩
                  clear hzA hzB hzC
                  go_wp2_with fail
                  go_region_law (first
                    | (refine step_copy _ (by rfl) _ _ (by rfl) X.heap.size (by rfl) ta tc rs (by rfl) (HTT.out _ BA.out) GA.out hnr2 ?_; intro v6 w6 hown6 hgrow6 hloc6; have hb6 := below_grown BA.out (by rw [HZ3.out.1]; omega) (fun k e => by have := Option.some.inj e; omega) hgrow6; have hv6 : ∀ k, v6.ownBlock = some k → X.heap.size ≤ k := (fun k e => by rcases hloc6 with e' | e' <;> rw [e'] at e <;> have := Option.some.inj e <;> (try rw [HZ3.out.1] at this) <;> omega); have hnb6 : True := trivial)
                    | (refine step_copy _ (by rfl) _ _ (by rfl) X.heap.size (by rfl) ta tc rs (by rfl) (HTT.out _ BB.out) GB.out hnr2 ?_; intro v6 w6 hown6 hgrow6 hloc6; have hb6 := below_grown BB.out (by rw [HZ3.out.2.1]; omega) (fun k e => by have := Option.some.inj e; omega) hgrow6; have hv6 : ∀ k, v6.ownBlock = some k → X.heap.size ≤ k := (fun k e => by rcases hloc6 with e' | e' <;> rw [e'] at e <;> have := Option.some.inj e <;> (try rw [HZ3.out.2.1] at this) <;> omega); have hnb6 : Blk w6 (X.heap.size + 1) #[.string S8] 9 := NB.out.same (hgrow6.block _ (by rw [HZ3.out.2.1]; omega) (fun e => by have := Option.some.inj e; omega)))
                    | (refine step_copy _ (by rfl) _ _ (by rfl) (X.heap.size + 1) (by rfl) ta tc rs (by rfl) (HTT.out _ BC.out) GC.out hnr2 ?_; intro v6 w6 hown6 hgrow6 hloc6; have hb6 := below_grown BC.out (by rw [HZ3.out.2.2]; omega) (fun k e => by have := Option.some.inj e; omega) hgrow6; have hv6 : ∀ k, v6.ownBlock = some k → X.heap.size ≤ k := (fun k e => by rcases hloc6 with e' | e' <;> rw [e'] at e <;> have := Option.some.inj e <;> (try rw [HZ3.out.2.2] at this) <;> omega); have hnb6 : Blk w6 X.heap.size #[.string S8] 9 := NC.out.same (hgrow6.block _ (by rw [HZ3.out.2.2]; omega) (fun e => by have := Option.some.inj e; omega)))
                    | (refine step_append_lies _ (by rfl) _ _ 31 (by rfl) 0 9 j0 _ 1 16 Try.underlying31 hj hy0 hy1 hy2 (by rfl) (by decide) v6 rs.length (rs.map Value.string) (by rfl) hown6 ⟨X.heap.size + 1, 0, none⟩ 1 1 [.string S8] (by rfl) (by rfl) (World.news_of_block hnb6) H1.out (by decide) (by unfold maxLen; omega) (by omega) (Nat.zero_le _) _ (by rfl) ?_; intro g7 cap7 w7 hown7 hgrow7 hloc7 hlt7; have hb7 := below_grown hb6 hb6.size hv6 hgrow7; have hg7 : X.heap.size ≤ g7 := hloc7.elim (hv6 g7) (fun e => by have := hb6.size; omega); have hm7 := HTX.out.mod.same (hb7.block mb hmbz); have m0 : w7.cell? ⟨mb, 0, none⟩ = some (.slice ta rs.length tc) := hm7.cell 0; have f7 : w7.frozen? ⟨mb, 0, none⟩ = false := hm7.frozen 0)
                    | (refine step_append_lies _ (by rfl) _ _ 31 (by rfl) 0 9 j0 _ 1 16 Try.underlying31 hj hy0 hy1 hy2 (by rfl) (by decide) v6 rs.length (rs.map Value.string) (by rfl) hown6 ⟨X.heap.size, 0, none⟩ 1 1 [.string S8] (by rfl) (by rfl) (World.news_of_block hnb6) H1.out (by decide) (by unfold maxLen; omega) (by omega) (Nat.zero_le _) _ (by rfl) ?_; intro g7 cap7 w7 hown7 hgrow7 hloc7 hlt7; have hb7 := below_grown hb6 hb6.size hv6 hgrow7; have hg7 : X.heap.size ≤ g7 := hloc7.elim (hv6 g7) (fun e => by have := hb6.size; omega); have hm7 := HTX.out.mod.same (hb7.block mb hmbz); have m0 : w7.cell? ⟨mb, 0, none⟩ = some (.slice ta rs.length tc) := hm7.cell 0; have f7 : w7.frozen? ⟨mb, 0, none⟩ = false := hm7.frozen 0)
                    | (refine step_append_lies _ (by rfl) _ _ 31 (by rfl) 0 9 j0 _ 1 16 Try.underlying31 hj hy0 hy1 hy2 (by rfl) (by decide) v6 rs.length (rs.map Value.string) (by rfl) (owns_same hown6 fun g k => Below.heap_alloc _ _ g (owns_lt hown6 k)) ⟨w6.heap.size, 0, none⟩ 1 1 [.string S8] (by rfl) (by rfl) (World.news_of_block (heap_alloc_new w6 _)) H1.out (by decide) (by unfold maxLen; omega) (by omega) (Nat.zero_le _) _ (by rfl) ?_; intro g7 cap7 w7 hown7 hgrow7 hloc7 hlt7; have hb7 := below_grown (hb6.alloc hb6.size _) (Nat.le_trans hb6.size (by simp)) hv6 hgrow7; have hg7 : X.heap.size ≤ g7 := hloc7.elim (hv6 g7) (fun e => by have := hb6.size; simp at e; omega); have hm7 := HTX.out.mod.same (hb7.block mb hmbz); have m0 : w7.cell? ⟨mb, 0, none⟩ = some (.slice ta rs.length tc) := hm7.cell 0; have f7 : w7.frozen? ⟨mb, 0, none⟩ = false := hm7.frozen 0))
                  all_goals
                    have HN7 : Hid (TornIn w (w7.setCell ⟨mb, 0, none⟩ (.slice (some ⟨g7, 0, none⟩) (rs.length + 1) cap7)) p mb (some ⟨g7, 0, none⟩) cap7 0 (rs ++ [S8]) D4 dd) :=
                      HTX.out.put hb7 (texts_of hown7 (fun _ _ => rfl) (Nat.le_refl _)) (fun x e => by rw [← Option.some.inj e]; exact hg7) (Kept.setCell (fun k => k = mb) _ _ _ _ rfl) (hm7.set 0 _) s81 s82
                    have HX7 : Hid (dd.log = allL (rs ++ [S8]) ++ (L.extract (n + 12) L.size).data.toList ∧ (allL (rs ++ [S8])).length = (allL rs).length + (n + 12)) := by
                      refine ⟨?_, by rw [allL_snoc, List.length_append, frameL_length]; simp only [Array.length_toList, ByteArray.size_data]; omega⟩
                      rw [HALL.out, HNX.out hfr, allL_snoc, HPL.out, List.append_assoc]
                    clear hown7 hgrow7 hb7 hm7 hown6 hgrow6 hb6 hnb6 hloc6 hloc7 HTX
                    go_wp2_with fail
                    have hL' : (L.extract (n + 12) L.size).size = L.size - (n + 12) := by rw [ByteArray.size_extract]; omega
                    go_roundg (L.size - (n + 12))
                    case measure => omega
                    case rel => exact ⟨rs ++ [S8], _, _, L.extract (n + 12) L.size, rfl, by omega, by have := HX7.out.2; omega, HX7.out.1, HN7⟩
                · have ne1 : (FB.toList == LX.toList) = false := ne_lists hfr
                  go_upto_region 21 with fail
                  refine wp_region_quiet_below wmixed (by kernel_rfl) ?_
                  repeat (first | go_big_quiet_step ((go_at_call 12; exact cF _ _)) | quiet_step ((go_at_call 12; exact cF _ _)))
                  refine wpQuiet_nil ?_
                  intro _ hw'
                  obtain ⟨⟨dq, osq⟩, hw''⟩ := hw'
                  subst hw''
                  have hbx := below_regrown wc dq osq
                  obtain ⟨X, HX⟩ : ∃ X, Hid (X = grow (redrawn wc dq) osq) := ⟨_, rfl⟩
                  rw [← HX.out] at hbx ⊢
                  have HTX := hid (HT6.out.below hbx)
                  clear HX hbx HT6
                  go_wp2_with fail
                  go_meet
                  case rel => exact ⟨rs, ta, tc, L.data.toList, HTX, HALL, HE3.out hfr⟩
      case rest =>
        obtain ⟨rs, ta, tc, tail, HT, HLG, HFN⟩ := hcut
        clear HT4 HDD HAL HZA
        have hpl := allL_len rs
        have hpm := placeOf_mono rs (Nat.zero_le rs.length)
        have hp0 : placeOf rs 0 = 1 := rfl
        have hll : dd.log.length = (allL rs).length + tail.length := by rw [HLG.out, List.length_append]
        have hal : (allL rs).length ≤ 264080 := by omega
        have hnr : rs.length ≤ 30000 := by omega
        have hpz : placeOf rs rs.length ≤ 264081 := by omega
        have hpo : 1 ≤ placeOf rs rs.length := by omega
        have eT0 : (tail.length : Int) = (AL.size : Int) + (r.size : Int) - ((placeOf rs rs.length : Nat) - 1) := by have := HDZ.out; omega
        have eT : ((tail.length : Int) != (AL.size : Int) + (r.size : Int) - ((placeOf rs rs.length : Nat) - 1)) = false := by rw [bne_eq_false_iff_eq]; exact eT0
        have hdl : dd.log.length ≤ 4194304 := by omega
        clear hpl hpm hp0 hll eT0
        have c0 : wc.cell? ⟨mb, 0, none⟩ = some (.slice ta rs.length tc) := HT.out.mod.cell 0
        have c1 : wc.cell? ⟨mb, 1, none⟩ = some (.int .i64 0) := HT.out.mod.cell 1
        have f1 : wc.frozen? ⟨mb, 1, none⟩ = false := HT.out.mod.frozen 1
        have HS := hid (HT.out.sures rs.length)
        clear HT
        go_wp2_with fail
        refine (open_all HS.out.disk HDE.out.1 HDE.out.2.1 (by have := HDE.out.2.2.2; omega) hdl rs tail HLG.out HS.out.big HFN.out).mono ?_
        rintro e w5 ⟨q, rfl, D5, S5, d5, l5, ho5⟩
        have HO5 := hid ho5
        have HT5 := hid (HS.out.moves ho5.disk ho5.mv)
        clear ho5 HS
        have x0 : w5.cell? ⟨mb, 0, none⟩ = some (.slice ta rs.length tc) := HT5.out.mod.cell 0
        have x1 : w5.cell? ⟨mb, 1, none⟩ = some (.int .i64 (rs.length : Nat)) := HT5.out.mod.cell 1
        have x2 : w5.cell? ⟨mb, 2, none⟩ = some (.int .i64 0) := HT5.out.mod.cell 2
        have x3 : w5.cell? ⟨mb, 3, none⟩ = some (.int .u64 0) := HT5.out.mod.cell 3
        have hmbz : mb < w5.heap.size := HT5.out.mod.lt
        have HKEEP : Hid (∀ wy : World, Below w5.heap.size w5 wy → wy.cell? ⟨mb, 0, none⟩ = some (.slice ta rs.length tc) ∧ wy.cell? ⟨mb, 1, none⟩ = some (.int .i64 (rs.length : Nat)) ∧ wy.cell? ⟨mb, 2, none⟩ = some (.int .i64 0) ∧ wy.cell? ⟨mb, 3, none⟩ = some (.int .u64 0)) := fun wy b =>
          ⟨(b.cell (p := ⟨mb, 0, none⟩) hmbz).trans x0, (b.cell (p := ⟨mb, 1, none⟩) hmbz).trans x1, (b.cell (p := ⟨mb, 2, none⟩) hmbz).trans x2, (b.cell (p := ⟨mb, 3, none⟩) hmbz).trans x3⟩
        have HM : Hid (Calls Try.prog 16 #[.agg #[.slice ta rs.length tc, .int .i64 (rs.length : Nat), .int .i64 0, .int .u64 0]] w5.drew fun e w' => ∃ g c, e = .returned (.slice (some ⟨g, 0, none⟩) (rs.length + 1) c) ∧ Below w5.drew.heap.size w5.drew w' ∧ (∀ i, i ≤ rs.length → w'.cell? ⟨g, i, none⟩ = some (.int .u64 (placeOf rs i : Nat)))) :=
          at_any w5.drew ta tc rs (rs.length : Nat) 0 0 (HT5.out.txt.below ((Below.refl _ _).drew)) (by unfold Sized; omega) (by omega)
        have HSAY : Hid (∀ W' : World, Below w5.heap.size w5 W' → Calls Try.prog 10 #[.pointer (some ⟨q, 0, none⟩), .agg #[.slice ta rs.length tc, .int .i64 (rs.length : Nat), .int .i64 0, .int .u64 0], .agg #[.int .i64 0, .int .i64 0, .string ⟨#[]⟩, .int .u64 0, .int .i64 0, .int .u64 0, .int .i64 0, .int .i64 0, .int .i64 0]] W' fun e w' => e = .returned (.bool true) ∧ Below W'.heap.size W' w') := fun W' b => by
          have ho := HO5.out
          exact says_all W' q S5 D5 l5 d5 rs ta tc (ho.log.below b) ho.recs (by rw [ho.dp]; exact ho.disk.below b) ho.dead (HT5.out.txt.below b) ho.bytes (by omega) ho.fl ho.kept (by rw [ho.mark]; exact HDE.out.2.2.1)
        have k2 : (rs.length : Int) < (rs.length : Int) + 1 := by omega
        have q1 : IntKind.u64.wrap ((placeOf rs rs.length : Nat) - 1 : Int) = (placeOf rs rs.length : Nat) - 1 := by rw [IntKind.wrap_u64]; omega
        have q2 : IntKind.i64.wrap ((placeOf rs rs.length : Nat) - 1 : Int) = (placeOf rs rs.length : Nat) - 1 := by rw [IntKind.wrap_i64]; omega
        have q3 : IntKind.i64.wrap ((AL.size : Int) + (r.size : Int)) = (AL.size : Int) + (r.size : Int) := by rw [IntKind.wrap_i64]; omega
        have q4 : IntKind.i64.wrap ((AL.size : Int) + (r.size : Int) - ((placeOf rs rs.length : Nat) - 1)) = (AL.size : Int) + (r.size : Int) - ((placeOf rs rs.length : Nat) - 1) := by rw [IntKind.wrap_i64]; omega
        go_upto_region 25 with fail
        go_cut [172] from 141 to 171 (fun cv wx => cv = .bool false ∧ Below w5.heap.size w5 wx)
        case first =>
          refine wp_region_noPanic ?_
          refine wp_region_held_drew (S := (fun wy : World => wy.cell? ⟨mb, 0, none⟩ = some (.slice ta rs.length tc) ∧ wy.cell? ⟨mb, 1, none⟩ = some (.int .i64 (rs.length : Nat)) ∧ wy.cell? ⟨mb, 2, none⟩ = some (.int .i64 0) ∧ wy.cell? ⟨mb, 3, none⟩ = some (.int .u64 0))) wmixed ⟨x0, x1, x2, x3⟩ (fun hH => ?_)
          refine wpAnyH_take (i := 0) (v := (.pointer (some ⟨q, 0, none⟩))) (by simp only [List.getElem?_toArray, List.getElem?_cons_zero]; rfl) (by kernel_rfl) (by kernel_rfl) (by kernel_rfl) (fun _ _ _ h => h) (Or.inl ⟨by rfl, ?_⟩) hH ?_
          · intro wz hSw
            clear hSw
            go_simp
          try simp only [Act.put, List.setIfInBounds_toArray, List.set_cons_zero, List.set_cons_succ]
          refine wpAnyH_take (i := 1) (v := (.bool false)) (by simp only [List.getElem?_toArray, List.getElem?_cons_succ, List.getElem?_cons_zero]; rfl) (by kernel_rfl) (by kernel_rfl) (by kernel_rfl) (fun _ _ _ h => h) (Or.inl ⟨by rfl, ?_⟩) hH ?_
          · intro wz hSw
            clear hSw
            go_simp
          try simp only [Act.put, List.setIfInBounds_toArray, List.set_cons_zero, List.set_cons_succ]
          refine wpAnyH_take (i := 2) (v := (.bool false)) (by simp only [List.getElem?_toArray, List.getElem?_cons_succ, List.getElem?_cons_zero]; rfl) (by kernel_rfl) (by kernel_rfl) (by kernel_rfl) (fun _ _ _ h => h) (Or.inl ⟨by rfl, ?_⟩) hH ?_
          · intro wz hSw
            clear hSw
            go_simp
          try simp only [Act.put, List.setIfInBounds_toArray, List.set_cons_zero, List.set_cons_succ]
          refine wpAnyH_take (i := 3) (v := (.int .i64 0)) (by simp only [List.getElem?_toArray, List.getElem?_cons_succ, List.getElem?_cons_zero]; rfl) (by kernel_rfl) (by kernel_rfl) (by kernel_rfl) (fun _ _ _ h => h) (Or.inl ⟨by rfl, ?_⟩) hH ?_
          · intro wz hSw
            clear hSw
            go_simp
          try simp only [Act.put, List.setIfInBounds_toArray, List.set_cons_zero, List.set_cons_succ]
          refine wpAnyH_take (i := 4) (v := (.bool false)) (by simp only [List.getElem?_toArray, List.getElem?_cons_succ, List.getElem?_cons_zero]; rfl) (by kernel_rfl) (by kernel_rfl) (by kernel_rfl) (fun _ _ _ h => h) (Or.inl ⟨by rfl, ?_⟩) hH ?_
          · intro wz hSw
            clear hSw
            go_simp
          try simp only [Act.put, List.setIfInBounds_toArray, List.set_cons_zero, List.set_cons_succ]
          refine wpAnyH_take (i := 5) (v := (.bool false)) (by simp only [List.getElem?_toArray, List.getElem?_cons_succ, List.getElem?_cons_zero]; rfl) (by kernel_rfl) (by kernel_rfl) (by kernel_rfl) (fun _ _ _ h => h) (Or.inl ⟨by rfl, ?_⟩) hH ?_
          · intro wz hSw
            clear hSw
            go_simp
          try simp only [Act.put, List.setIfInBounds_toArray, List.set_cons_zero, List.set_cons_succ]
          refine wpAnyH_take (i := 6) (v := (.bool false)) (by simp only [List.getElem?_toArray, List.getElem?_cons_succ, List.getElem?_cons_zero]; rfl) (by kernel_rfl) (by kernel_rfl) (by kernel_rfl) (fun _ _ _ h => h) (Or.inl ⟨by rfl, ?_⟩) hH ?_
          · intro wz hSw
            clear hSw
            go_simp
          try simp only [Act.put, List.setIfInBounds_toArray, List.set_cons_zero, List.set_cons_succ]
          refine wpAnyH_take (i := 7) (v := (.int .i64 (tail.length : Int))) (by simp only [List.getElem?_toArray, List.getElem?_cons_succ, List.getElem?_cons_zero]; rfl) (by kernel_rfl) (by kernel_rfl) (by kernel_rfl) (fun _ _ _ h => h) (Or.inl ⟨by rfl, ?_⟩) hH ?_
          · intro wz hSw
            clear hSw
            go_simp
          try simp only [Act.put, List.setIfInBounds_toArray, List.set_cons_zero, List.set_cons_succ]
          refine wpAnyH_take (i := 8) (v := (.string AL)) (by simp only [List.getElem?_toArray, List.getElem?_cons_succ, List.getElem?_cons_zero]; rfl) (by kernel_rfl) (by kernel_rfl) (by kernel_rfl) (fun _ _ _ h => h) (Or.inl ⟨by rfl, ?_⟩) hH ?_
          · intro wz hSw
            clear hSw
            go_simp
          try simp only [Act.put, List.setIfInBounds_toArray, List.set_cons_zero, List.set_cons_succ]
          refine wpAnyH_take (i := 9) (v := (.int .i64 (AL.size : Int))) (by simp only [List.getElem?_toArray, List.getElem?_cons_succ, List.getElem?_cons_zero]; rfl) (by kernel_rfl) (by kernel_rfl) (by kernel_rfl) (fun _ _ _ h => h) (Or.inl ⟨by rfl, ?_⟩) hH ?_
          · intro wz hSw
            clear hSw
            go_simp
          try simp only [Act.put, List.setIfInBounds_toArray, List.set_cons_zero, List.set_cons_succ]
          refine wpAnyH_take (i := 10) (v := (.string r)) (by simp only [List.getElem?_toArray, List.getElem?_cons_succ, List.getElem?_cons_zero]; rfl) (by kernel_rfl) (by kernel_rfl) (by kernel_rfl) (fun _ _ _ h => h) (Or.inl ⟨by rfl, ?_⟩) hH ?_
          · intro wz hSw
            clear hSw
            go_simp
          try simp only [Act.put, List.setIfInBounds_toArray, List.set_cons_zero, List.set_cons_succ]
          refine wpAnyH_take (i := 11) (v := (.int .i64 (r.size : Int))) (by simp only [List.getElem?_toArray, List.getElem?_cons_succ, List.getElem?_cons_zero]; rfl) (by kernel_rfl) (by kernel_rfl) (by kernel_rfl) (fun _ _ _ h => h) (Or.inl ⟨by rfl, ?_⟩) hH ?_
          · intro wz hSw
            clear hSw
            go_simp
          try simp only [Act.put, List.setIfInBounds_toArray, List.set_cons_zero, List.set_cons_succ]
          refine wpAnyH_take (i := 12) (v := (.int .i64 ((AL.size : Int) + (r.size : Int)))) (by simp only [List.getElem?_toArray, List.getElem?_cons_succ, List.getElem?_cons_zero]; rfl) (by kernel_rfl) (by kernel_rfl) (by kernel_rfl) (fun _ _ _ h => h) (Or.inl ⟨by rfl, ?_⟩) hH ?_
          · intro wz hSw
            clear hSw
            go_simp
          try simp only [Act.put, List.setIfInBounds_toArray, List.set_cons_zero, List.set_cons_succ]
          refine wpAnyH_take (i := 13) (v := (.agg #[.slice ta rs.length tc, .int .i64 (rs.length : Nat), .int .i64 0, .int .u64 0])) (by simp only [List.getElem?_toArray, List.getElem?_cons_succ, List.getElem?_cons_zero]; rfl) (by kernel_rfl) (by kernel_rfl) (by kernel_rfl) (fun _ _ _ h => h) (Or.inl ⟨by rfl, ?_⟩) hH ?_
          · intro wz hSw
            obtain ⟨s0, s1, s2, s3⟩ := hSw
            go_simp
          try simp only [Act.put, List.setIfInBounds_toArray, List.set_cons_zero, List.set_cons_succ]
          refine wpAnyH_take (i := 15) (v := (.pointer (some ⟨mb, 0, none⟩))) (by simp only [List.getElem?_toArray, List.getElem?_cons_succ, List.getElem?_cons_zero]; rfl) (by kernel_rfl) (by kernel_rfl) (by kernel_rfl) (fun _ _ _ h => h) (Or.inl ⟨by rfl, ?_⟩) hH ?_
          · intro wz hSw
            clear hSw
            go_simp
          try simp only [Act.put, List.setIfInBounds_toArray, List.set_cons_zero, List.set_cons_succ]
          refine wpAnyH_take (i := 16) (v := (.slice ta rs.length tc)) (by simp only [List.getElem?_toArray, List.getElem?_cons_succ, List.getElem?_cons_zero]; rfl) (by kernel_rfl) (by kernel_rfl) (by kernel_rfl) (fun _ _ _ h => h) (Or.inl ⟨by rfl, ?_⟩) hH ?_
          · intro wz hSw
            obtain ⟨s0, s1, s2, s3⟩ := hSw
            go_simp
          try simp only [Act.put, List.setIfInBounds_toArray, List.set_cons_zero, List.set_cons_succ]
          refine wpAnyH_take (i := 17) (v := (.int .i64 (rs.length : Nat))) (by simp only [List.getElem?_toArray, List.getElem?_cons_succ, List.getElem?_cons_zero]; rfl) (by kernel_rfl) (by kernel_rfl) (by kernel_rfl) (fun _ _ _ h => h) (Or.inl ⟨by rfl, ?_⟩) hH ?_
          · intro wz hSw
            clear hSw
            go_simp
          try simp only [Act.put, List.setIfInBounds_toArray, List.set_cons_zero, List.set_cons_succ]
          refine wpAnyH_ready (rs := [14]) (by kernel_rfl) (by simp) ?_
          refine AllReadyH.cons (i := 14) (by simp only [List.getElem?_toArray, List.getElem?_cons_succ, List.getElem?_cons_zero]; rfl) (fun K hK => ?_) AllReadyH.nil
          go_simp
          refine HM.out.mono ?_
          rintro x w6 ⟨g, c, rfl, b6, hc6⟩
          have hr6 := hc6 rs.length (Nat.le_refl _)
          have HB6 := hid (below_chain ((Below.refl _ _).drew) b6)
          clear b6 hc6
          refine hK.out _ _ (HKEEP.out _ HB6.out) (fun hH6 => ?_)
          clear hK K hH
          try simp only [Act.put, List.setIfInBounds_toArray, List.set_cons_zero, List.set_cons_succ]
          refine wpAnyH_take (i := 18) (v := (.pointer (some ⟨g, rs.length, none⟩))) (by simp only [List.getElem?_toArray, List.getElem?_cons_succ, List.getElem?_cons_zero]; rfl) (by kernel_rfl) (by kernel_rfl) (by kernel_rfl) (fun _ _ _ h => h) (Or.inl ⟨by rfl, ?_⟩) hH6 ?_
          · intro wz hSw
            clear hSw
            go_simp
          try simp only [Act.put, List.setIfInBounds_toArray, List.set_cons_zero, List.set_cons_succ]
          refine wpAnyH_ready (rs := [19]) (by kernel_rfl) (by simp) ?_
          refine AllReadyH.cons (i := 19) (by simp only [List.getElem?_toArray, List.getElem?_cons_succ, List.getElem?_cons_zero]; rfl) (fun K hK => ?_) AllReadyH.nil
          go_simp
          refine hK.out _ _ (HKEEP.out _ HB6.out) (fun hH7 => ?_)
          clear hK K hH6
          try simp only [Act.put, List.setIfInBounds_toArray, List.set_cons_zero, List.set_cons_succ]
          refine wpAnyH_take (i := 20) (v := (.int .u64 (((placeOf rs rs.length : Nat) : Int) - 1))) (by simp only [List.getElem?_toArray, List.getElem?_cons_succ, List.getElem?_cons_zero]; rfl) (by kernel_rfl) (by kernel_rfl) (by kernel_rfl) (fun _ _ _ h => h) (Or.inl ⟨by rfl, ?_⟩) hH7 ?_
          · intro wz hSw
            clear hSw
            go_simp
          try simp only [Act.put, List.setIfInBounds_toArray, List.set_cons_zero, List.set_cons_succ]
          refine wpAnyH_take (i := 21) (v := (.int .i64 (((placeOf rs rs.length : Nat) : Int) - 1))) (by simp only [List.getElem?_toArray, List.getElem?_cons_succ, List.getElem?_cons_zero]; rfl) (by kernel_rfl) (by kernel_rfl) (by kernel_rfl) (fun _ _ _ h => h) (Or.inl ⟨by rfl, ?_⟩) hH7 ?_
          · intro wz hSw
            clear hSw
            go_simp
          try simp only [Act.put, List.setIfInBounds_toArray, List.set_cons_zero, List.set_cons_succ]
          refine wpAnyH_take (i := 22) (v := (.int .i64 ((AL.size : Int) + (r.size : Int) - (((placeOf rs rs.length : Nat) : Int) - 1)))) (by simp only [List.getElem?_toArray, List.getElem?_cons_succ, List.getElem?_cons_zero]; rfl) (by kernel_rfl) (by kernel_rfl) (by kernel_rfl) (fun _ _ _ h => h) (Or.inl ⟨by rfl, ?_⟩) hH7 ?_
          · intro wz hSw
            clear hSw
            go_simp
          try simp only [Act.put, List.setIfInBounds_toArray, List.set_cons_zero, List.set_cons_succ]
          refine wpAnyH_take (i := 23) (v := (.bool false)) (by simp only [List.getElem?_toArray, List.getElem?_cons_succ, List.getElem?_cons_zero]; rfl) (by kernel_rfl) (by kernel_rfl) (by kernel_rfl) (fun _ _ _ h => h) (Or.inl ⟨by rfl, ?_⟩) hH7 ?_
          · intro wz hSw
            clear hSw
            go_simp
          try simp only [Act.put, List.setIfInBounds_toArray, List.set_cons_zero, List.set_cons_succ]
          refine wpAnyH_take (i := 24) (v := (.bool false)) (by simp only [List.getElem?_toArray, List.getElem?_cons_succ, List.getElem?_cons_zero]; rfl) (by kernel_rfl) (by kernel_rfl) (by kernel_rfl) (fun _ _ _ h => h) (Or.inl ⟨by rfl, ?_⟩) hH7 ?_
          · intro wz hSw
            clear hSw
            go_simp
          try simp only [Act.put, List.setIfInBounds_toArray, List.set_cons_zero, List.set_cons_succ]
          refine wpAnyH_take (i := 25) (v := (.bool false)) (by simp only [List.getElem?_toArray, List.getElem?_cons_succ, List.getElem?_cons_zero]; rfl) (by kernel_rfl) (by kernel_rfl) (by kernel_rfl) (fun _ _ _ h => h) (Or.inl ⟨by rfl, ?_⟩) hH7 ?_
          · intro wz hSw
            clear hSw
            go_simp
          try simp only [Act.put, List.setIfInBounds_toArray, List.set_cons_zero, List.set_cons_succ]
          refine wpAnyH_take (i := 26) (v := (.pointer (some ⟨q, 0, none⟩))) (by simp only [List.getElem?_toArray, List.getElem?_cons_succ, List.getElem?_cons_zero]; rfl) (by kernel_rfl) (by kernel_rfl) (by kernel_rfl) (fun _ _ _ h => h) (Or.inl ⟨by rfl, ?_⟩) hH7 ?_
          · intro wz hSw
            clear hSw
            go_simp
          try simp only [Act.put, List.setIfInBounds_toArray, List.set_cons_zero, List.set_cons_succ]
          refine wpAnyH_take (i := 27) (v := (.agg #[.slice ta rs.length tc, .int .i64 (rs.length : Nat), .int .i64 0, .int .u64 0])) (by simp only [List.getElem?_toArray, List.getElem?_cons_succ, List.getElem?_cons_zero]; rfl) (by kernel_rfl) (by kernel_rfl) (by kernel_rfl) (fun _ _ _ h => h) (Or.inl ⟨by rfl, ?_⟩) hH7 ?_
          · intro wz hSw
            obtain ⟨s0, s1, s2, s3⟩ := hSw
            go_simp
          try simp only [Act.put, List.setIfInBounds_toArray, List.set_cons_zero, List.set_cons_succ]
          refine wpAnyH_take (i := 28) (v := (.agg #[.int .i64 0, .int .i64 0, .string ⟨#[]⟩, .int .u64 0, .int .i64 0, .int .u64 0, .int .i64 0, .int .i64 0, .int .i64 0])) (by simp only [List.getElem?_toArray, List.getElem?_cons_succ, List.getElem?_cons_zero]; rfl) (by kernel_rfl) (by kernel_rfl) (by kernel_rfl) (fun _ _ _ h => h) (Or.inl ⟨by rfl, ?_⟩) hH7 ?_
          · intro wz hSw
            clear hSw
            go_simp
          try simp only [Act.put, List.setIfInBounds_toArray, List.set_cons_zero, List.set_cons_succ]
          refine wpAnyH_ready (rs := [29]) (by kernel_rfl) (by simp) ?_
          refine AllReadyH.cons (i := 29) (by simp only [List.getElem?_toArray, List.getElem?_cons_succ, List.getElem?_cons_zero]; rfl) (fun K hK => ?_) AllReadyH.nil
          go_simp
          refine (HSAY.out _ HB6.out).mono ?_
          rintro x w7 ⟨rfl, b7⟩
          have HB7 := hid (below_chain HB6.out b7)
          clear b7
          refine hK.out _ _ (HKEEP.out _ HB7.out) (fun hH8 => ?_)
          clear hK K hH7
          try simp only [Act.put, List.setIfInBounds_toArray, List.set_cons_zero, List.set_cons_succ]
          refine wpAnyH_take (i := 30) (v := (.bool false)) (by simp only [List.getElem?_toArray, List.getElem?_cons_succ, List.getElem?_cons_zero]; rfl) (by kernel_rfl) (by kernel_rfl) (by kernel_rfl) (fun _ _ _ h => h) (Or.inl ⟨by rfl, ?_⟩) hH8 ?_
          · intro wz hSw
            clear hSw
            go_simp
          try simp only [Act.put, List.setIfInBounds_toArray, List.set_cons_zero, List.set_cons_succ]
          refine wpAnyH_take (i := 31) (v := (.bool false)) (by simp only [List.getElem?_toArray, List.getElem?_cons_succ, List.getElem?_cons_zero]; rfl) (by kernel_rfl) (by kernel_rfl) (by kernel_rfl) (fun _ _ _ h => h) (Or.inl ⟨by rfl, ?_⟩) hH8 ?_
          · intro wz hSw
            clear hSw
            go_simp
          try simp only [Act.put, List.setIfInBounds_toArray, List.set_cons_zero, List.set_cons_succ]
          refine wpAnyH_done (by kernel_rfl) ?_ _
          refine NoPanic.normal ?_
          go_wp2_with fail
          go_meet
          case rel => exact ⟨rfl, HB7.out⟩
        case rest =>
          obtain ⟨rfl, b7⟩ := hcut
          have HT7 := hid (HT5.out.below b7)
          have HD5 : Hid (d5.log = allL rs ++ [] ∧ d5.dead = false ∧ d5.plan = [] ∧ d5.mark = 0 ∧ d5.calls ≤ 12) := by
            have ho := HO5.out
            refine ⟨by rw [ho.all, List.append_nil], ho.dead, ho.plan, by rw [ho.mark]; exact HDE.out.2.2.1, ?_⟩
            have h1 := ho.calls
            have h2 := HDE.out.2.2.2
            omega
          clear HM HSAY HKEEP HT5 HO5 b7 x0 x1 x2 x3
          have HFZ : Hid (frameN ⟨d5.log.toArray⟩ (allL rs).length = 0) := frameN_end (by rw [bytes_size, HD5.out.1, List.append_nil]; omega)
          go_wp2_with fail
          refine (open_all HT7.out.disk HD5.out.2.1 HD5.out.2.2.1 (by have := HD5.out.2.2.2.2; omega) (by rw [HD5.out.1, List.append_nil]; omega) rs [] HD5.out.1 HT7.out.big HFZ.out).mono ?_
          rintro e w8 ⟨q8, rfl, D8, S8, d8, l8, ho8⟩
          have HO8 := hid ho8
          have HT8 := hid (HT7.out.moves ho8.disk ho8.mv)
          clear ho8 HT7
          have x0 : w8.cell? ⟨mb, 0, none⟩ = some (.slice ta rs.length tc) := HT8.out.mod.cell 0
          have x1 : w8.cell? ⟨mb, 1, none⟩ = some (.int .i64 (rs.length : Nat)) := HT8.out.mod.cell 1
          have x2 : w8.cell? ⟨mb, 2, none⟩ = some (.int .i64 0) := HT8.out.mod.cell 2
          have x3 : w8.cell? ⟨mb, 3, none⟩ = some (.int .u64 0) := HT8.out.mod.cell 3
          have HSAY : Hid (Calls Try.prog 10 #[.pointer (some ⟨q8, 0, none⟩), .agg #[.slice ta rs.length tc, .int .i64 (rs.length : Nat), .int .i64 0, .int .u64 0], .agg #[.int .i64 0, .int .i64 0, .string ⟨#[]⟩, .int .u64 0, .int .i64 0, .int .u64 0, .int .i64 0, .int .i64 0, .int .i64 0]] w8 fun e w' => e = .returned (.bool true) ∧ Below w8.heap.size w8 w') := by
            have ho := HO8.out
            exact says_all w8 q8 S8 D8 l8 d8 rs ta tc ho.log ho.recs (by rw [ho.dp]; exact ho.disk) ho.dead HT8.out.txt ho.bytes (by omega) ho.fl ho.kept (by rw [ho.mark]; exact HD5.out.2.2.2.1)
          go_wp2_with fail
          refine HSAY.out.mono ?_
          rintro e w9 ⟨rfl, b9⟩
          have HB9 := hid (below_chain HT8.out.bel b9)
          clear b9
          go_wp2
          go_ret
          exact ⟨rfl, HB9.out⟩

end Go.Proofs.Ytompofhdpkdbeaa
