/-
  Proved: for every list l of acts of bulk at most 1048576 the call RawBack(l) returns true, and the argument reads afterwards as it read before. The bound on the bulk is the given one.
-/
import Derived.Test.YtjfjijgdjlkhkaaRows
import Derived.Test.YtjfjijgdjlkhkaaAwakeWalk
import Derived.Test.YtjfjijgdjlkhkaaEnc
import Derived.Test.YtjfjijgdjlkhkaaNewReader
import Derived.Test.YtjfjijgdjlkhkaaSmall
import Derived.JoinedCond
import Derived.ChangeOld
import Derived.SizedLaws
namespace Go.Proofs.Ytjfjijgdjlkhkaa.LawBack
open Go.ChangeShapes Go.WideShapes Go.ChangeAt Go.RowKit
set_option linter.unusedVariables false

theorem bool_nat (x : Nat) : (((x : Int) % 2 == 1).toNat) = x % 2 := by
  by_cases h : x % 2 = 1
  · have : ((x : Int) % 2 == 1) = true := by rw [beq_iff_eq]; omega
    rw [this, h]; rfl
  · have : ((x : Int) % 2 == 1) = false := by rw [beq_eq_false_iff_ne]; omega
    rw [this]; show 0 = _; omega

set_option maxHeartbeats 1600000 in
theorem walk (a : Option Addr) (len cap : Nat) (A : Nat → ActV) (w : World) (hA : IsActs w a len A) (hlen : len ≤ 1048576) (hsum : sumS A len ≤ 1048576) :
    Calls Try.prog 8 #[.slice a len cap] w fun e w' => e = .returned (.bool true) ∧ Below w.heap.size w w' := by
  obtain ⟨_, hA⟩ := hA
  go_enter Try.func8, Try.ntmps8
  go_wp2_with fail
  refine (new_writer _).mono ?_
  rintro x w1 ⟨rfl, h1, b1⟩
  go_wp2
  go_loopw [4] (fun i wr => ∃ (k : Nat) (x : Option Addr) (y : Nat), k ≤ len ∧ i = .int .i64 k ∧ IsWriter wr w.heap.size (encL A k) x y ∧ Below w.heap.size w wr) (fun i _ => len - (intOf i).toNat)
  case atStart => exact ⟨0, none, 0, Nat.zero_le _, rfl, h1, b1⟩
  case round =>
    obtain ⟨k, x, y, hk, rfl, hw, hb⟩ := hrel
    have hel := encL_len A k
    have hsk := sumS_mono A hk
    by_cases hlt : k < len
    · rcases hA with hA | ⟨b, o, rfl, hbw, hA⟩
      · omega
      · obtain ⟨a0, a1, a2, a3, hn, hx, hS⟩ := hA k hlt
        have d0 := (hb.cell (p := ⟨b, o + k * 4, none⟩) hbw).trans a0
        have d2 := (hb.cell (p := ⟨b, o + k * 4 + 2, none⟩) hbw).trans a2
        have d3 := (hb.cell (p := ⟨b, o + k * 4 + 3, none⟩) hbw).trans a3
        clear a0 a1 a2 a3
        have hSS := sumS_at A hlt
        have HE : Hid (encL A (k + 1) = encL A k ++ encB (A k)) := rfl
        have hk0 : (0 : Int) ≤ (k : Int) := by omega
        have hk1 : (k : Int) < (len : Int) := by omega
        generalize A k = v at *
        by_cases h0 : v.kind = 0
        · have HB : Hid (encB v = putL v.x 8) := by show _ = _; unfold encB; rw [if_pos h0]
          rw [h0] at d0
          clear h0
          go_wp2_with fail
          refine (wnumber_any hw v.x 8 hx (by omega)).mono ?_
          rintro z w3 ⟨rfl, ⟨x', y', h3⟩, b3⟩
          go_wp2
          go_roundw
          case rel => exact ⟨k + 1, x', y', by omega, by go_num, by rw [HE.out, HB.out]; exact h3, hb.trans b3⟩
          case measure => simp [intOf]; omega
        · by_cases h1' : v.kind = 1
          · have HB : Hid (encB v = textB v.S) := by show _ = _; unfold encB; rw [if_neg h0, if_pos h1']
            rw [h1'] at d0
            clear h0 h1'
            go_wp2_with fail
            refine (wtext_any hw v.S (by omega) (by omega)).mono ?_
            rintro z w3 ⟨rfl, ⟨x', y', h3⟩, b3⟩
            go_wp2
            go_roundw
            case rel => exact ⟨k + 1, x', y', by omega, by go_num, by rw [HE.out, HB.out]; exact h3, hb.trans b3⟩
            case measure => simp [intOf]; omega
          · have HB : Hid (encB v = putL (v.x % 2) 1) := by show _ = _; unfold encB; rw [if_neg h0, if_neg h1']
            have k0 : (v.kind == 0) = false := by rw [beq_eq_false_iff_ne]; exact h0
            have k1 : (v.kind == 1) = false := by rw [beq_eq_false_iff_ne]; exact h1'
            clear h0 h1'
            have HN : Hid (((v.x : Int) % 2 == 1).toNat = v.x % 2) := bool_nat v.x
            go_wp2_with fail
            refine (wbool_any hw ((v.x : Int) % 2 == 1) (by omega)).mono ?_
            rintro z w3 ⟨rfl, ⟨x', y', h3⟩, b3⟩
            go_wp2
            go_roundw
            case rel => exact ⟨k + 1, x', y', by omega, by go_num, by rw [HE.out, HB.out, ← HN.out]; exact h3, hb.trans b3⟩
            case measure => simp [intOf]; omega
    · obtain rfl : k = len := by omega
      clear b1 h1
      go_wp2_with fail
      refine (wall_any hw).mono ?_
      rintro z w3 ⟨rfl, rfl⟩
      go_wp2_with fail
      refine (new_reader _ _).mono ?_
      rintro z w4 ⟨rfl, rfl⟩
      have hsz : (ByteArray.mk (encL A k).toArray).size ≤ 140737488351232 := by rw [bytes_size]; omega
      have hs : Hid ((ByteArray.mk (encL A k).toArray).data.toList = encL A k) := by show _ = _; simp
      have hss : Hid ((ByteArray.mk (encL A k).toArray).size = (encL A k).length) := bytes_size _
      have h4 := reader_new (w := w3) (t := 65) hsz (Below.refl _ _)
      have b4 := hb.alloc hb.size (.cells #[.string ⟨(encL A k).toArray⟩, .int .i64 0, .int .i64 0] 65)
      have z4 : w.heap.size ≤ w3.heap.size := hb.size
      clear hw hb
      generalize (ByteArray.mk (encL A k).toArray) = s at *
      go_wp2
      go_loopw [6] (fun i wr => ∃ (j : Nat), j ≤ k ∧ i = .int .i64 j ∧ IsReader wr w3.heap.size s (encL A j).length 0 ∧ Below w.heap.size w wr) (fun i _ => k - (intOf i).toNat)
      case atStart => exact ⟨0, Nat.zero_le _, rfl, h4, b4⟩
      case round =>
        obtain ⟨j, hj, rfl, hr, hb⟩ := hrel
        by_cases hlt : j < k
        · rcases hA with hA | ⟨b, o, rfl, hbw, hA⟩
          · omega
          · obtain ⟨a0, a1, a2, a3, hn, hx, hS⟩ := hA j hlt
            have d0 := (hb.cell (p := ⟨b, o + j * 4, none⟩) hbw).trans a0
            have d2 := (hb.cell (p := ⟨b, o + j * 4 + 2, none⟩) hbw).trans a2
            have d3 := (hb.cell (p := ⟨b, o + j * 4 + 3, none⟩) hbw).trans a3
            clear a0 a1 a2 a3
            obtain ⟨post, hpost⟩ := encL_split A hlt
            have Hp : Hid (s.data.toList = encL A j ++ (encB (A j) ++ post)) := by show _ = _; rw [hs.out, hpost]
            clear hpost
            have HE : Hid (encL A (j + 1) = encL A j ++ encB (A j)) := rfl
            have hk0 : (0 : Int) ≤ (j : Int) := by omega
            have hk1 : (j : Int) < (k : Int) := by omega
            generalize A j = v at *
            by_cases h0 : v.kind = 0
            · have hB : encB v = putL v.x 8 := by unfold encB; rw [if_pos h0]
              have hl1 : (encL A (j + 1)).length = (encL A j).length + 8 := by rw [HE.out, hB, List.length_append, putL_length]
              have hF := num_back (x := v.x) (by rw [← hB]; exact Hp.out) hx
              have hN := number_any (hr.drewN 1) 8
              rw [hF] at hN
              rw [← hl1] at hN
              have HN : Hid (Calls Try.prog 31 #[.pointer (some ⟨w3.heap.size, 0, none⟩), .int .i64 8] wr.drew fun x w' => x = .returned (.int .u64 v.x) ∧ IsReader w' w3.heap.size s (encL A (j + 1)).length 0 ∧ Only w3.heap.size wr.drew w') := hN
              rw [h0] at d0
              clear h0 hB hl1 hF hN
              go_wp2_with fail
              go_region_held3 (fun w' => w'.cell? ⟨b, o + j * 4 + 2, none⟩ = some (.int .u64 v.x)) (first | go_keep | exact (o5.cell (p := ⟨b, o + j * 4 + 2, none⟩) (by show b < _; exact Nat.lt_of_lt_of_le hbw hb.size) (by show b ≠ _; omega)).trans d2)
                (first | (go_at_call 31; refine HN.out.mono ?_; rintro y w5 ⟨rfl, h5, o5⟩))
              go_wp2
              go_roundw
              case rel => exact ⟨j + 1, by omega, by go_num, h5, o5.below hb.drew z4 (Nat.le_refl _)⟩
              case measure => simp [intOf]; omega
            · by_cases h1' : v.kind = 1
              · have hB : encB v = textB v.S := by unfold encB; rw [if_neg h0, if_pos h1']
                by_cases hz : v.S.size ≤ 65535
                · have hT : textB v.S = putL v.S.size 2 ++ v.S.data.toList := by unfold textB; rw [if_pos hz]
                  have hl1 : (encL A (j + 1)).length = (encL A j).length + (2 + v.S.size) := by rw [HE.out, hB, hT, List.length_append, List.length_append, putL_length]; simp
                  have hF := text_back (S := v.S) (by rw [← hT, ← hB]; exact Hp.out) hz
                  have hN := rtext_any (hr.drewN 1) 65535
                  rw [hF] at hN
                  rw [← hl1] at hN
                  have HN : Hid (Calls Try.prog 33 #[.pointer (some ⟨w3.heap.size, 0, none⟩), .int .i64 65535] wr.drew fun x w' => x = .returned (.string v.S) ∧ IsReader w' w3.heap.size s (encL A (j + 1)).length 0 ∧ Only w3.heap.size wr.drew w') := by
                    show Calls _ _ _ _ _
                    rw [← bytes_self v.S]; exact hN
                  have hz1 : decide ((65535 : Int) < (v.S.size : Int)) = false := by simp; omega
                  rw [h1'] at d0
                  clear h0 h1' hB hl1 hF hN hT
                  go_wp2_with fail
                  go_region_held3 (fun w' => w'.cell? ⟨b, o + j * 4 + 3, none⟩ = some (.string v.S)) (first | go_keep | exact (o5.cell (p := ⟨b, o + j * 4 + 3, none⟩) (by show b < _; exact Nat.lt_of_lt_of_le hbw hb.size) (by show b ≠ _; omega)).trans d3)
                    (first | (go_at_call 33; refine HN.out.mono ?_; rintro y w5 ⟨rfl, h5, o5⟩))
                  go_wp2
                  go_roundw
                  case rel => exact ⟨j + 1, by omega, by go_num, h5, o5.below hb.drew z4 (Nat.le_refl _)⟩
                  case measure => simp [intOf]; omega
                · have hT : textB v.S = [] := by unfold textB; rw [if_neg hz]
                  have hl1 : encL A (j + 1) = encL A j := by rw [HE.out, hB, hT, List.append_nil]
                  have Hl : Hid (encL A (j + 1) = encL A j) := hl1
                  have hz1 : decide ((65535 : Int) < (v.S.size : Int)) = true := by simp; omega
                  rw [h1'] at d0
                  clear h0 h1' hB hl1 hT
                  go_wp2_with fail
                  go_quiet (fail)
                  go_wp2
                  go_roundw
                  case rel => exact ⟨j + 1, by omega, by go_num, by rw [Hl.out]; exact hr.drewN nq, below_drewN hb nq⟩
                  case measure => simp [intOf]; omega
              · have hB : encB v = putL (v.x % 2) 1 := by unfold encB; rw [if_neg h0, if_neg h1']
                have hl1 : (encL A (j + 1)).length = (encL A j).length + 1 := by rw [HE.out, hB, List.length_append, putL_length]
                have hF := bool_back (x := v.x) (by rw [← hB]; exact Hp.out)
                have hN := bool_any (hr.drewN 1)
                rw [hF] at hN
                rw [← hl1] at hN
                have hbx : (v.x % 2 == 1) = ((v.x : Int) % 2 == 1) := by rw [Bool.eq_iff_iff]; simp; omega
                rw [hbx] at hN
                obtain ⟨q, hq⟩ : ∃ q : Bool, ((v.x : Int) % 2 == 1) = q := ⟨_, rfl⟩
                rw [hq] at hN
                have hq2 : ((v.x : Int).tmod 2 == 1) = q := by rw [← hq, Int.tmod_eq_emod_of_nonneg (by omega)]
                have HN : Hid (Calls Try.prog 34 #[.pointer (some ⟨w3.heap.size, 0, none⟩)] wr.drew fun x w' => x = .returned (.bool q) ∧ IsReader w' w3.heap.size s (encL A (j + 1)).length 0 ∧ Only w3.heap.size wr.drew w') := hN
                have k0 : (v.kind == 0) = false := by rw [beq_eq_false_iff_ne]; exact h0
                have k1 : (v.kind == 1) = false := by rw [beq_eq_false_iff_ne]; exact h1'
                clear h0 h1' hB hl1 hF hN hbx
                go_wp2_with fail
                go_region_held3 (fun w' => w'.cell? ⟨b, o + j * 4 + 2, none⟩ = some (.int .u64 v.x)) (first | go_keep | exact (o5.cell (p := ⟨b, o + j * 4 + 2, none⟩) (by show b < _; exact Nat.lt_of_lt_of_le hbw hb.size) (by show b ≠ _; omega)).trans d2)
                  (first | (go_at_call 34; refine HN.out.mono ?_; rintro y w5 ⟨rfl, h5, o5⟩))
                go_wp2
                go_roundw
                case rel => exact ⟨j + 1, by omega, by go_num, h5, o5.below hb.drew z4 (Nat.le_refl _)⟩
                case measure => simp [intOf]; omega
        · obtain rfl : j = k := by omega
          have hE : endE s (encL A j).length 0 = 0 := by unfold endE; rw [if_neg (by rw [hss.out]; omega)]
          go_wp2_with fail
          refine (awake_any _).mono ?_
          rintro z w5 ⟨rfl, b5⟩
          have h5 := hr.below b5
          have b5' := below_chain hb b5
          have hend := end_any h5
          rw [hE] at hend
          have HEND : Hid (Calls Try.prog 35 #[.pointer (some ⟨w3.heap.size, 0, none⟩)] w5 fun x w' => x = .returned (.int .i64 0) ∧ IsReader w' w3.heap.size s (encL A j).length 0 ∧ Only w3.heap.size w5 w') := hend
          clear hend b5 hE
          go_wp2_with fail
          refine HEND.out.mono ?_
          rintro z w6 ⟨rfl, h6, o6⟩
          have hleft := left_any h6
          rw [hss.out, show ((encL A j).length : Int) - ((encL A j).length : Int) = 0 from by omega] at hleft
          have HL : Hid (Calls Try.prog 22 #[.pointer (some ⟨w3.heap.size, 0, none⟩)] w6 fun x w' => x = .returned (.int .i64 0) ∧ ∃ n, w' = w6.drewN n) := hleft
          clear hleft
          go_wp2_with fail
          refine HL.out.mono ?_
          rintro z w7 ⟨rfl, n7, rfl⟩
          go_wp2
          go_ret
          exact ⟨rfl, below_drewN (o6.below b5' z4 (Nat.le_refl _)) n7⟩

theorem own : ownKnob Try.prog.godebug = none := by kernel_rfl
theorem laidOut : laidOutB Try.prog = true := by kernel_rfl

theorem contract (H : Type) (enc : TypeId × Value → H) (W : World) (base : Nat) (args : Array Value) (ds gs : List (DataW H)) (before : List MemPlace)
    (hval0 : ∀ (j : Nat) t v, Try.f8.params[j]? = some t → args[j]? = some v → Value.okWide Try.prog W .any base t v)
    (hW : DataW.Whole enc Try.prog Try.f8.params.toList Rows.rawBackSpec.vars false W args.toList ds gs before) (hk : Rows.uptoSmall H (ds ++ gs) = true) :
    Calls Try.prog 8 args W fun e W' => ∃ v, e = .returned v ∧ Rows.rawBackSpec.post enc Try.prog Try.f8 false true false false W args v W' := by
  have hval : ∀ (j : Nat) t v, Try.f8.params[j]? = some t → args[j]? = some v → Value.okWide Try.prog W .any base t v := hval0
  have hW' := hW
  obtain ⟨p, q, hA0, hV, rfl, hfz, hnd⟩ := hW
  have hA : DataW.TrodAll enc Try.prog W 0 (fun _ => true) true Try.f8.params.toList args.toList ds p := hA0
  rw [Try.params8] at hA hval
  obtain ⟨v0, d0, rfl, rfl, h0⟩ := trodAll_one hA
  obtain ⟨rfl, rfl⟩ := trodVars_none hV
  obtain ⟨a, len, cap, rfl⟩ := okWide_slice Try.underlying37 (hval 0 37 v0 rfl rfl)
  have k0 := h0
  have lt0 : ∀ x ∈ p, x.block < W.heap.size := by obtain ⟨m, hm⟩ := k0; exact DataW.trod_lt m _ _ _ hm
  obtain ⟨A, hacts, hd⟩ := open_acts h0
  obtain ⟨r1, r2⟩ := acts_small hd hk
  clear hA0 hval0
  refine (walk a len cap A W hacts r1 r2).mono fun e W' ⟨he, bel⟩ => ?_
  subst he
  exact ⟨_, rfl, _, _, _, [], _, [], hW', trodAll_mk1 (shut_bool Try.underlying4 _), trodAll_mk1 (Below.trod laidOut (by kernel_rfl) (of_decide_eq_true (by kernel_rfl)) k0 bel lt0), rfl, bel.frame _, fun h => by cases h⟩

set_option maxRecDepth 100000 in
theorem lifted (os : Os) (started : os.Started) (H : Type) (enc : TypeId × Value → H) (F : Stop.Interp) :
    ReturnsInHanded {} Try.checked os 8 .any ((Rows.OpenSpec.upto Rows.rawBackSpec).pre6 enc Try.prog Try.f8 Rows.rawBackUptoRow.domain false) (((Rows.OpenSpec.upto Rows.rawBackSpec).at F).post enc Try.prog Try.f8 false true false false) := by
  refine returnsInHanded_of_cond (C := Try.checked) (s := Rows.OpenSpec.upto Rows.rawBackSpec) (k := Rows.uptoSmall) rfl own started (by kernel_rfl) Try.func8
    (OpenSpec.witness (enc := enc) (C := Try.checked) (s := Rows.OpenSpec.upto Rows.rawBackSpec) (k := Rows.uptoSmall) rfl false ⟨#[], #[.slice none 0 0], []⟩ 8 (by kernel_rfl) (by kernel_rfl) (by kernel_rfl)
      (x := ([.nil], [], [])) (by kernel_rfl) rfl (by kernel_rfl)) ?_
  intro W base args ds gs before hval hW _ hk _
  exact contract H enc W base args ds gs before hval hW hk

theorem over : Rows.rawBackUptoRow.holds Try.pinned (Rows.OpenSpec.upto Rows.rawBackSpec) :=
  OpenClaim.holds_of_cond 8 Try.f8 rfl rfl rfl rfl rfl rfl rfl ⟨rfl, rfl, rfl, rfl, rfl⟩ rfl rfl rfl rfl rfl (by kernel_rfl) Try.func8 (by kernel_rfl)
    (of_decide_eq_true (by kernel_rfl)) (by unfold Func.isWrapper; first | (rw [if_pos (by decide +kernel)]; kernel_rfl) | (rw [if_neg (by decide +kernel)]; exact ⟨rfl, rfl⟩))
    (fun os started H enc _ F => lifted os started H enc F)

end Go.Proofs.Ytjfjijgdjlkhkaa.LawBack

namespace Go.Proofs.Ytjfjijgdjlkhkaa
theorem rawBack_upto : Rows.RawBackUptoSaid := LawBack.over
#print axioms rawBack_upto
end Go.Proofs.Ytjfjijgdjlkhkaa
