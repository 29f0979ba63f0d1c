/-
  Proved: for every list l of acts of bulk at most 1048576 the call RawWrites(l) returns true, and the argument reads afterwards as it read before. The bound on the bulk is the given one.
-/
import Derived.Test.YtjfjijgdjlkhkaaRows
import Derived.Test.YtjfjijgdjlkhkaaAwakeWalk
import Derived.Test.YtjfjijgdjlkhkaaEnc
import Derived.Test.YtjfjijgdjlkhkaaSmall
import Derived.Test.YtjfjijgdjlkhkaaNilWalks
import Derived.JoinedCond
import Derived.ChangeOld
import Derived.Deep.RegionHeld3
namespace Go.Proofs.Ytjfjijgdjlkhkaa.LawWrites
open Go.ChangeShapes Go.WideShapes Go.ChangeAt Go.RowKit
set_option linter.unusedVariables false

/-- The bytes of one act of RawWrites. -/
def wrB (v : ActV) : List UInt8 := if v.kind = 0 then putL v.x (longOf v.n) else if v.kind = 1 then v.S.data.toList else if v.kind = 2 then textB v.S else putL (v.x % 2) 1

/-- The bytes of the first k acts. -/
def wrL (A : Nat → ActV) : Nat → List UInt8
  | 0 => []
  | k + 1 => wrL A k ++ wrB (A k)

theorem wrB_len (v : ActV) : (wrB v).length ≤ 10 + v.S.size := by
  unfold wrB
  split
  · rw [putL_length]; unfold longOf; omega
  · split
    · simp
    · split
      · have := textB_len v.S; omega
      · rw [putL_length]; omega

theorem wrL_len (A : Nat → ActV) (k : Nat) : (wrL A k).length ≤ 10 * k + sumS A k := by
  induction k with
  | zero => simp [wrL]
  | succ k ih =>
    have := wrB_len (A k)
    simp only [wrL, sumS, List.length_append]; omega

theorem bool_nat (x : Nat) : (((x : Int) % 2 == 1).toNat) = x % 2 := by
  by_cases h : x % 2 = 1
  · have : ((x : Int) % 2 == 1) = true := by rw [beq_iff_eq]; omega
    rw [this, h]; rfl
  · have : ((x : Int) % 2 == 1) = false := by rw [beq_eq_false_iff_ne]; omega
    rw [this]; show 0 = _; omega

theorem toList_add (a b : ByteArray) : (a ++ b).data.toList = a.data.toList ++ b.data.toList := by simp

/-- What the document's Put is, its answer under a name. -/
theorem rput_named (n : Nat) (x : Int) (hn : n < 18446744073709551616) : ∃ U : ByteArray, U.size ≤ 8 ∧ U.data.toList = putL n (longOf x) ∧
    Hid (∀ w, Calls Try.prog 16 #[.int .u64 n, .int .i64 x] w fun e w' => e = .returned (.string U) ∧ Below w.heap.size w w') :=
  ⟨⟨(putL n (longOf x)).toArray⟩, by rw [bytes_size, putL_length]; unfold longOf; omega, by simp, fun w => rput_any n x w hn⟩

theorem rput_mod (x : Nat) : ∃ U : ByteArray, U.size ≤ 8 ∧ U.data.toList = putL (x % 2) 1 ∧
    Hid (∀ w, Calls Try.prog 16 #[.int .u64 ((x : Int) % 2), .int .i64 1] w fun e w' => e = .returned (.string U) ∧ Below w.heap.size w w') := by
  obtain ⟨U, h1, h2, h3⟩ := rput_named (x % 2) 1 (by omega)
  refine ⟨U, h1, h2, fun w => ?_⟩
  have := h3.out w
  rw [show ((x % 2 : Nat) : Int) = (x : Int) % 2 from by omega] at this
  exact this

theorem len_named {w : World} {b : Nat} {l : List UInt8} {a : Option Addr} {c : Nat} (h : IsWriter w b l a c) {T : ByteArray} (hT : T.data.toList = l) :
    Hid (Calls Try.prog 28 #[.pointer (some ⟨b, 0, none⟩)] w fun y w' => y = .returned (.int .i64 T.size) ∧ w' = w) := by
  have := wlen_any h
  rw [← hT, show T.data.toList.length = T.size from by simp] at this
  exact this

theorem all_named {w : World} {b : Nat} {l : List UInt8} {a : Option Addr} {c : Nat} (h : IsWriter w b l a c) {T : ByteArray} (hT : T.data.toList = l) :
    Hid (Calls Try.prog 30 #[.pointer (some ⟨b, 0, none⟩)] w fun y w' => y = .returned (.string T) ∧ w' = w) := by
  have := wall_any h
  rw [← hT, bytes_self] at this
  exact this

set_option maxRecDepth 100000 in
set_option maxHeartbeats 3200000 in
theorem walk (a : Option Addr) (len cap : Nat) (A : Nat → ActV) (w : World) (hA : IsActs w a len A) (hlen : len ≤ 1048576) (hsum : sumS A len ≤ 1048576) :
    Calls Try.prog 6 #[.slice a len cap] w fun e w' => e = .returned (.bool true) ∧ Below w.heap.size w w' := by
  obtain ⟨_, hA⟩ := hA
  go_enter Try.func6, Try.ntmps6
  go_wp2_with fail
  refine (new_writer _).mono ?_
  rintro x w1 ⟨rfl, h1, b1⟩
  go_wp2_with fail
  refine (awake_any _).mono ?_
  rintro x w2 ⟨rfl, b2⟩
  have h2 := h1.below b2
  replace b2 := below_chain b1 b2
  clear h1 b1
  go_wp2
  go_loopw [6, 7] (fun s i wr => ∃ (k : Nat) (T : ByteArray) (x : Option Addr) (y : Nat), k ≤ len ∧ i = .int .i64 k ∧ s = .string T ∧ Hid (T.data.toList = wrL A k) ∧ IsWriter wr w.heap.size (wrL A k) x y ∧ Below w.heap.size w wr) (fun _ i _ => len - (intOf i).toNat)
  case atStart => exact ⟨0, ⟨#[]⟩, none, 0, Nat.zero_le _, rfl, rfl, rfl, h2, b2⟩
  case round =>
    obtain ⟨k, T, x, y, hk, rfl, rfl, hT, hw, hb⟩ := hrel
    have hel := wrL_len A k
    have hsk := sumS_mono A hk
    have hTs : T.size = (wrL A k).length := by rw [← hT.out]; simp
    have hTz : T.size ≤ 11534336 := by omega
    clear hTs
    by_cases hlt : k < len
    · rcases hA with hA | ⟨b, o, rfl, hbw, hA⟩
      · omega
      · obtain ⟨a0, a1, a2, a3, hn, hx, hS⟩ := hA k hlt
        have d0 := (hb.cell (p := ⟨b, o + k * 4, none⟩) hbw).trans a0
        have d1 := (hb.cell (p := ⟨b, o + k * 4 + 1, none⟩) hbw).trans a1
        have d2 := (hb.cell (p := ⟨b, o + k * 4 + 2, none⟩) hbw).trans a2
        have d3 := (hb.cell (p := ⟨b, o + k * 4 + 3, none⟩) hbw).trans a3
        have hSS := sumS_at A hlt
        have HE : Hid (wrL A (k + 1) = wrL A k ++ wrB (A k)) := rfl
        have hk0 : (0 : Int) ≤ (k : Int) := by omega
        have hk1 : (k : Int) < (len : Int) := by omega
        have e1 := fun (W5 : World) (h : Below w.heap.size w W5) => (h.cell (p := ⟨b, o + k * 4 + 1, none⟩) hbw).trans a1
        have e2 := fun (W5 : World) (h : Below w.heap.size w W5) => (h.cell (p := ⟨b, o + k * 4 + 2, none⟩) hbw).trans a2
        have e3 := fun (W5 : World) (h : Below w.heap.size w W5) => (h.cell (p := ⟨b, o + k * 4 + 3, none⟩) hbw).trans a3
        clear a0 a1 a2 a3
        generalize A k = v at *
        have E1 : Hid (∀ W5 : World, Below w.heap.size w W5 → W5.cell? ⟨b, o + k * 4 + 1, none⟩ = some (.int .i64 v.n)) := e1
        have E2 : Hid (∀ W5 : World, Below w.heap.size w W5 → W5.cell? ⟨b, o + k * 4 + 2, none⟩ = some (.int .u64 v.x)) := e2
        have E3 : Hid (∀ W5 : World, Below w.heap.size w W5 → W5.cell? ⟨b, o + k * 4 + 3, none⟩ = some (.string v.S)) := e3
        clear e1 e2 e3
        by_cases h0 : v.kind = 0
        · have HB : Hid (wrB v = putL v.x (longOf v.n)) := by show _ = _; unfold wrB; rw [if_pos h0]
          rw [h0] at d0
          clear h0
          obtain ⟨U, hU8, hUl, HU⟩ := rput_named v.x v.n hx
          have HUl : Hid (U.data.toList = putL v.x (longOf v.n)) := hUl
          clear hUl
          have hadd : ¬ (9223372036854775807 < T.size + U.size) := by omega
          have hwd : IsWriter wr.drew w.heap.size (wrL A k) x y := hw.below ((Below.refl _ _).drew)
          have hbd : Below w.heap.size w wr.drew := hb.drew
          go_wp2_with fail
          go_region_held3 (fun w' => w'.cell? ⟨b, o + k * 4 + 1, none⟩ = some (.int .i64 v.n) ∧ w'.cell? ⟨b, o + k * 4 + 2, none⟩ = some (.int .u64 v.x)) (first | go_keep | exact ⟨E1.out _ (hbd.trans b5), E2.out _ (hbd.trans b5)⟩)
            (first | (go_at_call 24; refine (wnumber_any hwd v.x v.n hx (by omega)).mono ?_; rintro z w5 ⟨rfl, ⟨x5, y5, h5⟩, b5⟩))
          replace b5 := hbd.trans b5
          clear hwd hbd hw hb d0 d1 d2 d3
          have f1 := E1.out _ b5
          have f2 := E2.out _ b5
          go_wp2_with fail
          go_region_held3 (fun w' => w'.cell? ⟨b, o + k * 4 + 1, none⟩ = some (.int .i64 v.n) ∧ w'.cell? ⟨b, o + k * 4 + 2, none⟩ = some (.int .u64 v.x)) (first | go_keep | exact ⟨E1.out _ (below_chain b5.drew b6), E2.out _ (below_chain b5.drew b6)⟩)
            (first | (go_at_call 16; refine (HU.out _).mono ?_; rintro z w6 ⟨rfl, b6⟩))
          have h6 := (h5.below ((Below.refl _ _).drew)).below b6
          have b7 := below_chain b5.drew b6
          have HT : Hid ((T ++ U).data.toList = wrL A (k + 1)) := by show _ = _; rw [toList_add, hT.out, HUl.out, HE.out, HB.out]
          rw [← HB.out, ← HE.out] at h6
          clear h5 b5 b6 f1 f2
          go_wp2_with fail
          refine (len_named h6 HT.out).out.mono ?_
          rintro z w9 ⟨rfl, rfl⟩
          go_wp2
          go_roundw
          case rel => exact ⟨k + 1, T ++ U, _, _, by omega, by go_num, rfl, HT, h6, b7⟩
          case measure => simp [intOf]; omega
        · by_cases h1 : v.kind = 1
          · have HB : Hid (wrB v = v.S.data.toList) := by show _ = _; unfold wrB; rw [if_neg h0, if_pos h1]
            rw [h1] at d0
            clear h0 h1
            have hSz : v.S.size ≤ 1048576 := by omega
            go_wp2_with fail
            refine (wbytes_any hw v.S (by omega)).mono ?_
            rintro z w5 ⟨rfl, ⟨x5, y5, h6⟩, b5⟩
            have b7 := hb.trans b5
            have f3 := E3.out _ b7
            have HT : Hid ((T ++ v.S).data.toList = wrL A (k + 1)) := by show _ = _; rw [toList_add, hT.out, HE.out, HB.out]
            rw [← HB.out, ← HE.out] at h6
            clear hw hb b5 d0 d1 d2 d3
            go_wp2_with fail
            refine (len_named h6 HT.out).out.mono ?_
            rintro z w9 ⟨rfl, rfl⟩
            go_wp2
            go_roundw
            case rel => exact ⟨k + 1, T ++ v.S, _, _, by omega, by go_num, rfl, HT, h6, b7⟩
            case measure => simp [intOf]; omega
          · by_cases h2 : v.kind = 2
            · have hB : wrB v = textB v.S := by unfold wrB; rw [if_neg h0, if_neg h1, if_pos h2]
              have hSz : v.S.size ≤ 1048576 := by omega
              have hx2 := wtext_any hw v.S (by omega) (by omega)
              rw [h2] at d0
              clear h0 h1 h2
              by_cases hz : v.S.size ≤ 65535
              · have hte : textE v.S = 0 := by unfold textE; rw [if_pos hz]
                have htb : textB v.S = putL v.S.size 2 ++ v.S.data.toList := by unfold textB; rw [if_pos hz]
                have hz1 : decide ((v.S.size : Int) ≤ 65535) = true := by simp; omega
                rw [hte] at hx2
                have HX : Hid (Calls Try.prog 26 #[.pointer (some ⟨w.heap.size, 0, none⟩), .string v.S] wr fun y w' => y = .returned (.int .i64 0) ∧ (∃ a' c', IsWriter w' w.heap.size (wrL A k ++ textB v.S) a' c') ∧ Below w.heap.size wr w') := hx2
                clear hx2 hte
                obtain ⟨U, hU8, hUl, HU⟩ := rput_named v.S.size 2 (by omega)
                have HUl : Hid (U.data.toList ++ v.S.data.toList = wrB v) := by show _ = _; rw [hUl, hB, htb]; rfl
                have HB : Hid (wrB v = textB v.S) := hB
                clear hUl htb hB
                go_wp2_with fail
                refine HX.out.mono ?_
                rintro z w5 ⟨rfl, ⟨x5, y5, h5⟩, b5⟩
                replace b5 := hb.trans b5
                have f3 := E3.out _ b5
                clear hw hb d0 d1 d2 d3 HX
                have hadd : ¬ (9223372036854775807 < U.size + v.S.size) := by omega
                have hadd2 : ¬ (9223372036854775807 < T.size + (U.size + v.S.size)) := by omega
                have hwr : IntKind.u64.wrap (v.S.size : Int) = (v.S.size : Int) := by rw [IntKind.wrap_u64]; omega
                go_wp2_with fail
                go_region_held3 (fun w' => w'.cell? ⟨b, o + k * 4 + 3, none⟩ = some (.string v.S)) (first | go_keep | exact E3.out _ (below_chain b5.drew b6))
                  (first | (go_at_call 16; refine (HU.out _).mono ?_; rintro z w6 ⟨rfl, b6⟩))
                have h6 := (h5.below ((Below.refl _ _).drew)).below b6
                have b7 := below_chain b5.drew b6
                have HT : Hid ((T ++ (U ++ v.S)).data.toList = wrL A (k + 1)) := by show _ = _; rw [toList_add, toList_add, hT.out, HUl.out, HE.out]
                rw [← HB.out, ← HE.out] at h6
                clear h5 b5 b6 f3
                go_wp2_with fail
                refine (len_named h6 HT.out).out.mono ?_
                rintro z w9 ⟨rfl, rfl⟩
                go_wp2
                go_roundw
                case rel => exact ⟨k + 1, T ++ (U ++ v.S), _, _, by omega, by go_num, rfl, HT, h6, b7⟩
                case measure => simp [intOf]; omega
              · have hte : textE v.S = 5 := by unfold textE; rw [if_neg hz]
                have htb : textB v.S = [] := by unfold textB; rw [if_neg hz]
                have hz1 : decide ((v.S.size : Int) ≤ 65535) = false := by simp; omega
                rw [hte, htb, List.append_nil] at hx2
                have HX : Hid (Calls Try.prog 26 #[.pointer (some ⟨w.heap.size, 0, none⟩), .string v.S] wr fun y w' => y = .returned (.int .i64 5) ∧ (∃ a' c', IsWriter w' w.heap.size (wrL A k) a' c') ∧ Below w.heap.size wr w') := hx2
                have HW : Hid (wrL A (k + 1) = wrL A k) := by show _ = _; rw [HE.out, hB, htb, List.append_nil]
                clear hx2 hte hB htb
                go_wp2_with fail
                refine HX.out.mono ?_
                rintro z w5 ⟨rfl, ⟨x5, y5, h6⟩, b5⟩
                have b7 := hb.trans b5
                have f3 := E3.out _ b7
                have HT : Hid (T.data.toList = wrL A (k + 1)) := by show _ = _; rw [hT.out, HW.out]
                rw [← HW.out] at h6
                clear hw hb b5 d0 d1 d2 d3 HX
                go_wp2_with fail
                refine (len_named h6 HT.out).out.mono ?_
                rintro z w9 ⟨rfl, rfl⟩
                go_wp2
                go_roundw
                case rel => exact ⟨k + 1, T, _, _, by omega, by go_num, rfl, HT, h6, b7⟩
                case measure => simp [intOf]; omega
            · have hB : wrB v = putL (v.x % 2) 1 := by unfold wrB; rw [if_neg h0, if_neg h1, if_neg h2]
              have HB : Hid (wrB v = putL (v.x % 2) 1) := hB
              have k0 : (v.kind == 0) = false := by rw [beq_eq_false_iff_ne]; exact h0
              have k1 : (v.kind == 1) = false := by rw [beq_eq_false_iff_ne]; exact h1
              have k2 : (v.kind == 2) = false := by rw [beq_eq_false_iff_ne]; exact h2
              clear h0 h1 h2 hB
              obtain ⟨U, hU8, hUl, HU⟩ := rput_mod v.x
              have HUl : Hid (U.data.toList = putL (v.x % 2) 1) := hUl
              have HN : Hid (((v.x : Int) % 2 == 1).toNat = v.x % 2) := bool_nat v.x
              clear hUl
              have hadd : ¬ (9223372036854775807 < T.size + U.size) := by omega
              go_wp2_with fail
              refine (wbool_any hw ((v.x : Int) % 2 == 1) (by omega)).mono ?_
              rintro z w5 ⟨rfl, ⟨x5, y5, h5⟩, b5⟩
              replace b5 := hb.trans b5
              have f2 := E2.out _ b5
              rw [HN.out] at h5
              clear hw hb d0 d1 d2 d3
              go_wp2_with fail
              refine (HU.out _).mono ?_
              rintro z w6 ⟨rfl, b6⟩
              have h6 := h5.below b6
              have b7 := below_chain b5 b6
              have HT : Hid ((T ++ U).data.toList = wrL A (k + 1)) := by show _ = _; rw [toList_add, hT.out, HUl.out, HE.out, HB.out]
              rw [← HB.out, ← HE.out] at h6
              clear h5 b5 b6 f2
              go_wp2_with fail
              refine (len_named h6 HT.out).out.mono ?_
              rintro z w9 ⟨rfl, rfl⟩
              go_wp2
              go_roundw
              case rel => exact ⟨k + 1, T ++ U, _, _, by omega, by go_num, rfl, HT, h6, b7⟩
              case measure => simp [intOf]; omega
    · obtain rfl : k = len := by omega
      have HA := all_named hw hT.out
      go_wp2_with fail
      refine (nilW_number _).mono ?_
      rintro z w3 ⟨rfl, b3⟩
      have h3 := hw.below b3
      have b3' := below_chain hb b3
      go_wp2_with fail
      refine (nilW_bytes _ _).mono ?_
      rintro z w4 ⟨rfl, rfl⟩
      go_wp2_with fail
      refine (nilW_bool _).mono ?_
      rintro z w5 ⟨rfl, b5⟩
      have h5 := h3.below b5
      have b5' := below_chain b3' b5
      clear b3 b3' b5 h3 HA hw hb h2 b2
      go_wp2_with fail
      refine (nilR_fail _).mono ?_
      rintro z w6 ⟨rfl, rfl⟩
      go_wp2_with fail
      refine (all_named h5 hT.out).out.mono ?_
      rintro z w7 ⟨rfl, rfl⟩
      go_wp2_with fail
      refine (nilW_text _ _).mono ?_
      rintro z w8 ⟨rfl, rfl⟩
      go_wp2_with fail
      refine (nilW_len _).mono ?_
      rintro z w8 ⟨rfl, rfl⟩
      go_wp2_with fail
      refine (nilW_all _).mono ?_
      rintro z w8 ⟨rfl, rfl⟩
      go_wp2_with fail
      refine (nilR_number _).mono ?_
      rintro z w8 ⟨rfl, rfl⟩
      go_wp2_with fail
      refine (nilR_bytes _).mono ?_
      rintro z w8 ⟨rfl, rfl⟩
      go_wp2_with fail
      refine (nilR_text _).mono ?_
      rintro z w8 ⟨rfl, rfl⟩
      go_wp2_with fail
      refine (nilR_bool _).mono ?_
      rintro z w8 ⟨rfl, rfl⟩
      go_wp2_with fail
      refine (nilR_err _).mono ?_
      rintro z w8 ⟨rfl, rfl⟩
      go_wp2_with fail
      refine (nilR_end _).mono ?_
      rintro z w8 ⟨rfl, rfl⟩
      go_wp2_with fail
      refine (nilR_at _).mono ?_
      rintro z w8 ⟨rfl, rfl⟩
      go_wp2_with fail
      refine (nilR_left _).mono ?_
      rintro z w8 ⟨rfl, rfl⟩
      go_wp2
      go_ret
      exact ⟨rfl, b5'⟩

theorem own : ownKnob Try.prog.godebug = none := by kernel_rfl
theorem laidOut : laidOutB Try.prog = true := by kernel_rfl

theorem contract (H : Type) (enc : TypeId × Value → H) (W : World) (base : Nat) (args : Array Value) (ds gs : List (DataW H)) (before : List MemPlace)
    (hval0 : ∀ (j : Nat) t v, Try.f6.params[j]? = some t → args[j]? = some v → Value.okWide Try.prog W .any base t v)
    (hW : DataW.Whole enc Try.prog Try.f6.params.toList Rows.rawWritesSpec.vars false W args.toList ds gs before) (hk : Rows.uptoSmall H (ds ++ gs) = true) :
    Calls Try.prog 6 args W fun e W' => ∃ v, e = .returned v ∧ Rows.rawWritesSpec.post enc Try.prog Try.f6 false true false false W args v W' := by
  have hval : ∀ (j : Nat) t v, Try.f6.params[j]? = some t → args[j]? = some v → Value.okWide Try.prog W .any base t v := hval0
  have hW' := hW
  obtain ⟨p, q, hA0, hV, rfl, hfz, hnd⟩ := hW
  have hA : DataW.TrodAll enc Try.prog W 0 (fun _ => true) true Try.f6.params.toList args.toList ds p := hA0
  rw [Try.params6] at hA hval
  obtain ⟨v0, d0, rfl, rfl, h0⟩ := trodAll_one hA
  obtain ⟨rfl, rfl⟩ := trodVars_none hV
  obtain ⟨a, len, cap, rfl⟩ := okWide_slice Try.underlying37 (hval 0 37 v0 rfl rfl)
  have k0 := h0
  have lt0 : ∀ x ∈ p, x.block < W.heap.size := by obtain ⟨m, hm⟩ := k0; exact DataW.trod_lt m _ _ _ hm
  obtain ⟨A, hacts, hd⟩ := open_acts h0
  obtain ⟨r1, r2⟩ := acts_small hd hk
  clear hA0 hval0
  refine (walk a len cap A W hacts r1 r2).mono fun e W' ⟨he, bel⟩ => ?_
  subst he
  exact ⟨_, rfl, _, _, _, [], _, [], hW', trodAll_mk1 (shut_bool Try.underlying4 _), trodAll_mk1 (Below.trod laidOut (by kernel_rfl) (of_decide_eq_true (by kernel_rfl)) k0 bel lt0), rfl, bel.frame _, fun h => by cases h⟩

set_option maxRecDepth 100000 in
theorem lifted (os : Os) (started : os.Started) (H : Type) (enc : TypeId × Value → H) (F : Stop.Interp) :
    ReturnsInHanded {} Try.checked os 6 .any ((Rows.OpenSpec.upto Rows.rawWritesSpec).pre6 enc Try.prog Try.f6 Rows.rawWritesUptoRow.domain false) (((Rows.OpenSpec.upto Rows.rawWritesSpec).at F).post enc Try.prog Try.f6 false true false false) := by
  refine returnsInHanded_of_cond (C := Try.checked) (s := Rows.OpenSpec.upto Rows.rawWritesSpec) (k := Rows.uptoSmall) rfl own started (by kernel_rfl) Try.func6
    (OpenSpec.witness (enc := enc) (C := Try.checked) (s := Rows.OpenSpec.upto Rows.rawWritesSpec) (k := Rows.uptoSmall) rfl false ⟨#[], #[.slice none 0 0], []⟩ 8 (by kernel_rfl) (by kernel_rfl) (by kernel_rfl)
      (x := ([.nil], [], [])) (by kernel_rfl) rfl (by kernel_rfl)) ?_
  intro W base args ds gs before hval hW _ hk _
  exact contract H enc W base args ds gs before hval hW hk

theorem over : Rows.rawWritesUptoRow.holds Try.pinned (Rows.OpenSpec.upto Rows.rawWritesSpec) :=
  OpenClaim.holds_of_cond 6 Try.f6 rfl rfl rfl rfl rfl rfl rfl ⟨rfl, rfl, rfl, rfl, rfl⟩ rfl rfl rfl rfl rfl (by kernel_rfl) Try.func6 (by kernel_rfl)
    (of_decide_eq_true (by kernel_rfl)) (by unfold Func.isWrapper; first | (rw [if_pos (by decide +kernel)]; kernel_rfl) | (rw [if_neg (by decide +kernel)]; exact ⟨rfl, rfl⟩))
    (fun os started H enc _ F => lifted os started H enc F)

end Go.Proofs.Ytjfjijgdjlkhkaa.LawWrites

namespace Go.Proofs.Ytjfjijgdjlkhkaa
theorem rawWrites_upto : Rows.RawWritesUptoSaid := LawWrites.over
#print axioms rawWrites_upto
end Go.Proofs.Ytjfjijgdjlkhkaa
