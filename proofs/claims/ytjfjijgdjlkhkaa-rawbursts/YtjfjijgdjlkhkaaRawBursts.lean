/-
  Proved: for every text s, every integer at and every number burst of 32 bits the call RawBursts(s, at, burst) returns true, and each argument reads afterwards as it read before. No condition.
-/
import Derived.Test.YtjfjijgdjlkhkaaRows
import Derived.Test.YtjfjijgdjlkhkaaAwakeWalk
import Derived.Test.YtjfjijgdjlkhkaaBurst
import Derived.ProofKit
import Derived.OpenShut
import Derived.ShutString
import Derived.ChangeOld
import Derived.SizedLaws
import Derived.BigQuiet
import Derived.Deep.QuietTactic
import Derived.Deep.RegionWith
import Derived.Deep.RegionHeld3
namespace Go.Proofs.Ytjfjijgdjlkhkaa.LawBursts
open Go.ChangeShapes Go.WideShapes Go.ChangeAt Go.RowKit
open Go.ChangeMaps (open_string shut_string)
set_option linter.unusedVariables false

theorem own : ownKnob Try.prog.godebug = none := by kernel_rfl
theorem laidOut : laidOutB Try.prog = true := by kernel_rfl

set_option maxHeartbeats 400000 in
theorem walk_out (s : ByteArray) (a : Int) (u : Nat) (w : World) (h : s.size = 0 ∨ 1000 < s.size) (hs : s.size ≤ 140737488351232) :
    Calls Try.prog 7 #[.string s, .int .i64 a, .int .u32 u] w fun e w' => e = .returned (.bool true) ∧ Below w.heap.size w w' := by
  rcases h with h | h
  · have h1 : ((s.size : Int) == 0) = true := by simp [h]
    have H : Hid (s.size = 0) := h
    clear h
    go_enter Try.func7, Try.ntmps7
    go_wp2_with fail
    refine (awake_any _).mono ?_
    rintro e w1 ⟨rfl, hb⟩
    go_wp2
    go_ret
    exact ⟨rfl, hb⟩
  · have h1 : ((s.size : Int) == 0) = false := by rw [beq_eq_false_iff_ne]; omega
    have h2 : decide ((1000 : Int) < (s.size : Int)) = true := by simp; omega
    go_enter Try.func7, Try.ntmps7
    go_wp2_with fail
    refine (awake_any _).mono ?_
    rintro e w1 ⟨rfl, hb⟩
    go_wp2
    go_ret
    exact ⟨rfl, hb⟩

theorem row_drew {W : World} {b N : Nat} {f : Nat → Int} (h : RowU W b N f) : RowU W.drew b N f := fun j hj => ⟨by simpa using (h j hj).1, by simpa using (h j hj).2⟩

theorem row_below {W W' : World} {b N B : Nat} {f : Nat → Int} (h : RowU W b N f) (k : Below B W W') (hb : b < B) : RowU W' b N f :=
  fun j hj => ⟨(k.cell (p := ⟨b, j, none⟩) hb).trans (h j hj).1, (k.frozen (p := ⟨b, j, none⟩) hb).trans (h j hj).2⟩

theorem row_start (w : World) (s : ByteArray) (c : Nat) (t : TypeId) :
    RowU (w.alloc (.cells (bytesRow s c) t ((bytesRow s c).size, (bytesRow s c).size + 1))) w.heap.size s.size (fun j => ((s.data.toList[j]?.getD 0).toNat : Int)) := by
  intro j hj
  have hsz : s.size ≤ (bytesRow s c).size := by unfold bytesRow; simp
  constructor
  · rw [World.cell?_alloc_mark, bytesRow_at s c j hj]
    have : s.data.toList[j]? = some s.data[j] := by simp
    simp only [this]; rfl
  · rw [World.frozen?_alloc_mark]
    have : ¬ (bytesRow s c).size ≤ j := by omega
    simp [this]

theorem row_string {P : Program} {W W1 : World} {b N c B : Nat} {f : Nat → Int} {l : List UInt8} (h : RowU W b N f) (hl : l.length = N) (e : ∀ j, f j = ((l[j]?.getD 0).toNat : Int)) (k : Below B W W1) (hb : b < B)
    (src dst el : TypeId) (hs : P.underlying src = some (.slice el)) (he : P.underlying el = some (.int .u8)) (hd : P.underlying dst = some .string) :
    (convert src dst (.slice (some ⟨b, 0, none⟩) N c)).run P W1 = .ok (.string ⟨l.toArray⟩) W1 :=
  (row_below h k hb).toString l hl (fun j hj => by rw [e j, List.getElem?_eq_getElem hj]; rfl) src dst el hs he hd

/-- One bit of the row turned over. -/
theorem row_turn {W : World} {b N k F E : Nat} {l lk : List UInt8} (hrow : RowU W b N (fun j => ((lk[j]?.getD 0).toNat : Int))) (hlen : lk.length = N) (hle : le lk = le l ^^^ 2 ^ F * E) (hE : E < 2 ^ k) (hp : F + k < 8 * N) :
    ∃ lk' E', lk'.length = N ∧ le lk' = le l ^^^ 2 ^ F * E' ∧ E' < 2 ^ (k + 1) ∧
      RowU (W.setCell ⟨b, (F + k) / 8, none⟩ (.int .u8 (bits .xor .u8 ((lk[(F + k) / 8]?.getD 0).toNat : Int) (2 ^ ((F + k) % 8) % 256)))) b N (fun j => ((lk'[j]?.getD 0).toNat : Int)) := by
  have hq : (F + k) / 8 < lk.length := by omega
  have hx := lk[(F + k) / 8].toNat_lt
  have h2 : 2 ^ ((F + k) % 8) < 256 := Nat.lt_of_lt_of_le (Nat.pow_lt_pow_right (by omega) (show (F + k) % 8 < 8 by omega)) (Nat.le_refl _)
  have hv : lk[(F + k) / 8].toNat ^^^ 2 ^ ((F + k) % 8) < 256 := Nat.xor_lt_two_pow (n := 8) hx h2
  have hvv : (UInt8.ofNat (lk[(F + k) / 8].toNat ^^^ 2 ^ ((F + k) % 8))).toNat = lk[(F + k) / 8].toNat ^^^ 2 ^ ((F + k) % 8) := by
    rw [UInt8.toNat_ofNat']; exact Nat.mod_eq_of_lt hv
  obtain ⟨s1, s2⟩ := burst_step hle hE rfl hq _ hvv
  refine ⟨_, _, by simp [hlen], s1, s2, ?_⟩
  have hg : lk[(F + k) / 8]?.getD 0 = lk[(F + k) / 8] := by rw [List.getElem?_eq_getElem hq]; rfl
  have hbits : bits .xor .u8 ((lk[(F + k) / 8]?.getD 0).toNat : Int) (2 ^ ((F + k) % 8) % 256) = ((lk[(F + k) / 8].toNat ^^^ 2 ^ ((F + k) % 8) : Nat) : Int) := by
    rw [hg, show ((2 : Int) ^ ((F + k) % 8) % 256) = ((2 ^ ((F + k) % 8) : Nat) : Int) from by
      rw [show ((2 : Int) ^ ((F + k) % 8)) = ((2 ^ ((F + k) % 8) : Nat) : Int) from by simp]; exact Int.emod_eq_of_lt (Int.natCast_nonneg _) (Int.ofNat_lt.2 h2)]
    exact u8_xor_nat _ _ hx h2
  rw [hbits]
  refine (hrow.set (k := (F + k) / 8) (by omega) _).congr (fun j hj => ?_)
  by_cases e : j = (F + k) / 8
  · subst e
    simp only [if_pos]
    rw [List.getElem?_set_self hq, Option.getD_some, hvv]
  · simp only [if_neg e]
    rw [List.getElem?_set_ne (Ne.symm e)]

/-- Where the burst begins. -/
theorem first_at (a : Int) (n : Nat) (h0 : 0 < n) (h : n ≤ 1000) : ∃ F : Nat, F < 8 * n ∧ (wrap64 (a.tmod (8 * (n : Int)) + 8 * (n : Int))).tmod (8 * (n : Int)) = (F : Int) := by
  have hb1 := Int.tmod_lt_of_pos a (show (0 : Int) < 8 * (n : Int) by omega)
  have hb2 := Int.lt_tmod_of_pos a (show (0 : Int) < 8 * (n : Int) by omega)
  have hw : wrap64 (a.tmod (8 * (n : Int)) + 8 * (n : Int)) = a.tmod (8 * (n : Int)) + 8 * (n : Int) := by
    generalize a.tmod (8 * (n : Int)) = x at *
    unfold wrap64
    omega
  rw [hw]
  have hy0 : 0 ≤ a.tmod (8 * (n : Int)) + 8 * (n : Int) := by omega
  generalize a.tmod (8 * (n : Int)) + 8 * (n : Int) = y at *
  have hy := Int.tmod_lt_of_pos y (show (0 : Int) < 8 * (n : Int) by omega)
  have hy2 := Int.tmod_nonneg (a := y) (8 * (n : Int)) hy0
  exact ⟨(y.tmod (8 * (n : Int))).toNat, by omega, by omega⟩

set_option maxHeartbeats 400000 in
theorem walk_in (s : ByteArray) (a : Int) (u : Nat) (w : World) (h0 : 0 < s.size) (h1000 : s.size ≤ 1000) (hu : u < 4294967296) (hlo : -9223372036854775808 ≤ a) (hhi : a ≤ 9223372036854775807) :
    Calls Try.prog 7 #[.string s, .int .i64 a, .int .u32 u] w fun e w' => e = .returned (.bool true) ∧ Below w.heap.size w w' := by
  have h1 : ((s.size : Int) == 0) = false := by rw [beq_eq_false_iff_ne]; omega
  have h2 : decide ((1000 : Int) < (s.size : Int)) = false := by simp; omega
  have hcv := fun wx => run_bytes_of_string (P := Try.prog) wx 9 60 5 s Try.underlying9 Try.underlying60 Try.underlying5
  obtain ⟨F, hF8, hF⟩ := first_at a s.size h0 h1000
  go_enter Try.func7, Try.ntmps7
  go_wp2
  go_loopw [9] (fun i wr => ∃ (k E : Nat) (lk : List UInt8), k ≤ 32 ∧ i = .int .i64 k ∧ Hid (lk.length = s.size) ∧ Hid (le lk = le s.data.toList ^^^ 2 ^ F * E) ∧ E < 2 ^ k ∧ RowU wr w.heap.size s.size (fun j => ((lk[j]?.getD 0).toNat : Int)) ∧ Below w.heap.size w wr ∧ w.heap.size < wr.heap.size) (fun i _ => 32 - (intOf i).toNat)
  case atStart => exact ⟨0, 0, s.data.toList, by omega, rfl, by show _ = _; simp, by show _ = _; simp, by omega, row_drew (row_start w s _ _), ((Below.refl _ _).alloc (Nat.le_refl _) _).drew, by simp⟩
  case round =>
    obtain ⟨k, E, lk, hk, rfl, hlen, hle, hE, hrow, hb, hz⟩ := hrel
    by_cases hlt : k < 32
    · by_cases hp : F + k < 8 * s.size
      · by_cases hbit : (bits .and .u32 ((u : Int) / 2 ^ k) 1 == 1) = true
        · have hc := (hrow ((F + k) / 8) (by omega)).1
          have hfz := (hrow ((F + k) / 8) (by omega)).2
          go_wp2
          go_roundw
          case rel =>
            obtain ⟨lk', E', g1, g2, g3, g4⟩ := row_turn hrow hlen.out hle.out hE hp
            exact ⟨k + 1, E', lk', by omega, by go_num, g1, g2, g3, g4, hb.setCell (Nat.le_refl _) _, by simpa using hz⟩
          case measure => simp [intOf]; omega
        · have hbit' : (bits .and .u32 ((u : Int) / 2 ^ k) 1 == 1) = false := by simpa using hbit
          clear hbit
          go_wp2
          go_roundw
          case rel => exact ⟨k + 1, E, lk, by omega, by go_num, hlen, hle, Nat.lt_of_lt_of_le hE (Nat.pow_le_pow_right (by omega) (by omega)), hrow, hb, hz⟩
          case measure => simp [intOf]; omega
      · go_wp2
        go_roundw
        case rel => exact ⟨k + 1, E, lk, by omega, by go_num, hlen, hle, Nat.lt_of_lt_of_le hE (Nat.pow_le_pow_right (by omega) (by omega)), hrow, hb, hz⟩
        case measure => simp [intOf]; omega
    · obtain rfl : k = 32 := by omega
      have hq : Hid ((crcSum 0 s.data.toList = crcSum 0 lk) ↔ s.data.toList = lk) := crcSum_burst (by rw [hlen.out]; simp) (by simp; omega) hE hle.out
      have hbz : Hid (w.heap.size < wr.heap.size) := hz
      have hls : (ByteArray.mk lk.toArray).size ≤ maxLen := by show lk.toArray.size ≤ maxLen; simp [hlen.out]; unfold maxLen; omega
      go_wp2
      go_region_held3 (fun w' => (convert 60 9 (.slice (some ⟨w.heap.size, 0, none⟩) s.size (grownCap w s.size 0 5))).run Try.prog w' = .ok (.string ⟨lk.toArray⟩) w')
        (first
          | exact row_string (P := Try.prog) hrow hlen.out (fun j => rfl) (Below.refl _ _).drew hbz.out 60 9 5 Try.underlying60 Try.underlying5 Try.underlying9
          | exact row_string (P := Try.prog) (row_drew hrow) hlen.out (fun j => rfl) hb1 hbz.out 60 9 5 Try.underlying60 Try.underlying5 Try.underlying9
          | go_keep)
        (first
          | (go_at_call 9; refine (awake_any _).mono ?_; rintro e w1 ⟨rfl, hb1⟩)
          | (go_at_call_of 10 s; refine (sum_any s _ (by unfold maxLen; omega)).mono ?_; rintro e w2 ⟨rfl, rfl⟩)
          | (go_at_call 10; refine (sum_any ⟨lk.toArray⟩ _ hls).mono ?_; rintro e w2 ⟨rfl, rfl⟩))
      have hfin : ((((crcSum 0 s.data.toList : Nat) : Int) == ((crcSum 0 lk : Nat) : Int)) == (s.toList == lk)) = true := by
        have h2 := hq.out
        rw [ByteArray.toList_eq]
        by_cases h : s.data.toList = lk
        · have h3 := h2.2 h
          simp [h]
        · have h3 : ¬ crcSum 0 s.data.toList = crcSum 0 lk := fun x => h (h2.1 x)
          have e1 : (((crcSum 0 s.data.toList : Nat) : Int) == ((crcSum 0 lk : Nat) : Int)) = false := by rw [beq_eq_false_iff_ne]; omega
          have e2 : (s.data.toList == lk) = false := by rw [beq_eq_false_iff_ne]; exact h
          rw [e1, e2]; rfl
      rw [hfin]
      go_wp2
      go_ret
      exact ⟨rfl, below_chain (W := wr.drew) hb.drew hb1⟩

theorem walk (s : ByteArray) (a : Int) (u : Nat) (w : World) (hs : s.size ≤ 140737488351232) (hu : u < 4294967296) (hlo : -9223372036854775808 ≤ a) (hhi : a ≤ 9223372036854775807) :
    Calls Try.prog 7 #[.string s, .int .i64 a, .int .u32 u] w fun e w' => e = .returned (.bool true) ∧ Below w.heap.size w w' := by
  by_cases h : s.size = 0 ∨ 1000 < s.size
  · exact walk_out s a u w h hs
  · exact walk_in s a u w (by omega) (by omega) hu hlo hhi

set_option maxRecDepth 100000 in
theorem lifted (os : Os) (started : os.Started) (H : Type) (enc : TypeId × Value → H) :
    ReturnsInHanded {} Try.checked os 7 .any (Rows.rawBurstsSpec.pre6 enc Try.prog Try.f7 Rows.rawBurstsRow.domain false) (Rows.rawBurstsSpec.post enc Try.prog Try.f7 false true false false) := by
  refine returnsInHanded_of_change_sized (C := Try.checked) own started (by kernel_rfl) Try.func7
    (ChangeSpec.witness6 (enc := enc) (C := Try.checked) false ⟨#[], #[.string ByteArray.empty, .int .i64 0, .int .u32 0], []⟩ 8 (by kernel_rfl) (by kernel_rfl) (by kernel_rfl) (by kernel_rfl)) ?_
  intro W base args ds gs before hval0 hW hcnd hsz0 _
  have hval : ∀ (j : Nat) t v, Try.f7.params[j]? = some t → args[j]? = some v → Value.okWide Try.prog W .any base t v := hval0
  have hsz : (DataW.weightsEach Try.prog (Try.f7.params.toList ++ Rows.rawBurstsSpec.plain.varTypes Try.prog) (ds ++ gs)).all (· ≤ reachBytes) = true := hsz0
  have hW' := hW
  obtain ⟨p, q, hA0, hV, rfl, hfz, hnd⟩ := hW
  have hA : DataW.TrodAll enc Try.prog W 0 (fun _ => true) true Try.f7.params.toList args.toList ds p := hA0
  rw [Try.params7] at hA hval hsz
  obtain ⟨v0, v1, v2, d0, d1, d2, p0, p1, p2, rfl, rfl, rfl, h0, h1, h2⟩ := trodAll_three hA
  obtain ⟨rfl, rfl⟩ := trodVars_none hV
  obtain ⟨a0, rfl, rfl, rfl, w0⟩ := open_string Try.underlying9 (hval 0 9 v0 rfl rfl) h0
  obtain ⟨a1, rfl, rfl, rfl, w1⟩ := open_int Try.underlying3 (hval 1 3 v1 rfl rfl) h1
  obtain ⟨a2, rfl, rfl, rfl, w2⟩ := open_int Try.underlying22 (hval 2 22 v2 rfl rfl) h2
  have r0 : a0.size ≤ 140737488351232 := by simpa [reachBytes] using sized_string hsz (j := 0) rfl rfl
  have r1 := bounds_i64 w1
  have r2 := bounds_u32 w2
  obtain ⟨n2, rfl⟩ := Int.eq_ofNat_of_zero_le r2.1
  clear hA0 hval0 hsz hsz0
  refine (walk a0 a1 n2 W r0 (by omega) r1.1 r1.2).mono fun e W' ⟨he, bel⟩ => ?_
  subst he
  exact ⟨_, rfl, _, _, _, [], _, [], hW', trodAll_mk1 (shut_bool Try.underlying4 _), trodAll_mk3 (shut_string Try.underlying9 w0) (shut_int Try.underlying3 w1) (shut_int Try.underlying22 w2), rfl, bel.frame _, fun h => by cases h⟩

theorem over : Rows.rawBurstsRow.holds Try.pinned (OpenSpec.ofChange Rows.rawBurstsSpec) :=
  OpenClaim.holds_of_wide 7 Try.f7 rfl rfl rfl rfl rfl rfl rfl ⟨rfl, rfl, rfl, rfl, rfl⟩ rfl rfl rfl rfl rfl (by kernel_rfl) Try.func7 (by kernel_rfl)
    (of_decide_eq_true (by kernel_rfl)) (by unfold Func.isWrapper; first | (rw [if_pos (by decide +kernel)]; kernel_rfl) | (rw [if_neg (by decide +kernel)]; exact ⟨rfl, rfl⟩))
    (fun os started H enc _ => lifted os started H enc)

end Go.Proofs.Ytjfjijgdjlkhkaa.LawBursts

namespace Go.Proofs.Ytjfjijgdjlkhkaa
theorem rawBursts_holds : Rows.RawBurstsSaid := LawBursts.over
#print axioms rawBursts_holds
end Go.Proofs.Ytjfjijgdjlkhkaa
