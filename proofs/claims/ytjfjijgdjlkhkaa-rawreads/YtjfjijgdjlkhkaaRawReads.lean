/-
  Proved: for every text s and every list l of acts the call RawReads(s, l) returns true, and each argument reads afterwards as it read before. No condition.
-/
import Derived.Test.YtjfjijgdjlkhkaaRows
import Derived.Test.YtjfjijgdjlkhkaaAwakeWalk
import Derived.Test.YtjfjijgdjlkhkaaOne
import Derived.Test.YtjfjijgdjlkhkaaActs
import Derived.ChangeOld
import Derived.SizedLaws
namespace Go.Proofs.Ytjfjijgdjlkhkaa.LawReads
open Go.ChangeShapes Go.WideShapes Go.ChangeAt Go.RowKit
open Go.ChangeMaps (open_string shut_string)
set_option linter.unusedVariables false

theorem own : ownKnob Try.prog.godebug = none := by kernel_rfl
theorem laidOut : laidOutB Try.prog = true := by kernel_rfl

set_option maxHeartbeats 400000 in
theorem new_reader (s : ByteArray) (w : World) :
    Calls Try.prog 18 #[.string s] w fun x w' => x = .returned (.pointer (some ⟨w.heap.size, 0, none⟩)) ∧ w' = w.alloc (.cells #[.string s, .int .i64 0, .int .i64 0] 65) := by
  go_enter Try.func18, Try.ntmps18
  go_wp2
  go_ret
  exact ⟨rfl, rfl⟩

theorem reader_new {s : ByteArray} {w w1 : World} {t : TypeId} (hs : s.size ≤ 140737488351232) (hb : Below (w.alloc (.cells #[.string s, .int .i64 0, .int .i64 0] t)).heap.size (w.alloc (.cells #[.string s, .int .i64 0, .int .i64 0] t)) w1) :
    IsReader w1 w.heap.size s 0 0 := by
  have h : IsReader (w.alloc (.cells #[.string s, .int .i64 0, .int .i64 0] t)) w.heap.size s 0 0 := ⟨by simp, by simp, by simp, by simp, by simp, by omega, hs, by simp⟩
  exact h.below hb

set_option maxHeartbeats 1600000 in
theorem walk (s : ByteArray) (a : Option Addr) (len cap : Nat) (A : Nat → ActV) (w : World) (hs : s.size ≤ 140737488351232) (hA : IsActs w a len A) :
    Calls Try.prog 5 #[.string s, .slice a len cap] w fun e w' => e = .returned (.bool true) ∧ Below w.heap.size w w' := by
  obtain ⟨hlen, hA⟩ := hA
  unfold maxLen at hlen
  go_enter Try.func5, Try.ntmps5
  go_wp2_with fail
  refine (new_reader s _).mono ?_
  rintro x w1 ⟨rfl, rfl⟩
  go_wp2_with fail
  refine (awake_any _).mono ?_
  rintro x w2 ⟨rfl, b2⟩
  have h2 := reader_new hs b2
  have z2 : w.heap.size < w2.heap.size := h2.lt
  replace b2 := below_chain ((Below.refl _ _).alloc (Nat.le_refl _) _) b2
  go_wp2
  go_loopw [7] (fun i wr => ∃ (k p : Nat) (e : Int), k ≤ len ∧ i = .int .i64 k ∧ IsReader wr w.heap.size s p e ∧ Row3 wr w2.heap.size (.string s) (.int .i64 p) (.int .i64 e) ∧ Below w.heap.size w wr ∧ w2.heap.size < wr.heap.size) (fun i _ => len - (intOf i).toNat)
  case atStart => exact ⟨0, 0, 0, Nat.zero_le _, rfl, h2.alloc _, Row3.new _ _ _ _ _, b2.alloc (by omega) _, by simp⟩
  case round =>
    obtain ⟨k, p, e, hk, rfl, hr, hm, hb, hz⟩ := hrel
    by_cases hlt : k < len
    · rcases hA with hA | ⟨b, o, rfl, hbw, hA⟩
      · omega
      · obtain ⟨a0, a1, a2, a3, hn, hx, hS⟩ := hA k hlt
        have d0 := (hb.cell (p := ⟨b, o + k * 4, none⟩) hbw).trans a0
        have d1 := (hb.cell (p := ⟨b, o + k * 4 + 1, none⟩) hbw).trans a1
        have d2 := (hb.cell (p := ⟨b, o + k * 4 + 2, none⟩) hbw).trans a2
        have d3 := (hb.cell (p := ⟨b, o + k * 4 + 3, none⟩) hbw).trans a3
        clear a0 a1 a2 a3
        generalize A k = v at *
        have hmd : Row3 wr.drew w2.heap.size (.string s) (.int .i64 p) (.int .i64 e) := hm.below ((Below.refl wr.heap.size wr).drew) hz
        have hzd : w2.heap.size < wr.drew.heap.size := hz
        have hne : w2.heap.size ≠ w.heap.size := by omega
        obtain ⟨q0, q1, q2, g0, g1, g2⟩ := hm
        have hk0 : (0 : Int) ≤ (k : Int) := by omega
        have hk1 : (k : Int) < (len : Int) := by omega
        have hone := one_any (hr.drewN 1) v.kind v.n v.x v.S hn
        have HO : Hid (Calls Try.prog 19 #[.pointer (some ⟨w.heap.size, 0, none⟩), .agg #[.string s, .int .i64 p, .int .i64 e], .agg #[.int .i64 v.kind, .int .i64 v.n, .int .u64 v.x, .string v.S]] wr.drew fun y w' =>
          y = .returned (.tuple #[.agg #[.string s, .int .i64 (stepF s p e v.kind v.n).1, .int .i64 (stepF s p e v.kind v.n).2], .bool true]) ∧ IsReader w' w.heap.size s (stepF s p e v.kind v.n).1 (stepF s p e v.kind v.n).2 ∧ Only w.heap.size wr.drew w') := hone
        clear hone
        generalize (stepF s p e v.kind v.n).1 = p' at *
        generalize (stepF s p e v.kind v.n).2 = e' at *
        go_wp2_with fail
        go_region_with (go_at_call 19; refine HO.out.mono ?_; rintro y w3 ⟨rfl, h3, o3⟩; have hm3 := hmd.only o3 hzd hne; obtain ⟨j0, j1, j2, i0, i1, i2⟩ := hm3)
        all_goals
          have h4 := h3.far3 hne (.string s) (.int .i64 p') (.int .i64 e')
          have m4 := (Row3.mk j0 j1 j2 i0 i1 i2).set (.string s) (.int .i64 p') (.int .i64 e')
          have b4 := below_set3 (o3.below hb.drew (Nat.le_refl _) (Nat.le_refl _)) (b := w2.heap.size) (by omega) (.string s) (.int .i64 p') (.int .i64 e')
          have z4 : w2.heap.size < w3.heap.size := Nat.lt_of_lt_of_le hzd o3.size
          clear h3 o3 j0 j1 j2 i0 i1 i2 d0 d1 d2 d3 q0 q1 q2 g0 g1 g2 HO hmd hr hb hzd
          go_wp2_with fail
          replace z4 : w2.heap.size < (((w3.setCell ⟨w2.heap.size, 0, none⟩ (.string s)).setCell ⟨w2.heap.size, 1, none⟩ (.int .i64 p')).setCell ⟨w2.heap.size, 2, none⟩ (.int .i64 e')).heap.size := by simpa using z4
          generalize ((w3.setCell ⟨w2.heap.size, 0, none⟩ (.string s)).setCell ⟨w2.heap.size, 1, none⟩ (.int .i64 p')).setCell ⟨w2.heap.size, 2, none⟩ (.int .i64 e') = W4 at *
          obtain ⟨j0, j1, j2, i0, i1, i2⟩ := m4
          have hsz4 := h4.sz
          have hle4 := h4.le
          have hwr : ((s.size : Int) - (p' : Int) != IntKind.i64.wrap ((s.size : Int) - (p' : Int))) = false := by
            rw [show IntKind.i64.wrap ((s.size : Int) - (p' : Int)) = (s.size : Int) - (p' : Int) from by rw [IntKind.wrap_i64]; omega]; simp
          go_quiet (first
            | (go_at_call 20; exact Calls.quiet_of_same (err_any (h4.drewN _)))
            | (go_at_call 21; exact Calls.quiet_of_same (at_any (h4.drewN _)))
            | (go_at_call 22; exact Calls.quiet_of (left_any (h4.drewN _))))
          go_wp2
          go_roundw
          case rel =>
            have m5 : Row3 (W4.drewN nq) w2.heap.size (.string s) (.int .i64 p') (.int .i64 e') := (Row3.mk j0 j1 j2 i0 i1 i2).below (below_drewN (Below.refl W4.heap.size W4) nq) z4
            exact ⟨k + 1, p', e', by omega, by go_num, h4.drewN nq, m5, below_drewN b4 nq, z4⟩
          case measure => simp [intOf]; omega
    · go_wp2
      go_ret
      exact ⟨rfl, hb⟩

set_option maxRecDepth 100000 in
theorem lifted (os : Os) (started : os.Started) (H : Type) (enc : TypeId × Value → H) :
    ReturnsInHanded {} Try.checked os 5 .any (Rows.rawReadsSpec.pre6 enc Try.prog Try.f5 Rows.rawReadsRow.domain false) (Rows.rawReadsSpec.post enc Try.prog Try.f5 false true false false) := by
  refine returnsInHanded_of_change_sized (C := Try.checked) own started (by kernel_rfl) Try.func5
    (ChangeSpec.witness6 (enc := enc) (C := Try.checked) false ⟨#[], #[.string ByteArray.empty, .slice none 0 0], []⟩ 8 (by kernel_rfl) (by kernel_rfl) (by kernel_rfl) (by kernel_rfl)) ?_
  intro W base args ds gs before hval0 hW hcnd hsz0 _
  have hval : ∀ (j : Nat) t v, Try.f5.params[j]? = some t → args[j]? = some v → Value.okWide Try.prog W .any base t v := hval0
  have hsz : (DataW.weightsEach Try.prog (Try.f5.params.toList ++ Rows.rawReadsSpec.plain.varTypes Try.prog) (ds ++ gs)).all (· ≤ reachBytes) = true := hsz0
  have hW' := hW
  obtain ⟨p, q, hA0, hV, rfl, hfz, hnd⟩ := hW
  have hA : DataW.TrodAll enc Try.prog W 0 (fun _ => true) true Try.f5.params.toList args.toList ds p := hA0
  rw [Try.params5] at hA hval hsz
  obtain ⟨v0, v1, d0, d1, p0, p1, rfl, rfl, rfl, h0, h1⟩ := trodAll_two hA
  obtain ⟨rfl, rfl⟩ := trodVars_none hV
  obtain ⟨a0, rfl, rfl, rfl, w0⟩ := open_string Try.underlying9 (hval 0 9 v0 rfl rfl) h0
  have r0 : a0.size ≤ 140737488351232 := by simpa [reachBytes] using sized_string hsz (j := 0) rfl rfl
  obtain ⟨a, len, cap, rfl⟩ := okWide_slice Try.underlying37 (hval 1 37 v1 rfl rfl)
  have k1 := h1
  have lt1 : ∀ x ∈ p1, x.block < W.heap.size := by obtain ⟨m, hm⟩ := k1; exact DataW.trod_lt m _ _ _ hm
  obtain ⟨A, hacts, _⟩ := open_acts h1
  clear hA0 hval0 hsz hsz0
  refine (walk a0 a len cap A W r0 hacts).mono fun e W' ⟨he, bel⟩ => ?_
  subst he
  exact ⟨_, rfl, _, _, _, [], _, [], hW', trodAll_mk1 (shut_bool Try.underlying4 _), trodAll_mk2 (shut_string Try.underlying9 w0) (Below.trod laidOut (by kernel_rfl) (of_decide_eq_true (by kernel_rfl)) k1 bel lt1), rfl, bel.frame _, fun h => by cases h⟩

theorem over : Rows.rawReadsRow.holds Try.pinned (OpenSpec.ofChange Rows.rawReadsSpec) :=
  OpenClaim.holds_of_wide 5 Try.f5 rfl rfl rfl rfl rfl rfl rfl ⟨rfl, rfl, rfl, rfl, rfl⟩ rfl rfl rfl rfl rfl (by kernel_rfl) Try.func5 (by kernel_rfl)
    (of_decide_eq_true (by kernel_rfl)) (by unfold Func.isWrapper; first | (rw [if_pos (by decide +kernel)]; kernel_rfl) | (rw [if_neg (by decide +kernel)]; exact ⟨rfl, rfl⟩))
    (fun os started H enc _ => lifted os started H enc)

end Go.Proofs.Ytjfjijgdjlkhkaa.LawReads

namespace Go.Proofs.Ytjfjijgdjlkhkaa
theorem rawReads_holds : Rows.RawReadsSaid := LawReads.over
#print axioms rawReads_holds
end Go.Proofs.Ytjfjijgdjlkhkaa
