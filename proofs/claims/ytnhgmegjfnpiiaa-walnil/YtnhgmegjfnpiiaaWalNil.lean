/-
  Proved: for every act a the call WalNil(a) returns true, and the argument reads afterwards as it read before. No condition.
-/
import Derived.Test.YtnhgmegjfnpiiaaRows
import Derived.Test.YtnhgmegjfnpiiaaWalNils
import Derived.ProofKit
import Derived.OpenShut
import Derived.ShutString
import Derived.ChangeOld
import Derived.SizedLaws
namespace Go.Proofs.Ytnhgmegjfnpiiaa.LawWalNil
open Go.ChangeShapes Go.WideShapes Go.ChangeAt Go.RowKit
open Go.ChangeMaps (open_string shut_string)
set_option linter.unusedVariables false

theorem own : ownKnob Try.prog.godebug = none := by kernel_rfl
theorem laidOut : laidOutB Try.prog = true := by kernel_rfl

theorem actCells : Try.prog.cellTypes Try.prog.depth 45 = some [3, 3, 9, 22, 3, 22, 3, 3, 3] := by kernel_rfl

theorem cell_val {P : Program} {w : World} {r : Reach} {base : Nat} {u : TypeId} {v : Value} {td : TypeDesc} (hu : P.underlying u = some td) (h1 : ∀ fs, td ≠ .struct fs) (h2 : ∀ x y, td ≠ .array x y) (h : Cell.okWide P w r base u v) : Value.okWide P w r base u v := by
  unfold Value.okWide
  rw [hu]
  split
  · rename_i e; exact absurd (Option.some.inj e) (h1 _)
  · rename_i e; exact absurd (Option.some.inj e) (h2 _ _)
  · exact h

set_option maxRecDepth 100000 in
theorem act_shape {w : World} {r : Reach} {base : Nat} {v : Value} (h : Value.okWide Try.prog w r base 45 v) :
    ∃ k n s x f1 f2 f3 f4 f5, v = .agg #[.int .i64 k, .int .i64 n, .string s, .int .u64 x, .int .i64 f1, .int .u64 f2, .int .i64 f3, .int .i64 f4, .int .i64 f5] := by
  unfold Value.okWide at h
  rw [Try.underlying45] at h
  obtain ⟨cs, rfl, hsz, ts, hts, _, hc⟩ := h
  rw [actCells] at hts
  cases hts
  have hc9 : Try.prog.cellsOf 45 = 9 := by kernel_rfl
  rw [hc9] at hsz
  obtain ⟨l⟩ := cs
  obtain ⟨x0, x1, x2, x3, x4, x5, x6, x7, x8, rfl⟩ : ∃ x0 x1 x2 x3 x4 x5 x6 x7 x8, l = [x0, x1, x2, x3, x4, x5, x6, x7, x8] := by
    match l, hsz with
    | [x0, x1, x2, x3, x4, x5, x6, x7, x8], _ => exact ⟨_, _, _, _, _, _, _, _, _, rfl⟩
  have int : ∀ {x : Value}, Cell.okWide Try.prog w r base 3 x → ∃ n, x = .int .i64 n := fun hx => okWide_int Try.underlying3 (cell_val Try.underlying3 (by intro _ e; cases e) (by intro _ _ e; cases e) hx)
  have u64 : ∀ {x : Value}, Cell.okWide Try.prog w r base 22 x → ∃ n, x = .int .u64 n := fun hx => okWide_int Try.underlying22 (cell_val Try.underlying22 (by intro _ e; cases e) (by intro _ _ e; cases e) hx)
  obtain ⟨u0, e0, q0⟩ := hc 0 x0 rfl
  obtain ⟨u1, e1, q1⟩ := hc 1 x1 rfl
  obtain ⟨u2, e2, q2⟩ := hc 2 x2 rfl
  obtain ⟨u3, e3, q3⟩ := hc 3 x3 rfl
  obtain ⟨u4, e4, q4⟩ := hc 4 x4 rfl
  obtain ⟨u5, e5, q5⟩ := hc 5 x5 rfl
  obtain ⟨u6, e6, q6⟩ := hc 6 x6 rfl
  obtain ⟨u7, e7, q7⟩ := hc 7 x7 rfl
  obtain ⟨u8, e8, q8⟩ := hc 8 x8 rfl
  cases e0; cases e1; cases e2; cases e3; cases e4; cases e5; cases e6; cases e7; cases e8
  obtain ⟨k, rfl⟩ := int q0
  obtain ⟨n, rfl⟩ := int q1
  obtain ⟨s, rfl⟩ := okWide_string Try.underlying9 (cell_val Try.underlying9 (by intro _ e; cases e) (by intro _ _ e; cases e) q2)
  obtain ⟨x, rfl⟩ := u64 q3
  obtain ⟨f1, rfl⟩ := int q4
  obtain ⟨f2, rfl⟩ := u64 q5
  obtain ⟨f3, rfl⟩ := int q6
  obtain ⟨f4, rfl⟩ := int q7
  obtain ⟨f5, rfl⟩ := int q8
  exact ⟨k, n, s, x, f1, f2, f3, f4, f5, rfl⟩

set_option maxRecDepth 100000 in
theorem lifted (os : Os) (started : os.Started) (H : Type) (enc : TypeId × Value → H) :
    ReturnsInHanded {} Try.checked os 7 .any (Rows.walNilSpec.pre6 enc Try.prog Try.f7 Rows.walNilRow.domain false) (Rows.walNilSpec.post enc Try.prog Try.f7 false true false false) := by
  refine returnsInHanded_of_change_sized (C := Try.checked) own started (by kernel_rfl) Try.func7
    (ChangeSpec.witness6 (enc := enc) (C := Try.checked) false ⟨#[], #[.agg #[.int .i64 0, .int .i64 0, .string ⟨#[]⟩, .int .u64 0, .int .i64 0, .int .u64 0, .int .i64 0, .int .i64 0, .int .i64 0]], []⟩ 8 (by kernel_rfl) (by kernel_rfl) (by kernel_rfl) (by kernel_rfl)) ?_
  intro W base args ds gs before hval0 hW hcnd hsz0 _
  have hval : ∀ (j : Nat) t v, Try.f7.params[j]? = some t → args[j]? = some v → Value.okWide Try.prog W .any base t v := hval0
  have hW' := hW
  obtain ⟨p, q, hA0, hV, rfl, hfz, hnd⟩ := hW
  have hA : DataW.TrodAll enc Try.prog W 0 (fun _ => true) true Try.f7.params.toList args.toList ds p := hA0
  rw [Try.params7] at hA hval
  obtain ⟨v0, d0, rfl, rfl, h0⟩ := trodAll_one hA
  obtain ⟨rfl, rfl⟩ := trodVars_none hV
  obtain ⟨k, n, s, x, f1, f2, f3, f4, f5, rfl⟩ := act_shape (hval 0 45 v0 rfl rfl)
  have k0 := h0
  have lt0 : ∀ x ∈ p, x.block < W.heap.size := by obtain ⟨m, hm⟩ := k0; exact DataW.trod_lt m _ _ _ hm
  clear hA0 hval0 hsz0
  refine (walNil_any k n s x f1 f2 f3 f4 f5 W).mono fun e W' ⟨he, bel⟩ => ?_
  subst he
  exact ⟨_, rfl, _, _, _, [], _, [], hW', trodAll_mk1 (shut_bool Try.underlying4 _), trodAll_mk1 (Below.trod laidOut (by kernel_rfl) (of_decide_eq_true (by kernel_rfl)) k0 bel lt0), rfl, bel.frame _, fun h => by cases h⟩

theorem over : Rows.walNilRow.holds Try.pinned (OpenSpec.ofChange Rows.walNilSpec) :=
  OpenClaim.holds_of_wide 7 Try.f7 rfl rfl rfl rfl rfl rfl rfl ⟨rfl, rfl, rfl, rfl, rfl⟩ rfl rfl rfl rfl rfl (by kernel_rfl) Try.func7 (by kernel_rfl)
    (of_decide_eq_true (by kernel_rfl)) (by unfold Func.isWrapper; first | (rw [if_pos (by decide +kernel)]; kernel_rfl) | (rw [if_neg (by decide +kernel)]; exact ⟨rfl, rfl⟩))
    (fun os started H enc _ => lifted os started H enc)

end Go.Proofs.Ytnhgmegjfnpiiaa.LawWalNil

namespace Go.Proofs.Ytnhgmegjfnpiiaa
theorem walNil_holds : Rows.WalNilSaid := LawWalNil.over
#print axioms walNil_holds
end Go.Proofs.Ytnhgmegjfnpiiaa
