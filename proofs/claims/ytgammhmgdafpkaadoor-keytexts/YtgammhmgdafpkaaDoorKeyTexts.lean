/-
  Proved: for every value v and every text s the call KeyTexts(v, s) returns true, and each argument reads afterwards as it read before. No condition but that the five listed variables of Go's library hold what its text lays there (the card ties them).
-/
import Derived.Test.YtgammhmgdafpkaaDoorRows
import Derived.Test.YtgammhmgdafpkaaDoorCards
import Derived.Test.YtgammhmgdafpkaaDoorTie
import Derived.Test.YtgammhmgdafpkaaDoorKeyFrame
import Derived.Test.YtgammhmgdafpkaaDoorKeyTextsW
import Derived.Test.YtgammhmgdafpkaaDoorKeyOpen
import Derived.SevenTiedAt
import Derived.ChangeOld
import Derived.SizedLaws
import Derived.ChangeSlices
import Derived.Stop.LaidErr
import Derived.Lib.LaidTab
namespace Go.Proofs.YtgammhmgdafpkaaDoor.LawKeyTexts
open Go.ChangeShapes Go.WideShapes Go.ChangeAt Go.RowKit Go.Deep
open Go.ChangeMaps (open_string shut_string)
set_option linter.unusedVariables false
set_option linter.constructorNameAsVariable false

def textsLaid : List (String × DataW Unit) := [("math/bits.deBruijn32tab", Rows.laid_math_bits_deBruijn32tab), ("math/bits.deBruijn64tab", Rows.laid_math_bits_deBruijn64tab), ("internal/strconv.uint64pow10", Rows.laid_internal_strconv_uint64pow10), ("strconv.ErrRange", Rows.laid_strconv_ErrRange), ("strconv.ErrSyntax", Rows.laid_strconv_ErrSyntax)]

theorem pow10_datum : (Rows.laid_internal_strconv_uint64pow10 : DataW Unit) = Lib.tabData .u64 Lib.pow10Tab := by kernel_rfl

theorem laid_iface {P : Program} {n nm : String} {d : DataW Unit} {r : List (String × DataW Unit)} {W : World} {g : Nat} {ti : TypeId} {ms : Array (String × TypeId)}
    (h : laidMet P ((n, .iface nm d) :: r) W) (hg : P.globalNamed n = some g) (ht : (P.globals[g]?).map (·.type) = some ti) (hi : P.underlying ti = some (.interface ms)) :
    ∃ tp p, W.var? P n = some #[.iface tp p] := by
  obtain ⟨ps, ⟨g0, t0, cs0, f0, p0, q0, hg0, ht0, hv0, hd0, _, e0⟩, _, hrows⟩ := h
  obtain rfl := Option.some.inj (hg.symm.trans hg0)
  obtain rfl := Option.some.inj (ht.symm.trans ht0)
  obtain ⟨l0⟩ := cs0
  obtain ⟨f1, u, v, hcs, _, _⟩ := iface_of_trod hi hd0
  simp only at hcs
  subst hcs
  exact ⟨u, v, hv0⟩

theorem numW_of_laid {W : World} (hL : laidMet Tryd.prog textsLaid W) : NumW W := by
  have h3 := hL.tail.tail
  have h4 := h3.tail
  have h5 := h4.tail
  rw [pow10_datum] at h3
  exact ⟨Lib.tabIs_of_head (t := 128) (e := 53) (n := 20) parseLays.m17 (by kernel_rfl) Tryd.underlying128 Tryd.underlying53 (by kernel_rfl) (by kernel_rfl) h3,
    laid_iface (ti := 92) h4 parseLays.m16 (by kernel_rfl) Tryd.underlying92,
    laid_iface (ti := 92) h5 parseLays.m15 (by kernel_rfl) Tryd.underlying92⟩

set_option maxHeartbeats 800000 in
theorem open_val1 {H : Type} {enc : TypeId × Value → H} {w : World} {base b0 : Nat} {r : Reach} {spare : Nat → Bool} {held : Bool} {v : Value} {d : DataW H} {p : List MemPlace}
    (hv : Value.okWide Tryd.prog w r b0 35 v) (h : DataW.Trod enc Tryd.prog w base spare held 35 v d p) (hw : ∀ n ∈ d.weights Tryd.prog 35, n ≤ reachBytes) :
    ∃ x : ValV, v = .agg #[.int .i64 x.kind, .int .i64 x.n, .string x.S] ∧ x.In ∧ x.S.size ≤ 140737488351232 := by
  simp only [Value.okWide, Tryd.underlying35] at hv
  obtain ⟨cs, rfl, hsz, _⟩ := hv
  rw [kcellsV] at hsz
  obtain ⟨l⟩ := cs
  obtain ⟨v0, v1, v2, rfl⟩ := klist3 (show l.length = 3 from hsz)
  obtain ⟨fuel, hf⟩ := h
  obtain ⟨y0, y1, y2, n, hx, _, g0, g1, g2⟩ := trod_struct3 Tryd.underlying35 hf
  simp only [kcellsI, kcellsL, kcellsS, Value.cells] at g0 g1 g2
  obtain ⟨a0, e0, rfl, w0⟩ := DataW.trod_int Tryd.underlying3 g0
  obtain ⟨a1, e1, rfl, w1⟩ := DataW.trod_int Tryd.underlying2 g1
  obtain ⟨a2, e2, rfl, w2⟩ := DataW.trod_string Tryd.underlying9 g2
  simp at e0 e1 e2
  subst e0 e1 e2
  have b0 := kbounds_i64 w0
  have b1 := kbounds_i64 w1
  simp only [Prod.mk.injEq] at hx
  refine ⟨⟨a0, a1, a2⟩, rfl, ⟨b0.1, b0.2, b1.1, b1.2⟩, ?_⟩
  have := hw a2.size (by rw [hx.1]; simp [DataW.weights, Tryd.underlying35, DataW.weightsEach])
  simpa [reachBytes] using this

set_option maxRecDepth 100000 in
theorem lifted (os : Os) (started : os.Started) (H : Type) (enc : TypeId × Value → H) :
    ReturnsInHanded {} Tryd.checked os 4 .any (fun w args => (Rows.keyTextsSpec.pre enc Tryd.prog Tryd.f4 [] false w args ∧ laidMetH Tryd.prog textsLaid w) ∧ sizedMet enc Tryd.prog Tryd.f4 (OpenSpec.ofChange Rows.keyTextsSpec) false w args)
      (Rows.keyTextsSpec.post enc Tryd.prog Tryd.f4 false true false false) := by
  refine keyReturns (C := Tryd.checked) (X := fun w _ => laidMetH Tryd.prog textsLaid w) (fun _ _ _ hh h => h.of_heap hh) keyOwn started (by kernel_rfl) Tryd.func4
    (ChangeSpec.witness_shaped (enc := enc) (C := Tryd.checked) (os := os) (X := fun w _ => laidMetH Tryd.prog textsLaid w) false (World.laidAll Tryd.prog os textsLaid) #[.agg #[.int .i64 0, .int .i64 0, .string ⟨#[]⟩], .string ⟨#[]⟩] 8 (World.laidAll_os _ _ _)
      (World.shaped_of_ZipB (by kernel_rfl) (by kernel_rfl)) (by kernel_rfl) (by kernel_rfl) (by kernel_rfl)
      (by rw [MakeChecks.laidMetH_plain _ _ _ (by kernel_rfl)]; exact laidMet_laidAll _ (by kernel_rfl) (by kernel_rfl))) ?_
  intro W base args ds gs before hval0 hW hsz0 hL hSh
  have hval : ∀ (j : Nat) t v, Tryd.f4.params[j]? = some t → args[j]? = some v → Value.okWide Tryd.prog W .any base t v := hval0
  have hsz : (DataW.weightsEach Tryd.prog (Tryd.f4.params.toList ++ Rows.keyTextsSpec.plain.varTypes Tryd.prog) (ds ++ gs)).all (· ≤ reachBytes) = true := hsz0
  have hW' := hW
  have hN : NumW W := by
    have hL' : laidMetH Tryd.prog textsLaid W := hL
    rw [MakeChecks.laidMetH_plain _ _ _ (by kernel_rfl)] at hL'
    exact numW_of_laid hL'
  obtain ⟨p, q, hA0, hV, rfl, hfz, hnd⟩ := hW
  have hA : DataW.TrodAll enc Tryd.prog W 0 (fun _ => true) true Tryd.f4.params.toList args.toList ds p := hA0
  rw [Tryd.params4] at hA hval hsz
  obtain ⟨v0, v1, d0, d1, p0, p1, rfl, rfl, rfl, h0, h1⟩ := trodAll_two hA
  obtain ⟨rfl, rfl⟩ := trodVars_none hV
  have k0 := h0
  have lt0 : ∀ x ∈ p0, x.block < W.heap.size := by obtain ⟨m, hm⟩ := k0; exact DataW.trod_lt m _ _ _ hm
  obtain ⟨s, rfl, rfl, rfl, ws⟩ := open_string Tryd.underlying9 (hval 1 9 v1 rfl rfl) h1
  have hw0 : ∀ n ∈ d0.weights Tryd.prog 35, n ≤ reachBytes := fun n hn => by
    have := List.all_eq_true.1 hsz n (by simp [DataW.weightsEach, hn])
    simpa using this
  have hs : s.size ≤ 140737488351232 := by
    have := List.all_eq_true.1 hsz s.size (by simp [DataW.weightsEach, DataW.weights])
    have h2 := of_decide_eq_true this
    unfold reachBytes at h2
    omega
  obtain ⟨x, rfl, hin, hxs⟩ := open_val1 (hval 0 35 v0 rfl rfl) h0 hw0
  clear hA0 hval0 hsz hsz0 hL hSh
  refine (texts_walk x s W hin hxs hs hN).mono fun e W' ⟨he, bel⟩ => ?_
  subst he
  exact ⟨_, rfl, _, _, _, [], _, [], hW', trodAll_mk1 (shut_bool Tryd.underlying4 _), trodAll_mk2 (Below.trod keyLaidOut (by kernel_rfl) (of_decide_eq_true (by kernel_rfl)) k0 bel lt0) (shut_string Tryd.underlying9 ws), rfl, bel.frame _, fun h => by cases h⟩

theorem over : Rows.keyTextsRow.holds Tryd.pinned (OpenSpec.ofChange Rows.keyTextsSpec) :=
  OpenClaim.holds_of_wide 4 Tryd.f4 rfl rfl rfl rfl rfl rfl rfl ⟨rfl, rfl, rfl, rfl, rfl⟩ rfl rfl rfl rfl rfl (by kernel_rfl) Tryd.func4 (by kernel_rfl)
    (of_decide_eq_true (by kernel_rfl)) (by unfold Func.isWrapper; first | (rw [if_pos (by decide +kernel)]; kernel_rfl) | (rw [if_neg (by decide +kernel)]; exact ⟨rfl, rfl⟩))
    (fun os started H enc _ => lifted os started H enc)

theorem card : Rows.KeyTextsCardSaid :=
  Claim7.holds_tied_plain_at .later [] [.data, .data, .data, .sentinel, .sentinel] true (true, "204c2f2acab353bc4771b11726bfb4aafdf44a67b023eff532e850d78f88fac1") true
    over (fun _ h => by cases h) (by kernel_rfl) (fun _ h => by cases h) keyTexts_row_tie rfl ⟨rfl, rfl⟩ (by kernel_rfl) rfl
    (fun f fn hf hfn => by
      obtain rfl : f = 4 := Option.some.inj ((show Tryd.prog.funcNamed "girder/girderlaw11.KeyTexts" = some 4 by kernel_rfl).symm.trans hf) |>.symm
      obtain rfl : fn = Tryd.f4 := (Option.some.inj (Tryd.func4.symm.trans hfn)).symm
      exact ⟨by kernel_rfl, fun j t ht => by
        rw [Tryd.params4] at ht
        have hm : t ∈ [35, 9] := by simpa using Array.mem_of_getElem? ht
        have hall : ([35, 9].all fun u => !Tryd.prog.wantsStandIn u) = true := by kernel_rfl
        exact (show Tryd.prog.wantsStandIn t = false by simpa using List.all_eq_true.1 hall t hm)⟩)
    (by kernel_rfl)

end Go.Proofs.YtgammhmgdafpkaaDoor.LawKeyTexts

namespace Go.Proofs.YtgammhmgdafpkaaDoor
theorem keyTexts_holds : Rows.KeyTextsCardSaid := LawKeyTexts.card
#print axioms keyTexts_holds
end Go.Proofs.YtgammhmgdafpkaaDoor
