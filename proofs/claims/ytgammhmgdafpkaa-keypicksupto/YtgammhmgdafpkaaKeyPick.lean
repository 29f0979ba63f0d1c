/-
  Numbers in memory; the walk of key.Pick.
-/
import Derived.Test.YtgammhmgdafpkaaKeyTake
import Derived.Test.YtgammhmgdafpkaaClone
import Derived.Deep.CutRange
import Derived.Deep.CutBlock
namespace Go.Proofs.Ytgammhmgdafpkaa
open Go.RowKit Go.Sort
set_option linter.unusedVariables false
set_option linter.unusedSimpArgs false

/-- The numbers C lie one behind the other from a on. -/
def KInts (w : World) (a : Option Addr) (C : List Int) : Prop :=
  C = [] ∨ ∃ b o, a = some ⟨b, o, none⟩ ∧ b < w.heap.size ∧ ∀ i (hi : i < C.length), w.cell? ⟨b, o + i, none⟩ = some (.int .i64 C[i])

theorem KInts.below {w w' : World} {a : Option Addr} {C : List Int} (h : KInts w a C) (k : Below w.heap.size w w') : KInts w' a C := by
  rcases h with h | ⟨b, o, e, hb, hc⟩
  · exact .inl h
  · exact .inr ⟨b, o, e, Nat.lt_of_lt_of_le hb k.size, fun i hi => (k.cell (p := ⟨b, o + i, none⟩) hb).trans (hc i hi)⟩

/-- Is a number a column of a row of n values? -/
def colB (n : Nat) (c : Int) : Bool := decide (0 ≤ c ∧ c < n)

/-- The values of columns. -/
def pickV (R : List ValV) (C : List Int) : List ValV := C.map fun c => R[c.toNat]?.getD val0

/-- The error of Pick. -/
def pickE (R : List ValV) (C : List Int) : Int := if C.all (colB R.length) then 0 else 111

/-- The values of Pick. -/
def pickL (R : List ValV) (C : List Int) : List ValV := if C.all (colB R.length) then pickV R C else []

theorem pickV_snoc (R : List ValV) (C : List Int) (c : Int) : pickV R (C ++ [c]) = pickV R C ++ [R[c.toNat]?.getD val0] := by simp [pickV]
theorem pickV_length (R : List ValV) (C : List Int) : (pickV R C).length = C.length := by simp [pickV]

theorem col_bad {R : List ValV} {C : List Int} {k : Nat} (hk : k < C.length) (h : ¬ (0 ≤ C[k] ∧ C[k] < R.length)) : C.all (colB R.length) = false := by
  rw [Bool.eq_false_iff]
  intro z
  have := List.all_eq_true.1 z C[k] (List.getElem_mem hk)
  unfold colB at this
  exact h (of_decide_eq_true this)

theorem pick_infoVal : (Try.prog.info? 47).map (fun i => (i.zero, i.size, i.bytes)) = some (some (.agg #[.int .i64 0, .int .i64 0, .string ⟨#[]⟩]), 3, 32) := by kernel_rfl

/-- What comes out of a call that tells values and an error. -/
structure ValsOut (w : World) (M : List ValV) (E : Int) (x : Ending) (w' : World) : Prop where
  out : ∃ a c, x = .returned (.tuple #[.slice a M.length c, .int .i64 E]) ∧ Hid (ValsAt w' a M) ∧ Below w.heap.size w w'

set_option maxHeartbeats 3200000 in
theorem pick_any (a1 a2 : Option Addr) (c1 c2 : Nat) (R : List ValV) (C : List Int) (w : World) (hR : ValsAt w a1 R) (hC : KInts w a2 C) (hl : C.length ≤ 8796093022208) (hlR : R.length ≤ 9223372036854775807) (hS : ∀ v ∈ R, v.S.size ≤ 281474976710656) :
    Calls Try.prog 12 #[.slice a1 R.length c1, .slice a2 C.length c2] w fun x w' => ValsOut w (pickL R C) (pickE R C) x w' := by
  obtain ⟨E, HE⟩ : ∃ E, Hid (pickE R C = E) := ⟨_, rfl⟩
  obtain ⟨M, HM⟩ : ∃ M, Hid (pickL R C = M) := ⟨_, rfl⟩
  rw [HE.out, HM.out]
  have hmk := kmake_rows (P := Try.prog) 22 47 #[.int .i64 0, .int .i64 0, .string ⟨#[]⟩] 3 32 Try.underlying22 pick_infoVal .i64 .i64 C.length (by omega) (by omega)
  have hRb0 : ∀ b o, R ≠ [] → a1 = some ⟨b, o, none⟩ → b < w.heap.size := fun b o h e => by
    rcases hR with hR | ⟨b1, o1, e1, hb1, _⟩
    · exact absurd hR h
    · rw [e1] at e
      simp only [Option.some.injEq, Addr.mk.injEq, and_true] at e
      omega
  have HRb0 := hidk hRb0
  clear hRb0
  go_enter Try.func12, Try.ntmps12
  go_wp2_with fail
  go_loopw [14] (fun i wr => ∃ k : Nat, k ≤ C.length ∧ i = .int .i64 k ∧ Hid ((C.take k).all (colB R.length) = true) ∧ Hid (KRow wr w.heap.size (C.length * 3) (cellV (pickV R (C.take k)))) ∧ Hid (Below w.heap.size w wr) ∧ w.heap.size < wr.heap.size) (fun i _ => C.length - (intOf i).toNat)
  case atStart =>
    exact ⟨0, by omega, rfl, rfl, (kRow_made w #[.int .i64 0, .int .i64 0, .string ⟨#[]⟩] (by simp) (C.length * 3) _).congr (fun j _ => (cellV_nil j).symm), (Below.refl _ _).alloc (Nat.le_refl _) _, by simp⟩
  case round =>
    obtain ⟨k, hk, rfl, HG, HROW, HB, hz⟩ := hrel
    by_cases hlt : k < C.length
    · replace hC := hC.below HB.out
      rcases hC with hC | ⟨b2, o2, rfl, hb2, g2⟩
      · rw [hC] at hlt; simp at hlt
      have x0 := g2 k hlt
      have hi0 : (0 : Int) ≤ (k : Int) := by omega
      have hi1 : (k : Int) < (C.length : Int) := by omega
      have HT : Hid (C.take (k + 1) = C.take k ++ [C[k]]) := List.take_succ_eq_append_getElem hlt
      have Hbad : Hid (¬ (0 ≤ C[k] ∧ C[k] < R.length) → C.all (colB R.length) = false) := col_bad hlt
      obtain ⟨col, Hcol⟩ : ∃ col, Hid (C[k] = col) := ⟨C[k], rfl⟩
      rw [Hcol.out] at x0 HT Hbad
      clear Hcol g2
      by_cases hneg : col < 0
      · have hb : C.all (colB R.length) = false := Hbad.out (by omega)
        have hE : Hid (E = 111) := by show _ = _; rw [← HE.out]; unfold pickE; rw [hb]; rfl
        have hM : Hid (M = []) := by show _ = _; rw [← HM.out]; unfold pickL; rw [hb]; rfl
        clear hb HE HM Hbad
        go_wp2
        go_ret2
        exact ⟨none, 0, by rw [hE.out, hM.out]; rfl, Or.inl hM.out, HB.out⟩
      · by_cases hbig : (R.length : Int) ≤ col
        · have hb : C.all (colB R.length) = false := Hbad.out (by omega)
          have hE : Hid (E = 111) := by show _ = _; rw [← HE.out]; unfold pickE; rw [hb]; rfl
          have hM : Hid (M = []) := by show _ = _; rw [← HM.out]; unfold pickL; rw [hb]; rfl
          clear hb HE HM Hbad
          go_wp2
          go_ret2
          exact ⟨none, 0, by rw [hE.out, hM.out]; rfl, Or.inl hM.out, HB.out⟩
        · obtain ⟨q, rfl⟩ : ∃ q : Nat, col = q := ⟨col.toNat, by omega⟩
          have hq : q < R.length := by omega
          have hq0 : ¬ (q : Int) < 0 := hneg
          have hq1 : ¬ (R.length : Int) ≤ (q : Int) := hbig
          have hq2 : (q : Int) < (R.length : Int) := by omega
          have hq3 : (0 : Int) ≤ (q : Int) := by omega
          replace hR := hR.below HB.out
          rcases hR with hR | ⟨b1, o1, rfl, hb1, g1⟩
          · rw [hR] at hq; simp at hq
          have hRb : Hid (b1 < w.heap.size) := HRb0.out b1 o1 (fun e => by rw [e] at hq; simp at hq) rfl
          have g1 := g1 q hq
          have hSq := hS R[q] (List.getElem_mem hq)
          have HV : Hid (pickV R (C.take (k + 1)) = pickV R (C.take k) ++ [R[q]]) := by
            show _ = _
            rw [HT.out, pickV_snoc]
            simp [hq]
          have HG1 : Hid ((C.take (k + 1)).all (colB R.length) = true) := by
            show _ = _
            rw [HT.out, List.all_append, HG.out]
            simp [colB]; omega
          obtain ⟨v, Hv⟩ : ∃ v, Hid (R[q] = v) := ⟨R[q], rfl⟩
          rw [Hv.out] at g1 hSq HV
          clear Hv HT Hbad HG
          obtain ⟨y0, y1, y2⟩ := g1
          have hlen : (pickV R (C.take k)).length = k := by rw [pickV_length, List.length_take]; omega
          obtain ⟨P, HPk⟩ : ∃ P, Hid (pickV R (C.take k) = P) := ⟨_, rfl⟩
          rw [HPk.out] at HROW HV hlen
          clear HPk
          have c0 := (HROW.out (k * 3) (by omega)).1
          have c1' := (HROW.out (k * 3 + 1) (by omega)).1
          have c2' := (HROW.out (k * 3 + 2) (by omega)).1
          have f0 := (HROW.out (k * 3) (by omega)).2
          have f1 := (HROW.out (k * 3 + 1) (by omega)).2
          have f2 := (HROW.out (k * 3 + 2) (by omega)).2
          have hne : b1 ≠ w.heap.size := fun e => by
            have h0 := hRb.out
            omega
          obtain ⟨W3, HW3⟩ : ∃ W3, Hid (W3 = ((wr.setCell ⟨w.heap.size, k * 3, none⟩ (.int .i64 v.kind)).setCell ⟨w.heap.size, k * 3 + 1, none⟩ (.int .i64 v.n)).setCell ⟨w.heap.size, k * 3 + 2, none⟩ (.string v.S)) := ⟨_, rfl⟩
          have HROW3 : Hid (KRow W3 w.heap.size (C.length * 3) (fun j => if j = k * 3 + 2 then .string v.S else if j = k * 3 + 1 then .int .i64 v.n else if j = k * 3 then .int .i64 v.kind else cellV P j)) := by
            show KRow _ _ _ _
            rw [HW3.out]
            exact ((HROW.out.set (k := k * 3) (by omega) (.int .i64 v.kind)).set (k := k * 3 + 1) (by omega) (.int .i64 v.n)).set (k := k * 3 + 2) (by omega) (.string v.S)
          have HB3 : Hid (Below w.heap.size w W3) := by
            show Below _ _ _
            rw [HW3.out]
            exact ((HB.out.setCell (p := ⟨w.heap.size, k * 3, none⟩) (Nat.le_refl _) _).setCell (p := ⟨w.heap.size, k * 3 + 1, none⟩) (Nat.le_refl _) _).setCell (p := ⟨w.heap.size, k * 3 + 2, none⟩) (Nat.le_refl _) _
          have hz3 : w.heap.size < W3.heap.size := by rw [HW3.out]; simpa using hz
          have hb13 : b1 < W3.heap.size := by rw [HW3.out]; simpa using hb1
          have z2 : W3.cell? ⟨b1, o1 + q * 3 + 2, none⟩ = some (.string v.S) := by
            rw [HW3.out, World.cell?_setCell_other _ _ _ _ (fun e => hne (congrArg Addr.block e).symm), World.cell?_setCell_other _ _ _ _ (fun e => hne (congrArg Addr.block e).symm), World.cell?_setCell_other _ _ _ _ (fun e => hne (congrArg Addr.block e).symm)]
            exact y2
          go_upto_region 8 with fail
          rw [← HW3.out]
          clear HW3 c0 c1' c2' f0 f1 f2 y0 y1 y2 HROW HB
          go_wp2_with fail
          refine (clone_any v.S W3 hSq).mono ?_
          rintro x w4 ⟨rfl, b4⟩
          have HROW4 := hidk (HROW3.out.below b4 hz3)
          have c2' := (HROW4.out (k * 3 + 2) (by omega)).1
          have f2 := (HROW4.out (k * 3 + 2) (by omega)).2
          have hz4 : w.heap.size < w4.heap.size := Nat.lt_of_lt_of_le hz3 b4.size
          have HB4 := hidk (below_chain HB3.out b4)
          have HS4 := hidk (HROW4.out.set (k := k * 3 + 2) (by omega) (.string v.S))
          clear HROW3 HROW4 HB3 b4 z2
          go_wp2_with fail
          go_roundw
          case rel =>
            refine ⟨k + 1, by omega, by go_num, HG1, ?_, HB4.out.setCell (p := ⟨w.heap.size, k * 3 + 2, none⟩) (Nat.le_refl _) _, by simpa using hz4⟩
            show KRow _ _ _ _
            rw [HV.out]
            refine HS4.out.congr (fun j _ => ?_)
            rw [cellV_snoc, hlen]
            by_cases e2 : j = k * 3 + 2
            · rw [if_pos e2, if_pos e2]
            · rw [if_neg e2, if_neg e2]
          case measure => simp [intOf]; omega
    · have hkl : C.take k = C := List.take_of_length_le (by omega)
      have hi1 : ¬ (k : Int) < (C.length : Int) := by omega
      rw [hkl] at HG HROW
      have hE : Hid (E = 0) := by show _ = _; rw [← HE.out]; unfold pickE; rw [HG.out]; rfl
      have hM : Hid (M = pickV R C) := by show _ = _; rw [← HM.out]; unfold pickL; rw [HG.out]; rfl
      have hML : M.length = C.length := by rw [hM.out, pickV_length]
      have HVs : Hid (ValsAt wr (some ⟨w.heap.size, 0, none⟩) M) := by
        show ValsAt _ _ _
        rw [hM.out]
        refine KRow.vals hz ?_
        rw [pickV_length]
        exact HROW.out
      have HML := hidk hML
      clear hML hkl HE HM HROW
      go_wp2
      go_ret2
      exact ⟨some ⟨w.heap.size, 0, none⟩, C.length, by rw [hE.out, HML.out]; rfl, HVs, HB.out⟩

end Go.Proofs.Ytgammhmgdafpkaa
