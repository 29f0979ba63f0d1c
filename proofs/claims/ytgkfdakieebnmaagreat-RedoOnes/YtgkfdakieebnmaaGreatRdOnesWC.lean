/-
  The walk of RedoOnes.
-/
import Derived.Test.YtgkfdakieebnmaaGreatRdMissJ
namespace Go.Proofs.YtgkfdakieebnmaaGreat
open Go.RowKit Go.Sort Go.Shelf Go.Lib
set_option linter.unusedVariables false
set_option linter.unusedSimpArgs false

set_option maxHeartbeats 12800000 in
set_option maxRecDepth 20000 in
theorem ones20_any (x : SheetV) (a : Option Addr) (c : Nat) (r : RecV) (ta da : Option Addr) (tc dc at' : Nat) (hat : at' < 18446744073709551616) (w : World) (hx : x.Ok w a) (ho : r.op.Ok) :
    Calls Tryz.prog 4 #[x.val a c, .agg (r.cells ta da tc dc), .int .u64 (at' : Nat)] w fun e w' => e = .returned (.bool true) ∧ Below w.heap.size w w' := by
  obtain ⟨W, HW⟩ : ∃ W, Hid (W = (w.alloc (.cells #[.int .u32 x.num, .int .u64 x.lsn, .int .i64 x.kind, .string x.head, .slice a x.slots.length c] 52)).alloc (.cells (r.cells ta da tc dc) 64)) := ⟨_, rfl⟩
  have H0 : Hid (Below w.heap.size w W ∧ BlkR W w.heap.size #[.int .u32 x.num, .int .u64 x.lsn, .int .i64 x.kind, .string x.head, .slice a x.slots.length c] 52 ∧ BlkR W (w.heap.size + 1) (r.cells ta da tc dc) 64) := by
    rw [HW.out]
    have s1 : (w.alloc (.cells #[.int .u32 x.num, .int .u64 x.lsn, .int .i64 x.kind, .string x.head, .slice a x.slots.length c] 52)).heap.size = w.heap.size + 1 := by simp
    have h2 := heap_alloc_new (w.alloc (.cells #[.int .u32 x.num, .int .u64 x.lsn, .int .i64 x.kind, .string x.head, .slice a x.slots.length c] 52)) (.cells (r.cells ta da tc dc) 64)
    rw [s1] at h2
    exact ⟨((Below.refl _ _).alloc (Nat.le_refl _) _).alloc (by rw [s1]; omega) _, (heap_old _ _ (by rw [s1]; omega)).trans (heap_alloc_new w _), h2⟩
  have HPAR : Hid (r.cells ta da tc dc = #[.int .i64 r.kind, .int .i64 r.tx, .int .u64 r.prev, .int .u64 r.next, .int .u32 r.page, .int .i64 r.op.kind, .int .i64 r.op.at', .string r.op.S, .string r.op.old, .int .i64 r.undo, .int .i64 r.index, .string r.key, .int .u32 r.rpage, .int .i64 r.rslot, .bool r.live, .slice ta r.txs.length tc, .slice da r.dirty.length dc]) := rfl
  have HV : Hid (x.val a c = .agg #[.int .u32 x.num, .int .u64 x.lsn, .int .i64 x.kind, .string x.head, .slice a x.slots.length c]) := rfl
  have HX := hida hx
  have hn32 := hx.num
  have HOO := hida ho
  have HBG := hida (rbegun_any W 8 (by omega) (by omega))
  clear hx ho
  rw [HV.out, HPAR.out]
  go_enter Tryz.func4, Tryz.ntmps4
  go_upto_region 1 with fail
  rw [← HPAR.out, show ((w.alloc (.cells #[.int .u32 x.num, .int .u64 x.lsn, .int .i64 x.kind, .string x.head, .slice a x.slots.length c] 52)).alloc (.cells (r.cells ta da tc dc) 64)) = W from HW.out.symm]
  clear HW HPAR
  go_wp2_with fail
  refine HBG.out.mono ?_
  rintro e w1 ⟨p, q, pp, A, S, l, d, rfl, h1, p1⟩
  have HO1 : Hid (OnS w w1 p q pp A S l d (pool0 p q 8) #[.int .u32 x.num, .int .u64 x.lsn, .int .i64 x.kind, .string x.head, .slice a x.slots.length c] (r.cells ta da tc dc) x a) := by
    have hsz := H0.out.2.2.lt
    refine ⟨h1.early H0.out.1, p1.early H0.out.1, (h1.bel.block _ H0.out.2.1.lt).trans H0.out.2.1, (h1.bel.block _ hsz).trans H0.out.2.2, ?_, ?_, fun hn b o e => ?_, HX.out.mem⟩
    · rintro (z | z)
      · have := p1.lo _ z; omega
      · have := h1.lo _ z; omega
    · rintro (z | z)
      · have := p1.lo _ z; omega
      · have := h1.lo _ z; omega
    · have hb : b < w.heap.size := by
        rcases HX.out.mem with e1 | ⟨b', o', e1, hb, _⟩
        · exact absurd e1 hn
        · rw [e] at e1; cases e1; exact hb
      rintro (z | z)
      · have := p1.lo _ z; omega
      · have := h1.lo _ z; omega
  clear HBG h1 p1 H0
  go_wp2_with fail
  refine (awake20_any w1).mono ?_
  rintro e w2 ⟨rfl, b2⟩
  have HO2 := hida (HO1.out.below b2)
  clear HO1 b2
  have x0 : w2.cell? ⟨w.heap.size, 0, none⟩ = some (.int .u32 (x.num : Nat)) := HO2.out.bx.cell 0
  have HBL := hida HO2.out.rd.bel
  by_cases g1 : x.num < 1
  · have d1 : decide ((x.num : Int) < 1) = true := decide_eq_true (by omega)
    clear HO2
    go_wp2_with fail
    go_ret
    exact ⟨rfl, HBL.out⟩
  have d1 : decide ((x.num : Int) < 1) = false := decide_eq_false (by omega)
  by_cases g2 : 60 < x.num
  · have d2 : decide ((60 : Int) < (x.num : Int)) = true := decide_eq_true (by omega)
    clear HO2
    go_wp2_with fail
    go_ret
    exact ⟨rfl, HBL.out⟩
  have d2 : decide ((60 : Int) < (x.num : Int)) = false := decide_eq_false (by omega)
  have x1 : w2.cell? ⟨w.heap.size, 1, none⟩ = some (.int .u64 (x.lsn : Nat)) := HO2.out.bx.cell 1
  have x2 : w2.cell? ⟨w.heap.size, 2, none⟩ = some (.int .i64 x.kind) := HO2.out.bx.cell 2
  have x3 : w2.cell? ⟨w.heap.size, 3, none⟩ = some (.string x.head) := HO2.out.bx.cell 3
  have x4 : w2.cell? ⟨w.heap.size, 4, none⟩ = some (.slice a x.slots.length c) := HO2.out.bx.cell 4
  have HXO : Hid (x.Ok w2 a) := HX.out.below HBL.out
  by_cases hE : encE x = 0
  rotate_left
  · have HPB := hida (poolPut_bad (p := pp) x a c HXO.out (by omega) (by omega) hE)
    rw [HV.out] at HPB
    generalize encE x = EE at *
    have hne : (EE == 0) = false := beq_eq_false_iff_ne.2 hE
    clear HO2
    go_wp2_with fail
    refine HPB.out.mono ?_
    rintro e w3 ⟨rfl, b3⟩
    have HF := hida (below_chain HBL.out b3)
    clear HPB
    go_wp2_with fail
    go_ret
    exact ⟨rfl, HF.out⟩
  have HFT : Hid x.Fits := (encE_fits HXO.out).1 hE
  have HPU := hida (rd_putG HO2.out.rd HO2.out.pa x a c HFT.out HO2.out.at HO2.out.st (by omega) (by omega) (fun _ => by show 0 < 8; omega) (by show 0 ≤ 1000; omega) (by show 8 ≤ 256; omega))
  rw [HV.out] at HPU
  clear HXO hE
  go_wp2_with fail
  refine HPU.out.mono ?_
  rintro e w3 ⟨rfl, s3⟩
  have H3 := hida (HO2.out.stp s3)
  clear HPU HO2 s3 x0 x1 x2 x3 x4 HBL
  obtain ⟨P1, HP1⟩ : ∃ P1, Hid (putP (pool0 p q 8) x = P1) := ⟨_, rfl⟩
  rw [HP1.out] at H3
  have HQ : Hid (shOf P1 x.num = x ∧ ofG P1 x.num = P1 ∧ P1.F x.num ≠ none ∧ P1.z ≤ 1 ∧ P1.most = 8 ∧ P1.fetched ≤ 1) := by
    rw [← HP1.out]
    refine ⟨shOf_put _ _, ofG_put _ _, ?_, ?_, rfl, Nat.zero_le _⟩
    · show setFr _ x.num _ x.num ≠ none
      unfold setFr
      rw [if_pos rfl]; simp
    · have hz : (putP (pool0 p q 8) x).z = if ((pool0 p q 8).F x.num).isSome = true then 0 else 0 + 1 := rfl
      rw [hz]
      split <;> omega
  clear HP1
  obtain ⟨A3, S3, h3⟩ := H3.out
  have HO3 := hida h3
  clear H3 h3
  have x0 : w3.cell? ⟨w.heap.size, 0, none⟩ = some (.int .u32 (x.num : Nat)) := HO3.out.bx.cell 0
  have f4 : w3.frozen? ⟨w.heap.size + 1, 4, none⟩ = false := HO3.out.br.frozen 4
  have r4 : w3.cell? ⟨w.heap.size + 1, 4, none⟩ = some (.int .u32 (r.page : Nat)) := HO3.out.br.cell 4
  obtain ⟨R', hR'⟩ : ∃ R', R' = ({ r with page := x.num } : RecV) := ⟨_, rfl⟩
  have HRK : Hid (R'.kind = r.kind ∧ R'.op = r.op ∧ R'.page = x.num) := by rw [hR']; exact ⟨rfl, rfl, rfl⟩
  have HO4 : Hid (OnS w (w3.setCell ⟨w.heap.size + 1, 4, none⟩ (.int .u32 (x.num : Nat))) p q pp A3 S3 l d P1 #[.int .u32 x.num, .int .u64 x.lsn, .int .i64 x.kind, .string x.head, .slice a x.slots.length c] (R'.cells ta da tc dc) x a) := by
    have := HO3.out.setR 4 (.int .u32 (x.num : Nat))
    rw [hR']
    exact this
  obtain ⟨W5, HW5⟩ : ∃ W5, Hid (w3.setCell ⟨w.heap.size + 1, 4, none⟩ (.int .u32 (x.num : Nat)) = W5) := ⟨_, rfl⟩
  rw [HW5.out] at HO4
  clear hR' HO3
  obtain ⟨E, y, hA⟩ := apply_is HFT.out HOO.out
  have HAI := hida hA
  have HONE : Hid (Calls Tryz.prog 19 #[.pointer (some ⟨pp, 0, none⟩), .int .u64 (at' : Nat), .agg (R'.cells ta da tc dc)] W5 (OneOut w W5 p q pp A3 S3 l d [] 0 0 P1 R' E y at')) := by
    obtain ⟨q1, q2, q3, q4, q5, q6⟩ := HQ.out
    obtain ⟨k1, k2, k3⟩ := HRK.out
    refine one_any HO4.out.rd HO4.out.pa R' ta da tc dc at' (by rw [k3]; omega) (by rw [k3]; omega) (fun h => absurd h (by rw [k3]; exact q3)) (by omega) (by omega) (by omega) (by rw [k3, q1]; exact HFT.out) (by rw [k3, q1, k2]; exact hA) (by rw [k3, q1]) hat
  clear hA
  go_upto_region 7 with fail
  rw [HW5.out]
  clear HW5 x0 f4 r4
  refine wp_region_lit ?_
  refine wpList_moveL rfl _ rfl ?_
  refine wpList_moveL rfl _ rfl ?_
  refine wpList_loadRow rfl _ _ rfl (w.heap.size + 1) rfl (R'.cells ta da tc dc) _ (0, 0) HO4.out.br _ Tryz.underlying64 rfl (by kernel_rfl) ?_
  go_wp2_with fail
  refine HONE.out.mono ?_
  rintro e w6 ho
  clear HONE
  by_cases hk : r.kind = 1 ∨ r.kind = 2
  rotate_left
  · obtain ⟨rfl, s6⟩ := ho.arg (by rw [HRK.out.1]; exact hk)
    obtain ⟨A6, S6, h6⟩ := HO4.out.stp s6
    have c0 : w6.cell? ⟨w.heap.size + 1, 0, none⟩ = some (.int .i64 r.kind) := by have := h6.br.cell 0; rw [← HRK.out.1]; exact this
    have HF := hida h6.rd.bel
    obtain ⟨K, hK⟩ : ∃ K, r.kind = K := ⟨_, rfl⟩
    rw [hK] at c0 hk
    have e3 : ¬ K = 1 := fun e => hk (.inl e)
    have e4 : ¬ K = 2 := fun e => hk (.inr e)
    have d3 : (K == 1) = false := beq_eq_false_iff_ne.2 e3
    have d4 : (K == 2) = false := beq_eq_false_iff_ne.2 e4
    have d5 : (K != 1) = true := by simp [bne, d3]
    have d6 : (K != 2) = true := by simp [bne, d4]
    clear e3 e4
    clear hk hK HRK
    clear h6 s6 HO4 ho
    go_wp2_with fail
    go_ret
    exact ⟨rfl, HF.out⟩
  obtain ⟨is, er, P2, yv, he, s6, hq⟩ : ∃ (is : Bool) (er : Int) (P2 : PG) (yv : SheetV), e = .returned (.tuple #[.bool is, .int .i64 er]) ∧ Stp w W5 w6 p q pp A3 S3 l d [] 0 0 P2 ∧
      (shOf P2 x.num = yv ∧ ofG P2 x.num = P2 ∧ P2.F x.num ≠ none ∧ P2.most = 8 ∧ P2.fetched ≤ 1) ∧ yv.Fits ∧
      ((at' ≤ x.lsn ∧ is = false ∧ er = 0 ∧ yv = x) ∨ (x.lsn < at' ∧ E ≠ 0 ∧ is = false ∧ er = 200 ∧ yv = x) ∨ (x.lsn < at' ∧ E = 0 ∧ is = true ∧ er = 0 ∧ yv = ({ y with lsn := at' } : SheetV))) := by
    obtain ⟨q1, q2, q3, q4, q5, q6⟩ := HQ.out
    obtain ⟨k1, k2, k3⟩ := HRK.out
    obtain ⟨_, o2, o3, o4⟩ := ho
    rw [k1, k3, q1] at o2 o3 o4
    rw [q2] at o2 o3 o4
    by_cases hl : at' ≤ x.lsn
    · obtain ⟨e1, s⟩ := o2 hk hl
      exact ⟨false, 0, P1, x, e1, s, ⟨q1, q2, q3, q5, q6⟩, HFT.out, .inl ⟨hl, rfl, rfl, rfl⟩⟩
    · by_cases hE : E = 0
      · obtain ⟨e1, s⟩ := o4 hk (by omega) hE
        have hyn := (HAI.out.1 hE).2
        have hyf := (HAI.out.1 hE).1
        have hzf : ({ y with lsn := at' } : SheetV).Fits := by
          obtain ⟨f1, f2, f3, f4, f5, f6, f7⟩ := hyf
          exact ⟨f1, hat, f3, f4, f5, f6, f7⟩
        obtain ⟨z, hz⟩ : ∃ z, z = ({ y with lsn := at' } : SheetV) := ⟨_, rfl⟩
        have hzn : z.num = x.num := by rw [hz]; exact hyn
        rw [← hz] at s hzf
        have w1 := shOf_put P1 z
        have w2 := ofG_put P1 z
        have w3 : (putP P1 z).F z.num ≠ none := by
          show setFr P1.F z.num _ z.num ≠ none
          unfold setFr
          rw [if_pos rfl]; simp
        rw [hzn] at w1 w2 w3
        exact ⟨true, 0, _, z, e1, s, ⟨w1, w2, w3, q5, q6⟩, hzf, .inr (.inr ⟨by omega, hE, rfl, rfl, hz⟩)⟩
      · obtain ⟨e1, s⟩ := o3 hk (by omega) hE
        exact ⟨false, 200, P1, x, e1, s, ⟨q1, q2, q3, q5, q6⟩, HFT.out, .inr (.inl ⟨by omega, hE, rfl, rfl, rfl⟩)⟩
  have HH := hid hq
  obtain ⟨A6, S6, h6⟩ := HO4.out.stp s6
  have HO6 := hida h6
  clear hq s6 h6 HO4 ho
  subst he
  have c0 : w6.cell? ⟨w.heap.size + 1, 0, none⟩ = some (.int .i64 r.kind) := by have := HO6.out.br.cell 0; rw [← HRK.out.1]; exact this
  have x0 : w6.cell? ⟨w.heap.size, 0, none⟩ = some (.int .u32 (x.num : Nat)) := HO6.out.bx.cell 0
  have HGE := hida (rd_get HO6.out.rd HO6.out.pa x.num (by omega) (by omega) (fun h => absurd h HH.out.1.2.2.1) (by rw [HH.out.1.2.2.2.1]; omega) (by have := HH.out.1.2.2.2.2; omega))
  rw [HH.out.1.1, HH.out.1.2.1] at HGE
  have hkk : r.kind = 1 ∨ (r.kind ≠ 1 ∧ r.kind = 2) := by
    by_cases h1 : r.kind = 1
    · exact .inl h1
    · exact .inr ⟨h1, hk.resolve_left h1⟩
  have goal : True := trivial
  rcases hkk with hkk | ⟨hk1, hk2⟩
  · have d3 : (r.kind == 1) = true := beq_iff_eq.2 hkk
    go_wp2_with fail
    refine HGE.out.mono ?_
    rintro e w7 ⟨a2, c2, rfl, hst, s7⟩
    obtain ⟨A7, S7, h7⟩ := HO6.out.stp s7
    have HO7 := hida h7
    have HST := hida hst
    clear HGE h7 hst s7 HO6 c0 x0
    rw [show yv.val a2 c2 = .agg #[.int .u32 yv.num, .int .u64 yv.lsn, .int .i64 yv.kind, .string yv.head, .slice a2 yv.slots.length c2] from rfl]
    obtain ⟨W8, HW8⟩ : ∃ W8, Hid (w7.alloc (.cells #[.int .u32 yv.num, .int .u64 yv.lsn, .int .i64 yv.kind, .string yv.head, .slice a2 yv.slots.length c2] 52) = W8) := ⟨_, rfl⟩
    have b8 : Below w7.heap.size w7 W8 := by rw [← HW8.out]; exact (Below.refl _ _).alloc (Nat.le_refl _) _
    have HSB : Hid (BlkR W8 w7.heap.size #[.int .u32 yv.num, .int .u64 yv.lsn, .int .i64 yv.kind, .string yv.head, .slice a2 yv.slots.length c2] 52) := by rw [← HW8.out]; exact heap_alloc_new w7 _
    have HO8 := hida (HO7.out.below b8)
    have HYO : Hid (yv.Ok W8 a2) := HH.out.2.1.ok (HST.out.at.below b8)
    have HXO : Hid (x.Ok W8 a) := HFT.out.ok HO8.out.at
    clear HO7 HST b8
    have x1 : W8.cell? ⟨w.heap.size, 1, none⟩ = some (.int .u64 (x.lsn : Nat)) := HO8.out.bx.cell 1
    go_upto_region 13 with fail
    rw [HW8.out]
    clear HW8
    have x0 : W8.cell? ⟨w.heap.size, 0, none⟩ = some (.int .u32 (x.num : Nat)) := HO8.out.bx.cell 0
    have x2 : W8.cell? ⟨w.heap.size, 2, none⟩ = some (.int .i64 x.kind) := HO8.out.bx.cell 2
    have x3 : W8.cell? ⟨w.heap.size, 3, none⟩ = some (.string x.head) := HO8.out.bx.cell 3
    have x4 : W8.cell? ⟨w.heap.size, 4, none⟩ = some (.slice a x.slots.length c) := HO8.out.bx.cell 4
    have y0 : W8.cell? ⟨w7.heap.size, 0, none⟩ = some (.int .u32 (yv.num : Nat)) := HSB.out.cell 0
    have y1 : W8.cell? ⟨w7.heap.size, 1, none⟩ = some (.int .u64 (yv.lsn : Nat)) := HSB.out.cell 1
    have y2 : W8.cell? ⟨w7.heap.size, 2, none⟩ = some (.int .i64 yv.kind) := HSB.out.cell 2
    have y3 : W8.cell? ⟨w7.heap.size, 3, none⟩ = some (.string yv.head) := HSB.out.cell 3
    have y4 : W8.cell? ⟨w7.heap.size, 4, none⟩ = some (.slice a2 yv.slots.length c2) := HSB.out.cell 4
    have HBL := hida HO8.out.rd.bel
    have HYF := hida HH.out.2.1
    obtain ⟨hh1, hh2, hcase⟩ := HH.out
    clear hh1
    rcases hcase with ⟨hl, rfl, rfl, rfl⟩ | ⟨hl, hE, rfl, rfl, rfl⟩ | ⟨hl, hE, rfl, rfl, hyv⟩
    · have dl : decide ((at' : Int) ≤ (yv.lsn : Int)) = true := decide_eq_true (by omega)
      have HSA : Hid (∀ c1 c2, Calls Tryz.prog 16 #[.agg #[.int .u32 yv.num, .int .u64 yv.lsn, .int .i64 yv.kind, .string yv.head, .slice a yv.slots.length c1], .agg #[.int .u32 yv.num, .int .u64 yv.lsn, .int .i64 yv.kind, .string yv.head, .slice a2 yv.slots.length c2]] W8 fun e w' => e = .returned (.bool true) ∧ Below W8.heap.size W8 w') := fun c1 c2 => by
        have := same_any yv yv a a2 c1 c2 W8 HXO.out HYO.out
        rw [sameB_self] at this
        exact this
      clear HXO HYO HH hh2
      go_wp2_with fail
      refine (HSA.out _ _).mono ?_
      rintro e w9 ⟨rfl, b9⟩
      have HBX9 := hida ((b9.block _ HO8.out.bx.lt).trans HO8.out.bx)
      have HBY9 := hida ((b9.block _ HSB.out.lt).trans HSB.out)
      have HF := hida (below_chain HBL.out b9)
      have x1 : w9.cell? ⟨w.heap.size, 1, none⟩ = some (.int .u64 (yv.lsn : Nat)) := BlkR.cell HBX9.out 1
      have y1 : w9.cell? ⟨w7.heap.size, 1, none⟩ = some (.int .u64 (yv.lsn : Nat)) := BlkR.cell HBY9.out 1
      clear b9 HBX9 HBY9 HSA HO8 HSB HBL
      go_wp2_with fail
      go_ret
      exact ⟨by simp, HF.out⟩
    · have dl : decide ((at' : Int) ≤ (yv.lsn : Int)) = false := decide_eq_false (by omega)
      have o5 : W8.cell? ⟨w.heap.size + 1, 5, none⟩ = some (.int .i64 r.op.kind) := by have := HO8.out.br.cell 5; rw [← HRK.out.2.1]; exact this
      have o6 : W8.cell? ⟨w.heap.size + 1, 6, none⟩ = some (.int .i64 r.op.at') := by have := HO8.out.br.cell 6; rw [← HRK.out.2.1]; exact this
      have o7 : W8.cell? ⟨w.heap.size + 1, 7, none⟩ = some (.string r.op.S) := by have := HO8.out.br.cell 7; rw [← HRK.out.2.1]; exact this
      have o8 : W8.cell? ⟨w.heap.size + 1, 8, none⟩ = some (.string r.op.old) := by have := HO8.out.br.cell 8; rw [← HRK.out.2.1]; exact this
      have HAP : Hid (Calls Tryz.prog 20 #[.agg #[.int .u32 yv.num, .int .u64 yv.lsn, .int .i64 yv.kind, .string yv.head, .slice a yv.slots.length c], .agg #[.int .i64 r.op.kind, .int .i64 r.op.at', .string r.op.S, .string r.op.old], .int .u64 (at' : Nat)] W8 fun e w' => ∃ X, e = .returned (.tuple #[X, .int .i64 E]) ∧ Below W8.heap.size W8 w' ∧
        (E = 0 → ∃ a' c', X = ({ y with lsn := at' } : SheetV).val a' c' ∧ StrsFrom W8.heap.size w' a' y.slots ∧ (∀ g k, a' = some ⟨g, k, none⟩ → W8.heap.size ≤ g ∧ g < w'.heap.size)) ∧ (E ≠ 0 → X = sheet0.val none 0)) := HAI.out.2 at' W8 a c HXO.out
      clear HH hh2
      go_upto_region 15 with fail
      go_wp2_with fail
      refine HAP.out.mono ?_
      rintro e w9 ⟨X, rfl, b9, _, hX⟩
      rw [hX hE, show sheet0.val none 0 = .agg #[.int .u32 0, .int .u64 0, .int .i64 0, .string ⟨#[]⟩, .slice none 0 0] from rfl]
      obtain ⟨W10, HW10⟩ : ∃ W10, Hid (w9.alloc (.cells #[.int .u32 0, .int .u64 0, .int .i64 0, .string ⟨#[]⟩, .slice none 0 0] 52) = W10) := ⟨_, rfl⟩
      have b10 : Below W8.heap.size W8 W10 := by rw [← HW10.out]; exact b9.alloc b9.size _
      have HE := hida hE
      clear hE hX HAP o5 o6 o7 o8 b9
      have hne : (E == 0) = false := beq_eq_false_iff_ne.2 HE.out
      go_upto_region 16 with fail
      rw [HW10.out]
      clear HW10
      have HBX := hida ((b10.block _ HO8.out.bx.lt).trans HO8.out.bx)
      have HBY := hida ((b10.block _ HSB.out.lt).trans HSB.out)
      have x0 : W10.cell? ⟨w.heap.size, 0, none⟩ = some (.int .u32 (yv.num : Nat)) := BlkR.cell HBX.out 0
      have x1 : W10.cell? ⟨w.heap.size, 1, none⟩ = some (.int .u64 (yv.lsn : Nat)) := BlkR.cell HBX.out 1
      have x2 : W10.cell? ⟨w.heap.size, 2, none⟩ = some (.int .i64 yv.kind) := BlkR.cell HBX.out 2
      have x3 : W10.cell? ⟨w.heap.size, 3, none⟩ = some (.string yv.head) := BlkR.cell HBX.out 3
      have x4 : W10.cell? ⟨w.heap.size, 4, none⟩ = some (.slice a yv.slots.length c) := BlkR.cell HBX.out 4
      have y0 : W10.cell? ⟨w7.heap.size, 0, none⟩ = some (.int .u32 (yv.num : Nat)) := BlkR.cell HBY.out 0
      have y1 : W10.cell? ⟨w7.heap.size, 1, none⟩ = some (.int .u64 (yv.lsn : Nat)) := BlkR.cell HBY.out 1
      have y2 : W10.cell? ⟨w7.heap.size, 2, none⟩ = some (.int .i64 yv.kind) := BlkR.cell HBY.out 2
      have y3 : W10.cell? ⟨w7.heap.size, 3, none⟩ = some (.string yv.head) := BlkR.cell HBY.out 3
      have y4 : W10.cell? ⟨w7.heap.size, 4, none⟩ = some (.slice a2 yv.slots.length c2) := BlkR.cell HBY.out 4
      have HSA : Hid (Calls Tryz.prog 16 #[.agg #[.int .u32 yv.num, .int .u64 yv.lsn, .int .i64 yv.kind, .string yv.head, .slice a yv.slots.length c], .agg #[.int .u32 yv.num, .int .u64 yv.lsn, .int .i64 yv.kind, .string yv.head, .slice a2 yv.slots.length c2]] W10 fun e w' => e = .returned (.bool true) ∧ Below W10.heap.size W10 w') := by
        have := same_any yv yv a a2 c c2 W10 (HXO.out.below b10) (HYO.out.below b10)
        rw [sameB_self] at this
        exact this
      have HBL2 := hida (below_chain HBL.out b10)
      clear HXO HYO HBX HBY HO8 HSB HBL b10
      go_wp2_with fail
      refine HSA.out.mono ?_
      rintro e w11 ⟨rfl, b11⟩
      have HF := hida (below_chain HBL2.out b11)
      clear HSA b11
      go_wp2_with fail
      go_ret
      exact ⟨rfl, HF.out⟩
    · have dl : decide ((at' : Int) ≤ (x.lsn : Int)) = false := decide_eq_false (by omega)
      subst hE
      have o5 : W8.cell? ⟨w.heap.size + 1, 5, none⟩ = some (.int .i64 r.op.kind) := by have := HO8.out.br.cell 5; rw [← HRK.out.2.1]; exact this
      have o6 : W8.cell? ⟨w.heap.size + 1, 6, none⟩ = some (.int .i64 r.op.at') := by have := HO8.out.br.cell 6; rw [← HRK.out.2.1]; exact this
      have o7 : W8.cell? ⟨w.heap.size + 1, 7, none⟩ = some (.string r.op.S) := by have := HO8.out.br.cell 7; rw [← HRK.out.2.1]; exact this
      have o8 : W8.cell? ⟨w.heap.size + 1, 8, none⟩ = some (.string r.op.old) := by have := HO8.out.br.cell 8; rw [← HRK.out.2.1]; exact this
      have HAP : Hid (Calls Tryz.prog 20 #[.agg #[.int .u32 x.num, .int .u64 x.lsn, .int .i64 x.kind, .string x.head, .slice a x.slots.length c], .agg #[.int .i64 r.op.kind, .int .i64 r.op.at', .string r.op.S, .string r.op.old], .int .u64 (at' : Nat)] W8 fun e w' => ∃ X, e = .returned (.tuple #[X, .int .i64 0]) ∧ Below W8.heap.size W8 w' ∧
        ((0:Int) = 0 → ∃ a' c', X = ({ y with lsn := at' } : SheetV).val a' c' ∧ StrsFrom W8.heap.size w' a' y.slots ∧ (∀ g k, a' = some ⟨g, k, none⟩ → W8.heap.size ≤ g ∧ g < w'.heap.size)) ∧ ((0:Int) ≠ 0 → X = sheet0.val none 0)) := HAI.out.2 at' W8 a c HXO.out
      clear HH hh2
      go_upto_region 15 with fail
      go_wp2_with fail
      refine HAP.out.mono ?_
      rintro e w9 ⟨X, rfl, b9, hX, _⟩
      obtain ⟨a3, c3, hXe, hst3, _⟩ := hX (by trivial)
      have hsl : y.slots = yv.slots := by rw [hyv]
      rw [← hyv] at hXe
      rw [hsl] at hst3
      rw [hXe, show yv.val a3 c3 = .agg #[.int .u32 yv.num, .int .u64 yv.lsn, .int .i64 yv.kind, .string yv.head, .slice a3 yv.slots.length c3] from rfl]
      obtain ⟨W10, HW10⟩ : ∃ W10, Hid (w9.alloc (.cells #[.int .u32 yv.num, .int .u64 yv.lsn, .int .i64 yv.kind, .string yv.head, .slice a3 yv.slots.length c3] 52) = W10) := ⟨_, rfl⟩
      have b10 : Below W8.heap.size W8 W10 := by rw [← HW10.out]; exact b9.alloc b9.size _
      have HSW : Hid (BlkR W10 w9.heap.size #[.int .u32 yv.num, .int .u64 yv.lsn, .int .i64 yv.kind, .string yv.head, .slice a3 yv.slots.length c3] 52) := by rw [← HW10.out]; exact heap_alloc_new w9 _
      have HZO : Hid (yv.Ok W10 a3) := HYF.out.ok (hst3.at.below (by rw [← HW10.out]; exact (Below.refl _ _).alloc (Nat.le_refl _) _))
      clear hXe hst3 hX HAP o5 o6 o7 o8 b9 hyv hsl
      go_upto_region 16 with fail
      rw [HW10.out]
      clear HW10
      have HBY := hida ((b10.block _ HSB.out.lt).trans HSB.out)
      have y0 : W10.cell? ⟨w7.heap.size, 0, none⟩ = some (.int .u32 (yv.num : Nat)) := BlkR.cell HBY.out 0
      have y1 : W10.cell? ⟨w7.heap.size, 1, none⟩ = some (.int .u64 (yv.lsn : Nat)) := BlkR.cell HBY.out 1
      have y2 : W10.cell? ⟨w7.heap.size, 2, none⟩ = some (.int .i64 yv.kind) := BlkR.cell HBY.out 2
      have y3 : W10.cell? ⟨w7.heap.size, 3, none⟩ = some (.string yv.head) := BlkR.cell HBY.out 3
      have y4 : W10.cell? ⟨w7.heap.size, 4, none⟩ = some (.slice a2 yv.slots.length c2) := BlkR.cell HBY.out 4
      have z0 : W10.cell? ⟨w9.heap.size, 0, none⟩ = some (.int .u32 (yv.num : Nat)) := HSW.out.cell 0
      have z1 : W10.cell? ⟨w9.heap.size, 1, none⟩ = some (.int .u64 (yv.lsn : Nat)) := HSW.out.cell 1
      have z2 : W10.cell? ⟨w9.heap.size, 2, none⟩ = some (.int .i64 yv.kind) := HSW.out.cell 2
      have z3 : W10.cell? ⟨w9.heap.size, 3, none⟩ = some (.string yv.head) := HSW.out.cell 3
      have z4 : W10.cell? ⟨w9.heap.size, 4, none⟩ = some (.slice a3 yv.slots.length c3) := HSW.out.cell 4
      have HSA : Hid (Calls Tryz.prog 16 #[.agg #[.int .u32 yv.num, .int .u64 yv.lsn, .int .i64 yv.kind, .string yv.head, .slice a2 yv.slots.length c2], .agg #[.int .u32 yv.num, .int .u64 yv.lsn, .int .i64 yv.kind, .string yv.head, .slice a3 yv.slots.length c3]] W10 fun e w' => e = .returned (.bool true) ∧ Below W10.heap.size W10 w') := by
        have := same_any yv yv a2 a3 c2 c3 W10 (HYO.out.below b10) HZO.out
        rw [sameB_self] at this
        exact this
      have HBL2 := hida (below_chain HBL.out b10)
      clear HXO HYO HZO HO8 HSB HBL b10
      go_wp2_with fail
      refine HSA.out.mono ?_
      rintro e w11 ⟨rfl, b11⟩
      have HF := hida (below_chain HBL2.out b11)
      have y1 : w11.cell? ⟨w7.heap.size, 1, none⟩ = some (.int .u64 (yv.lsn : Nat)) := BlkR.cell ((b11.block _ (BlkR.lt HBY.out)).trans HBY.out) 1
      have z1 : w11.cell? ⟨w9.heap.size, 1, none⟩ = some (.int .u64 (yv.lsn : Nat)) := BlkR.cell ((b11.block _ HSW.out.lt).trans HSW.out) 1
      clear HSA b11 HBY HSW
      go_wp2_with fail
      go_ret
      exact ⟨by simp, HF.out⟩
  · have d3 : (r.kind == 1) = false := beq_eq_false_iff_ne.2 hk1
    have d4 : (r.kind == 2) = true := beq_iff_eq.2 hk2
    go_wp2_with fail
    refine HGE.out.mono ?_
    rintro e w7 ⟨a2, c2, rfl, hst, s7⟩
    obtain ⟨A7, S7, h7⟩ := HO6.out.stp s7
    have HO7 := hida h7
    have HST := hida hst
    clear HGE h7 hst s7 HO6 c0 x0
    rw [show yv.val a2 c2 = .agg #[.int .u32 yv.num, .int .u64 yv.lsn, .int .i64 yv.kind, .string yv.head, .slice a2 yv.slots.length c2] from rfl]
    obtain ⟨W8, HW8⟩ : ∃ W8, Hid (w7.alloc (.cells #[.int .u32 yv.num, .int .u64 yv.lsn, .int .i64 yv.kind, .string yv.head, .slice a2 yv.slots.length c2] 52) = W8) := ⟨_, rfl⟩
    have b8 : Below w7.heap.size w7 W8 := by rw [← HW8.out]; exact (Below.refl _ _).alloc (Nat.le_refl _) _
    have HSB : Hid (BlkR W8 w7.heap.size #[.int .u32 yv.num, .int .u64 yv.lsn, .int .i64 yv.kind, .string yv.head, .slice a2 yv.slots.length c2] 52) := by rw [← HW8.out]; exact heap_alloc_new w7 _
    have HO8 := hida (HO7.out.below b8)
    have HYO : Hid (yv.Ok W8 a2) := HH.out.2.1.ok (HST.out.at.below b8)
    have HXO : Hid (x.Ok W8 a) := HFT.out.ok HO8.out.at
    clear HO7 HST b8
    have x1 : W8.cell? ⟨w.heap.size, 1, none⟩ = some (.int .u64 (x.lsn : Nat)) := HO8.out.bx.cell 1
    go_upto_region 13 with fail
    rw [HW8.out]
    clear HW8
    have x0 : W8.cell? ⟨w.heap.size, 0, none⟩ = some (.int .u32 (x.num : Nat)) := HO8.out.bx.cell 0
    have x2 : W8.cell? ⟨w.heap.size, 2, none⟩ = some (.int .i64 x.kind) := HO8.out.bx.cell 2
    have x3 : W8.cell? ⟨w.heap.size, 3, none⟩ = some (.string x.head) := HO8.out.bx.cell 3
    have x4 : W8.cell? ⟨w.heap.size, 4, none⟩ = some (.slice a x.slots.length c) := HO8.out.bx.cell 4
    have y0 : W8.cell? ⟨w7.heap.size, 0, none⟩ = some (.int .u32 (yv.num : Nat)) := HSB.out.cell 0
    have y1 : W8.cell? ⟨w7.heap.size, 1, none⟩ = some (.int .u64 (yv.lsn : Nat)) := HSB.out.cell 1
    have y2 : W8.cell? ⟨w7.heap.size, 2, none⟩ = some (.int .i64 yv.kind) := HSB.out.cell 2
    have y3 : W8.cell? ⟨w7.heap.size, 3, none⟩ = some (.string yv.head) := HSB.out.cell 3
    have y4 : W8.cell? ⟨w7.heap.size, 4, none⟩ = some (.slice a2 yv.slots.length c2) := HSB.out.cell 4
    have HBL := hida HO8.out.rd.bel
    have HYF := hida HH.out.2.1
    obtain ⟨hh1, hh2, hcase⟩ := HH.out
    clear hh1
    rcases hcase with ⟨hl, rfl, rfl, rfl⟩ | ⟨hl, hE, rfl, rfl, rfl⟩ | ⟨hl, hE, rfl, rfl, hyv⟩
    · have dl : decide ((at' : Int) ≤ (yv.lsn : Int)) = true := decide_eq_true (by omega)
      have HSA : Hid (∀ c1 c2, Calls Tryz.prog 16 #[.agg #[.int .u32 yv.num, .int .u64 yv.lsn, .int .i64 yv.kind, .string yv.head, .slice a yv.slots.length c1], .agg #[.int .u32 yv.num, .int .u64 yv.lsn, .int .i64 yv.kind, .string yv.head, .slice a2 yv.slots.length c2]] W8 fun e w' => e = .returned (.bool true) ∧ Below W8.heap.size W8 w') := fun c1 c2 => by
        have := same_any yv yv a a2 c1 c2 W8 HXO.out HYO.out
        rw [sameB_self] at this
        exact this
      clear HXO HYO HH hh2
      go_wp2_with fail
      refine (HSA.out _ _).mono ?_
      rintro e w9 ⟨rfl, b9⟩
      have HBX9 := hida ((b9.block _ HO8.out.bx.lt).trans HO8.out.bx)
      have HBY9 := hida ((b9.block _ HSB.out.lt).trans HSB.out)
      have HF := hida (below_chain HBL.out b9)
      have x1 : w9.cell? ⟨w.heap.size, 1, none⟩ = some (.int .u64 (yv.lsn : Nat)) := BlkR.cell HBX9.out 1
      have y1 : w9.cell? ⟨w7.heap.size, 1, none⟩ = some (.int .u64 (yv.lsn : Nat)) := BlkR.cell HBY9.out 1
      clear b9 HBX9 HBY9 HSA HO8 HSB HBL
      go_wp2_with fail
      go_ret
      exact ⟨by simp, HF.out⟩
    · have dl : decide ((at' : Int) ≤ (yv.lsn : Int)) = false := decide_eq_false (by omega)
      have o5 : W8.cell? ⟨w.heap.size + 1, 5, none⟩ = some (.int .i64 r.op.kind) := by have := HO8.out.br.cell 5; rw [← HRK.out.2.1]; exact this
      have o6 : W8.cell? ⟨w.heap.size + 1, 6, none⟩ = some (.int .i64 r.op.at') := by have := HO8.out.br.cell 6; rw [← HRK.out.2.1]; exact this
      have o7 : W8.cell? ⟨w.heap.size + 1, 7, none⟩ = some (.string r.op.S) := by have := HO8.out.br.cell 7; rw [← HRK.out.2.1]; exact this
      have o8 : W8.cell? ⟨w.heap.size + 1, 8, none⟩ = some (.string r.op.old) := by have := HO8.out.br.cell 8; rw [← HRK.out.2.1]; exact this
      have HAP : Hid (Calls Tryz.prog 20 #[.agg #[.int .u32 yv.num, .int .u64 yv.lsn, .int .i64 yv.kind, .string yv.head, .slice a yv.slots.length c], .agg #[.int .i64 r.op.kind, .int .i64 r.op.at', .string r.op.S, .string r.op.old], .int .u64 (at' : Nat)] W8 fun e w' => ∃ X, e = .returned (.tuple #[X, .int .i64 E]) ∧ Below W8.heap.size W8 w' ∧
        (E = 0 → ∃ a' c', X = ({ y with lsn := at' } : SheetV).val a' c' ∧ StrsFrom W8.heap.size w' a' y.slots ∧ (∀ g k, a' = some ⟨g, k, none⟩ → W8.heap.size ≤ g ∧ g < w'.heap.size)) ∧ (E ≠ 0 → X = sheet0.val none 0)) := HAI.out.2 at' W8 a c HXO.out
      clear HH hh2
      go_upto_region 15 with fail
      go_wp2_with fail
      refine HAP.out.mono ?_
      rintro e w9 ⟨X, rfl, b9, _, hX⟩
      rw [hX hE, show sheet0.val none 0 = .agg #[.int .u32 0, .int .u64 0, .int .i64 0, .string ⟨#[]⟩, .slice none 0 0] from rfl]
      obtain ⟨W10, HW10⟩ : ∃ W10, Hid (w9.alloc (.cells #[.int .u32 0, .int .u64 0, .int .i64 0, .string ⟨#[]⟩, .slice none 0 0] 52) = W10) := ⟨_, rfl⟩
      have b10 : Below W8.heap.size W8 W10 := by rw [← HW10.out]; exact b9.alloc b9.size _
      have HE := hida hE
      clear hE hX HAP o5 o6 o7 o8 b9
      have hne : (E == 0) = false := beq_eq_false_iff_ne.2 HE.out
      go_upto_region 16 with fail
      rw [HW10.out]
      clear HW10
      have HBX := hida ((b10.block _ HO8.out.bx.lt).trans HO8.out.bx)
      have HBY := hida ((b10.block _ HSB.out.lt).trans HSB.out)
      have x0 : W10.cell? ⟨w.heap.size, 0, none⟩ = some (.int .u32 (yv.num : Nat)) := BlkR.cell HBX.out 0
      have x1 : W10.cell? ⟨w.heap.size, 1, none⟩ = some (.int .u64 (yv.lsn : Nat)) := BlkR.cell HBX.out 1
      have x2 : W10.cell? ⟨w.heap.size, 2, none⟩ = some (.int .i64 yv.kind) := BlkR.cell HBX.out 2
      have x3 : W10.cell? ⟨w.heap.size, 3, none⟩ = some (.string yv.head) := BlkR.cell HBX.out 3
      have x4 : W10.cell? ⟨w.heap.size, 4, none⟩ = some (.slice a yv.slots.length c) := BlkR.cell HBX.out 4
      have y0 : W10.cell? ⟨w7.heap.size, 0, none⟩ = some (.int .u32 (yv.num : Nat)) := BlkR.cell HBY.out 0
      have y1 : W10.cell? ⟨w7.heap.size, 1, none⟩ = some (.int .u64 (yv.lsn : Nat)) := BlkR.cell HBY.out 1
      have y2 : W10.cell? ⟨w7.heap.size, 2, none⟩ = some (.int .i64 yv.kind) := BlkR.cell HBY.out 2
      have y3 : W10.cell? ⟨w7.heap.size, 3, none⟩ = some (.string yv.head) := BlkR.cell HBY.out 3
      have y4 : W10.cell? ⟨w7.heap.size, 4, none⟩ = some (.slice a2 yv.slots.length c2) := BlkR.cell HBY.out 4
      have HSA : Hid (Calls Tryz.prog 16 #[.agg #[.int .u32 yv.num, .int .u64 yv.lsn, .int .i64 yv.kind, .string yv.head, .slice a yv.slots.length c], .agg #[.int .u32 yv.num, .int .u64 yv.lsn, .int .i64 yv.kind, .string yv.head, .slice a2 yv.slots.length c2]] W10 fun e w' => e = .returned (.bool true) ∧ Below W10.heap.size W10 w') := by
        have := same_any yv yv a a2 c c2 W10 (HXO.out.below b10) (HYO.out.below b10)
        rw [sameB_self] at this
        exact this
      have HBL2 := hida (below_chain HBL.out b10)
      clear HXO HYO HBX HBY HO8 HSB HBL b10
      go_wp2_with fail
      refine HSA.out.mono ?_
      rintro e w11 ⟨rfl, b11⟩
      have HF := hida (below_chain HBL2.out b11)
      clear HSA b11
      go_wp2_with fail
      go_ret
      exact ⟨rfl, HF.out⟩
    · have dl : decide ((at' : Int) ≤ (x.lsn : Int)) = false := decide_eq_false (by omega)
      subst hE
      have o5 : W8.cell? ⟨w.heap.size + 1, 5, none⟩ = some (.int .i64 r.op.kind) := by have := HO8.out.br.cell 5; rw [← HRK.out.2.1]; exact this
      have o6 : W8.cell? ⟨w.heap.size + 1, 6, none⟩ = some (.int .i64 r.op.at') := by have := HO8.out.br.cell 6; rw [← HRK.out.2.1]; exact this
      have o7 : W8.cell? ⟨w.heap.size + 1, 7, none⟩ = some (.string r.op.S) := by have := HO8.out.br.cell 7; rw [← HRK.out.2.1]; exact this
      have o8 : W8.cell? ⟨w.heap.size + 1, 8, none⟩ = some (.string r.op.old) := by have := HO8.out.br.cell 8; rw [← HRK.out.2.1]; exact this
      have HAP : Hid (Calls Tryz.prog 20 #[.agg #[.int .u32 x.num, .int .u64 x.lsn, .int .i64 x.kind, .string x.head, .slice a x.slots.length c], .agg #[.int .i64 r.op.kind, .int .i64 r.op.at', .string r.op.S, .string r.op.old], .int .u64 (at' : Nat)] W8 fun e w' => ∃ X, e = .returned (.tuple #[X, .int .i64 0]) ∧ Below W8.heap.size W8 w' ∧
        ((0:Int) = 0 → ∃ a' c', X = ({ y with lsn := at' } : SheetV).val a' c' ∧ StrsFrom W8.heap.size w' a' y.slots ∧ (∀ g k, a' = some ⟨g, k, none⟩ → W8.heap.size ≤ g ∧ g < w'.heap.size)) ∧ ((0:Int) ≠ 0 → X = sheet0.val none 0)) := HAI.out.2 at' W8 a c HXO.out
      clear HH hh2
      go_upto_region 15 with fail
      go_wp2_with fail
      refine HAP.out.mono ?_
      rintro e w9 ⟨X, rfl, b9, hX, _⟩
      obtain ⟨a3, c3, hXe, hst3, _⟩ := hX (by trivial)
      have hsl : y.slots = yv.slots := by rw [hyv]
      rw [← hyv] at hXe
      rw [hsl] at hst3
      rw [hXe, show yv.val a3 c3 = .agg #[.int .u32 yv.num, .int .u64 yv.lsn, .int .i64 yv.kind, .string yv.head, .slice a3 yv.slots.length c3] from rfl]
      obtain ⟨W10, HW10⟩ : ∃ W10, Hid (w9.alloc (.cells #[.int .u32 yv.num, .int .u64 yv.lsn, .int .i64 yv.kind, .string yv.head, .slice a3 yv.slots.length c3] 52) = W10) := ⟨_, rfl⟩
      have b10 : Below W8.heap.size W8 W10 := by rw [← HW10.out]; exact b9.alloc b9.size _
      have HSW : Hid (BlkR W10 w9.heap.size #[.int .u32 yv.num, .int .u64 yv.lsn, .int .i64 yv.kind, .string yv.head, .slice a3 yv.slots.length c3] 52) := by rw [← HW10.out]; exact heap_alloc_new w9 _
      have HZO : Hid (yv.Ok W10 a3) := HYF.out.ok (hst3.at.below (by rw [← HW10.out]; exact (Below.refl _ _).alloc (Nat.le_refl _) _))
      clear hXe hst3 hX HAP o5 o6 o7 o8 b9 hyv hsl
      go_upto_region 16 with fail
      rw [HW10.out]
      clear HW10
      have HBY := hida ((b10.block _ HSB.out.lt).trans HSB.out)
      have y0 : W10.cell? ⟨w7.heap.size, 0, none⟩ = some (.int .u32 (yv.num : Nat)) := BlkR.cell HBY.out 0
      have y1 : W10.cell? ⟨w7.heap.size, 1, none⟩ = some (.int .u64 (yv.lsn : Nat)) := BlkR.cell HBY.out 1
      have y2 : W10.cell? ⟨w7.heap.size, 2, none⟩ = some (.int .i64 yv.kind) := BlkR.cell HBY.out 2
      have y3 : W10.cell? ⟨w7.heap.size, 3, none⟩ = some (.string yv.head) := BlkR.cell HBY.out 3
      have y4 : W10.cell? ⟨w7.heap.size, 4, none⟩ = some (.slice a2 yv.slots.length c2) := BlkR.cell HBY.out 4
      have z0 : W10.cell? ⟨w9.heap.size, 0, none⟩ = some (.int .u32 (yv.num : Nat)) := HSW.out.cell 0
      have z1 : W10.cell? ⟨w9.heap.size, 1, none⟩ = some (.int .u64 (yv.lsn : Nat)) := HSW.out.cell 1
      have z2 : W10.cell? ⟨w9.heap.size, 2, none⟩ = some (.int .i64 yv.kind) := HSW.out.cell 2
      have z3 : W10.cell? ⟨w9.heap.size, 3, none⟩ = some (.string yv.head) := HSW.out.cell 3
      have z4 : W10.cell? ⟨w9.heap.size, 4, none⟩ = some (.slice a3 yv.slots.length c3) := HSW.out.cell 4
      have HSA : Hid (Calls Tryz.prog 16 #[.agg #[.int .u32 yv.num, .int .u64 yv.lsn, .int .i64 yv.kind, .string yv.head, .slice a2 yv.slots.length c2], .agg #[.int .u32 yv.num, .int .u64 yv.lsn, .int .i64 yv.kind, .string yv.head, .slice a3 yv.slots.length c3]] W10 fun e w' => e = .returned (.bool true) ∧ Below W10.heap.size W10 w') := by
        have := same_any yv yv a2 a3 c2 c3 W10 (HYO.out.below b10) HZO.out
        rw [sameB_self] at this
        exact this
      have HBL2 := hida (below_chain HBL.out b10)
      clear HXO HYO HZO HO8 HSB HBL b10
      go_wp2_with fail
      refine HSA.out.mono ?_
      rintro e w11 ⟨rfl, b11⟩
      have HF := hida (below_chain HBL2.out b11)
      have y1 : w11.cell? ⟨w7.heap.size, 1, none⟩ = some (.int .u64 (yv.lsn : Nat)) := BlkR.cell ((b11.block _ (BlkR.lt HBY.out)).trans HBY.out) 1
      have z1 : w11.cell? ⟨w9.heap.size, 1, none⟩ = some (.int .u64 (yv.lsn : Nat)) := BlkR.cell ((b11.block _ HSW.out.lt).trans HSW.out) 1
      clear HSA b11 HBY HSW
      go_wp2_with fail
      go_ret
      exact ⟨by simp, HF.out⟩

end Go.Proofs.YtgkfdakieebnmaaGreat
