/-
  The walk of redo.One, its page in the pool, or blank on the disk.
-/
import Derived.Test.YtgkfdakieebnmaaGreatRdPageC
import Derived.Test.YtgkfdakieebnmaaGreatNilMathJ
set_option linter.unusedVariables false
set_option linter.unusedSimpArgs false
namespace Go.Proofs.YtgkfdakieebnmaaGreat
open Go.RowKit Go.Sort Go.Shelf Go.Lib

section
variable {w W W1 W2 : World} {p q pp : Nat} {A S : Nat → Prop} {l : LG} {d : DG} {rs : List ByteArray} {sure j : Nat} {P P' : PG}

theorem Stp.pre (b : Below W.heap.size W W1) (s : Stp w W1 W2 p q pp A S l d rs sure j P') : Stp w W W2 p q pp A S l d rs sure j P' := by
  obtain ⟨A', S', h1, h2, h3⟩ := s
  exact ⟨A', S', h1, h2, (Moves.of_kept (Kept.of_below b)).trans h3⟩
theorem Stp.post (s : Stp w W W1 p q pp A S l d rs sure j P') (b : Below W1.heap.size W1 W2) : Stp w W W2 p q pp A S l d rs sure j P' := by
  obtain ⟨A', S', h1, h2, h3⟩ := s
  exact ⟨A', S', h1.below b, h2.below b, h3.kept (Kept.of_below b)⟩

end

theorem below_fset5 {w wx : World} {b : Nat} (h : Below b w wx) (v0 v1 v2 v3 v4 : Value) : Below b w (fset5 wx b v0 v1 v2 v3 v4) :=
  ((((h.setCell (p := ⟨b, 0, none⟩) (Nat.le_refl _) v0).setCell (p := ⟨b, 1, none⟩) (Nat.le_refl _) v1).setCell (p := ⟨b, 2, none⟩) (Nat.le_refl _) v2).setCell (p := ⟨b, 3, none⟩) (Nat.le_refl _) v3).setCell (p := ⟨b, 4, none⟩) (Nat.le_refl _) v4

theorem ofG_has (P : PG) (n : Nat) : (ofG P n).F n ≠ none ∧ (ofG P n).z ≤ P.z + 1 ∧ (ofG P n).most = P.most ∧ (ofG P n).fetched ≤ P.fetched + 1 := by
  unfold ofG
  cases h : P.F n with
  | some f => exact ⟨by show P.F n ≠ none; rw [h]; simp, Nat.le_succ _, rfl, Nat.le_succ _⟩
  | none =>
    refine ⟨?_, Nat.le_refl _, rfl, Nat.le_refl _⟩
    show (if n = n then _ else _) ≠ none
    rw [if_pos rfl]
    simp

structure OneOut (w W : World) (p q pp : Nat) (A S : Nat → Prop) (l : LG) (d : DG) (rs : List ByteArray) (sure j : Nat) (P : PG) (r : RecV) (E : Int) (y : SheetV) (at' : Nat) (e : Ending) (w' : World) : Prop where
  arg : ¬ (r.kind = 1 ∨ r.kind = 2) → e = .returned (.tuple #[.bool false, .int .i64 1]) ∧ Stp w W w' p q pp A S l d rs sure j P
  stood : (r.kind = 1 ∨ r.kind = 2) → at' ≤ (shOf P r.page).lsn → e = .returned (.tuple #[.bool false, .int .i64 0]) ∧ Stp w W w' p q pp A S l d rs sure j (ofG P r.page)
  no : (r.kind = 1 ∨ r.kind = 2) → (shOf P r.page).lsn < at' → E ≠ 0 → e = .returned (.tuple #[.bool false, .int .i64 200]) ∧ Stp w W w' p q pp A S l d rs sure j (ofG P r.page)
  yes : (r.kind = 1 ∨ r.kind = 2) → (shOf P r.page).lsn < at' → E = 0 → e = .returned (.tuple #[.bool true, .int .i64 0]) ∧ Stp w W w' p q pp A S l d rs sure j (putP (ofG P r.page) { y with lsn := at' })

set_option maxHeartbeats 6400000 in
set_option maxRecDepth 20000 in
theorem one_any {w W : World} {p q pp : Nat} {A S : Nat → Prop} {l : LG} {d : DG} {rs : List ByteArray} {sure j : Nat} {P : PG} (h : RdS w W p q A l d rs sure j) (hp : PoAt w W A p q pp S P) (r : RecV) (ta da : Option Addr) (tc dc at' : Nat) (h1 : 1 ≤ r.page) (h2 : r.page ≤ 64)
    (hz : P.F r.page = none → P.z < P.most) (hzz : P.z ≤ 900) (hmo : P.most ≤ 256) (hfe : P.fetched ≤ 100000) (hfit : (shOf P r.page).Fits) {E : Int} {y : SheetV} (hA : ApplyIs (shOf P r.page) r.op E y) (hnum : (shOf P r.page).num = r.page) (hat : at' < 18446744073709551616) :
    Calls Tryz.prog 19 #[.pointer (some ⟨pp, 0, none⟩), .int .u64 (at' : Nat), .agg (r.cells ta da tc dc)] W (OneOut w W p q pp A S l d rs sure j P r E y at') := by
  obtain ⟨V, HV⟩ : ∃ V, Hid (V = W.alloc (.cells (r.cells ta da tc dc) 64)) := ⟨_, rfl⟩
  have bV : Below W.heap.size W V := by rw [HV.out]; exact (Below.refl _ _).alloc (Nat.le_refl _) _
  have HBX : Hid (BlkR V W.heap.size (r.cells ta da tc dc) 64) := by rw [HV.out]; exact heap_alloc_new W _
  have HPAR : Hid (r.cells ta da tc dc = #[.int .i64 r.kind, .int .i64 r.tx, .int .u64 r.prev, .int .u64 r.next, .int .u32 r.page, .int .i64 r.op.kind, .int .i64 r.op.at', .string r.op.S, .string r.op.old, .int .i64 r.undo, .int .i64 r.index, .string r.key, .int .u32 r.rpage, .int .i64 r.rslot, .bool r.live, .slice ta r.txs.length tc, .slice da r.dirty.length dc]) := rfl
  have HR := hida (show RdS w W p q A l d rs sure j ∧ PoAt w W A p q pp S P from ⟨h, hp⟩)
  have HAI := hida hA
  have HFT := hida hfit
  have HNM := hida hnum
  have HZ := hida hz
  have HBV := hida bV
  have HCH := hida (changes_any r ta da tc dc V)
  clear h hp bV hA hfit hnum hz
  rw [HPAR.out]
  go_enter Tryz.func19, Tryz.ntmps19
  go_upto_region 1 with fail
  rw [← HPAR.out, show W.alloc (.cells (r.cells ta da tc dc) 64) = V from HV.out.symm]
  clear HV
  refine wp_region_lit ?_
  refine wpList_loadRow rfl _ _ rfl W.heap.size rfl (r.cells ta da tc dc) _ (0, 0) HBX.out _ Tryz.underlying64 rfl (by kernel_rfl) ?_
  go_wp2_with fail
  refine HCH.out.mono ?_
  rintro e w1 ⟨rfl, b1⟩
  have HB1 := hida (below_chain HBV.out b1)
  have HBX1 : Hid (BlkR w1 W.heap.size (r.cells ta da tc dc) 64) := (b1.block _ HBX.out.lt).trans HBX.out
  clear HCH HBX HBV b1
  by_cases hk : r.kind = 1 ∨ r.kind = 2
  rotate_left
  · rw [decide_eq_false hk]
    have HF : Hid (Stp w W w1 p q pp A S l d rs sure j P) := ⟨A, S, HR.out.1.below HB1.out, HR.out.2.below HB1.out, Moves.of_kept (Kept.of_below HB1.out)⟩
    clear HBX1
    go_wp2_with fail
    refine bodyPost_ret (v := .tuple #[.bool false, .int .i64 1]) (by simp [results, Tryz.results19, go_sem]) rfl ?_
    exact ⟨fun _ => ⟨rfl, HF.out⟩, fun h => absurd h hk, fun h => absurd h hk, fun h => absurd h hk⟩
  rw [decide_eq_true hk]
  have HG := hida (rd_get (HR.out.1.below HB1.out) (HR.out.2.below HB1.out) r.page h1 h2 HZ.out hmo hfe)
  have k4 : w1.cell? ⟨W.heap.size, 4, none⟩ = some (.int .u32 (r.page : Nat)) := HBX1.out.cell 4
  go_wp2_with fail
  refine HG.out.mono ?_
  rintro e w2 ⟨a, c, rfl, hst, hstp⟩
  obtain ⟨A2, S2, hr2, hp2, m2⟩ := hstp
  obtain ⟨x, hx⟩ : ∃ x, shOf P r.page = x := ⟨_, rfl⟩
  rw [hx] at hst HAI HFT HNM ⊢
  have hwl : W.heap.size < w1.heap.size := HBX1.out.lt
  have HBX2 : Hid (BlkR w2 W.heap.size (r.cells ta da tc dc) 64) := (m2.1.block _ hwl (by
    rintro (z | z)
    · have := HR.out.2.pool.lt z; omega
    · have := HR.out.1.lt z; omega)).trans HBX1.out
  have HM2 : Hid (Moves (fun k => S k ∨ A k) (fun k => S2 k ∨ A2 k) W w2) := (Moves.of_kept (Kept.of_below HB1.out)).trans m2
  have HR2 := hida (show RdS w w2 p q A2 l d rs sure j ∧ PoAt w w2 A2 p q pp S2 (ofG P r.page) from ⟨hr2, hp2⟩)
  have HST := hida hst
  clear HG hr2 hp2 m2 hst k4 HBX1 HB1 HR
  rw [show x.val a c = .agg #[.int .u32 x.num, .int .u64 x.lsn, .int .i64 x.kind, .string x.head, .slice a x.slots.length c] from rfl]
  obtain ⟨W3, HW3⟩ : ∃ W3, Hid (W3 = w2.alloc (.cells #[.int .u32 x.num, .int .u64 x.lsn, .int .i64 x.kind, .string x.head, .slice a x.slots.length c] 52)) := ⟨_, rfl⟩
  have b3 : Below w2.heap.size w2 W3 := by rw [HW3.out]; exact (Below.refl _ _).alloc (Nat.le_refl _) _
  have HSB : Hid (BlkR W3 w2.heap.size #[.int .u32 x.num, .int .u64 x.lsn, .int .i64 x.kind, .string x.head, .slice a x.slots.length c] 52) := by rw [HW3.out]; exact heap_alloc_new w2 _
  have HBX3 : Hid (BlkR W3 W.heap.size (r.cells ta da tc dc) 64) := (b3.block _ HBX2.out.lt).trans HBX2.out
  have HB3 := hida b3
  have HS3 : Hid (w2.heap.size < W3.heap.size) := HSB.out.lt
  have HXO : Hid (x.Ok W3 a) := HFT.out.ok (HST.out.at.below b3)
  have HRP : Hid (Calls Tryz.prog 51 #[.agg #[.int .u32 x.num, .int .u64 x.lsn, .int .i64 x.kind, .string x.head, .slice a x.slots.length c], .int .u64 (at' : Nat), .agg (r.cells ta da tc dc)] W3 (RpOut W3 x E y at' a c)) := repeat_any HAI.out at' a ta da c tc dc W3 HXO.out
  clear HBX2 b3
  go_upto_region 6 with fail
  rw [← HW3.out]
  clear HW3
  refine wp_region_lit ?_
  refine wpList_loadRow rfl _ _ rfl w2.heap.size rfl #[.int .u32 x.num, .int .u64 x.lsn, .int .i64 x.kind, .string x.head, .slice a x.slots.length c] _ (0, 0) HSB.out _ Tryz.underlying52 rfl (by kernel_rfl) ?_
  refine wpList_moveL rfl _ rfl ?_
  refine wpList_loadRow rfl _ _ rfl W.heap.size rfl (r.cells ta da tc dc) _ (0, 0) HBX3.out _ Tryz.underlying64 rfl (by kernel_rfl) ?_
  go_wp2_with fail
  refine HRP.out.mono ?_
  rintro e w4 hrp
  have b4 := hrp.bel
  have HS4 : Hid (Blk w4 w2.heap.size #[.int .u32 x.num, .int .u64 x.lsn, .int .i64 x.kind, .string x.head, .slice a x.slots.length c] 52) := (b4.block _ HSB.out.lt).trans HSB.out
  have HB4 := hida (below_chain HB3.out b4)
  have y0 : w4.cell? ⟨w2.heap.size, 0, none⟩ = some (.int .u32 (x.num : Nat)) := HS4.out.cell 0
  have y1 : w4.cell? ⟨w2.heap.size, 1, none⟩ = some (.int .u64 (x.lsn : Nat)) := HS4.out.cell 1
  have y2 : w4.cell? ⟨w2.heap.size, 2, none⟩ = some (.int .i64 x.kind) := HS4.out.cell 2
  have y3 : w4.cell? ⟨w2.heap.size, 3, none⟩ = some (.string x.head) := HS4.out.cell 3
  have y4 : w4.cell? ⟨w2.heap.size, 4, none⟩ = some (.slice a x.slots.length c) := HS4.out.cell 4
  have z0 := HS4.out.frozen 0
  have z1 := HS4.out.frozen 1
  have z2 := HS4.out.frozen 2
  have z3 := HS4.out.frozen 3
  have z4 := HS4.out.frozen 4
  have HSTP : Hid (∀ v0 v1 v2 v3 v4, Stp w W (fset5 w4 w2.heap.size v0 v1 v2 v3 v4) p q pp A S l d rs sure j (ofG P r.page)) := fun v0 v1 v2 v3 v4 =>
    have k := below_fset5 HB4.out v0 v1 v2 v3 v4
    ⟨A2, S2, HR2.out.1.below k, HR2.out.2.below k, HM2.out.kept (Kept.of_below k)⟩
  clear HRP HSB HBX3 HXO HST
  by_cases hl : at' ≤ x.lsn
  · obtain rfl := hrp.stood hl
    rw [show x.val a c = .agg #[.int .u32 x.num, .int .u64 x.lsn, .int .i64 x.kind, .string x.head, .slice a x.slots.length c] from rfl]
    have HF := hida (HSTP.out (.int .u32 x.num) (.int .u64 x.lsn) (.int .i64 x.kind) (.string x.head) (.slice a x.slots.length c))
    clear hrp HSTP HS4 HB4 HR2 HM2 HB3 HAI b4
    go_wp2_with fail
    refine bodyPost_ret (v := .tuple #[.bool false, .int .i64 0]) (by simp [results, Tryz.results19, go_sem]) rfl ?_
    exact ⟨fun h => absurd hk h, fun _ _ => ⟨rfl, HF.out⟩, fun _ h => by rw [hx] at h; omega, fun _ h => by rw [hx] at h; omega⟩
  by_cases hE : E = 0
  rotate_left
  · obtain rfl := hrp.no (by omega) hE
    rw [show sheet0.val none 0 = .agg #[.int .u32 0, .int .u64 0, .int .i64 0, .string ⟨#[]⟩, .slice none 0 0] from rfl]
    have HF := hida (HSTP.out (.int .u32 0) (.int .u64 0) (.int .i64 0) (.string ⟨#[]⟩) (.slice none 0 0))
    clear hrp HSTP HS4 HB4 HR2 HM2 HB3 HAI b4
    go_wp2_with fail
    refine bodyPost_ret (v := .tuple #[.bool false, .int .i64 200]) (by simp [results, Tryz.results19, go_sem]) rfl ?_
    exact ⟨fun h => absurd hk h, fun _ h => by rw [hx] at h; omega, fun _ _ _ => ⟨rfl, HF.out⟩, fun _ _ h => absurd h hE⟩
  obtain ⟨a', c', rfl, hst, how⟩ := hrp.yes (by omega) hE
  obtain ⟨hyf, hyn⟩ := HAI.out.1 hE
  rw [show (({ y with lsn := at' } : SheetV).val a' c') = .agg #[.int .u32 y.num, .int .u64 at', .int .i64 y.kind, .string y.head, .slice a' y.slots.length c'] from rfl]
  obtain ⟨W5, HW5⟩ : ∃ W5, Hid (fset5 w4 w2.heap.size (.int .u32 y.num) (.int .u64 at') (.int .i64 y.kind) (.string y.head) (.slice a' y.slots.length c') = W5) := ⟨_, rfl⟩
  have H5 := hida (show Blk W5 w2.heap.size #[.int .u32 y.num, .int .u64 at', .int .i64 y.kind, .string y.head, .slice a' y.slots.length c'] 52 ∧ Below w2.heap.size w2 W5 ∧ Kept (fun k => k = w2.heap.size) w4 W5 from by
    rw [← HW5.out]
    exact ⟨fset5_blk HS4.out _ _ _ _ _, below_fset5 HB4.out _ _ _ _ _, fset5_kept _ _ _ _ _ _ _⟩)
  have HOG := ofG_has P r.page
  have hs3 := HB3.out.size
  have hx3 := HS3.out
  have hst5 : StrsAt W5 a' y.slots := by
    rcases hst with hh | ⟨b, o, e, g1, g2, g3⟩
    · exact .inl hh
    · exact .inr ⟨b, o, e, Nat.lt_of_lt_of_le g2 H5.out.2.2.size, fun i hi => (World.cell?_of_block (w := w4) (a := ⟨b, o + i, none⟩) (H5.out.2.2.block b g2 (by omega))).trans (g3 i hi)⟩
  have eN : y.num = r.page := hyn.trans HNM.out
  have hfy : ({ y with lsn := at' } : SheetV).Fits := by
    obtain ⟨f1, f2, f3, f4, f5, f6, f7⟩ := hyf
    exact ⟨f1, hat, f3, f4, f5, f6, f7⟩
  have HR5 := hida (show RdS w W5 p q A2 l d rs sure j ∧ PoAt w W5 A2 p q pp S2 (ofG P r.page) from ⟨HR2.out.1.below H5.out.2.1, HR2.out.2.below H5.out.2.1⟩)
  have hoff : ∀ b o, a' = some ⟨b, o, none⟩ → ¬ (S2 b ∨ A2 b) := by
    intro b o e hh
    have hb := how b o e
    rcases hh with hh | hh
    · have := HR2.out.2.pool.lt hh; omega
    · have := HR2.out.1.lt hh; omega
  have HPU : Hid (Calls Tryz.prog 18 #[.pointer (some ⟨pp, 0, none⟩), .agg #[.int .u32 y.num, .int .u64 at', .int .i64 y.kind, .string y.head, .slice a' y.slots.length c']] W5 fun e w' => e = .returned (.int .i64 0) ∧ Stp w W5 w' p q pp A2 S2 l d rs sure j (putP (ofG P r.page) { y with lsn := at' })) :=
    rd_put HR5.out.1 HR5.out.2 { y with lsn := at' } a' c' hfy hst5 hoff (by show 1 ≤ y.num; omega) (by show y.num ≤ 64; omega) (fun hh => absurd (by have h3 : (ofG P r.page).F y.num = none := hh; rw [eN] at h3; exact h3) HOG.1) (by omega) (by omega)
  have HMV := hida (HM2.out.kept (Kept.of_below H5.out.2.1))
  clear hrp HSTP HB4 HR2 HM2 HB3 HAI b4 hst how hst5 hoff HS4 hx3 hs3 hyf hyn hfy HR5 eN HOG
  go_upto_region 7 with fail
  rw [show (((((w4.setCell ⟨w2.heap.size, 0, none⟩ (.int .u32 y.num)).setCell ⟨w2.heap.size, 1, none⟩ (.int .u64 at')).setCell ⟨w2.heap.size, 2, none⟩ (.int .i64 y.kind)).setCell ⟨w2.heap.size, 3, none⟩ (.string y.head)).setCell ⟨w2.heap.size, 4, none⟩ (.slice a' y.slots.length c')) = W5 from HW5.out]
  clear HW5 y0 y1 y2 y3 y4 z0 z1 z2 z3 z4
  have y0 : W5.cell? ⟨w2.heap.size, 0, none⟩ = some (.int .u32 (y.num : Nat)) := H5.out.1.cell 0
  have y1 : W5.cell? ⟨w2.heap.size, 1, none⟩ = some (.int .u64 (at' : Nat)) := H5.out.1.cell 1
  have y2 : W5.cell? ⟨w2.heap.size, 2, none⟩ = some (.int .i64 y.kind) := H5.out.1.cell 2
  have y3 : W5.cell? ⟨w2.heap.size, 3, none⟩ = some (.string y.head) := H5.out.1.cell 3
  have y4 : W5.cell? ⟨w2.heap.size, 4, none⟩ = some (.slice a' y.slots.length c') := H5.out.1.cell 4
  clear H5
  go_wp2_with fail
  refine HPU.out.mono ?_
  rintro e w6 ⟨rfl, A6, S6, r6, p6, m6⟩
  have HF : Hid (Stp w W w6 p q pp A S l d rs sure j (putP (ofG P r.page) { y with lsn := at' })) := ⟨A6, S6, r6, p6, HMV.out.trans m6⟩
  clear HPU HMV r6 p6 m6 y0 y1 y2 y3 y4
  go_wp2_with fail
  refine bodyPost_ret (v := .tuple #[.bool true, .int .i64 0]) (by simp [results, Tryz.results19, go_sem]) rfl ?_
  exact ⟨fun h => absurd hk h, fun _ h => by rw [hx] at h; omega, fun _ _ h => absurd hE h, fun _ _ _ => ⟨rfl, HF.out⟩⟩

end Go.Proofs.YtgkfdakieebnmaaGreat
