/-
  The walk of analyze.Run over a log of records.
-/
import Derived.Test.YtgkfdakieebnmaaGreatAnFoundC
import Derived.Test.YtgkfdakieebnmaaGreatWalP2C
import Derived.Test.YtgkfdakieebnmaaGreatRecReadJ
set_option linter.unusedVariables false
set_option linter.unusedSimpArgs false
namespace Go.Proofs.YtgkfdakieebnmaaGreat
open Go.RowKit Go.Sort Go.Shelf Go.Lib

def heardTo (rs : List ByteArray) (R : Nat → RecV) (i0 : Nat) : Nat → HearG
  | 0 => hear0
  | k + 1 => hearRec (heardTo rs R i0 k) (placeOf rs (i0 + k)) (R (i0 + k))

theorem heardTo_wf (rs : List ByteArray) (R : Nat → RecV) (i0 k : Nat) : (heardTo rs R i0 k).Wf := by
  induction k with
  | zero => exact wf0
  | succ k ih => exact ih.hear _ _

theorem recs_txs (L : List TxV) (h : HearG) : (L.foldl hearTx h).recs = h.recs := by
  induction L generalizing h with
  | nil => rfl
  | cons x L ih =>
    rw [List.foldl_cons, ih]
    unfold hearTx
    split <;> rfl
theorem recs_dis (L : List DiV) (h : HearG) : (L.foldl hearDi h).recs = h.recs := by
  induction L generalizing h with
  | nil => rfl
  | cons x L ih =>
    rw [List.foldl_cons, ih]
    unfold hearDi
    split
    · split <;> rfl
    · rfl
theorem recs_own (h : HearG) (a : Nat) (r : RecV) : (hearOwn h a r).recs = h.recs := by
  unfold hearOwn
  split
  · rfl
  · split
    · rw [recs_dis, recs_txs]
    · split <;> rfl
theorem recs_hear (h : HearG) (a : Nat) (r : RecV) : (hearRec h a r).recs = h.recs + 1 := by
  show (if r.kind = 1 ∨ r.kind = 2 then hearChg (hearOwn { h with recs := h.recs + 1, most := max h.most r.tx } a r) r.page a else hearOwn { h with recs := h.recs + 1, most := max h.most r.tx } a r).recs = _
  split
  · unfold hearChg
    split
    · rw [recs_own]
    · show (hearOwn _ a r).recs = _
      rw [recs_own]
  · rw [recs_own]
theorem heardTo_recs (rs : List ByteArray) (R : Nat → RecV) (i0 k : Nat) : (heardTo rs R i0 k).recs = k := by
  induction k with
  | zero => rfl
  | succ k ih => show (hearRec _ _ _).recs = _; rw [recs_hear, ih]

def DecGood (s : ByteArray) (r : RecV) : Prop := ∀ wx : World, Calls Tryz.prog 22 #[.string s] wx fun e w' => ∃ ta da tc dc, e = .returned (.tuple #[.agg (r.cells ta da tc dc), .int .i64 0]) ∧ Below wx.heap.size wx w' ∧ TxsAt w' ta r.txs ∧ DisAt w' da r.dirty
def DecBad (s : ByteArray) : Prop := ∀ wx : World, Calls Tryz.prog 22 #[.string s] wx fun e w' => e = .returned (.tuple #[.agg zeroCellsR, .int .i64 40]) ∧ Below wx.heap.size wx w'

structure RunOut (W : World) (rs : List ByteArray) (R : Nat → RecV) (B : Nat → Bool) (i0 : Nat) (e : Ending) (w' : World) : Prop where
  yes : (∀ i, i0 ≤ i → i < rs.length → B i = true) → ∃ v1 v2 L1 L2 n, e = .returned (.tuple #[.agg (fdCells v1 v2 (redoL (placeOf rs rs.length) L2) (heardTo rs R i0 (rs.length - i0))), .int .i64 0]) ∧ Can keyT L1 (heardTo rs R i0 (rs.length - i0)).T ∧ Can keyD L2 (heardTo rs R i0 (rs.length - i0)).D ∧ W.heap.size ≤ n ∧ atAt n w' v1 L1 ∧ adAt n w' v2 L2
  no : ¬ (∀ i, i0 ≤ i → i < rs.length → B i = true) → e = .returned (.tuple #[.agg fdZero, .int .i64 40])
  bel : Below W.heap.size W w'

structure RnAt (W wr : World) (hb tb db : Nat) (rs : List ByteArray) (R : Nat → RecV) (i0 k : Nat) : Prop where
  bel : Below W.heap.size W wr
  res : Blk wr W.heap.size fdZero 43
  h : HearAt wr hb tb db (321 * k) (heardTo rs R i0 k)
  lo : ∀ i, HB hb tb db i → W.heap.size + 1 ≤ i

theorem HearAt.fresh (W : World) : HearAt (((W.alloc (.map #[] 0)).alloc (.map #[] 0)).alloc (.cells #[.map (some W.heap.size), .map (some (W.heap.size + 1)), .int .i64 0, .int .i64 0] 107)) (W.heap.size + 1 + 1) W.heap.size (W.heap.size + 1) 0 hear0 := by
  have s1 : (W.alloc (.map #[] 0)).heap.size = W.heap.size + 1 := by simp
  have s2 : ((W.alloc (.map #[] 0)).alloc (.map #[] 0)).heap.size = W.heap.size + 1 + 1 := by simp
  have m1 : MapV 3 (W.alloc (.map #[] 0)) W.heap.size 0 (.map []) := MapV.made _ _
  have m2 : MapV 49 ((W.alloc (.map #[] 0)).alloc (.map #[] 0)) (W.heap.size + 1) 0 (.map []) := by
    have := MapV.made 49 (W.alloc (.map #[] 0))
    rw [s1] at this
    exact this
  have k3 := Blk.made ((W.alloc (.map #[] 0)).alloc (.map #[] 0)) #[.map (some W.heap.size), .map (some (W.heap.size + 1)), .int .i64 0, .int .i64 0] 107
  rw [s2] at k3
  refine ⟨.map [], .map [], 0, 0, k3, (m1.same (heap_old _ _ (by omega))).same (heap_old _ _ (by omega)), m2.same (heap_old _ _ (by omega)), fun n _ => rfl, fun n x e => (by cases e), fun l hl => (by cases hl), fun n _ => rfl, fun n x e => (by cases e), fun l hl => (by cases hl), by omega, Nat.le_refl _, Nat.le_refl _⟩

theorem first_any {w : World} {q mark at' : Nat} (hm : ∀ wx, Below w.heap.size w wx → Calls Tryz.prog 83 #[.pointer (some ⟨q, 0, none⟩)] wx fun e w' => e = .returned (.int .u64 (mark : Nat)) ∧ ∃ q, w' = wx.drewN q) (ha : (mark = 0 ∧ at' = 1) ∨ (mark ≠ 0 ∧ at' = mark)) :
    Calls Tryz.prog 35 #[.pointer (some ⟨q, 0, none⟩)] w fun e w' => e = .returned (.int .u64 at') ∧ Below w.heap.size w w' := by
  have HM := hida (hm w (Below.refl _ _))
  have HB : Hid (∀ n, Below w.heap.size w (w.drewN n)) := fun n => below_drewN (Below.refl _ _) n
  clear hm
  go_enter Tryz.func35, Tryz.ntmps35
  go_wp2_with fail
  refine HM.out.mono ?_
  rintro e w1 ⟨rfl, n, rfl⟩
  rcases ha with ⟨rfl, rfl⟩ | ⟨h0, rfl⟩
  · go_wp2
    go_ret
    exact ⟨rfl, HB.out n⟩
  · have h1 : ((at' : Int) == 0) = false := beq_eq_false_iff_ne.2 (by omega)
    have h2 : ((at' : Int) != 0) = true := by simp [bne, h1]
    go_wp2
    go_ret
    exact ⟨rfl, HB.out n⟩

section
variable {W : World} {p q : Nat} {S D : Nat → Prop} {l : LG} {d : DG} {rs : List ByteArray} {sure kept mark j : Nat}

set_option maxHeartbeats 6400000 in
set_option maxRecDepth 20000 in
theorem run_any (h : WpL W p q S D l d rs sure kept mark j) (hj : j ≤ 1000) (R : Nat → RecV) (B : Nat → Bool) (i0 : Nat) (hi0 : i0 ≤ rs.length) (hi1 : rs.length - i0 ≤ 1000) (hm : (mark = 0 ∧ i0 = 0) ∨ (mark ≠ 0 ∧ i0 < rs.length ∧ placeOf rs i0 = mark))
    (hg : ∀ i, i < rs.length → B i = true → DecGood (rs.getD i ⟨#[]⟩) (R i) ∧ HrOk (R i)) (hb : ∀ i, i < rs.length → B i = false → DecBad (rs.getD i ⟨#[]⟩)) :
    Calls Tryz.prog 13 #[.pointer (some ⟨q, 0, none⟩)] W fun e w' => RunOut W rs R B i0 e w' := by
  have hlen : l.bytes.length + 1 = placeOf rs rs.length := h.long
  have hn : rs.length ≤ 10000000 := by have := h.cnt; omega
  have HME : Hid (∀ wx, Below W.heap.size W wx → Calls Tryz.prog 83 #[.pointer (some ⟨q, 0, none⟩)] wx fun e w' => e = .returned (.int .u64 (mark : Nat)) ∧ ∃ q, w' = wx.drewN q) := fun wx b => by
    have h' := h.below b
    exact master_out h'.log (by rw [h'.dp]; exact h'.disk) h'.dead h'.recs.rising (by rw [h'.slen]; exact hn) mark h'.mi
  have HEN : Hid (∀ wx, Below W.heap.size W wx → Calls Tryz.prog 26 #[.pointer (some ⟨q, 0, none⟩)] wx fun e w' => e = .returned (.int .u64 ((placeOf rs rs.length : Nat) : Int)) ∧ w' = wx) := fun wx b => by
    have := end_out (h.below b).log h.blen
    rw [hlen] at this
    exact this
  have HGE : Hid (∀ i, i < rs.length → ∀ wx, Below W.heap.size W wx → Calls Tryz.prog 36 #[.pointer (some ⟨q, 0, none⟩), .int .u64 (placeOf rs i : Nat)] wx fun e w' => e = .returned (.tuple #[.string (rs.getD i ⟨#[]⟩), .int .u64 (placeOf rs (i + 1) : Nat), .bool true]) ∧ ∃ q, w' = wx.drewN q) := fun i hi wx b => get_recs (h.below b).log h.recs hn h.blen i hi
  have HP1 : Hid (placeOf rs 0 = 1) := rfl
  have HMN : Hid (∀ i, i < rs.length → placeOf rs i < placeOf rs rs.length) := fun i hi => by
    have := placeOf_mono rs (i := i) (j := rs.length) (by omega)
    omega
  have HGO := hida hg
  have HBA := hida hb
  clear h hlen hg hb
  obtain ⟨W1, HW1⟩ : ∃ W1, Hid (W1 = W.alloc (.cells fdZero 43)) := ⟨_, rfl⟩
  have b1 : Below W.heap.size W W1 := by rw [HW1.out]; exact (Below.refl _ _).alloc (Nat.le_refl _) _
  have s1 : W1.heap.size = W.heap.size + 1 := by rw [HW1.out]; simp
  have hR : Blk W1 W.heap.size fdZero 43 := by rw [HW1.out]; exact Blk.made _ _ _
  have HZ : Hid (fdZero = #[.slice none 0 0, .slice none 0 0, .int .u64 0, .int .i64 0, .int .i64 0]) := rfl
  have hmm := @run_makeMap Tryz.prog
  rw [HZ.out] at HW1
  go_enter Tryz.func13, Tryz.ntmps13
  go_upto_region 3 with fail
  rw [← HW1.out]
  clear HW1
  obtain ⟨W4, HW4⟩ : ∃ W4, Hid (W4 = ((W1.alloc (.map #[] 0)).alloc (.map #[] 0)).alloc (.cells #[.map (some W1.heap.size), .map (some (W1.heap.size + 1)), .int .i64 0, .int .i64 0] 107)) := ⟨_, rfl⟩
  have hA4 : HearAt W4 (W1.heap.size + 1 + 1) W1.heap.size (W1.heap.size + 1) 0 hear0 := by rw [HW4.out]; exact HearAt.fresh W1
  have b4 : Below W1.heap.size W1 W4 := by rw [HW4.out]; exact (((Below.refl _ _).alloc (Nat.le_refl _) _).alloc (by simp) _).alloc (by simp; omega) _
  have HN0 : Hid (RnAt W W4 (W1.heap.size + 1 + 1) W1.heap.size (W1.heap.size + 1) rs R i0 0) := ⟨below_chain b1 b4, hR.same (b4.block _ hR.lt), hA4, fun i hi => by rcases hi with e | e | e <;> omega⟩
  rw [s1] at HW4 HN0
  go_upto_region 4 with fail
  rw [← HW4.out]
  clear HW4 hA4 b4 b1 s1 hR hmm
  generalize W.heap.size + 1 + 1 + 1 = hb at *
  generalize W.heap.size + 1 + 1 = db at *
  generalize htb : W.heap.size + 1 = tb at *
  have HFI := hida (first_any (w := W4) (q := q) (mark := mark) (at' := placeOf rs i0) (fun wx b => HME.out wx (below_chain HN0.out.bel b)) (by rcases hm with ⟨a, b⟩ | ⟨a, b, c⟩; exact .inl ⟨a, by rw [b]; exact HP1.out⟩; exact .inr ⟨a, c⟩))
  go_wp2_with fail
  refine HFI.out.mono ?_
  rintro e w5 ⟨rfl, b5⟩
  have HN1 : Hid (RnAt W w5 hb tb db rs R i0 0) := ⟨below_chain HN0.out.bel b5, HN0.out.res.same (b5.block _ HN0.out.res.lt), HN0.out.h.below b5, HN0.out.lo⟩
  clear HFI HN0 b5 HME HP1 hm
  go_wp2_with fail
  go_loopw [5] (fun a wr => ∃ k, a = .int .u64 (placeOf rs (i0 + k) : Nat) ∧ i0 + k ≤ rs.length ∧ Hid (∀ i, i0 ≤ i → i < i0 + k → B i = true) ∧ Hid (RnAt W wr hb tb db rs R i0 k)) (fun a _ => placeOf rs rs.length - (intOf a).toNat)
  case atStart => exact ⟨0, rfl, hi0, fun i h1 h2 => absurd h2 (by omega), HN1⟩
  case round =>
    obtain ⟨k, rfl, hk, HB1, HN⟩ := hrel
    clear HN1
    have HE1 := hida (HEN.out wr HN.out.bel)
    by_cases hlt : i0 + k < rs.length
    · have hmn := HMN.out _ hlt
      have n1 : ((placeOf rs (i0 + k) : Int) == (placeOf rs rs.length : Int)) = false := beq_eq_false_iff_ne.2 (by omega)
      have n2 : ((placeOf rs (i0 + k) : Int) != (placeOf rs rs.length : Int)) = true := by simp [bne, n1]
      have n3 : ¬ (placeOf rs (i0 + k) = placeOf rs rs.length) := by omega
      have HG1 := hida (HGE.out _ hlt wr HN.out.bel)
      have HNX := hida (show placeOf rs (i0 + k) < placeOf rs (i0 + k + 1) from by show _ < placeOf rs (i0 + k) + _; omega)
      have HMX := hida hmn
      clear HGE HEN HMN hmn
      go_wp2_with fail
      refine HE1.out.mono ?_
      rintro e w6 ⟨rfl, rfl⟩
      go_wp2_with fail
      refine HG1.out.mono ?_
      rintro e w6 ⟨rfl, n6, rfl⟩
      clear HE1 HG1
      have HN6 : Hid (RnAt W (w6.drewN n6) hb tb db rs R i0 k) := ⟨below_chain HN.out.bel (below_drewN (Below.refl _ _) n6), HN.out.res.same rfl, HN.out.h.drewN n6, HN.out.lo⟩
      clear HN
      obtain ⟨V, HV⟩ : ∃ V, Hid (w6.drewN n6 = V) := ⟨_, rfl⟩
      rw [HV.out] at HN6 ⊢
      obtain ⟨s, HSS⟩ : ∃ s, Hid (rs.getD (i0 + k) ⟨#[]⟩ = s) := ⟨_, rfl⟩
      rw [HSS.out]
      cases hB : B (i0 + k) with
      | false =>
        have HD := hida (HBA.out _ hlt hB)
        rw [HSS.out] at HD
        have HNO := hida (show ¬ (∀ i, i0 ≤ i → i < rs.length → B i = true) from fun q => by have := q (i0 + k) (by omega) hlt; rw [hB] at this; cases this)
        clear HGO HBA hB HB1
        have HZC : Hid (zeroCellsR = #[.int .i64 0, .int .i64 0, .int .u64 0, .int .u64 0, .int .u32 0, .int .i64 0, .int .i64 0, .string ⟨#[]⟩, .string ⟨#[]⟩, .int .i64 0, .int .i64 0, .string ⟨#[]⟩, .int .u32 0, .int .i64 0, .bool false, .slice none 0 0, .slice none 0 0]) := rfl
        go_wp2_with fail
        refine (HD.out _).mono ?_
        rintro e w7 ⟨rfl, b7⟩
        obtain ⟨W8, HW8⟩ : ∃ W8, Hid (W8 = w7.alloc (.cells zeroCellsR 64)) := ⟨_, rfl⟩
        have b8 : Below w7.heap.size w7 W8 := by rw [HW8.out]; exact (Below.refl _ _).alloc (Nat.le_refl _) _
        have k8 := below_chain b7 b8
        have HN8 := hida (show Below W.heap.size W W8 ∧ Blk W8 W.heap.size fdZero 43 from ⟨below_chain HN6.out.bel k8, HN6.out.res.same (k8.block _ HN6.out.res.lt)⟩)
        rw [HZC.out] at HW8 ⊢
        clear HD b7 b8 k8 HN6
        go_upto_region 9 with fail
        rw [← HW8.out]
        clear HW8 HZC
        have q0 : W8.cell? ⟨W.heap.size, 0, none⟩ = some (.slice none 0 0) := HN8.out.2.cell 0
        have q1 : W8.cell? ⟨W.heap.size, 1, none⟩ = some (.slice none 0 0) := HN8.out.2.cell 1
        have q2 : W8.cell? ⟨W.heap.size, 2, none⟩ = some (.int .u64 0) := HN8.out.2.cell 2
        have q3 : W8.cell? ⟨W.heap.size, 3, none⟩ = some (.int .i64 0) := HN8.out.2.cell 3
        have q4 : W8.cell? ⟨W.heap.size, 4, none⟩ = some (.int .i64 0) := HN8.out.2.cell 4
        have f0 := HN8.out.2.frozen 0
        have f1 := HN8.out.2.frozen 1
        have f2 := HN8.out.2.frozen 2
        have f3 := HN8.out.2.frozen 3
        have f4 := HN8.out.2.frozen 4
        have hrb := fset5_blk (show Blk W8 W.heap.size #[.slice none 0 0, .slice none 0 0, .int .u64 0, .int .i64 0, .int .i64 0] 43 from HN8.out.2) (.slice none 0 0) (.slice none 0 0) (.int .u64 0) (.int .i64 0) (.int .i64 0)
        have hkp := fset5_kept W8 W.heap.size (.slice none 0 0) (.slice none 0 0) (.int .u64 0) (.int .i64 0) (.int .i64 0)
        obtain ⟨WX, HWX⟩ : ∃ WX, Hid (fset5 W8 W.heap.size (.slice none 0 0) (.slice none 0 0) (.int .u64 0) (.int .i64 0) (.int .i64 0) = WX) := ⟨_, rfl⟩
        rw [HWX.out] at hrb hkp
        have HRB := hida hrb
        have HBE : Hid (Below W.heap.size W WX) := ⟨hkp.os.trans HN8.out.1.os, hkp.tape.trans HN8.out.1.tape, hkp.output.trans HN8.out.1.output, Nat.le_trans HN8.out.1.size hkp.size, fun i hi => (hkp.block i (Nat.lt_of_lt_of_le hi HN8.out.1.size) (by omega)).trans (HN8.out.1.block i hi)⟩
        clear hrb hkp HN8
        go_wp2_with fail
        rw [show (((((W8.setCell ⟨W.heap.size, 0, none⟩ (.slice none 0 0)).setCell ⟨W.heap.size, 1, none⟩ (.slice none 0 0)).setCell ⟨W.heap.size, 2, none⟩ (.int .u64 0)).setCell ⟨W.heap.size, 3, none⟩ (.int .i64 0)).setCell ⟨W.heap.size, 4, none⟩ (.int .i64 0)) = WX from HWX.out]
        have t0 : WX.cell? ⟨W.heap.size, 0, none⟩ = some (.slice none 0 0) := HRB.out.cell 0
        have t1 : WX.cell? ⟨W.heap.size, 1, none⟩ = some (.slice none 0 0) := HRB.out.cell 1
        have t2 : WX.cell? ⟨W.heap.size, 2, none⟩ = some (.int .u64 0) := HRB.out.cell 2
        have t3 : WX.cell? ⟨W.heap.size, 3, none⟩ = some (.int .i64 0) := HRB.out.cell 3
        have t4 : WX.cell? ⟨W.heap.size, 4, none⟩ = some (.int .i64 0) := HRB.out.cell 4
        refine bodyPost_ret (v := .tuple #[.agg #[.slice none 0 0, .slice none 0 0, .int .u64 0, .int .i64 0, .int .i64 0], .int .i64 40]) (by simp [results, Tryz.results13, go_sem, t0, t1, t2, t3, t4]) rfl ?_
        exact ⟨fun q => absurd q HNO.out, fun _ => rfl, HBE.out⟩
      | true =>
        obtain ⟨hd, hok⟩ := HGO.out _ hlt hB
        rw [HSS.out] at hd
        have HD := hida hd
        have HOK := hida hok
        have HB2 : Hid (∀ i, i0 ≤ i → i < i0 + (k + 1) → B i = true) := fun i h1 h2 => by
          by_cases e : i = i0 + k
          · rw [e]; exact hB
          · exact HB1.out i h1 (by omega)
        have HST : Hid (hearRec (heardTo rs R i0 k) (placeOf rs (i0 + k)) (R (i0 + k)) = heardTo rs R i0 (k + 1)) := rfl
        have hrec := heardTo_recs rs R i0 k
        have hwf := heardTo_wf rs R i0 k
        obtain ⟨G, HG⟩ : ∃ G, Hid (heardTo rs R i0 k = G) := ⟨_, rfl⟩
        obtain ⟨r, HRR⟩ : ∃ r, Hid (R (i0 + k) = r) := ⟨_, rfl⟩
        rw [HG.out] at hrec hwf HST
        rw [HRR.out] at HD HOK HST
        have HA6 := hida (show HearAt V hb tb db (321 * k) G from by rw [← HG.out]; exact HN6.out.h)
        have HRC := hida hrec
        have HWFG := hida hwf
        clear HB1 hB hd hok hrec hwf
        go_wp2_with fail
        refine (HD.out _).mono ?_
        rintro e w7 ⟨ta, da, tc, dc, rfl, b7, ht7, hd7⟩
        obtain ⟨W8, HW8⟩ : ∃ W8, Hid (W8 = w7.alloc (.cells (r.cells ta da tc dc) 64)) := ⟨_, rfl⟩
        have b8 : Below w7.heap.size w7 W8 := by rw [HW8.out]; exact (Below.refl _ _).alloc (Nat.le_refl _) _
        have x8 : BlkR W8 w7.heap.size (r.cells ta da tc dc) 64 := by rw [HW8.out]; exact Blk.made _ _ _
        have k8 := below_chain b7 b8
        have HN8 := hida (show Below W.heap.size W W8 ∧ Blk W8 W.heap.size fdZero 43 from ⟨below_chain HN6.out.bel k8, HN6.out.res.same (k8.block _ HN6.out.res.lt)⟩)
        have hA8 := HA6.out.below k8
        have HHE := hida (hear_any (tc := tc) (dc := dc) hA8 HWFG.out (hA8.off (ht7.below b8) (hd7.below b8)) (ht7.below b8) (hd7.below b8) HOK.out (placeOf rs (i0 + k)) (by omega) (by rw [HRC.out]; omega))
        have HX8 := hida x8
        have HLO := hida HN6.out.lo
        have HRL : Hid (r.cells ta da tc dc = #[.int .i64 r.kind, .int .i64 r.tx, .int .u64 r.prev, .int .u64 r.next, .int .u32 r.page, .int .i64 r.op.kind, .int .i64 r.op.at', .string r.op.S, .string r.op.old, .int .i64 r.undo, .int .i64 r.index, .string r.key, .int .u32 r.rpage, .int .i64 r.rslot, .bool r.live, .slice ta r.txs.length tc, .slice da r.dirty.length dc]) := rfl
        clear HD b7 b8 k8 ht7 hd7 x8 hA8 HA6 HN6 HOK
        rw [HRL.out] at HW8 ⊢
        go_upto_region 8 with fail
        rw [← HRL.out] at HW8 ⊢
        rw [← HW8.out]
        clear HW8 HRL
        go_upto_region 10 with fail
        refine wp_region_lit ?_
        refine wpList_moveL rfl _ rfl ?_
        refine wpList_loadRow rfl _ _ rfl w7.heap.size rfl (r.cells ta da tc dc) _ (0, 0) HX8.out _ Tryz.underlying64 rfl (by kernel_rfl) ?_
        go_wp2_with fail
        refine HHE.out.mono ?_
        rintro e w9 ⟨rfl, h9, k9⟩
        have HN9 : Hid (RnAt W w9 hb tb db rs R i0 (k + 1)) := by
          have hlo := HLO.out
          refine ⟨⟨k9.os.trans HN8.out.1.os, k9.tape.trans HN8.out.1.tape, k9.output.trans HN8.out.1.output, Nat.le_trans HN8.out.1.size k9.size, fun i hi => (k9.block i (Nat.lt_of_lt_of_le hi HN8.out.1.size) (fun e => by have := hlo i e; omega)).trans (HN8.out.1.block i hi)⟩, HN8.out.2.same (k9.block _ HN8.out.2.lt (fun e => by have := hlo _ e; omega)), ?_, hlo⟩
          rw [← HST.out]
          exact h9.more (by omega)
        clear HHE HN8 h9 k9 HX8 HST HLO
        go_wp2_with fail
        go_roundw
        case rel => exact ⟨k + 1, rfl, by omega, HB2, HN9⟩
        case measure =>
          have := HNX.out
          have := HMX.out
          simp [intOf]
          omega
    · obtain hke : i0 + k = rs.length := by omega
      have n1 : ((placeOf rs (i0 + k) : Int) == (placeOf rs rs.length : Int)) = true := by rw [hke]; simp
      have n2 : ((placeOf rs (i0 + k) : Int) != (placeOf rs rs.length : Int)) = false := by simp [bne, n1]
      have HHALL := hida (show ∀ i, i0 ≤ i → i < rs.length → B i = true from fun i h1 h2 => HB1.out i h1 (by omega))
      have HKK := hida (show rs.length - i0 = k from by omega)
      clear HB1 HGO HBA HGE HMN
      rw [hke]
      rw [hke] at n1 n2
      clear hke
      have HWFG := hida (heardTo_wf rs R i0 k)
      obtain ⟨G, HG⟩ : ∃ G, Hid (heardTo rs R i0 k = G) := ⟨_, rfl⟩
      rw [HG.out] at HWFG
      have HFO := hida (found_any (show HearAt wr hb tb db (321 * k) G from by rw [← HG.out]; exact HN.out.h) HWFG.out (by omega) (placeOf rs rs.length))
      have HEE := hida (HEN.out wr HN.out.bel)
      have HNN := hida (show Below W.heap.size W wr ∧ Blk wr W.heap.size fdZero 43 from ⟨HN.out.bel, HN.out.res⟩)
      clear HEN HN HWFG
      go_wp2_with fail
      refine HE1.out.mono ?_
      rintro e w6 ⟨rfl, hw6⟩
      rw [hw6]
      clear hw6 HE1
      go_wp2_with fail
      refine HEE.out.mono ?_
      rintro e w7 ⟨rfl, hw7⟩
      rw [hw7]
      clear hw7 HEE
      go_wp2_with fail
      refine HFO.out.mono ?_
      rintro e w8 ⟨v1, v2, L1, L2, rfl, hc1, hc2, ho1, ho2, b8⟩
      have HC := hida (show Can keyT L1 G.T ∧ Can keyD L2 G.D from ⟨hc1, hc2⟩)
      have HN8 := hida (show Below W.heap.size W w8 ∧ Blk w8 W.heap.size fdZero 43 from ⟨below_chain HNN.out.1 b8, HNN.out.2.same (b8.block _ HNN.out.2.lt)⟩)
      have HOW := hida (show W.heap.size + 1 ≤ wr.heap.size + 2 ∧ atAt (wr.heap.size + 2) w8 v1 L1 ∧ adAt (wr.heap.size + 2) w8 v2 L2 from ⟨by have := HNN.out.2.lt; omega, ho1, ho2⟩)
      clear HFO hc1 hc2 ho1 ho2 b8 HNN
      obtain ⟨a1, c1, rfl⟩ := HOW.out.2.1.val
      obtain ⟨a2, c2, rfl⟩ := HOW.out.2.2.val
      generalize wr.heap.size + 2 = nb at *
      obtain ⟨re, HRE⟩ : ∃ re, Hid (redoL (placeOf rs rs.length) L2 = re) := ⟨_, rfl⟩
      rw [HRE.out]
      unfold fdCells
      have q0 : w8.cell? ⟨W.heap.size, 0, none⟩ = some (.slice none 0 0) := HN8.out.2.cell 0
      have q1 : w8.cell? ⟨W.heap.size, 1, none⟩ = some (.slice none 0 0) := HN8.out.2.cell 1
      have q2 : w8.cell? ⟨W.heap.size, 2, none⟩ = some (.int .u64 0) := HN8.out.2.cell 2
      have q3 : w8.cell? ⟨W.heap.size, 3, none⟩ = some (.int .i64 0) := HN8.out.2.cell 3
      have q4 : w8.cell? ⟨W.heap.size, 4, none⟩ = some (.int .i64 0) := HN8.out.2.cell 4
      have f0 := HN8.out.2.frozen 0
      have f1 := HN8.out.2.frozen 1
      have f2 := HN8.out.2.frozen 2
      have f3 := HN8.out.2.frozen 3
      have f4 := HN8.out.2.frozen 4
      have hrb := fset5_blk (show Blk w8 W.heap.size #[.slice none 0 0, .slice none 0 0, .int .u64 0, .int .i64 0, .int .i64 0] 43 from HN8.out.2) (.slice a1 L1.length c1) (.slice a2 L2.length c2) (.int .u64 re) (.int .i64 G.most) (.int .i64 G.recs)
      have hkp := fset5_kept w8 W.heap.size (.slice a1 L1.length c1) (.slice a2 L2.length c2) (.int .u64 re) (.int .i64 G.most) (.int .i64 G.recs)
      obtain ⟨WX, HWX⟩ : ∃ WX, Hid (fset5 w8 W.heap.size (.slice a1 L1.length c1) (.slice a2 L2.length c2) (.int .u64 re) (.int .i64 G.most) (.int .i64 G.recs) = WX) := ⟨_, rfl⟩
      rw [HWX.out] at hrb hkp
      have HRB := hida hrb
      have HBE : Hid (Below W.heap.size W WX) := ⟨hkp.os.trans HN8.out.1.os, hkp.tape.trans HN8.out.1.tape, hkp.output.trans HN8.out.1.output, Nat.le_trans HN8.out.1.size hkp.size, fun i hi => (hkp.block i (Nat.lt_of_lt_of_le hi HN8.out.1.size) (by omega)).trans (HN8.out.1.block i hi)⟩
      have HOX := hida (show W.heap.size + 1 ≤ nb ∧ atAt nb WX (.slice a1 L1.length c1) L1 ∧ adAt nb WX (.slice a2 L2.length c2) L2 from ⟨HOW.out.1, HOW.out.2.1.same fun i hi => hkp.block i (HOW.out.2.1.lt i hi).2 (by have := (HOW.out.2.1.lt i hi).1; have := HOW.out.1; omega), HOW.out.2.2.same fun i hi => hkp.block i (HOW.out.2.2.lt i hi).2 (by have := (HOW.out.2.2.lt i hi).1; have := HOW.out.1; omega)⟩)
      clear hrb hkp HN8 HOW
      go_wp2_with fail
      rw [show (((((w8.setCell ⟨W.heap.size, 0, none⟩ (.slice a1 L1.length c1)).setCell ⟨W.heap.size, 1, none⟩ (.slice a2 L2.length c2)).setCell ⟨W.heap.size, 2, none⟩ (.int .u64 re)).setCell ⟨W.heap.size, 3, none⟩ (.int .i64 G.most)).setCell ⟨W.heap.size, 4, none⟩ (.int .i64 G.recs)) = WX from HWX.out]
      have t0 : WX.cell? ⟨W.heap.size, 0, none⟩ = some (.slice a1 L1.length c1) := HRB.out.cell 0
      have t1 : WX.cell? ⟨W.heap.size, 1, none⟩ = some (.slice a2 L2.length c2) := HRB.out.cell 1
      have t2 : WX.cell? ⟨W.heap.size, 2, none⟩ = some (.int .u64 re) := HRB.out.cell 2
      have t3 : WX.cell? ⟨W.heap.size, 3, none⟩ = some (.int .i64 G.most) := HRB.out.cell 3
      have t4 : WX.cell? ⟨W.heap.size, 4, none⟩ = some (.int .i64 G.recs) := HRB.out.cell 4
      refine bodyPost_ret (v := .tuple #[.agg #[.slice a1 L1.length c1, .slice a2 L2.length c2, .int .u64 re, .int .i64 G.most, .int .i64 G.recs], .int .i64 0]) (by simp [results, Tryz.results13, go_sem, t0, t1, t2, t3, t4]) rfl ?_
      refine ⟨fun _ => ⟨.slice a1 L1.length c1, .slice a2 L2.length c2, L1, L2, nb, ?_, ?_, ?_, by have := HOX.out.1; omega, HOX.out.2.1, HOX.out.2.2⟩, fun q => absurd HHALL.out q, HBE.out⟩
      · rw [HKK.out, HG.out, HRE.out]; rfl
      · rw [HKK.out, HG.out]; exact HC.out.1
      · rw [HKK.out, HG.out]; exact HC.out.2

end

end Go.Proofs.YtgkfdakieebnmaaGreat
