/-
  The walk of (*pool.Pool).Get.
  The walk of (*pool.Pool).Get of a page that is read from the disk.
  The laying of a contract of the library's shelf at this program's numbers (plain text by the library's own command).
  slices.Sort of at most twelve pages' numbers: the walks of cmp.Less and of the insertion sort.
  slices.Sort of at most twelve pages' numbers, and the walk of (*pool.Pool).Numbers.
-/
import Derived.Test.YtgmfgkdecpldeaaGreatBase6C
import Derived.Test.YtgmfgkdecpldeaaGreatProg
import Derived.Shelf.Small.Bits
import Derived.Maps.RangeWalk
import Derived.OwnWalk
namespace Go.Proofs.YtgmfgkdecpldeaaGreat
open Go.RowKit Go.Sort
set_option linter.unusedVariables false

/-- A frame is put into the map of a pool, its texts in blocks T that were nobody's. -/
theorem Sys.putFr {W : World} {p : Nat} {A T : Nat → Prop} {P : PG} {l : LG} {d : DG} (h : Sys W p A P l d) (X : SheetV) (a : Option Addr) (c sn : Nat) (hS : StrsIn T W a X.slots) (hT : ∀ k, T k → ¬ A k ∧ k < W.heap.size) (hF : X.Fits) (h1 : 1 ≤ X.num) (h2 : X.num ≤ 2048) (hz : P.z ≤ 1000000) (hsn : sn < 18446744073709551616) :
    ∃ (fb : Nat) (u : World → World), W.cell? ⟨p, 3, none⟩ = some (.map (some fb)) ∧ (Instr.mapUpdate 110 (.map (some fb)) (.int .u32 X.num) (.agg (frArr ⟨X, sn⟩ a c))).run Tryz.prog W.drew = .ok () (u W.drew) ∧
      Sys (u W.drew) p (fun k => A k ∨ T k) { P with F := setFr P.F X.num ⟨X, sn⟩, z := if (P.F X.num).isSome = true then P.z else P.z + 1 } l d ∧ Kept (fun k => k = fb) W (u W.drew) ∧ A fb := by
  obtain ⟨⟨S, L, D, ⟨fb, pv, M, hP⟩, hL, hD, g4, g5, g6, g7⟩, g8, g9⟩ := h
  obtain ⟨u, hu⟩ := put_ex 54 110 108 fb (.int .u32 X.num) (.agg (frArr ⟨X, sn⟩ a c))
  obtain ⟨hrun, hM, ht⟩ := hu W.drew P.z M (keyL X.num) (hP.map.same rfl) pageKeyed Tryz.underlying110 hz (keyL_key (by omega))
  have hk : Kept (fun k => k = fb) W.drew (u W.drew) := mapTurned_kept ht rfl
  have hk' : Kept (fun k => k = fb) W (u W.drew) := ⟨hk.os, hk.tape, hk.output, hk.size, hk.block⟩
  have hkb : ∀ k, k < W.heap.size → k ≠ fb → (u W.drew).heap[k]? = W.heap[k]? := fun k hk' hne => hk.block k hk' hne
  have hsz : W.heap.size ≤ (u W.drew).heap.size := hk.size
  have hI : Maps.IsMap M := (hP.map.tidy pageKeyed).isMap
  have hzz : Maps.size (M.put (keyL X.num) (.held (.agg (frArr ⟨X, sn⟩ a c)))) = if (P.F X.num).isSome = true then P.z else P.z + 1 := by
    rw [Maps.size_put (hP.map.tidy pageKeyed), hP.map.2]
    cases e : P.F X.num with
    | none => rw [hP.frs.no _ (by omega) e]; rfl
    | some f => rw [(hP.frs.yes _ f (by omega) e).1]; rfl
  rw [hzz] at hM
  have hfr : FrAt (fun k => S k ∨ T k) (u W.drew) X.num (.agg (frArr ⟨X, sn⟩ a c)) ⟨X, sn⟩ :=
    ⟨⟨_, _, rfl, hS.turn hP.map.isMap (fun k hk' hne => hkb k (hT k hk').2 hne) hsz fun k x => .inr x⟩, hF, rfl, hsn⟩
  have hF1 : FrsAt (fun k => S k ∨ T k) (u W.drew) M P.F := hP.frs.turn hP.map.isMap (fun k hk' hne => hkb k (hP.lt k hk') hne) hsz fun k x => .inl x
  have hP' := hP.turn (S' := fun k => S k ∨ T k) (fun k hk' hne => hkb k (hP.lt k hk') hne) hsz (fun k x => .inl x) (by rintro k (x | x); exact Nat.lt_of_lt_of_le (hP.lt k x) hsz; exact Nat.lt_of_lt_of_le (hT k x).2 hsz) hM (hF1.put hI h1 h2 hfr)
  have nfL : ∀ k, L k → k ≠ fb := fun k hk' e => g4 fb hP.sf (e ▸ hk')
  have nfD : ∀ k, D k → k ≠ fb := fun k hk' e => g5 fb hP.sf (e ▸ hk')
  refine ⟨fb, u, hP.cells.c3, hrun, ⟨⟨fun k => S k ∨ T k, L, D, ⟨fb, pv, _, hP'⟩, hL.same (fun k hk' => hkb k (hL.lt hk') (nfL k hk')) hsz, hD.same (fun k hk' => hkb k (hD.lt hk') (nfD k hk')) hsz, ?_, ?_, g6, ?_⟩, g8, ?_⟩, hk', g7 fb (.inl hP.sf)⟩
  · rintro k (x | x) y
    · exact g4 k x y
    · exact (hT k x).1 (g7 k (.inr (.inl y)))
  · rintro k (x | x) y
    · exact g5 k x y
    · exact (hT k x).1 (g7 k (.inr (.inr y)))
  · rintro k ((x | x) | x)
    · exact .inl (g7 k (.inl x))
    · exact .inr x
    · exact .inl (g7 k (.inr x))
  · rintro k (x | x)
    · exact Nat.lt_of_lt_of_le (g9 k x) hsz
    · exact Nat.lt_of_lt_of_le (hT k x).2 hsz

/-- A cell of the pool is written. -/
theorem Sys.cell {W : World} {p : Nat} {A : Nat → Prop} {P P' : PG} {l : LG} {d : DG} (h : Sys W p A P l d) (i : Nat) (v : Value) (e : ∀ fb pv, (pvals fb pv P).setIfInBounds i v = pvals fb pv P') (e1 : P'.F = P.F) (e2 : P'.z = P.z) (e3 : P'.picks = P.picks) (e4 : P'.dp = P.dp) (e5 : P'.lp = P.lp) : Sys (W.setCell ⟨p, i, none⟩ v) p A P' l d ∧ A p := by
  obtain ⟨⟨S, L, D, ⟨fb, pv, M, hP⟩, hL, hD, g4, g5, g6, g7⟩, g8, g9⟩ := h
  have k : ∀ b, b ≠ p → (W.setCell ⟨p, i, none⟩ v).heap[b]? = W.heap[b]? := fun b hb => Below.heap_setCell _ _ _ _ hb
  exact ⟨⟨⟨S, L, D, ⟨fb, pv, M, hP.cell i v (e fb pv) e1 e2 e3⟩, by rw [e5]; exact hL.same (fun b hb => k b fun e => g4 p hP.sp (e ▸ hb)) (by simp), by rw [e4]; exact hD.same (fun b hb => k b fun e => g5 p hP.sp (e ▸ hb)) (by simp), g4, g5, g6, g7⟩, g8.trans e4.symm, fun b hb => by simpa using g9 b hb⟩, g7 p (.inl hP.sp)⟩

theorem Sys.pcells {W : World} {p : Nat} {A : Nat → Prop} {P : PG} {l : LG} {d : DG} (h : Sys W p A P l d) : ∃ fb pv, PCells W p fb pv P := by
  obtain ⟨⟨S, L, D, ⟨fb, pv, M, hP⟩, _⟩, _⟩ := h
  exact ⟨fb, pv, hP.cells⟩

theorem Sys.has {W : World} {p : Nat} {A : Nat → Prop} {P : PG} {l : LG} {d : DG} (h : Sys W p A P l d) : A p ∧ p < W.heap.size := by
  obtain ⟨⟨S, L, D, ⟨fb, pv, M, hP⟩, hL, hD, g4, g5, g6, g7⟩, g8, g9⟩ := h
  exact ⟨g7 p (.inl hP.sp), hP.lt p hP.sp⟩

/-- A page is read into a pool. -/
def getP (P : PG) (X : SheetV) : PG := { P with F := setFr P.F X.num ⟨X, 0⟩, z := P.z + 1, fetched := P.fetched + 1 }

/-- The texts of what pcopyOf hands back. -/
theorem copied_strs {B b : Nat} {w : World} {L : List ByteArray} (h1 : B ≤ b) (h2 : b < w.heap.size) (h : RowV w b L.length (fun j => .string (L.getD j ByteArray.empty))) : StrsFrom B w (some ⟨b, 0, none⟩) L :=
  .inr ⟨b, 0, rfl, h1, h2, fun j hj => by
    rw [Nat.zero_add, (h j hj).1]
    show some (Value.string (L.getD j ByteArray.empty)) = _
    rw [List.getD_eq_getElem?_getD, List.getElem?_eq_getElem hj]
    rfl⟩

set_option maxHeartbeats 1600000 in
set_option maxRecDepth 8000 in
theorem get_here {w : World} {p : Nat} {A : Nat → Prop} {P : PG} {l : LG} {d : DG} (hS : Sys w p A P l d) (n : Nat) (h1 : 1 ≤ n) (h2 : n ≤ 2048) {f : FrV} (hf : P.F n = some f) :
    Calls Tryz.prog 21 #[.pointer (some ⟨p, 0, none⟩), .int .u32 n] w (ShOut w f.sh fun v => .returned (.tuple #[v, .int .i64 0])) := by
  have HMB : Hid (∀ W, Calls Tryz.prog 46 #[.int .u32 n] W fun x w' => x = .returned (.bool true) ∧ W = w') := fun W => by
    have := mayBe_any n W (by omega)
    rw [decide_eq_true (by omega)] at this
    exact this.mono fun x w' h => ⟨h.1, h.2.symm⟩
  obtain ⟨⟨S, L, D, ⟨fb, pv, M, hP⟩, _⟩, _, _⟩ := hS
  obtain ⟨g, ga, gc, hlook, hold, hg64, hyes⟩ := hP.looks (n := n) (by omega)
  obtain ⟨rfl, hst⟩ := hyes f hf
  rw [hf] at hlook
  have hfit := (hP.frs.yes n g (by omega) hf).2.fits
  have HC : Hid (∀ (W : World), StrsAt W ga g.sh.slots → Calls Tryz.prog 49 #[g.sh.val ga gc] W fun e w' => ∃ b, e = .returned (g.sh.val (some ⟨b, 0, none⟩) g.sh.slots.length) ∧ W.heap.size < b ∧ b < w'.heap.size ∧ RowV w' b g.sh.slots.length (fun j => .string (g.sh.slots.getD j ByteArray.empty)) ∧ Below W.heap.size W w') := fun W hm => pcopyOf_any g.sh ga gc W (hfit.ok hm)
  have HV : Hid (g.sh.val ga gc = .agg #[.int .u32 g.sh.num, .int .u64 g.sh.lsn, .int .i64 g.sh.kind, .string g.sh.head, .slice ga g.sh.slots.length gc]) := rfl
  rw [HV.out] at HC
  have c3 := hP.cells.c3
  have hpl : p < w.heap.size := hP.lt p hP.sp
  obtain ⟨W0, HW0⟩ : ∃ W0, Hid (W0 = w.alloc (.cells #[.int .u32 0, .int .u64 0, .int .i64 0, .string ⟨#[]⟩, .slice none 0 0] 56)) := ⟨_, rfl⟩
  have b0 : Below w.heap.size w W0 := by rw [HW0.out]; exact (Below.refl _ _).alloc (Nat.le_refl _) _
  have kz : Blk W0 w.heap.size zero5 56 := by rw [HW0.out]; exact Blk.made w _ _
  have c3' : W0.cell? ⟨p, 3, none⟩ = some (.map (some fb)) := (b0.cell (p := ⟨p, 3, none⟩) hpl).trans c3
  have k1 := hlook W0 b0
  have HST := hid hst
  clear hP hlook hold hf hst c3 hyes
  simp only [Option.isSome] at k1
  go_enter Tryz.func21, Tryz.ntmps21
  go_wp2_with fail
  rw [← HW0.out]
  refine (HMB.out _).mono ?_
  rintro x w1 ⟨rfl, rfl⟩
  obtain ⟨W2, HW2⟩ : ∃ W2, Hid (W2 = W0.alloc (.cells #[.int .u32 g.sh.num, .int .u64 g.sh.lsn, .int .i64 g.sh.kind, .string g.sh.head, .slice ga g.sh.slots.length gc, .int .u64 g.since] 108)) := ⟨_, rfl⟩
  have b2 : Below W0.heap.size W0 W2 := by rw [HW2.out]; exact (Below.refl _ _).alloc (Nat.le_refl _) _
  go_wp2_with fail
  rw [← HW2.out]
  have bel2 := below_chain b0 b2
  refine (HC.out _ (HST.out.at.below bel2)).mono ?_
  rintro e w3 ⟨b, rfl, hb1, hb2, hrow, b3⟩
  have bel3 := below_chain bel2 b3
  have zz := bel2.size
  have kz3 := (kz.same (b2.block _ kz.lt)).same (b3.block _ (Nat.lt_of_lt_of_le kz.lt b2.size))
  have HXV : Hid (g.sh.val (some ⟨b, 0, none⟩) g.sh.slots.length = .agg #[.int .u32 g.sh.num, .int .u64 g.sh.lsn, .int .i64 g.sh.kind, .string g.sh.head, .slice (some ⟨b, 0, none⟩) g.sh.slots.length g.sh.slots.length]) := rfl
  rw [HXV.out]
  clear HW0 HW2 kz k1 c3'
  have f0 := kz3.frozen 0
  have f1 := kz3.frozen 1
  have f2 := kz3.frozen 2
  have f3 := kz3.frozen 3
  have f4 := kz3.frozen 4
  have e0 : w3.cell? ⟨w.heap.size, 0, none⟩ = some (.int .u32 0) := kz3.cell 0
  have e1 : w3.cell? ⟨w.heap.size, 1, none⟩ = some (.int .u64 0) := kz3.cell 1
  have e2 : w3.cell? ⟨w.heap.size, 2, none⟩ = some (.int .i64 0) := kz3.cell 2
  have e3 : w3.cell? ⟨w.heap.size, 3, none⟩ = some (.string ⟨#[]⟩) := kz3.cell 3
  have e4 : w3.cell? ⟨w.heap.size, 4, none⟩ = some (.slice none 0 0) := kz3.cell 4
  have hst3 : StrsFrom (w.heap.size + 1) w3 (some ⟨b, 0, none⟩) g.sh.slots := copied_strs (by omega) hb2 hrow
  go_wp2
  refine bodyPost_ret (v := .tuple #[.agg #[.int .u32 g.sh.num, .int .u64 g.sh.lsn, .int .i64 g.sh.kind, .string g.sh.head, .slice (some ⟨b, 0, none⟩) g.sh.slots.length g.sh.slots.length], .int .i64 0]) (by simp [results, Tryz.results21, go_sem, e0, e1, e2, e3, e4]) rfl ?_
  exact ⟨⟨some ⟨b, 0, none⟩, g.sh.slots.length, rfl, (hst3.store5 (by omega) _ _ _ _ _).mono (by omega), below_set5 bel3 (Nat.le_refl _) _ _ _ _ _⟩⟩

set_option maxHeartbeats 1600000 in
set_option maxRecDepth 8000 in
/-- What can't be fetched is refused. -/
theorem get_err {w : World} {p : Nat} {A : Nat → Prop} {P : PG} {l : LG} {d : DG} (hS : Sys w p A P l d) (n : Nat) (h1 : 1 ≤ n) (h2 : n ≤ 2048) (hf : P.F n = none) (hD : d.dead = false) (hs : ∀ q, (readD d q).size ≤ 1000000) (hE : feE d n ≠ 0) :
    Calls Tryz.prog 21 #[.pointer (some ⟨p, 0, none⟩), .int .u32 n] w fun e w' => e = .returned (.tuple #[.agg #[.int .u32 0, .int .u64 0, .int .i64 0, .string ⟨#[]⟩, .slice none 0 0], .int .i64 (feE d n)]) ∧ Below w.heap.size w w' := by
  have HMB : Hid (∀ W, Calls Tryz.prog 46 #[.int .u32 n] W fun x w' => x = .returned (.bool true) ∧ W = w') := fun W => by
    have := mayBe_any n W (by omega)
    rw [decide_eq_true (by omega)] at this
    exact this.mono fun x w' h => ⟨h.1, h.2.symm⟩
  obtain ⟨⟨S, L, DD, ⟨fb, pv, M, hP⟩, hL, hDD, _⟩, _, _⟩ := hS
  have hpl : p < w.heap.size := hP.lt p hP.sp
  have HFE : Hid (∀ W, Below w.heap.size w W → Calls Tryz.prog 57 #[.pointer (some ⟨p, 0, none⟩), .int .u32 n] W (ShOut W (feX d n) fun v => .returned (.tuple #[v, .int .i64 (feE d n)]))) := fun W hb => fetch_any ((hb.cell (p := ⟨p, 0, none⟩) hpl).trans hP.cells.c0) (Nat.lt_of_lt_of_le hpl hb.size) (hDD.below hb) hD n h2 hs
  obtain ⟨g, ga, gc, hlook, hold, hg64, hyes⟩ := hP.looks (n := n) (by omega)
  rw [hf] at hlook
  have c3 := hP.cells.c3
  obtain ⟨W0, HW0⟩ : ∃ W0, Hid (W0 = w.alloc (.cells #[.int .u32 0, .int .u64 0, .int .i64 0, .string ⟨#[]⟩, .slice none 0 0] 56)) := ⟨_, rfl⟩
  have b0 : Below w.heap.size w W0 := by rw [HW0.out]; exact (Below.refl _ _).alloc (Nat.le_refl _) _
  have kz : Blk W0 w.heap.size zero5 56 := by rw [HW0.out]; exact Blk.made w _ _
  have c3' : W0.cell? ⟨p, 3, none⟩ = some (.map (some fb)) := (b0.cell (p := ⟨p, 3, none⟩) hpl).trans c3
  have k1 := hlook W0 b0
  clear hP hlook hold hf c3 hyes hL hDD hs
  simp only [Option.isSome] at k1
  generalize feX d n = X at *
  generalize feE d n = E at *
  go_enter Tryz.func21, Tryz.ntmps21
  go_wp2_with fail
  rw [← HW0.out]
  refine (HMB.out _).mono ?_
  rintro x w1 ⟨rfl, rfl⟩
  obtain ⟨W2, HW2⟩ : ∃ W2, Hid (W2 = W0.alloc (.cells #[.int .u32 g.sh.num, .int .u64 g.sh.lsn, .int .i64 g.sh.kind, .string g.sh.head, .slice ga g.sh.slots.length gc, .int .u64 g.since] 108)) := ⟨_, rfl⟩
  have b2 : Below W0.heap.size W0 W2 := by rw [HW2.out]; exact (Below.refl _ _).alloc (Nat.le_refl _) _
  go_wp2_with fail
  rw [← HW2.out]
  have bel2 := below_chain b0 b2
  refine (HFE.out _ bel2).mono ?_
  rintro x w3 ⟨a, c, rfl, hs3, b3⟩
  have bel3 := below_chain bel2 b3
  have kz3 := (kz.same (b2.block _ kz.lt)).same (b3.block _ (Nat.lt_of_lt_of_le kz.lt b2.size))
  have z3 : w.heap.size < w3.heap.size := Nat.lt_of_lt_of_le kz.lt (Nat.le_trans b2.size b3.size)
  have HXV : Hid (X.val a c = .agg #[.int .u32 X.num, .int .u64 X.lsn, .int .i64 X.kind, .string X.head, .slice a X.slots.length c]) := rfl
  rw [HXV.out]
  clear HW0 HW2 kz k1 c3'
  have f0 := kz3.frozen 0
  have f1 := kz3.frozen 1
  have f2 := kz3.frozen 2
  have f3 := kz3.frozen 3
  have f4 := kz3.frozen 4
  have e0 : w3.cell? ⟨w.heap.size, 0, none⟩ = some (.int .u32 0) := kz3.cell 0
  have e1 : w3.cell? ⟨w.heap.size, 1, none⟩ = some (.int .u64 0) := kz3.cell 1
  have e2 : w3.cell? ⟨w.heap.size, 2, none⟩ = some (.int .i64 0) := kz3.cell 2
  have e3 : w3.cell? ⟨w.heap.size, 3, none⟩ = some (.string ⟨#[]⟩) := kz3.cell 3
  have e4 : w3.cell? ⟨w.heap.size, 4, none⟩ = some (.slice none 0 0) := kz3.cell 4
  go_wp2
  refine bodyPost_ret (v := .tuple #[.agg #[.int .u32 0, .int .u64 0, .int .i64 0, .string ⟨#[]⟩, .slice none 0 0], .int .i64 E]) (by simp [results, Tryz.results21, go_sem, e0, e1, e2, e3, e4, z3]) rfl ?_
  exact ⟨rfl, (below_set5 bel3 (Nat.le_refl _) _ _ _ _ _).alloc (by rw [store5_size]; omega) _⟩

end Go.Proofs.YtgmfgkdecpldeaaGreat

namespace Go.Proofs.YtgmfgkdecpldeaaGreat
open Go.RowKit Go.Sort
set_option linter.unusedVariables false

theorem fe_ok {d : DG} {n : Nat} (hn : n < 4294967296) (h : feE d n = 0) : (feX d n).num = n ∧ (feX d n).Fits := by
  unfold feE at h
  unfold feX
  split at h
  · rename_i hc
    rw [if_pos hc]
    unfold chE at h
    unfold chX
    have key : ∀ s, rdB n s = true → (rdP n s).num = n ∧ (rdP n s).Fits := fun s hs => ⟨by unfold rdP; rw [if_pos hs], rdP_fit hn s⟩
    split at h
    · rename_i hp
      rw [if_pos hp]
      refine key _ ?_
      unfold chP at hp
      simp only [Bool.and_eq_true] at hp
      exact hp.1
    · rename_i hp
      rw [if_neg hp]
      split at h
      · rename_i ht
        rw [if_pos ht]
        exact key _ ht
      · cases h
  · contradiction

/-- A page is told, and the pool has moved. -/
structure GeOut (w : World) (p : Nat) (A : Nat → Prop) (X : SheetV) (P : PG) (l : LG) (d : DG) (x : Ending) (w' : World) : Prop where
  out : ∃ a c A', x = .returned (.tuple #[X.val a c, .int .i64 0]) ∧ StrsFrom w.heap.size w' a X.slots ∧ Sys w' p A' P l d ∧ Moves A A' w w' ∧ ∀ b o, a = some ⟨b, o, none⟩ → ¬ A' b

set_option maxHeartbeats 3200000 in
set_option maxRecDepth 8000 in
theorem get_new {w : World} {p : Nat} {A : Nat → Prop} {P P1 : PG} {l l1 : LG} {d d1 : DG} (hS : Sys w p A P l d) (n : Nat) (h1 : 1 ≤ n) (h2 : n ≤ 2048) (hf : P.F n = none) (hD : d.dead = false) (hs : ∀ q, (readD d q).size ≤ 1000000) (hE : feE d n = 0)
    (hR : RoomTo p P l d P1 l1 d1) (hN : P1.F n = none) (hz : P1.z ≤ 1000000) (hft : P1.fetched ≤ 1000000) :
    Calls Tryz.prog 21 #[.pointer (some ⟨p, 0, none⟩), .int .u32 n] w (GeOut w p A (feX d n) (getP P1 (feX d n)) l1 d1) := by
  have HMB : Hid (∀ W, Calls Tryz.prog 46 #[.int .u32 n] W fun x w' => x = .returned (.bool true) ∧ W = w') := fun W => by
    have := mayBe_any n W (by omega)
    rw [decide_eq_true (by omega)] at this
    exact this.mono fun x w' h => ⟨h.1, h.2.symm⟩
  obtain ⟨hXn, hFit⟩ := fe_ok (d := d) (n := n) (by omega) hE
  have HS := hid hS
  obtain ⟨⟨S, L, DD, ⟨fb, pv, M, hP⟩, hL, hDD, _⟩, _, _⟩ := hS
  have hpl : p < w.heap.size := hP.lt p hP.sp
  have HFE : Hid (∀ W, Below w.heap.size w W → Calls Tryz.prog 57 #[.pointer (some ⟨p, 0, none⟩), .int .u32 n] W (ShOut W (feX d n) fun v => .returned (.tuple #[v, .int .i64 0]))) := fun W hb => by
    have := fetch_any (d := d) ((hb.cell (p := ⟨p, 0, none⟩) hpl).trans hP.cells.c0) (Nat.lt_of_lt_of_le hpl hb.size) (hDD.below hb) hD n h2 hs
    rw [hE] at this
    exact this
  obtain ⟨g, ga, gc, hlook, hold, hg64, hyes⟩ := hP.looks (n := n) (by omega)
  rw [hf] at hlook
  have c3 := hP.cells.c3
  obtain ⟨W0, HW0⟩ : ∃ W0, Hid (W0 = w.alloc (.cells #[.int .u32 0, .int .u64 0, .int .i64 0, .string ⟨#[]⟩, .slice none 0 0] 56)) := ⟨_, rfl⟩
  have b0 : Below w.heap.size w W0 := by rw [HW0.out]; exact (Below.refl _ _).alloc (Nat.le_refl _) _
  have kz : Blk W0 w.heap.size zero5 56 := by rw [HW0.out]; exact Blk.made w _ _
  have c3' : W0.cell? ⟨p, 3, none⟩ = some (.map (some fb)) := (b0.cell (p := ⟨p, 3, none⟩) hpl).trans c3
  have k1 := hlook W0 b0
  clear hP hlook hold hf c3 hyes hL hDD hs hE
  simp only [Option.isSome] at k1
  generalize feX d n = X at *
  subst hXn
  have HC : Hid (∀ (a : Option Addr) (c : Nat) (W : World), StrsAt W a X.slots → Calls Tryz.prog 49 #[X.val a c] W fun e w' => ∃ b, e = .returned (X.val (some ⟨b, 0, none⟩) X.slots.length) ∧ W.heap.size < b ∧ b < w'.heap.size ∧ RowV w' b X.slots.length (fun j => .string (X.slots.getD j ByteArray.empty)) ∧ Below W.heap.size W w') := fun a c W hm => pcopyOf_any X a c W (hFit.ok hm)
  go_enter Tryz.func21, Tryz.ntmps21
  go_wp2_with fail
  rw [← HW0.out]
  refine (HMB.out _).mono ?_
  rintro x w1 ⟨rfl, rfl⟩
  obtain ⟨W2, HW2⟩ : ∃ W2, Hid (W2 = W0.alloc (.cells #[.int .u32 g.sh.num, .int .u64 g.sh.lsn, .int .i64 g.sh.kind, .string g.sh.head, .slice ga g.sh.slots.length gc, .int .u64 g.since] 108)) := ⟨_, rfl⟩
  have b2 : Below W0.heap.size W0 W2 := by rw [HW2.out]; exact (Below.refl _ _).alloc (Nat.le_refl _) _
  go_wp2_with fail
  rw [← HW2.out]
  have bel2 := below_chain b0 b2
  refine (HFE.out _ bel2).mono ?_
  rintro x w3 ⟨a, c, rfl, hs3, b3⟩
  have bel3 := below_chain bel2 b3
  have kz3 := (kz.same (b2.block _ kz.lt)).same (b3.block _ (Nat.lt_of_lt_of_le kz.lt b2.size))
  have z3 : w.heap.size < w3.heap.size := Nat.lt_of_lt_of_le kz.lt (Nat.le_trans b2.size b3.size)
  have HXV : Hid (X.val a c = .agg #[.int .u32 X.num, .int .u64 X.lsn, .int .i64 X.kind, .string X.head, .slice a X.slots.length c]) := rfl
  have HC2 : Hid (∀ (W : World), StrsAt W a X.slots → Calls Tryz.prog 49 #[X.val a c] W fun e w' => ∃ b, e = .returned (X.val (some ⟨b, 0, none⟩) X.slots.length) ∧ W.heap.size < b ∧ b < w'.heap.size ∧ RowV w' b X.slots.length (fun j => .string (X.slots.getD j ByteArray.empty)) ∧ Below W.heap.size W w') := HC.out a c
  rw [HXV.out] at HC2 ⊢
  have z2 : w.heap.size < W2.heap.size := Nat.lt_of_lt_of_le kz.lt b2.size
  clear HW0 HW2 kz k1 c3' HC HFE HMB
  obtain ⟨W4, HW4⟩ : ∃ W4, Hid (W4 = w3.alloc (.cells #[.int .u32 X.num, .int .u64 X.lsn, .int .i64 X.kind, .string X.head, .slice a X.slots.length c] 56)) := ⟨_, rfl⟩
  have b4 : Below w3.heap.size w3 W4 := by rw [HW4.out]; exact (Below.refl _ _).alloc (Nat.le_refl _) _
  have kx4 : Blk W4 w3.heap.size (X.arr a c) 56 := by rw [HW4.out]; exact Blk.made w3 _ _
  have kz4 := kz3.same (b4.block _ z3)
  have bel4 := below_chain bel3 b4
  have hs4 := hs3.below b4
  go_wp2_with fail
  rw [← HW4.out]
  have nA : ∀ k, w.heap.size ≤ k → ¬ A k := fun k hk hA => by have := HS.out.lt k hA; omega
  refine (hR W4 A (HS.out.below bel4)).mono ?_
  rintro x w5 ⟨rfl, A1, hS5, hm5⟩
  have mz := hm5.off (r := w.heap.size) kz4.lt (nA _ (Nat.le_refl _))
  have mx := hm5.off (r := w3.heap.size) kx4.lt (nA _ (by omega))
  have kz5 := kz4.same mz.1
  have kx5 := kx4.same mx.1
  have hx5 : StrsIn (fun k => w.heap.size < k ∧ ¬ A1 k ∧ k < w5.heap.size ∧ k ≠ w3.heap.size) w5 a X.slots := by
    rcases hs3 with e | ⟨b, o, e, g1, g2, g3⟩
    · exact .inl e
    · have k3 := hm5.off (r := b) (by have := b4.size; omega) (nA b (by omega))
      have hb5 : b < w5.heap.size := by have := b4.size; have := hm5.1.size; omega
      exact .inr ⟨b, o, e, ⟨by omega, k3.2, hb5, by omega⟩, hb5, fun i hi => (World.cell?_of_block (w := W4) (a := ⟨b, o + i, none⟩) k3.1).trans (((b4.cell (p := ⟨b, o + i, none⟩) g2)).trans (g3 i hi))⟩
  have mv5 : Moves A A1 w w5 := (Moves.of_kept (Kept.of_below bel4)).trans hm5
  clear HW4 b4 kx4 kz4 hs4 hs3 kz3 b3 b2 b0 bel2 bel3 z2
  obtain ⟨fb5, u, hc3, hrun, hS6, hk6, hfb⟩ := hS5.putFr X a c 0 hx5 (fun k hk => ⟨hk.2.1, hk.2.2.1⟩) hFit h1 h2 hz (by omega)
  generalize hq : w3.heap.size = q at *
  have x0 : w5.cell? ⟨q, 0, none⟩ = some (.int .u32 X.num) := kx5.cell 0
  have x1 : w5.cell? ⟨q, 1, none⟩ = some (.int .u64 X.lsn) := kx5.cell 1
  have x2 : w5.cell? ⟨q, 2, none⟩ = some (.int .i64 X.kind) := kx5.cell 2
  have x3 : w5.cell? ⟨q, 3, none⟩ = some (.string X.head) := kx5.cell 3
  have x4 : w5.cell? ⟨q, 4, none⟩ = some (.slice a X.slots.length c) := kx5.cell 4
  unfold frArr at hrun
  simp only at hrun
  rw [show ((0 : Nat) : Int) = 0 from rfl] at hrun
  go_upto_region 12 with fail
  obtain ⟨w6, HW6⟩ : ∃ w6, Hid (w6 = u w5.drew) := ⟨_, rfl⟩
  rw [← HW6.out] at hS6 hk6 hrun
  have kb6 : ∀ k, k < w5.heap.size → ¬ A1 k → w6.heap[k]? = w5.heap[k]? := fun k hk hA => hk6.block k hk fun e => hA (e ▸ hfb)
  have kz6 := kz5.same (kb6 _ kz5.lt mz.2)
  have kx6 := kx5.same (kb6 _ kx5.lt mx.2)
  have hx6 := hx5.same (w' := w6) (fun k hk => kb6 k hk.2.2.1 hk.2.1) hk6.size
  have hfe6 : w6.cell? ⟨p, 5, none⟩ = some (.int .i64 P1.fetched) := by
    obtain ⟨fb', pv', hc'⟩ := hS6.pcells
    exact hc'.c5
  have hfr6 : w6.frozen? ⟨p, 5, none⟩ = false := by
    obtain ⟨fb', pv', hc'⟩ := hS6.pcells
    exact hc'.fr 5
  have hcl := hS6.cell (P' := getP P1 X) 5 (.int .i64 ((P1.fetched + 1 : Nat) : Int)) (fun fb pv => by unfold getP pvals; rfl) rfl (by show P1.z + 1 = _; simp only [hN]; rfl) rfl rfl rfl
  obtain ⟨hS7, hAp⟩ := hcl
  obtain ⟨w7, HW7⟩ : ∃ w7, Hid (w7 = w6.setCell ⟨p, 5, none⟩ (.int .i64 ((P1.fetched + 1 : Nat) : Int))) := ⟨_, rfl⟩
  have kb7 : ∀ k, k ≠ p → w7.heap[k]? = w6.heap[k]? := fun k hk => by rw [HW7.out]; exact Below.heap_setCell _ _ _ _ hk
  have hs7 : w7.heap.size = w6.heap.size := by rw [HW7.out]; simp
  have hpA : A1 p := hS5.has.1
  have kz7 := kz6.same (kb7 _ fun e => mz.2 (e ▸ hpA))
  have kx7 := kx6.same (kb7 _ fun e => mx.2 (e ▸ hpA))
  have hx7 := hx6.same (w' := w7) (fun k hk => kb7 k fun e => hk.2.1 (e ▸ hpA)) (by omega)
  rw [← HW7.out] at hS7
  have H7 := hid hS7
  have HX7 := hid hx7
  have HK67 : Hid (Kept (fun k => k = fb5 ∨ k = p) w5 w7) := (hk6.mono fun k x => .inl x).trans (by rw [HW7.out]; exact Kept.setCell _ _ _ _ _ (.inr rfl))
  have y0 : w7.cell? ⟨q, 0, none⟩ = some (.int .u32 X.num) := kx7.cell 0
  have y1 : w7.cell? ⟨q, 1, none⟩ = some (.int .u64 X.lsn) := kx7.cell 1
  have y2 : w7.cell? ⟨q, 2, none⟩ = some (.int .i64 X.kind) := kx7.cell 2
  have y3 : w7.cell? ⟨q, 3, none⟩ = some (.string X.head) := kx7.cell 3
  have y4 : w7.cell? ⟨q, 4, none⟩ = some (.slice a X.slots.length c) := kx7.cell 4
  have HZ7 := hid kz7
  have hin : ((P1.fetched + 1 : Nat) : Int) = (P1.fetched : Int) + 1 := by omega
  have HW7' : Hid (w7 = w6.setCell ⟨p, 5, none⟩ (.int .i64 ((P1.fetched : Int) + 1))) := by show _ = _; rw [← hin]; exact HW7.out
  clear hS5 hS6 hS7 kz5 kz6 kz7 kx5 kx6 kx7 hx5 hx6 hx7 HW7 hin hs7 kb6 kb7
  go_region
  go_upto_region 14 with fail
  rw [← HW7'.out]
  go_wp2_with fail
  refine (HC2.out _ HX7.out.at).mono ?_
  rintro e w8 ⟨b, rfl, hb1, hb2, hrow, b8⟩
  have kz8 := HZ7.out.same (b8.block _ HZ7.out.lt)
  have HXV2 : Hid (X.val (some ⟨b, 0, none⟩) X.slots.length = .agg #[.int .u32 X.num, .int .u64 X.lsn, .int .i64 X.kind, .string X.head, .slice (some ⟨b, 0, none⟩) X.slots.length X.slots.length]) := rfl
  rw [HXV2.out]
  have f0 := kz8.frozen 0
  have f1 := kz8.frozen 1
  have f2 := kz8.frozen 2
  have f3 := kz8.frozen 3
  have f4 := kz8.frozen 4
  have e0 : w8.cell? ⟨w.heap.size, 0, none⟩ = some (.int .u32 0) := kz8.cell 0
  have e1 : w8.cell? ⟨w.heap.size, 1, none⟩ = some (.int .u64 0) := kz8.cell 1
  have e2 : w8.cell? ⟨w.heap.size, 2, none⟩ = some (.int .i64 0) := kz8.cell 2
  have e3 : w8.cell? ⟨w.heap.size, 3, none⟩ = some (.string ⟨#[]⟩) := kz8.cell 3
  have e4 : w8.cell? ⟨w.heap.size, 4, none⟩ = some (.slice none 0 0) := kz8.cell 4
  have hsz7 := HK67.out.size
  have hsz5 := mv5.1.size
  have hst8 : StrsFrom (w.heap.size + 1) w8 (some ⟨b, 0, none⟩) X.slots := copied_strs (by omega) hb2 hrow
  have hS8 := H7.out.below b8
  go_wp2
  refine bodyPost_ret (v := .tuple #[.agg #[.int .u32 X.num, .int .u64 X.lsn, .int .i64 X.kind, .string X.head, .slice (some ⟨b, 0, none⟩) X.slots.length X.slots.length], .int .i64 0]) (by simp [results, Tryz.results21, go_sem, e0, e1, e2, e3, e4]) rfl ?_
  have hnz : ¬ (A1 w.heap.size ∨ (w.heap.size < w.heap.size ∧ ¬ A1 w.heap.size ∧ w.heap.size < w5.heap.size ∧ w.heap.size ≠ q)) := by
    rintro (x | x)
    · exact mz.2 x
    · omega
  obtain ⟨W9, HW9⟩ : ∃ W9, Hid (W9 = store5 w8 w.heap.size (.int .u32 X.num) (.int .u64 X.lsn) (.int .i64 X.kind) (.string X.head) (.slice (some ⟨b, 0, none⟩) X.slots.length X.slots.length)) := ⟨_, rfl⟩
  have hS9 : Sys W9 p (fun k => A1 k ∨ (w.heap.size < k ∧ ¬ A1 k ∧ k < w5.heap.size ∧ k ≠ q)) (getP P1 X) l1 d1 := by
    rw [HW9.out]
    exact hS8.same (fun k hk => store5_other _ _ _ _ _ _ _ _ fun e => hnz (e ▸ hk)) (by rw [store5_size]; exact Nat.le_refl _)
  have hm9 : Moves A (fun k => A1 k ∨ (w.heap.size < k ∧ ¬ A1 k ∧ k < w5.heap.size ∧ k ≠ q)) w W9 := by
    have hk7 := HK67.out
    have hk9 : Kept (fun k => k = w.heap.size) w8 W9 := by
      rw [HW9.out]
      exact ⟨rfl, rfl, rfl, by rw [store5_size]; exact Nat.le_refl _, fun k _ hk => store5_other _ _ _ _ _ _ _ _ hk⟩
    refine ⟨⟨hk9.os.trans (b8.os.trans (hk7.os.trans mv5.1.os)), hk9.tape.trans (b8.tape.trans (hk7.tape.trans mv5.1.tape)), hk9.output.trans (b8.output.trans (hk7.output.trans mv5.1.output)), by have := hk9.size; have := b8.size; omega, fun k hk hA => ?_⟩, ?_⟩
    · have m1 := mv5.off hk hA
      exact (hk9.block k (by have := b8.size; omega) (by omega)).trans ((b8.block k (by omega)).trans ((hk7.block k (by omega) (by rintro (e | e); exact m1.2 (e ▸ hfb); exact m1.2 (e ▸ hpA))).trans m1.1))
    · rintro k (x | x)
      · exact mv5.2 k x
      · exact .inr (by omega)
  refine ⟨⟨some ⟨b, 0, none⟩, X.slots.length, fun k => A1 k ∨ (w.heap.size < k ∧ ¬ A1 k ∧ k < w5.heap.size ∧ k ≠ q), rfl, (hst8.store5 (by omega) _ _ _ _ _).mono (by omega), ?_, ?_, ?_⟩⟩
  · rw [HW9.out] at hS9; exact hS9
  · rw [HW9.out] at hm9; exact hm9
  · rintro b' o' e (x | x)
    · cases e
      have := H7.out.lt b (.inl x)
      omega
    · cases e
      omega

end Go.Proofs.YtgmfgkdecpldeaaGreat

namespace Go.Proofs.YtgmfgkdecpldeaaGreat
open Go.Shelf

def lenLays_ren : Go.Shelf.Ren := ⟨fun | 125 => 103 | 128 => 132 | 129 => 133 | n => n, fun | 46 => 164 | 3 => 3 | 51 => 53 | 53 => 36 | 4 => 4 | 5 => 5 | 9 => 9 | n => n, fun | n => n⟩
theorem lenLays : Go.Proofs.Lays.n125 Tryz.prog lenLays_ren := {
  mixed := by kernel_rfl
  f125 := Tryz.func103.trans (congrArg some (by kernel_rfl))
  f128 := Tryz.func132.trans (congrArg some (by kernel_rfl))
  f129 := Tryz.func133.trans (congrArg some (by kernel_rfl))
  t3 := Tryz.underlying3
  a3 := Tryz.isAgg3
  z3 := Tryz.sizeOf3
  v3 := Tryz.zeroValue3
  t4 := Tryz.underlying4
  a4 := Tryz.isAgg4
  z4 := Tryz.sizeOf4
  v4 := Tryz.zeroValue4
  t5 := Tryz.underlying5
  a5 := Tryz.isAgg5
  z5 := Tryz.sizeOf5
  v5 := Tryz.zeroValue5
  t9 := Tryz.underlying9
  a9 := Tryz.isAgg9
  z9 := Tryz.sizeOf9
  v9 := Tryz.zeroValue9
  t46 := Tryz.underlying164
  a46 := Tryz.isAgg164
  z46 := Tryz.sizeOf164
  v46 := Tryz.zeroValue164
  t51 := Tryz.underlying53
  a51 := Tryz.isAgg53
  z51 := Tryz.sizeOf53
  v51 := Tryz.zeroValue53
  t53 := Tryz.underlying36
  a53 := Tryz.isAgg36
  z53 := Tryz.sizeOf36
  v53 := Tryz.zeroValue36 }

end Go.Proofs.YtgmfgkdecpldeaaGreat

namespace Go.Proofs.YtgmfgkdecpldeaaGreat
open Go.RowKit Go.Sort Go.Shelf
set_option linter.unusedVariables false

theorem pgNaN_any (x : Nat) (w : World) : Calls Tryz.prog 146 #[.int .u32 x] w fun e w' => e = .returned (.bool false) ∧ w' = w := by
  go_enter Tryz.func146, Tryz.ntmps146
  go_wp2
  go_ret
  exact ⟨by simp, rfl⟩

theorem pgLess_any (x y : Nat) (w : World) : Calls Tryz.prog 129 #[.int .u32 x, .int .u32 y] w fun e w' => e = .returned (.bool (decide (x < y))) ∧ w' = w := by
  go_enter Tryz.func129, Tryz.ntmps129
  go_wp2_with (go_at_call 146; refine (pgNaN_any _ _).mono ?_; rintro e w' ⟨rfl, rfl⟩)
  go_ret
  exact ⟨ret_boolP (by first | rfl | (rw [Bool.eq_iff_iff]; simp)), rfl⟩

/-- Sorted up to i, but for the place j. -/
def ButAt (M : Array Nat) (i j : Nat) : Prop := ∀ a b, a < b → b ≤ i → b ≠ j → M.getD a 0 ≤ M.getD b 0

def SortedTo (M : Array Nat) (i : Nat) : Prop := ∀ a b, a < b → b < i → M.getD a 0 ≤ M.getD b 0

theorem ButAt.start {M : Array Nat} {i : Nat} (h : SortedTo M i) : ButAt M i i := fun a b h1 h2 h3 => h a b h1 (by omega)

theorem swap_getD {M : Array Nat} {j : Nat} (h1 : 1 ≤ j) (hj : j < M.size) (k : Nat) : (M.swap j (j - 1) hj (by omega)).getD k 0 = if k = j then M.getD (j - 1) 0 else if k = j - 1 then M.getD j 0 else M.getD k 0 := by
  have hj' : j - 1 < M.size := by omega
  simp only [Array.getD, Array.size_swap, hj, hj', dite_true]
  by_cases hk : k < M.size
  · simp only [hk, dite_true]
    exact Array.getElem_swap hj hj' (by rw [Array.size_swap]; exact hk)
  · simp only [hk, dite_false]
    rw [if_neg (by omega), if_neg (by omega)]

theorem ButAt.swap {M : Array Nat} {i j : Nat} (h : ButAt M i j) (h1 : 1 ≤ j) (hi : i < M.size) (hj : j ≤ i) (hlt : M.getD j 0 < M.getD (j - 1) 0) : ButAt (M.swap j (j - 1) (by omega) (by omega)) i (j - 1) := by
  intro a b hab hbi hne
  have hjm : j < M.size := by omega
  rw [swap_getD h1 hjm a, swap_getD h1 hjm b]
  by_cases e1 : b = j
  · subst e1
    rw [if_pos rfl, if_neg (by omega)]
    by_cases e2 : a = b - 1
    · rw [if_pos e2]; omega
    · rw [if_neg e2]
      exact h a (b - 1) (by omega) (by omega) (by omega)
  · rw [if_neg e1, if_neg hne]
    by_cases e2 : a = j
    · rw [if_pos e2]
      exact h (j - 1) b (by omega) hbi e1
    · rw [if_neg e2]
      by_cases e3 : a = j - 1
      · rw [if_pos e3]
        exact h j b (by omega) hbi e1
      · rw [if_neg e3]
        exact h a b hab hbi e1

theorem ButAt.end {M : Array Nat} {i j : Nat} (h : ButAt M i j) (hj : j ≤ i) (hx : j = 0 ∨ M.getD (j - 1) 0 ≤ M.getD j 0) : SortedTo M (i + 1) := by
  intro a b hab hbi
  by_cases e : b = j
  · subst e
    rcases hx with hx | hx
    · omega
    · by_cases e2 : a = b - 1
      · rw [e2]; exact hx
      · exact Nat.le_trans (h a (b - 1) (by omega) (by omega) (by omega)) hx
  · exact h a b hab (by omega) e

/-- The row of pages' numbers. -/
def PgRow (w : World) (g n : Nat) (M : Array Nat) : Prop := M.size = n ∧ RowV w g n (fun k => .int .u32 (M.getD k 0))

theorem PgRow.swap {w : World} {g n : Nat} {M : Array Nat} (h : PgRow w g n M) {j : Nat} (h1 : 1 ≤ j) (hj : j < n) :
    PgRow ((w.setCell ⟨g, j, none⟩ (.int .u32 (M.getD (j - 1) 0))).setCell ⟨g, j - 1, none⟩ (.int .u32 (M.getD j 0))) g n (M.swap j (j - 1) (by have := h.1; omega) (by have := h.1; omega)) := by
  have hM := h.1
  refine ⟨by rw [Array.size_swap]; exact hM, ((h.2.set hj _).set (k := j - 1) (by omega) _).congr fun k hk => ?_⟩
  rw [swap_getD h1 (by omega) k]
  by_cases e1 : k = j
  · rw [if_pos e1, if_neg (by omega), if_pos e1]
  · by_cases e2 : k = j - 1
    · rw [if_pos e2, if_neg e1, if_pos e2]
    · rw [if_neg e2, if_neg e1, if_neg e1, if_neg e2]

/-- Where the insertion sort stands. -/
structure PsAt (w W : World) (g n : Nat) (M0 M : Array Nat) : Prop where
  row : PgRow W g n M
  perm : M.Perm M0
  kept : Kept (fun k => k = g) w W
  blk : ∀ cap, (∃ cur, Blk w g cur 54 ∧ cur.size = cap) → ∃ cur, Blk W g cur 54 ∧ cur.size = cap

theorem PsAt.swap {w W : World} {g n : Nat} {M0 M : Array Nat} (h : PsAt w W g n M0 M) {j : Nat} (h1 : 1 ≤ j) (hj : j < n) :
    PsAt w ((W.setCell ⟨g, j, none⟩ (.int .u32 (M.getD (j - 1) 0))).setCell ⟨g, j - 1, none⟩ (.int .u32 (M.getD j 0))) g n M0 (M.swap j (j - 1) (by have := h.row.1; omega) (by have := h.row.1; omega)) :=
  ⟨h.row.swap h1 hj, (Array.swap_perm _ _).trans h.perm, (h.kept.trans (Kept.setCell _ _ _ _ _ rfl)).trans (Kept.setCell _ _ _ _ _ rfl), fun cap x => by
    obtain ⟨cur, hc, hs⟩ := h.blk cap x
    exact ⟨_, (hc.set _ _).set _ _, by simp [hs]⟩⟩

theorem PsAt.step {w W : World} {g n : Nat} {M0 M : Array Nat} (h : PsAt w W g n M0 M) {k q q' X Y : Nat} (hB : ButAt M k q) (e : q = q' + 1) (hq : q ≤ k) (hk : k < n) (hX : X = M.getD q 0) (hY : Y = M.getD (q - 1) 0) (hxy : X < Y) :
    ∃ M', PsAt w ((W.setCell ⟨g, q, none⟩ (.int .u32 Y)).setCell ⟨g, q', none⟩ (.int .u32 X)) g n M0 M' ∧ ButAt M' k q' := by
  have hM := h.row.1
  have h1 := h.swap (j := q) (by omega) (by omega)
  have h2 := hB.swap (by omega) (by omega) hq (by rw [← hX, ← hY]; exact hxy)
  subst e
  subst hX
  subst hY
  exact ⟨_, h1, h2⟩

theorem PsAt.drew {w W : World} {g n : Nat} {M0 M : Array Nat} (h : PsAt w W g n M0 M) (q : Nat) : PsAt w (W.drewN q) g n M0 M := ⟨h.row, h.perm, h.kept.drewN q, h.blk⟩

set_option maxHeartbeats 3200000 in
set_option maxRecDepth 8000 in
theorem pgIns_any (w : World) (g n c : Nat) (M0 : Array Nat) (hn : n ≤ 1000000) (hc : n ≤ c) (hc' : c ≤ 9223372036854775807) (hr : PgRow w g n M0) :
    Calls Tryz.prog 123 #[.slice (some ⟨g, 0, none⟩) n c, .int .i64 0, .int .i64 n] w fun e w' => e = .returned (.tuple #[]) ∧ ∃ M, PsAt w w' g n M0 M ∧ SortedTo M n := by
  have HL : Hid (∀ (x y : Nat) (W : World), Calls Tryz.prog 129 #[.int .u32 x, .int .u32 y] W fun e w' => e = .returned (.bool (decide (x < y))) ∧ w' = W) := pgLess_any
  have H0 : Hid (PsAt w w g n M0 M0) := ⟨hr, Array.Perm.refl _, Kept.refl _ _, fun _ x => x⟩
  clear hr
  go_enter Tryz.func123, Tryz.ntmps123
  go_wp2_with fail
  go_loopw [6] (fun i wr => ∃ (k : Nat) (M : Array Nat), i = .int .i64 k ∧ 1 ≤ k ∧ (k ≤ n ∨ k = 1) ∧ Hid (PsAt w wr g n M0 M ∧ SortedTo M k)) (fun i _ => n - (intOf i).toNat)
  case atStart => exact ⟨1, M0, rfl, Nat.le_refl _, .inr rfl, H0.out, fun a b h1 h2 => by omega⟩
  case round =>
    obtain ⟨k, M, rfl, hk1, hk2, HM⟩ := hrel
    by_cases hlt : k < n
    · go_wp2_with fail
      go_loopw [7] (fun j ws => ∃ (q : Nat) (M : Array Nat), j = .int .i64 q ∧ q ≤ k ∧ Hid (PsAt w ws g n M0 M ∧ ButAt M k q)) (fun j _ => (intOf j).toNat)
      case atStart => exact ⟨k, M, rfl, Nat.le_refl _, HM.out.1, ButAt.start HM.out.2⟩
      case round =>
        clear HM
        obtain ⟨q, M, rfl, hq, HM⟩ := hrel
        by_cases hq0 : 0 < q
        · have hq0' : (0 : Int) < q := by omega
          obtain ⟨q', HQ⟩ : ∃ q', Hid (q = q' + 1) := ⟨q - 1, by show _ = _; omega⟩
          have hqm : q - 1 = q' := by have := HQ.out; omega
          have hsub : ((q : Int) - 1) = (q' : Int) := by have := HQ.out; omega
          obtain ⟨X, HX⟩ : ∃ X, Hid (X = M.getD q 0) := ⟨_, rfl⟩
          obtain ⟨Y, HY⟩ : ∃ Y, Hid (Y = M.getD (q - 1) 0) := ⟨_, rfl⟩
          have c1 : wr.cell? ⟨g, q, none⟩ = some (.int .u32 X) := by rw [HX.out]; exact (HM.out.1.row.2 q (by omega)).1
          have f1 : wr.frozen? ⟨g, q, none⟩ = false := (HM.out.1.row.2 q (by omega)).2
          have c2 : wr.cell? ⟨g, q', none⟩ = some (.int .u32 Y) := by rw [HY.out, ← hqm]; exact (HM.out.1.row.2 (q - 1) (by omega)).1
          have f2 : wr.frozen? ⟨g, q', none⟩ = false := by rw [← hqm]; exact (HM.out.1.row.2 (q - 1) (by omega)).2
          have hlt1 : q < n := by omega
          have hlt2 : q' < n := by omega
          have hne : q ≠ q' := by omega
          have HQM := hid hqm
          clear hqm
          by_cases hxy : X < Y
          · have hd : decide (X < Y) = true := by simpa using hxy
            go_wp2_with fail
            go_quiet ((go_at_call 129; exact Calls.quiet_of_same (HL.out _ _ _)))
            obtain ⟨W1, HW1⟩ : ∃ W1, Hid (W1 = wr.drewN nq) := ⟨_, rfl⟩
            go_upto_region 6 with fail
            rw [← HW1.out]
            have d1 : W1.cell? ⟨g, q, none⟩ = some (.int .u32 X) := by rw [HW1.out]; exact c1
            have d2 : W1.cell? ⟨g, q', none⟩ = some (.int .u32 Y) := by rw [HW1.out]; exact c2
            have d3 : W1.frozen? ⟨g, q, none⟩ = false := by rw [HW1.out]; exact f1
            have d4 : W1.frozen? ⟨g, q', none⟩ = false := by rw [HW1.out]; exact f2
            have HM1 : Hid (PsAt w W1 g n M0 M ∧ ButAt M k q) := by rw [HW1.out]; exact ⟨HM.out.1.drew nq, HM.out.2⟩
            clear c1 c2 f1 f2 HW1 HM
            go_region
            go_wp2_with fail
            go_roundw
            case rel =>
              obtain ⟨M', hM1, hM2⟩ := HM1.out.1.step HM1.out.2 HQ.out hq hlt HX.out HY.out hxy
              exact ⟨q', M', rfl, by omega, hM1.drew 1, hM2⟩
            case measure => simp [intOf]; omega
          · have hd : decide (X < Y) = false := by simpa using hxy
            go_wp2_with fail
            go_quiet ((go_at_call 129; exact Calls.quiet_of_same (HL.out _ _ _)))
            go_wp2
            go_roundw
            case rel => exact ⟨k + 1, M, by go_num, by omega, by omega, HM.out.1.drew nq, HM.out.2.end hq (.inr (by rw [← HX.out, ← HY.out]; omega))⟩
            case measure => simp [intOf]; omega
        · have hq00 : q = 0 := by omega
          subst hq00
          go_wp2_with fail
          go_quiet ((go_at_call 129; exact Calls.quiet_of_same (HL.out _ _ _)))
          go_wp2
          go_roundw
          case rel => exact ⟨k + 1, M, by go_num, by omega, by omega, HM.out.1.drew nq, HM.out.2.end hq (.inl rfl)⟩
          case measure => simp [intOf]; omega
    · go_wp2
      go_end0
      exact ⟨rfl, M, HM.out.1, fun a b h1 h2 => HM.out.2 a b h1 (by omega)⟩

end Go.Proofs.YtgmfgkdecpldeaaGreat

namespace Go.Proofs.YtgmfgkdecpldeaaGreat
open Go.RowKit Go.Sort Go.Shelf
set_option linter.unusedVariables false

set_option maxHeartbeats 800000 in
theorem pgPdq_any (w : World) (g n c : Nat) (M0 : Array Nat) (hn : n ≤ 12) (hc : n ≤ c) (hc' : c ≤ 9223372036854775807) (hr : PgRow w g n M0) (l : Int) :
    Calls Tryz.prog 102 #[.slice (some ⟨g, 0, none⟩) n c, .int .i64 0, .int .i64 n, .int .i64 l] w fun e w' => e = .returned (.tuple #[]) ∧ ∃ M, PsAt w w' g n M0 M ∧ SortedTo M n := by
  have HI := hid (pgIns_any w g n c M0 (by omega) hc hc' hr)
  have hn' : (n : Int) ≤ 12 := by omega
  clear hr
  go_enter Tryz.func102, Tryz.ntmps102
  go_wp2_with fail
  go_loopw [1, 2] (fun a b wr => a = .int .i64 0 ∧ b = .int .i64 n ∧ wr = w) (fun _ _ _ => 0)
  case atStart => exact ⟨rfl, rfl, rfl⟩
  case round =>
    obtain ⟨rfl, rfl, rfl⟩ := hrel
    go_wp2_with fail
    refine HI.out.mono ?_
    rintro e w1 ⟨rfl, H⟩
    have HH := hid H
    clear H
    go_wp2
    refine bodyPost_ret (results_none rfl _ _ _) rfl ?_
    exact ⟨rfl, HH.out⟩

/-- Pages' numbers in a row of their own. -/
def PgsAt (B : Nat) (w : World) (v : Value) (L : List Nat) : Prop := w.ownsRow B 54 1 v L.length (L.map fun (n : Nat) => .int .u32 (n : Int))

theorem PgsAt.same {B : Nat} {w w' : World} {v : Value} {L : List Nat} (h : PgsAt B w v L) (k : ∀ g, v.ownBlock = some g → w'.heap[g]? = w.heap[g]?) : PgsAt B w' v L := by
  refine ⟨h.1, ?_⟩
  rcases h.2 with ⟨rfl, h1⟩ | ⟨g', cap, cur, rfl, h0, hb, hr⟩
  · exact .inl ⟨rfl, h1⟩
  · exact .inr ⟨g', cap, cur, rfl, h0, (k g' rfl).trans hb, hr⟩

theorem PgsAt.lt {B : Nat} {w : World} {v : Value} {L : List Nat} (h : PgsAt B w v L) : ∀ g, v.ownBlock = some g → B ≤ g ∧ g < w.heap.size := fun g hg => World.ownsRow.lt h g hg

theorem PgsAt.below {B : Nat} {w w' : World} {v : Value} {L : List Nat} (h : PgsAt B w v L) (k : Below w.heap.size w w') : PgsAt B w' v L := h.same fun g hg => k.block g (h.lt g hg).2

/-- The row of a block. -/
theorem pgRow_of {w : World} {g : Nat} {cur : Array Value} {L : List Nat} (hb : w.heap[g]? = some (.cells cur 54 (0, 0))) (ht : cur.toList.take (L.length * 1) = L.map fun (n : Nat) => .int .u32 (n : Int)) : PgRow w g L.length L.toArray := by
  refine ⟨by simp, fun k hk => ?_⟩
  have hB : Blk w g cur 54 := hb
  refine ⟨?_, hB.frozen k⟩
  rw [hB.cell]
  rw [Nat.mul_one] at ht
  have h1 : cur[k]? = (cur.toList.take L.length)[k]? := by rw [List.getElem?_take_of_lt hk]; simp
  rw [h1, ht, List.getElem?_map, List.getElem?_eq_getElem hk]
  simp [Array.getD, hk]

/-- A block, by its row. -/
theorem row_of_pg {w : World} {g n : Nat} {cur : Array Value} {M : Array Nat} (hr : PgRow w g n M) (hB : Blk w g cur 54) : cur.toList.take (n * 1) = M.toList.map fun (n : Nat) => .int .u32 (n : Int) := by
  rw [Nat.mul_one]
  apply List.ext_getElem?
  intro k
  by_cases hk : k < n
  · have h1 := (hr.2 k hk).1
    rw [hB.cell] at h1
    have hM := hr.1
    rw [List.getElem?_take_of_lt hk, List.getElem?_map, Array.getElem?_toList, Array.getElem?_toList, h1]
    have : M[k]? = some (M.getD k 0) := by rw [Array.getElem?_eq_getElem (by omega)]; simp [Array.getD, show k < M.size by omega]
    rw [this]
    rfl
  · rw [List.getElem?_eq_none (by simp; omega), List.getElem?_eq_none (by simp; have := hr.1; omega)]

/-- Rising numbers. -/
def Rises (L : List Nat) : Prop := L.Pairwise (fun a b => a ≤ b)

theorem rises_of {M : Array Nat} (h : SortedTo M M.size) : Rises M.toList := by
  unfold Rises
  rw [List.pairwise_iff_getElem]
  intro i j hi hj hij
  have hi' : i < M.size := by simpa using hi
  have hj' : j < M.size := by simpa using hj
  have := h i j hij hj'
  simp only [Array.getD, hi', hj', dite_true] at this
  simpa using this

set_option maxHeartbeats 800000 in
theorem pgSort_any (B : Nat) (w : World) (v : Value) (L : List Nat) (hl : L.length ≤ 12) (h : PgsAt B w v L) (hv : v ≠ .slice none 0 0) :
    Calls Tryz.prog 68 #[v] w fun e w' => e = .returned (.tuple #[]) ∧ ∃ M, M.Perm L ∧ Rises M ∧ PgsAt B w' v M ∧ Kept (fun k => v.ownBlock = some k) w w' := by
  have HL : Hid (∀ wx, Calls Tryz.prog 103 #[.int .u64 (L.length : Int)] wx fun e w' => (∃ l : Int, e = .returned (.int .i64 l)) ∧ wx = w') := fun wx => (Any.bits_Len lenLays (L.length : Int) wx (by omega) (by omega)).mono (by rintro e w' ⟨rfl, rfl⟩; exact ⟨⟨_, rfl⟩, rfl⟩)
  have hn0 : (0 : Int) ≤ (L.length : Int) := by omega
  have hn1 : (L.length : Int) ≤ 12 := by omega
  rcases h.2 with ⟨rfl, hz⟩ | ⟨g, cap, cur, rfl, h0, hb, hn, hm, hs, ht⟩
  · exact absurd rfl hv
  · have HP : Hid (∀ (l : Int), Calls Tryz.prog 102 #[.slice (some ⟨g, 0, none⟩) L.length cap, .int .i64 0, .int .i64 (L.length : Int), .int .i64 l] w fun e w' => e = .returned (.tuple #[]) ∧ ∃ M, PsAt w w' g L.length L.toArray M ∧ SortedTo M L.length) := fun l => pgPdq_any w g L.length cap L.toArray hl hn (by unfold maxLen at hm; omega) (pgRow_of hb ht) l
    have HB : Hid (Blk w g cur 54 ∧ cur.size = cap) := ⟨hb, by omega⟩
    clear hb ht h hs
    go_enter Tryz.func68, Tryz.ntmps68
    go_wp2_with fail
    refine (HL.out _).mono ?_
    rintro e w1 ⟨⟨l, rfl⟩, rfl⟩
    go_wp2_with fail
    refine (HP.out _).mono ?_
    rintro e w2 ⟨rfl, H⟩
    have HH := hid H
    clear H HP
    go_wp2
    go_end0
    obtain ⟨M, hM, hS⟩ := HH.out
    obtain ⟨cur', hB', hs'⟩ := hM.blk cap ⟨cur, HB.out.1, HB.out.2⟩
    have hsz := hM.row.1
    have hlen : M.toList.length = L.length := by simp [hsz]
    refine ⟨rfl, M.toList, by have := hM.perm.toList; simpa using this, rises_of (by rw [hsz]; exact hS), ⟨by simp, .inr ⟨g, cap, cur', by rw [hlen], h0, hB', by omega, hm, by omega, by rw [hlen]; exact row_of_pg hM.row hB'⟩⟩, hM.kept.mono fun k e => by subst e; rfl⟩

theorem infoPg : (Tryz.prog.info? 54).map (fun i => (i.zero, i.size, i.bytes)) = some (some (.int .u32 0), 1, 4) := by kernel_rfl

/-- The step of a range over the frames. -/
theorem wpList_next_pg (w : World) {ops : Array Oper} {rest : List Oper} {o : Oper} {a : Act} {Q : Exit → Act → World → Prop} (hg : o.guard = none) (it : Operand) (hop : o.op = Op.next it false) (b r n : Nat) (D : DataW Value) (left : Lit → Bool) (cnt : Nat)
    (hit : a.eval it = .pointer (some ⟨r, 0, none⟩)) (h : w.ranges Tryz.prog 54 rawElem b r n D left cnt) (hkeys : ∀ l, Maps.has D l = true → ∃ n, 1 ≤ n ∧ n ≤ 2048 ∧ l = keyL n)
    (hDone : cnt = 0 → (∀ kl, left kl = false) → wpList Tryz.prog ops Q rest (a.put o.dst (.tuple #[.bool false])) w)
    (hMore : ∀ (nm : Nat) (c : Value) (w' : World) (cnt' : Nat), 1 ≤ nm → nm ≤ 2048 → left (keyL nm) = true → Maps.has D (keyL nm) = true → w'.ranges Tryz.prog 54 rawElem b r n D (fun z => left z && !z.sameKey (keyL nm)) cnt' → cnt' < cnt →
      w.grownBy w' (some r) → w'.heap.size = w.heap.size → (Instr.entry (.pointer (some ⟨r, 0, none⟩))).run Tryz.prog w' = .ok (.tuple #[.int .u32 nm, c]) w' → wpList Tryz.prog ops Q rest (a.put o.dst (.tuple #[.bool true, .int .u32 nm, c])) w') :
    wpList Tryz.prog ops Q (o :: rest) a w := by
  refine wpList_plain hg fun K' hK' => ?_
  unfold Oper.wp
  rcases h.next pageKeyed o.type with ⟨h0, hl, hrun⟩ | ⟨key, v, kl, y, w', cnt', hkey, hlk, hv, hat, hrun, hrg, hlt, hgr, hsz, hen⟩
  · simp [execOp, hop, hit, hrun, Result.andThen]
    exact hK' _ _ (hDone h0 hl)
  · have hh : Maps.has D kl = true := Maps.has_true_of_atKey hat
    obtain ⟨nm, h1, h2, rfl⟩ := hkeys kl hh
    obtain rfl : key = .int .u32 nm := pageKeyed.inj hkey (keyL_key (by omega))
    simp [execOp, hop, hit, hrun, Result.andThen]
    exact hK' _ _ (hMore nm v w' cnt' h1 h2 hlk hh hrg hlt hgr hsz hen)

/-- Where the loop of Numbers stands. -/
structure NuAt (w wr : World) (fb : Nat) (M : DataW Value) (z r : Nat) (v : Value) (NL : List Nat) (left : Lit → Bool) (cnt : Nat) : Prop where
  bel : Below w.heap.size w wr
  rg : wr.ranges Tryz.prog 54 rawElem fb r z M left cnt
  own : PgsAt w.heap.size wr v NL
  rn : w.heap.size ≤ r
  rv : ∀ g, v.ownBlock = some g → g ≠ r
  vn : v ≠ .slice none 0 0
  nd : NL.Nodup
  len : NL.length + cnt ≤ z
  rng : ∀ n ∈ NL, 1 ≤ n ∧ n ≤ 2048
  mem : ∀ n, n < 4294967296 → (n ∈ NL ↔ (Maps.has M (keyL n) = true ∧ left (keyL n) = false))

/-- The numbers of a pool's pages, rising. -/
structure NumsOf (P : PG) (NL : List Nat) : Prop where
  nd : NL.Nodup
  up : Rises NL
  rng : ∀ n ∈ NL, 1 ≤ n ∧ n ≤ 2048
  len : NL.length ≤ P.z
  mem : ∀ n, n < 4294967296 → (n ∈ NL ↔ P.F n ≠ none)

theorem NuAt.push {w wr wx : World} {fb : Nat} {M : DataW Value} {z r : Nat} {v v' : Value} {NL : List Nat} {left : Lit → Bool} {cnt cnt' nm : Nat} (h : NuAt w wr fb M z r v NL left cnt) (h1 : 1 ≤ nm) (h2 : nm ≤ 2048) (hh : Maps.has M (keyL nm) = true) (hl0 : left (keyL nm) = true)
    (bel : Below w.heap.size w wx) (rg : wx.ranges Tryz.prog 54 rawElem fb r z M (fun z => left z && !z.sameKey (keyL nm)) cnt') (hc : cnt' < cnt) (own : PgsAt w.heap.size wx v' (NL ++ [nm])) (rv : ∀ g, v'.ownBlock = some g → g ≠ r) (vn : v' ≠ .slice none 0 0) : NuAt w wx fb M z r v' (NL ++ [nm]) (fun z => left z && !z.sameKey (keyL nm)) cnt' := by
  have hnot : nm ∉ NL := fun x => by have := ((h.mem nm (by omega)).1 x).2; rw [hl0] at this; cases this
  refine ⟨bel, rg, own, h.rn, rv, vn, ?_, by have := h.len; rw [List.length_append]; simp; omega, fun n hn' => ?_, fun n hn => ?_⟩
  · rw [List.nodup_append]
    exact ⟨h.nd, by simp, fun a ha b hb e => by simp at hb; subst hb; subst e; exact hnot ha⟩
  · rcases List.mem_append.1 hn' with x | x
    · exact h.rng n x
    · simp at x; subst x; exact ⟨h1, h2⟩
  · rw [List.mem_append, h.mem n hn]
    by_cases e : n = nm
    · subst e
      simp [hh, WideAt.sameKey_self (keyL_lit n)]
    · have : (keyL n).sameKey (keyL nm) = false := Maps.sameKey_ne (keyL_ne e)
      simp [this, e]

set_option maxHeartbeats 3200000 in
set_option maxRecDepth 20000 in
theorem numbers_any {w : World} {p fb : Nat} {pv : Value} {M : DataW Value} {S : Nat → Prop} {P : PG} (h : PoolAt w p fb pv M S P) (hz : P.z ≤ 12) :
    Calls Tryz.prog 31 #[.pointer (some ⟨p, 0, none⟩)] w fun e w' => ∃ v NL, e = .returned v ∧ PgsAt w.heap.size w' v NL ∧ NumsOf P NL ∧ Below w.heap.size w w' := by
  obtain ⟨i0, hi, hzz⟩ := Option.map_eq_some_iff.1 infoPg
  simp only [Prod.mk.injEq] at hzz
  obtain ⟨hz0, hz1, hz2⟩ := hzz
  have HT : Hid (PoolAt w p fb pv M S P) := h
  have c3 := h.cells.c3
  have hm1 := h.map.1
  have hm2 := h.map.2
  have hlt := h.lt p h.sp
  have hflt := h.lt fb h.sf
  have hlen : ∀ ty, (Builtin.len_ #[110] ty #[.map (some fb)]).run Tryz.prog w = .ok (.int .i64 P.z) w := fun ty => by
    have := h.map.1.len (t := 110) (e := 108) Tryz.underlying110 ty
    rw [h.map.2] at this
    exact this
  have hmk : ∀ W : World, (Instr.makeSlice 78 (.int .i64 0) (.int .i64 (P.z : Int))).run Tryz.prog W = .ok (.slice (some ⟨W.heap.size, 0, none⟩) 0 P.z) (W.alloc (.cells (madeCells #[.int .u32 0] P.z) 54)) := fun W => by
    have hb' : (i0.bytes : Int) * (P.z : Int) ≤ 281474976710656 := by rw [hz2]; omega
    have hr := run_make (P := Tryz.prog) W 78 54 i0 (.int .u32 0) Tryz.underlying78 hi hz0 .i64 .i64 0 P.z (by omega) (by omega) hb' (by omega)
    simp only [Int.toNat_natCast, hz1, Int.toNat_zero, Nat.mul_one] at hr
    exact hr
  clear h
  obtain ⟨W1, HW1⟩ : ∃ W1, Hid (W1 = w.alloc (.cells (madeCells #[.int .u32 0] P.z) 54)) := ⟨_, rfl⟩
  have b1 : Below w.heap.size w W1 := by rw [HW1.out]; exact (Below.refl _ _).alloc (Nat.le_refl _) _
  have s1 : W1.heap.size = w.heap.size + 1 := by rw [HW1.out]; simp
  have HS1 := hid s1
  clear s1
  have own1 : PgsAt w.heap.size W1 (.slice (some ⟨w.heap.size, 0, none⟩) 0 P.z) [] := by
    rw [HW1.out]
    refine ⟨rfl, .inr ⟨w.heap.size, P.z, _, rfl, Nat.le_refl _, heap_alloc_new w _, Nat.zero_le _, by unfold maxLen; omega, ?_, by simp⟩⟩
    simp [madeCells]
  have c3' : W1.cell? ⟨p, 3, none⟩ = some (.map (some fb)) := (b1.cell (p := ⟨p, 3, none⟩) hlt).trans c3
  have hm1' : W1.ownsMap Tryz.prog 54 rawElem fb P.z M := (HT.out.map.same (b1.block fb hflt)).1
  go_enter Tryz.func31, Tryz.ntmps31
  go_upto_region 4 with fail
  rw [← HW1.out]
  go_wp2_with (at_range; refine wpList_range_own _ rfl _ 110 rfl 54 108 pageKeyed Tryz.underlying110 _ fb P.z M rfl hm1' ?_; intro w0 hrg0 hg0 hs0)
  go_frame
  have s1 := HS1.out
  have HA0 : Hid (NuAt w w0 fb M P.z W1.heap.size (.slice (some ⟨w.heap.size, 0, none⟩) 0 P.z) [] (Maps.has M) P.z) := by
    refine ⟨⟨hg0.os.trans b1.os, hg0.tape.trans b1.tape, hg0.output.trans b1.output, Nat.le_trans b1.size hg0.size, fun k hk => (hg0.block k (by omega) (by simp)).trans (b1.block k hk)⟩, by rw [hm2] at hrg0; exact hrg0, own1.same fun g hg => hg0.block g (own1.lt g hg).2 (by simp), by omega, ?_, (by intro e; cases e), List.nodup_nil, by simp, (fun n hn => by simp at hn), fun n hn => ?_⟩
    · intro g hg
      cases hg
      show w.heap.size ≠ W1.heap.size
      omega
    · constructor
      · intro x; simp at x
      · rintro ⟨x, y⟩; rw [x] at y; cases y
  clear s1 hrg0 hg0 hs0 hm1' c3' own1 hmk hlen hm1 c3 b1 HW1
  go_loopw [3] (fun t wr => ∃ NL left cnt, Hid (NuAt w wr fb M P.z W1.heap.size t NL left cnt)) (fun _ wr => wr.rangeLeft fb W1.heap.size)
  case atStart => exact ⟨_, _, _, HA0⟩
  case round =>
    obtain ⟨NL, left, cnt, HA⟩ := hrel
    clear HA0
    go_wp2_with (at_next; refine wpList_next_pg _ rfl _ rfl fb W1.heap.size P.z M left cnt rfl HA.out.rg HT.out.frs.keys ?_ ?_)
    · intro _ hl0
      have HSo := pgSort_any w.heap.size wr u3 NL (by have := HA.out.len; omega) HA.out.own HA.out.vn
      have HNO : Hid (∀ NL' : List Nat, NL'.Perm NL → Rises NL' → NumsOf P NL') := fun NL' hp hu => by
        refine ⟨hp.nodup_iff.2 HA.out.nd, hu, fun n hn => HA.out.rng n (hp.mem_iff.1 hn), by rw [hp.length_eq]; have := HA.out.len; omega, fun n hn => hp.mem_iff.trans ((HA.out.mem n hn).trans ?_)⟩
        constructor
        · rintro ⟨x, _⟩ e
          rw [HT.out.frs.no n hn e] at x
          cases x
        · intro x
          refine ⟨?_, hl0 _⟩
          cases e : P.F n with
          | none => exact absurd e x
          | some f => exact (HT.out.frs.yes n f hn e).1
      have HBL : Hid (Below w.heap.size w wr ∧ ∀ g, u3.ownBlock = some g → w.heap.size ≤ g) := ⟨HA.out.bel, fun g hg => (HA.out.own.lt g hg).1⟩
      clear HA hl0 HT
      go_wp2_with fail
      refine HSo.mono ?_
      rintro e w2 ⟨rfl, NL', hp, hup, ho, hk⟩
      have HN2 : Hid (PgsAt w.heap.size w2 u3 NL' ∧ NumsOf P NL' ∧ Below w.heap.size w w2) := ⟨ho, HNO.out NL' hp hup, below_kept HBL.out.1 hk HBL.out.2⟩
      clear HSo HNO HBL hp hup ho hk
      go_wp2
      go_ret
      exact ⟨u3, NL', rfl, HN2.out⟩
    · intro nm c w1 cnt1 h1 h2 hlk hh hrg1 hlt1 hg1 hs1 hen
      have bel1 : Below w.heap.size w w1 := HA.out.bel.grown hg1 HA.out.bel.size (fun k hk => by cases hk; exact HA.out.rn)
      have hbs := bel1.size
      have own1 : PgsAt w.heap.size w1 u3 NL := HA.out.own.same fun g hg => hg1.block g (HA.out.own.lt g hg).2 (fun e => HA.out.rv g hg (Option.some.inj e))
      have hleft := HA.out.rg.left_eq
      have hNLz : NL.length < P.z := by have := HA.out.len; omega
      have HPU : Hid (∀ wx v', Below w.heap.size w wx → wx.ranges Tryz.prog 54 rawElem fb W1.heap.size P.z M (fun z => left z && !z.sameKey (keyL nm)) cnt1 → PgsAt w.heap.size wx v' (NL ++ [nm]) → (∀ g, v'.ownBlock = some g → g ≠ W1.heap.size) → v' ≠ .slice none 0 0 → NuAt w wx fb M P.z W1.heap.size v' (NL ++ [nm]) (fun z => left z && !z.sameKey (keyL nm)) cnt1) := fun wx v' b1 r1 o1 r2 r3 => HA.out.push h1 h2 hh hlk b1 r1 hlt1 o1 r2 r3
      have HRV : Hid (∀ g, u3.ownBlock = some g → w.heap.size ≤ g ∧ g ≠ W1.heap.size) := fun g hg => ⟨(HA.out.own.lt g hg).1, HA.out.rv g hg⟩
      have hrl : W1.heap.size < w1.heap.size := by have := HA.out.rg.lt; omega
      clear HA hh hlk hg1 HT hs1
      have hown : (w1.alloc (.cells #[.int .u32 nm] 54)).ownsRow w.heap.size 54 1 u3 NL.length (NL.map fun (n : Nat) => .int .u32 (n : Int)) := own1.below ((Below.refl _ _).alloc (Nat.le_refl _) _)
      have rg3 := hrg1.alloc (.cells #[.int .u32 nm] 54)
      have bel3 := bel1.alloc bel1.size (.cells #[.int .u32 nm] 54)
      go_wp2_with (at_builtin; refine wpList_append_own_at _ rfl _ _ 78 rfl w.heap.size 54 i0 _ 1 4 Tryz.underlying78 hi hz0 hz1 hz2 rfl (by decide) u3 NL.length (NL.map fun (n : Nat) => .int .u32 (n : Int)) rfl hown ⟨w1.heap.size, 0, none⟩ 1 1 [.int .u32 nm] rfl rfl (by intro j u hj; match j, hj with | 0, hj => (simp at hj; subst hj; simp [Addr.add])) (by intro u hu; simp at hu; rcases hu with rfl; rfl) (by unfold maxLen; omega) (by omega) (by simp; omega) ?_; intro v' w4 hown4 hgrow4 hnil4 hloc4)
      have rg4 := rg3.kept hgrow4 (fun e => by have := (HRV.out fb e.symm).1; omega) (fun e => (HRV.out _ e.symm).2 rfl)
      have bel4 := bel3.grown hgrow4 bel3.size (fun k hk => (HRV.out k hk).1)
      have own4 : PgsAt w.heap.size w4 v' (NL ++ [nm]) := by
        unfold PgsAt
        rw [List.length_append, List.map_append]
        exact hown4
      have HA4 : Hid (NuAt w w4 fb M P.z W1.heap.size v' (NL ++ [nm]) (fun z => left z && !z.sameKey (keyL nm)) cnt1) := HPU.out w4 v' bel4 rg4 own4 (fun g hg => by
        rcases hloc4 with e | e
        · rw [e] at hg; exact (HRV.out g hg).2
        · rw [e] at hg
          simp at hg
          have := HS1.out
          omega) (fun e => by have := (hnil4.1 e).2; omega)
      clear hown4 hgrow4 hnil4 hloc4 hown rg3 bel3 own4
      go_roundw
      case rel => exact ⟨_, _, _, HA4⟩
      case measure => rw [rg4.left_eq, hleft]; omega

end Go.Proofs.YtgmfgkdecpldeaaGreat
