/-
  The walks of a table's Blockers and Cancel.
-/
import Derived.Test.YthagomibjlcfmaaDoorLkAsk2C
import Derived.Test.YthagomibjlcfmaaDoorLkRel2C
import Derived.Deep.RegionHeld3
namespace Go.Proofs.YthagomibjlcfmaaDoor
open Go.RowKit
set_option linter.unusedVariables false
set_option linter.unusedSimpArgs false

set_option maxHeartbeats 1600000 in
set_option maxRecDepth 20000 in
theorem tblk_none {S : Nat → Prop} {w : World} {b : Nat} {T : Tab} (h : IsTab S w b T) (tx : Int) (hr : i64R tx) (hW : T.W tx = none) :
    Calls Tryd.prog 13 #[ptr b, .int .i64 tx] w fun e w' => e = .returned (.slice none 0 0) ∧ Below w.heap.size w w' := by
  have hF := for_any h tx hr
  have e0 : forN T tx = (0, 0, 0, 0) := by unfold forN; rw [hW]; rfl
  rw [hW, e0] at hF
  unfold nval at hF
  simp only [Option.isSome_none] at hF
  unfold ptr
  go_enter Tryd.func13, Tryd.ntmps13
  go_wp2_with fail
  refine hF.mono ?_
  rintro e w1 ⟨rfl, b1⟩
  have HB : Hid (∀ o, Below w.heap.size w (w1.alloc o)) := fun o => b1.alloc b1.size o
  clear hF b1
  go_wp2
  go_ret
  exact ⟨rfl, HB.out _⟩

set_option maxHeartbeats 1600000 in
set_option maxRecDepth 20000 in
theorem tblk_some {S : Nat → Prop} {w : World} {b : Nat} {T : Tab} (hl : LkLaid w) (h : IsTab S w b T) (tx : Int) (hr : i64R tx) {n : NameV} {l : Lit} (hn : NKey n l) (hW : T.W tx = some n) (hL : (T.Q n).length < 1000000) :
    Calls Tryd.prog 13 #[ptr b, .int .i64 tx] w fun e w' => ∃ v, e = .returned v ∧ IntsAt w.heap.size w' v (sortI (blkF (T.Q n) (oneF (T.Q n) tx))) ∧ Below w.heap.size w w' := by
  have hF := for_any h tx hr
  have e0 : forN T tx = n := by unfold forN; rw [hW]; rfl
  rw [hW, e0] at hF
  obtain ⟨bq, bw, DQ, DW, h⟩ := h
  obtain ⟨n0, n1, n2, n3⟩ := n
  have HT : Hid (∀ wx, Below w.heap.size w wx → TabX noEx S wx b bq bw DQ DW T) := fun wx k => h.below k
  have HO : Hid (∀ wx, Below w.heap.size w wx → Calls Tryd.prog 23 #[getV DQ l nilS, .int .i64 tx] wx fun e w' => e = .returned (pval (oneF (T.Q (n0, n1, n2, n3)) tx)) ∧ Below wx.heap.size wx w') := fun wx k => one_any ((h.below k).valq _ l hn (fun x => x)) tx
  have HB : Hid (∀ (p : Pl) wx, Below w.heap.size w wx → Calls Tryd.prog 27 #[getV DQ l nilS, pval p] wx fun e w' => ∃ v', e = .returned v' ∧ IntsAt wx.heap.size w' v' (sortI (blkF (T.Q (n0, n1, n2, n3)) p)) ∧ Below wx.heap.size wx w') := fun p wx k => blockers_any (hl.below hl.lt k) ((h.below k).valq _ l hn (fun x => x)) p (by omega) (sorts_all _ (by omega))
  have HLK : Hid (∀ wx, Below w.heap.size w wx → (Instr.lookup 52 (.map (some bq)) (.agg #[.int .i64 n0, .int .i64 n1, .int .u32 n2, .int .i64 n3]) false).run Tryd.prog wx = .ok (getV DQ l nilS) wx) := fun wx k => (h.below k).mq.look nameKeyed Tryd.underlying52 (zeroQueue wx) hn
  have hblt := h.lt b h.sb
  unfold nval at hF
  simp only [Option.isSome_some] at hF
  clear h hl hn
  generalize oneF (T.Q (n0, n1, n2, n3)) tx = q at *
  generalize getV DQ l nilS = V at *
  unfold ptr
  go_enter Tryd.func13, Tryd.ntmps13
  go_wp2_with fail
  refine hF.mono ?_
  rintro e w1 ⟨rfl, b1⟩
  have hbx : (w1.alloc (.cells #[.int .i64 n0, .int .i64 n1, .int .u32 n2, .int .i64 n3] 33)).heap[w1.heap.size]? = some (.cells #[.int .i64 n0, .int .i64 n1, .int .u32 n2, .int .i64 n3] 33) := heap_alloc_new w1 _
  have b2 : Below w.heap.size w (w1.alloc (.cells #[.int .i64 n0, .int .i64 n1, .int .u32 n2, .int .i64 n3] 33)) := b1.alloc b1.size _
  obtain ⟨x0, x1, x2, x3⟩ := (fun (wy : World) (hb : wy.heap[w1.heap.size]? = some (.cells #[.int .i64 n0, .int .i64 n1, .int .u32 n2, .int .i64 n3] 33)) => (⟨by simp [World.cell?, hb], by simp [World.cell?, hb], by simp [World.cell?, hb], by simp [World.cell?, hb]⟩ : wy.cell? ⟨w1.heap.size, 0, none⟩ = some (.int .i64 n0) ∧ wy.cell? ⟨w1.heap.size, 1, none⟩ = some (.int .i64 n1) ∧ wy.cell? ⟨w1.heap.size, 2, none⟩ = some (.int .u32 n2) ∧ wy.cell? ⟨w1.heap.size, 3, none⟩ = some (.int .i64 n3))) _ hbx
  have c0 := (HT.out _ b2).c0
  have hlk := HLK.out _ b2.drew
  have HB2 : Hid (Below w.heap.size w (w1.alloc (.cells #[.int .i64 n0, .int .i64 n1, .int .u32 n2, .int .i64 n3] 33)).drew) := b2.drew
  clear hF b1 b2 hbx HLK HT
  go_wp2_with fail
  generalize (w1.alloc (.cells #[.int .i64 n0, .int .i64 n1, .int .u32 n2, .int .i64 n3] 33)) = W at *
  go_region_held3 (fun wy => (wy.cell? ⟨w1.heap.size, 0, none⟩ = some (.int .i64 n0) ∧ wy.cell? ⟨w1.heap.size, 1, none⟩ = some (.int .i64 n1) ∧ wy.cell? ⟨w1.heap.size, 2, none⟩ = some (.int .u32 n2) ∧ wy.cell? ⟨w1.heap.size, 3, none⟩ = some (.int .i64 n3)) ∧ wy.cell? ⟨b, 0, none⟩ = some (.map (some bq))) (first | go_keep) (fail)
  clear hlk x0 x1 x2 x3 c0
  generalize W.drew = wd at *
  go_wp2_with fail
  refine (HO.out _ HB2.out).mono ?_
  rintro e w3 ⟨rfl, b3⟩
  have HB3 : Hid (Below w.heap.size w w3) := HB2.out.trans (b3.mono HB2.out.size)
  clear b3 HB2
  go_wp2_with fail
  refine (HB.out q _ HB3.out).mono ?_
  rintro e w4 ⟨v4, rfl, hi4, b4⟩
  have HF : Hid (IntsAt w.heap.size w4 v4 (sortI (blkF (T.Q (n0, n1, n2, n3)) q)) ∧ Below w.heap.size w w4) := by
    refine ⟨⟨hi4.1, ?_⟩, HB3.out.trans (b4.mono HB3.out.size)⟩
    rcases hi4.2 with ⟨e, h1⟩ | ⟨g', cap, cur, e, h0, hb, hr⟩
    · exact .inl ⟨e, h1⟩
    · exact .inr ⟨g', cap, cur, e, Nat.le_trans HB3.out.size h0, hb, hr⟩
  clear hi4 b4 HB3
  go_wp2
  go_ret
  exact ⟨v4, rfl, HF.out⟩

end Go.Proofs.YthagomibjlcfmaaDoor
