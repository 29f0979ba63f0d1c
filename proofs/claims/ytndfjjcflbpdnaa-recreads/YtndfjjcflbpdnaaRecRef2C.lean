/-
  The walk of girderlaw04.ref.
-/
import Derived.Test.YtndfjjcflbpdnaaBase3C
import Derived.Deep.Cut
import Derived.Test.YtndfjjcflbpdnaaBase2C
namespace Go.Proofs.Ytndfjjcflbpdnaa
open Go.RowKit Go.Sort
set_option linter.unusedVariables false

theorem infoSt : (Try.prog.info? 79).map (fun i => (i.zero, i.size, i.bytes)) = some (some (.agg #[.int .i64 0, .int .i64 0, .int .u64 0, .int .u64 0]), 4, 32) := by kernel_rfl
theorem infoDi : (Try.prog.info? 81).map (fun i => (i.zero, i.size, i.bytes)) = some (some (.agg #[.int .u32 0, .int .u64 0]), 2, 16) := by kernel_rfl

theorem rinfo_split {t : TypeId} {z : Value} {s b : Nat} (h : (Try.prog.info? t).map (fun i => (i.zero, i.size, i.bytes)) = some (some z, s, b)) : ∃ i, Try.prog.info? t = some i ∧ i.zero = some z ∧ i.size = s ∧ i.bytes = b := by
  cases e : Try.prog.info? t with
  | none => rw [e] at h; cases h
  | some i =>
    rw [e] at h
    simp only [Option.map_some, Option.some.injEq, Prod.mk.injEq] at h
    exact ⟨i, rfl, h.1, h.2.1, h.2.2⟩

theorem out_cells {w : World} {p : Nat} {t : TypeId} {r : RecV} {v u : Value} (h : BlkR w p (refCells r v u) t) : w.cell? ⟨p, 0, none⟩ = some (.int .i64 r.kind) ∧ w.cell? ⟨p, 1, none⟩ = some (.int .i64 r.tx) ∧ w.cell? ⟨p, 2, none⟩ = some (.int .u64 r.prev) ∧ w.cell? ⟨p, 3, none⟩ = some (.int .u64 r.next) ∧ w.cell? ⟨p, 4, none⟩ = some (.int .u32 r.page) ∧ w.cell? ⟨p, 5, none⟩ = some (.int .i64 r.op.kind) ∧ w.cell? ⟨p, 6, none⟩ = some (.int .i64 r.op.at') ∧ w.cell? ⟨p, 7, none⟩ = some (.string r.op.S) ∧ w.cell? ⟨p, 8, none⟩ = some (.string r.op.old) ∧ w.cell? ⟨p, 9, none⟩ = some (.int .i64 r.undo) ∧ w.cell? ⟨p, 10, none⟩ = some (.int .i64 r.index) ∧ w.cell? ⟨p, 11, none⟩ = some (.string r.key) ∧ w.cell? ⟨p, 12, none⟩ = some (.int .u32 r.rpage) ∧ w.cell? ⟨p, 13, none⟩ = some (.int .i64 r.rslot) ∧ w.cell? ⟨p, 14, none⟩ = some (.bool r.live) ∧ w.cell? ⟨p, 15, none⟩ = some (v) ∧ w.cell? ⟨p, 16, none⟩ = some (u) := ⟨(h.cell 0).trans rfl, (h.cell 1).trans rfl, (h.cell 2).trans rfl, (h.cell 3).trans rfl, (h.cell 4).trans rfl, (h.cell 5).trans rfl, (h.cell 6).trans rfl, (h.cell 7).trans rfl, (h.cell 8).trans rfl, (h.cell 9).trans rfl, (h.cell 10).trans rfl, (h.cell 11).trans rfl, (h.cell 12).trans rfl, (h.cell 13).trans rfl, (h.cell 14).trans rfl, (h.cell 15).trans rfl, (h.cell 16).trans rfl⟩

/-- A list of a block that is new. -/
def NewR (n : Nat) (a : Option Addr) : Prop := ∀ x, a = some x → n ≤ x.block

theorem ref_one (r : RecV) (x y : Option Addr) (a b c d : Nat) : (refCells r (.slice x a b) (.slice y c d)).all (·.oneCell') = true := by simp [refCells, Value.oneCell']

set_option maxHeartbeats 6400000 in
set_option maxRecDepth 8000 in
theorem lref_any (r : RecV) (ta da : Option Addr) (tc dc : Nat) (w : World) (h : r.Ok w ta da) :
    Calls Try.prog 9 #[.agg (r.cells ta da tc dc)] w fun e w' => ∃ ta' da' tc' dc', e = .returned (.agg (r.cells ta' da' tc' dc')) ∧ Below w.heap.size w w' ∧ TxsAt w' ta' r.txs ∧ DisAt w' da' r.dirty ∧ NewR w.heap.size ta' ∧ NewR w.heap.size da' := by
  have hp := h.prev
  have hn := h.next
  have hg := h.page
  have hr := h.rpage
  have htl := h.tlen
  have hdl := h.dlen
  have HTX : Hid (TxsAt w ta r.txs) := h.txs
  have HDI : Hid (DisAt w da r.dirty) := h.dirty
  clear h
  have HS0 : Hid _ := RefAt.start (w := w) (r := r) (ta := ta) (da := da) (tc := tc) (dc := dc)
  obtain ⟨i1, hi1, hz10, hz11, hz12⟩ := rinfo_split infoSt
  obtain ⟨i2, hi2, hz20, hz21, hz22⟩ := rinfo_split infoDi
  simp only [RecV.cells]
  go_enter Try.func9, Try.ntmps9
  go_wp2_with fail
  go_loopw [4] (fun i wr => ∃ (k : Nat) (v : Value), k ≤ r.txs.length ∧ i = .int .i64 k ∧ Hid (RefAt w wr r ta da tc dc v (.slice none 0 0) k 0)) (fun i _ => r.txs.length - (intOf i).toNat)
  case atStart => exact ⟨0, _, Nat.zero_le _, rfl, HS0.out⟩
  case round =>
    clear HS0
    obtain ⟨k, v, hk, rfl, HB⟩ := hrel
    have c15r : wr.cell? ⟨w.heap.size, 15, none⟩ = some (.slice ta r.txs.length tc) := (HB.out.par.cell 15).trans rfl
    by_cases hlt : k < r.txs.length
    · have hlt' : (k : Int) < (r.txs.length : Int) := by omega
      have hk0 : (0 : Int) ≤ (k : Int) := by omega
      obtain ⟨tb, tp, rfl, htb, hcell⟩ : ∃ b o, ta = some ⟨b, o, none⟩ ∧ b < w.heap.size ∧ ∀ i (hi : i < r.txs.length), TxAt w b (o + i * 4) r.txs[i] := by
        rcases HTX.out with h | h
        · rw [h] at hlt; simp at hlt
        · exact h
      have q := (hcell k hlt).same (HB.out.bel.block tb htb)
      clear hcell
      have HTK : Hid (r.txs[k] = r.txs[k]) := rfl
      obtain ⟨t, HT⟩ : ∃ t, Hid (r.txs[k] = t) := ⟨r.txs[k], rfl⟩
      rw [HT.out] at q
      clear HTK
      obtain ⟨p0, p1, p2, p3⟩ := q
      have co : wr.cell? ⟨w.heap.size + 1 + 1, 15, none⟩ = some v := (HB.out.out.cell 15).trans rfl
      have zo : w.heap.size + 1 + 1 < wr.heap.size := HB.out.out.lt
      have zt : tb < wr.heap.size := by omega
      have KA : Hid (Below wr.heap.size wr (wr.drew.alloc (.cells #[.int .i64 t.1, .int .i64 t.2.1, .int .u64 t.2.2.1, .int .u64 t.2.2.2] 79))) := ((Below.refl _ _).drew).alloc (Nat.le_refl _) _
      have OWN : Hid ((wr.drew.alloc (.cells #[.int .i64 t.1, .int .i64 t.2.1, .int .u64 t.2.2.1, .int .u64 t.2.2.2] 79)).ownsRow 0 79 4 v k ((r.txs.take k).flatMap txCells)) := rowns_same HB.out.txs fun g hg => KA.out.block g (HB.out.txs.lt g hg).2
      have NEW : Hid (∀ j x, (txCells t)[j]? = some x → (wr.drew.alloc (.cells #[.int .i64 t.1, .int .i64 t.2.1, .int .u64 t.2.2.1, .int .u64 t.2.2.2] 79)).cell? ((⟨wr.heap.size, 0, none⟩ : Addr).add j) = some x) := World.news_of_block (heap_alloc_new wr.drew _)
      have ONE : Hid (∀ x ∈ txCells t, x.oneCell' = true) := by intro x hx; simp [txCells] at hx; rcases hx with rfl | rfl | rfl | rfl <;> rfl
      have OFF : Hid (∀ g, v.ownBlock = some g → w.heap.size + 3 ≤ g) := HB.out.vOff
      have hH : (fun wy : World => wy.heap[w.heap.size]? = wr.heap[w.heap.size]? ∧ wy.heap[w.heap.size + 1 + 1]? = wr.heap[w.heap.size + 1 + 1]? ∧ wy.heap[tb]? = wr.heap[tb]?) wr.drew := ⟨rfl, rfl, rfl⟩
      go_wp2_with fail
      refine wp_region_noPanic ?_
      refine wp_region_popped (fun wy : World => wy.heap[w.heap.size]? = wr.heap[w.heap.size]? ∧ wy.heap[w.heap.size + 1 + 1]? = wr.heap[w.heap.size + 1 + 1]? ∧ wy.heap[tb]? = wr.heap[tb]?) { dst := none, op := Op.move (Operand.tmp 0), type := 0, pos := "", after := #[], guard := none } mixed rfl (by kernel_rfl) ?_
      simp only [List.pop_toArray, List.dropLast_cons_cons, List.dropLast_singleton, List.back?_toArray, List.getLast?_cons_cons, List.getLast?_singleton, Option.getD_some]
      refine wpAnyH_take (i := 0) (v := (.pointer (some ⟨w.heap.size + 1 + 1, 15, none⟩))) (by simp only [List.getElem?_toArray, List.getElem?_cons_zero]; rfl) (by kernel_rfl) (by kernel_rfl) (by kernel_rfl) (fun _ _ _ h => h) (Or.inl ⟨by rfl, ?_⟩) hH ?_
      · intro wz hSw
        clear hSw
        go_simp
      try simp only [Act.put, List.setIfInBounds_toArray, List.set_cons_zero, List.set_cons_succ]
      refine wpAnyH_take (i := 1) (v := v) (by simp only [List.getElem?_toArray, List.getElem?_cons_succ, List.getElem?_cons_zero]; rfl) (by kernel_rfl) (by kernel_rfl) (by kernel_rfl) (fun _ _ _ h => h) (Or.inl ⟨by rfl, ?_⟩) hH ?_
      · intro wz hSw
        have t0' := (World.cell?_of_block (a := ⟨w.heap.size + 1 + 1, 15, none⟩) hSw.2.1).trans co
        clear hSw
        go_simp
      try simp only [Act.put, List.setIfInBounds_toArray, List.set_cons_zero, List.set_cons_succ]
      refine wpAnyH_take (i := 2) (v := (.pointer (some ⟨w.heap.size, 15, none⟩))) (by simp only [List.getElem?_toArray, List.getElem?_cons_succ, List.getElem?_cons_zero]; rfl) (by kernel_rfl) (by kernel_rfl) (by kernel_rfl) (fun _ _ _ h => h) (Or.inl ⟨by rfl, ?_⟩) hH ?_
      · intro wz hSw
        clear hSw
        go_simp
      try simp only [Act.put, List.setIfInBounds_toArray, List.set_cons_zero, List.set_cons_succ]
      refine wpAnyH_take (i := 3) (v := (.slice (some ⟨tb, tp, none⟩) r.txs.length tc)) (by simp only [List.getElem?_toArray, List.getElem?_cons_succ, List.getElem?_cons_zero]; rfl) (by kernel_rfl) (by kernel_rfl) (by kernel_rfl) (fun _ _ _ h => h) (Or.inl ⟨by rfl, ?_⟩) hH ?_
      · intro wz hSw
        have t0' := (World.cell?_of_block (a := ⟨w.heap.size, 15, none⟩) hSw.1).trans c15r
        clear hSw
        go_simp
      try simp only [Act.put, List.setIfInBounds_toArray, List.set_cons_zero, List.set_cons_succ]
      refine wpAnyH_take (i := 4) (v := (.int .i64 k)) (by simp only [List.getElem?_toArray, List.getElem?_cons_succ, List.getElem?_cons_zero]; rfl) (by kernel_rfl) (by kernel_rfl) (by kernel_rfl) (fun _ _ _ h => h) (Or.inl ⟨by rfl, ?_⟩) hH ?_
      · intro wz hSw
        clear hSw
        go_simp
      try simp only [Act.put, List.setIfInBounds_toArray, List.set_cons_zero, List.set_cons_succ]
      refine wpAnyH_take (i := 5) (v := (.pointer (some ⟨tb, tp + k * 4, none⟩))) (by simp only [List.getElem?_toArray, List.getElem?_cons_succ, List.getElem?_cons_zero]; rfl) (by kernel_rfl) (by kernel_rfl) (by kernel_rfl) (fun _ _ _ h => h) (Or.inl ⟨by rfl, ?_⟩) hH ?_
      · intro wz hSw
        clear hSw
        go_simp
      try simp only [Act.put, List.setIfInBounds_toArray, List.set_cons_zero, List.set_cons_succ]
      refine wpAnyH_take (i := 6) (v := (.pointer (some ⟨tb, tp + k * 4, none⟩))) (by simp only [List.getElem?_toArray, List.getElem?_cons_succ, List.getElem?_cons_zero]; rfl) (by kernel_rfl) (by kernel_rfl) (by kernel_rfl) (fun _ _ _ h => h) (Or.inl ⟨by rfl, ?_⟩) hH ?_
      · intro wz hSw
        clear hSw
        go_simp
      try simp only [Act.put, List.setIfInBounds_toArray, List.set_cons_zero, List.set_cons_succ]
      refine wpAnyH_take (i := 7) (v := (.int .i64 t.1)) (by simp only [List.getElem?_toArray, List.getElem?_cons_succ, List.getElem?_cons_zero]; rfl) (by kernel_rfl) (by kernel_rfl) (by kernel_rfl) (fun _ _ _ h => h) (Or.inl ⟨by rfl, ?_⟩) hH ?_
      · intro wz hSw
        have t0' := (World.cell?_of_block (a := ⟨tb, tp + k * 4, none⟩) hSw.2.2).trans p0
        clear hSw
        go_simp
      try simp only [Act.put, List.setIfInBounds_toArray, List.set_cons_zero, List.set_cons_succ]
      refine wpAnyH_take (i := 8) (v := (.pointer (some ⟨w.heap.size, 15, none⟩))) (by simp only [List.getElem?_toArray, List.getElem?_cons_succ, List.getElem?_cons_zero]; rfl) (by kernel_rfl) (by kernel_rfl) (by kernel_rfl) (fun _ _ _ h => h) (Or.inl ⟨by rfl, ?_⟩) hH ?_
      · intro wz hSw
        clear hSw
        go_simp
      try simp only [Act.put, List.setIfInBounds_toArray, List.set_cons_zero, List.set_cons_succ]
      refine wpAnyH_take (i := 9) (v := (.slice (some ⟨tb, tp, none⟩) r.txs.length tc)) (by simp only [List.getElem?_toArray, List.getElem?_cons_succ, List.getElem?_cons_zero]; rfl) (by kernel_rfl) (by kernel_rfl) (by kernel_rfl) (fun _ _ _ h => h) (Or.inl ⟨by rfl, ?_⟩) hH ?_
      · intro wz hSw
        have t0' := (World.cell?_of_block (a := ⟨w.heap.size, 15, none⟩) hSw.1).trans c15r
        clear hSw
        go_simp
      try simp only [Act.put, List.setIfInBounds_toArray, List.set_cons_zero, List.set_cons_succ]
      refine wpAnyH_take (i := 10) (v := (.int .i64 k)) (by simp only [List.getElem?_toArray, List.getElem?_cons_succ, List.getElem?_cons_zero]; rfl) (by kernel_rfl) (by kernel_rfl) (by kernel_rfl) (fun _ _ _ h => h) (Or.inl ⟨by rfl, ?_⟩) hH ?_
      · intro wz hSw
        clear hSw
        go_simp
      try simp only [Act.put, List.setIfInBounds_toArray, List.set_cons_zero, List.set_cons_succ]
      refine wpAnyH_take (i := 11) (v := (.pointer (some ⟨tb, tp + k * 4, none⟩))) (by simp only [List.getElem?_toArray, List.getElem?_cons_succ, List.getElem?_cons_zero]; rfl) (by kernel_rfl) (by kernel_rfl) (by kernel_rfl) (fun _ _ _ h => h) (Or.inl ⟨by rfl, ?_⟩) hH ?_
      · intro wz hSw
        clear hSw
        go_simp
      try simp only [Act.put, List.setIfInBounds_toArray, List.set_cons_zero, List.set_cons_succ]
      refine wpAnyH_take (i := 12) (v := (.pointer (some ⟨tb, tp + k * 4 + 1, none⟩))) (by simp only [List.getElem?_toArray, List.getElem?_cons_succ, List.getElem?_cons_zero]; rfl) (by kernel_rfl) (by kernel_rfl) (by kernel_rfl) (fun _ _ _ h => h) (Or.inl ⟨by rfl, ?_⟩) hH ?_
      · intro wz hSw
        clear hSw
        go_simp
      try simp only [Act.put, List.setIfInBounds_toArray, List.set_cons_zero, List.set_cons_succ]
      refine wpAnyH_take (i := 13) (v := (.int .i64 t.2.1)) (by simp only [List.getElem?_toArray, List.getElem?_cons_succ, List.getElem?_cons_zero]; rfl) (by kernel_rfl) (by kernel_rfl) (by kernel_rfl) (fun _ _ _ h => h) (Or.inl ⟨by rfl, ?_⟩) hH ?_
      · intro wz hSw
        have t0' := (World.cell?_of_block (a := ⟨tb, tp + k * 4 + 1, none⟩) hSw.2.2).trans p1
        clear hSw
        go_simp
      try simp only [Act.put, List.setIfInBounds_toArray, List.set_cons_zero, List.set_cons_succ]
      refine wpAnyH_take (i := 14) (v := (.pointer (some ⟨w.heap.size, 15, none⟩))) (by simp only [List.getElem?_toArray, List.getElem?_cons_succ, List.getElem?_cons_zero]; rfl) (by kernel_rfl) (by kernel_rfl) (by kernel_rfl) (fun _ _ _ h => h) (Or.inl ⟨by rfl, ?_⟩) hH ?_
      · intro wz hSw
        clear hSw
        go_simp
      try simp only [Act.put, List.setIfInBounds_toArray, List.set_cons_zero, List.set_cons_succ]
      refine wpAnyH_take (i := 15) (v := (.slice (some ⟨tb, tp, none⟩) r.txs.length tc)) (by simp only [List.getElem?_toArray, List.getElem?_cons_succ, List.getElem?_cons_zero]; rfl) (by kernel_rfl) (by kernel_rfl) (by kernel_rfl) (fun _ _ _ h => h) (Or.inl ⟨by rfl, ?_⟩) hH ?_
      · intro wz hSw
        have t0' := (World.cell?_of_block (a := ⟨w.heap.size, 15, none⟩) hSw.1).trans c15r
        clear hSw
        go_simp
      try simp only [Act.put, List.setIfInBounds_toArray, List.set_cons_zero, List.set_cons_succ]
      refine wpAnyH_take (i := 16) (v := (.int .i64 k)) (by simp only [List.getElem?_toArray, List.getElem?_cons_succ, List.getElem?_cons_zero]; rfl) (by kernel_rfl) (by kernel_rfl) (by kernel_rfl) (fun _ _ _ h => h) (Or.inl ⟨by rfl, ?_⟩) hH ?_
      · intro wz hSw
        clear hSw
        go_simp
      try simp only [Act.put, List.setIfInBounds_toArray, List.set_cons_zero, List.set_cons_succ]
      refine wpAnyH_take (i := 17) (v := (.pointer (some ⟨tb, tp + k * 4, none⟩))) (by simp only [List.getElem?_toArray, List.getElem?_cons_succ, List.getElem?_cons_zero]; rfl) (by kernel_rfl) (by kernel_rfl) (by kernel_rfl) (fun _ _ _ h => h) (Or.inl ⟨by rfl, ?_⟩) hH ?_
      · intro wz hSw
        clear hSw
        go_simp
      try simp only [Act.put, List.setIfInBounds_toArray, List.set_cons_zero, List.set_cons_succ]
      refine wpAnyH_take (i := 18) (v := (.pointer (some ⟨tb, tp + k * 4 + 2, none⟩))) (by simp only [List.getElem?_toArray, List.getElem?_cons_succ, List.getElem?_cons_zero]; rfl) (by kernel_rfl) (by kernel_rfl) (by kernel_rfl) (fun _ _ _ h => h) (Or.inl ⟨by rfl, ?_⟩) hH ?_
      · intro wz hSw
        clear hSw
        go_simp
      try simp only [Act.put, List.setIfInBounds_toArray, List.set_cons_zero, List.set_cons_succ]
      refine wpAnyH_take (i := 19) (v := (.int .u64 t.2.2.1)) (by simp only [List.getElem?_toArray, List.getElem?_cons_succ, List.getElem?_cons_zero]; rfl) (by kernel_rfl) (by kernel_rfl) (by kernel_rfl) (fun _ _ _ h => h) (Or.inl ⟨by rfl, ?_⟩) hH ?_
      · intro wz hSw
        have t0' := (World.cell?_of_block (a := ⟨tb, tp + k * 4 + 2, none⟩) hSw.2.2).trans p2
        clear hSw
        go_simp
      try simp only [Act.put, List.setIfInBounds_toArray, List.set_cons_zero, List.set_cons_succ]
      refine wpAnyH_take (i := 20) (v := (.pointer (some ⟨w.heap.size, 15, none⟩))) (by simp only [List.getElem?_toArray, List.getElem?_cons_succ, List.getElem?_cons_zero]; rfl) (by kernel_rfl) (by kernel_rfl) (by kernel_rfl) (fun _ _ _ h => h) (Or.inl ⟨by rfl, ?_⟩) hH ?_
      · intro wz hSw
        clear hSw
        go_simp
      try simp only [Act.put, List.setIfInBounds_toArray, List.set_cons_zero, List.set_cons_succ]
      refine wpAnyH_take (i := 21) (v := (.slice (some ⟨tb, tp, none⟩) r.txs.length tc)) (by simp only [List.getElem?_toArray, List.getElem?_cons_succ, List.getElem?_cons_zero]; rfl) (by kernel_rfl) (by kernel_rfl) (by kernel_rfl) (fun _ _ _ h => h) (Or.inl ⟨by rfl, ?_⟩) hH ?_
      · intro wz hSw
        have t0' := (World.cell?_of_block (a := ⟨w.heap.size, 15, none⟩) hSw.1).trans c15r
        clear hSw
        go_simp
      try simp only [Act.put, List.setIfInBounds_toArray, List.set_cons_zero, List.set_cons_succ]
      refine wpAnyH_take (i := 22) (v := (.int .i64 k)) (by simp only [List.getElem?_toArray, List.getElem?_cons_succ, List.getElem?_cons_zero]; rfl) (by kernel_rfl) (by kernel_rfl) (by kernel_rfl) (fun _ _ _ h => h) (Or.inl ⟨by rfl, ?_⟩) hH ?_
      · intro wz hSw
        clear hSw
        go_simp
      try simp only [Act.put, List.setIfInBounds_toArray, List.set_cons_zero, List.set_cons_succ]
      refine wpAnyH_take (i := 23) (v := (.pointer (some ⟨tb, tp + k * 4, none⟩))) (by simp only [List.getElem?_toArray, List.getElem?_cons_succ, List.getElem?_cons_zero]; rfl) (by kernel_rfl) (by kernel_rfl) (by kernel_rfl) (fun _ _ _ h => h) (Or.inl ⟨by rfl, ?_⟩) hH ?_
      · intro wz hSw
        clear hSw
        go_simp
      try simp only [Act.put, List.setIfInBounds_toArray, List.set_cons_zero, List.set_cons_succ]
      refine wpAnyH_take (i := 24) (v := (.pointer (some ⟨tb, tp + k * 4 + 3, none⟩))) (by simp only [List.getElem?_toArray, List.getElem?_cons_succ, List.getElem?_cons_zero]; rfl) (by kernel_rfl) (by kernel_rfl) (by kernel_rfl) (fun _ _ _ h => h) (Or.inl ⟨by rfl, ?_⟩) hH ?_
      · intro wz hSw
        clear hSw
        go_simp
      try simp only [Act.put, List.setIfInBounds_toArray, List.set_cons_zero, List.set_cons_succ]
      refine wpAnyH_take (i := 25) (v := (.int .u64 t.2.2.2)) (by simp only [List.getElem?_toArray, List.getElem?_cons_succ, List.getElem?_cons_zero]; rfl) (by kernel_rfl) (by kernel_rfl) (by kernel_rfl) (fun _ _ _ h => h) (Or.inl ⟨by rfl, ?_⟩) hH ?_
      · intro wz hSw
        have t0' := (World.cell?_of_block (a := ⟨tb, tp + k * 4 + 3, none⟩) hSw.2.2).trans p3
        clear hSw
        go_simp
      try simp only [Act.put, List.setIfInBounds_toArray, List.set_cons_zero, List.set_cons_succ]
      refine wpAnyH_take (i := 26) (v := (.agg #[.int .i64 t.1, .int .i64 t.2.1, .int .u64 t.2.2.1, .int .u64 t.2.2.2])) (by simp only [List.getElem?_toArray, List.getElem?_cons_succ, List.getElem?_cons_zero]; rfl) (by kernel_rfl) (by kernel_rfl) (by kernel_rfl) (fun _ _ _ h => h) (Or.inl ⟨by rfl, ?_⟩) hH ?_
      · intro wz hSw
        clear hSw
        go_simp
      try simp only [Act.put, List.setIfInBounds_toArray, List.set_cons_zero, List.set_cons_succ]
      refine wpAnyH_ready (rs := [27]) (by kernel_rfl) (by simp) ?_
      refine AllReadyH.cons (i := 27) (by simp only [List.getElem?_toArray, List.getElem?_cons_succ, List.getElem?_cons_zero]; rfl) (fun K hK => ?_) ?_
      · go_simp
        refine hK.out _ _ ⟨KA.out.block _ (by omega), KA.out.block _ zo, KA.out.block _ zt⟩ (fun hHeld => ?_)
        clear hK K
        try simp only [Act.put, List.setIfInBounds_toArray, List.set_cons_zero, List.set_cons_succ]
        refine wpAnyH_ready (rs := [28]) (by kernel_rfl) (by simp) ?_
        refine AllReadyH.cons (i := 28) (by simp only [List.getElem?_toArray, List.getElem?_cons_succ, List.getElem?_cons_zero]; rfl) (fun K hK => ?_) ?_
        · refine step_append_lies _ (by rfl) _ _ 40 (by rfl) 0 79 i1 _ 4 32 Try.underlying40 hi1 hz10 hz11 hz12 (by rfl) (by decide) v k ((r.txs.take k).flatMap txCells) (by rfl) OWN.out ⟨wr.heap.size, 0, none⟩ 1 1 (txCells t) (by rfl) (by rfl) NEW.out ONE.out (by decide) (by unfold maxLen; omega) (by omega) (Nat.zero_le _) (wr.heap.size + 1) (by simp) ?_
          intro g cap w7 hown1 hgrow1 hat1 hlt1
          have L1 : Hid (v.ownBlock = (Value.slice (some ⟨g, 0, none⟩) (k + 1) cap).ownBlock ∨ ∃ z, (Value.slice (some ⟨g, 0, none⟩) (k + 1) cap).ownBlock = some z ∧ wr.heap.size ≤ z) := by
            rcases hat1 with h | h
            · exact .inl h
            · exact .inr ⟨g, rfl, by omega⟩
          have KP : Hid (∀ b, b < w.heap.size + 3 → b < wr.heap.size → w7.heap[b]? = wr.heap[b]?) := fun b h3 hb => (hgrow1.block b (Nat.lt_of_lt_of_le hb KA.out.size) (fun e => by have := OFF.out b e.symm; omega)).trans (KA.out.block b hb)
          rw [← HT.out] at hown1
          have HP : Hid _ := HB.out.pushT hlt KA.out hown1 hgrow1 L1.out
          clear hown1 hgrow1 hat1
          refine hK.out _ _ ⟨KP.out _ (by omega) (by omega), KP.out _ (by omega) zo, KP.out _ (by omega) zt⟩ (fun hHeld => ?_)
          clear hK K
          try simp only [Act.put, List.setIfInBounds_toArray, List.set_cons_zero, List.set_cons_succ]
          refine wpAnyH_take (i := 29) (v := (.pointer (some ⟨w.heap.size + 1 + 1, 15, none⟩))) (by simp only [List.getElem?_toArray, List.getElem?_cons_succ, List.getElem?_cons_zero]; rfl) (by kernel_rfl) (by kernel_rfl) (by kernel_rfl) (fun _ _ _ h => h) (Or.inl ⟨by rfl, ?_⟩) hHeld ?_
          · intro wz hSw
            clear hSw
            go_simp
          try simp only [Act.put, List.setIfInBounds_toArray, List.set_cons_zero, List.set_cons_succ]
          refine wpAnyH_done (by kernel_rfl) ?_ _
          have s0 := (World.cell?_of_block (a := ⟨w.heap.size + 1 + 1, 15, none⟩) hHeld.2.1).trans co
          have fz0 : w7.frozen? ⟨w.heap.size + 1 + 1, 15, none⟩ = false := (World.frozen?_of_block (a := ⟨w.heap.size + 1 + 1, 15, none⟩) hHeld.2.1).trans (HB.out.out.frozen 15)
          show Oper.wp _ _ _ _ _ _
          go_simp
          refine NoPanic.normal ?_
          go_wp2_with fail
          go_roundw
          case rel => exact ⟨k + 1, _, by omega, by go_num, HP.out⟩
          case measure => simp [intOf]; omega
        exact AllReadyH.nil
      exact AllReadyH.nil
    · obtain rfl : k = r.txs.length := by omega
      go_wp2_with fail
      go_loopw [5] (fun i wr => ∃ (k : Nat) (u : Value), k ≤ r.dirty.length ∧ i = .int .i64 k ∧ Hid (RefAt w wr r ta da tc dc v u r.txs.length k)) (fun i _ => r.dirty.length - (intOf i).toNat)
      case atStart => exact ⟨0, _, Nat.zero_le _, rfl, HB.out⟩
      case round =>
        clear HB c15r
        obtain ⟨k, u, hk, rfl, HB⟩ := hrel
        have c16r : wr.cell? ⟨w.heap.size, 16, none⟩ = some (.slice da r.dirty.length dc) := (HB.out.par.cell 16).trans rfl
        by_cases hlt : k < r.dirty.length
        · have hlt' : (k : Int) < (r.dirty.length : Int) := by omega
          have hk0 : (0 : Int) ≤ (k : Int) := by omega
          obtain ⟨tb, tp, rfl, htb, hcell⟩ : ∃ b o, da = some ⟨b, o, none⟩ ∧ b < w.heap.size ∧ ∀ i (hi : i < r.dirty.length), DiAt w b (o + i * 2) r.dirty[i] := by
            rcases HDI.out with h | h
            · rw [h] at hlt; simp at hlt
            · exact h
          have q := (hcell k hlt).same (HB.out.bel.block tb htb)
          clear hcell
          have HTK : Hid (r.dirty[k] = r.dirty[k]) := rfl
          obtain ⟨t, HT⟩ : ∃ t, Hid (r.dirty[k] = t) := ⟨r.dirty[k], rfl⟩
          rw [HT.out] at q
          clear HTK
          obtain ⟨p0, p1⟩ := q
          have co : wr.cell? ⟨w.heap.size + 1 + 1, 16, none⟩ = some u := (HB.out.out.cell 16).trans rfl
          have zo : w.heap.size + 1 + 1 < wr.heap.size := HB.out.out.lt
          have zt : tb < wr.heap.size := by omega
          have KA : Hid (Below wr.heap.size wr (wr.drew.alloc (.cells #[.int .u32 t.1, .int .u64 t.2] 81))) := ((Below.refl _ _).drew).alloc (Nat.le_refl _) _
          have OWN : Hid ((wr.drew.alloc (.cells #[.int .u32 t.1, .int .u64 t.2] 81)).ownsRow 0 81 2 u k ((r.dirty.take k).flatMap diCells)) := rowns_same HB.out.dis fun g hg => KA.out.block g (HB.out.dis.lt g hg).2
          have NEW : Hid (∀ j x, (diCells t)[j]? = some x → (wr.drew.alloc (.cells #[.int .u32 t.1, .int .u64 t.2] 81)).cell? ((⟨wr.heap.size, 0, none⟩ : Addr).add j) = some x) := World.news_of_block (heap_alloc_new wr.drew _)
          have ONE : Hid (∀ x ∈ diCells t, x.oneCell' = true) := by intro x hx; simp [diCells] at hx; rcases hx with rfl | rfl <;> rfl
          have OFF : Hid (∀ g, u.ownBlock = some g → w.heap.size + 3 ≤ g) := HB.out.uOff
          have hH : (fun wy : World => wy.heap[w.heap.size]? = wr.heap[w.heap.size]? ∧ wy.heap[w.heap.size + 1 + 1]? = wr.heap[w.heap.size + 1 + 1]? ∧ wy.heap[tb]? = wr.heap[tb]?) wr.drew := ⟨rfl, rfl, rfl⟩
          go_wp2_with fail
          refine wp_region_noPanic ?_
          refine wp_region_popped (fun wy : World => wy.heap[w.heap.size]? = wr.heap[w.heap.size]? ∧ wy.heap[w.heap.size + 1 + 1]? = wr.heap[w.heap.size + 1 + 1]? ∧ wy.heap[tb]? = wr.heap[tb]?) { dst := none, op := Op.move (Operand.tmp 0), type := 0, pos := "", after := #[], guard := none } mixed rfl (by kernel_rfl) ?_
          simp only [List.pop_toArray, List.dropLast_cons_cons, List.dropLast_singleton, List.back?_toArray, List.getLast?_cons_cons, List.getLast?_singleton, Option.getD_some]
          refine wpAnyH_take (i := 0) (v := (.pointer (some ⟨w.heap.size + 1 + 1, 16, none⟩))) (by simp only [List.getElem?_toArray, List.getElem?_cons_zero]; rfl) (by kernel_rfl) (by kernel_rfl) (by kernel_rfl) (fun _ _ _ h => h) (Or.inl ⟨by rfl, ?_⟩) hH ?_
          · intro wz hSw
            clear hSw
            go_simp
          try simp only [Act.put, List.setIfInBounds_toArray, List.set_cons_zero, List.set_cons_succ]
          refine wpAnyH_take (i := 1) (v := u) (by simp only [List.getElem?_toArray, List.getElem?_cons_succ, List.getElem?_cons_zero]; rfl) (by kernel_rfl) (by kernel_rfl) (by kernel_rfl) (fun _ _ _ h => h) (Or.inl ⟨by rfl, ?_⟩) hH ?_
          · intro wz hSw
            have t0' := (World.cell?_of_block (a := ⟨w.heap.size + 1 + 1, 16, none⟩) hSw.2.1).trans co
            clear hSw
            go_simp
          try simp only [Act.put, List.setIfInBounds_toArray, List.set_cons_zero, List.set_cons_succ]
          refine wpAnyH_take (i := 2) (v := (.pointer (some ⟨w.heap.size, 16, none⟩))) (by simp only [List.getElem?_toArray, List.getElem?_cons_succ, List.getElem?_cons_zero]; rfl) (by kernel_rfl) (by kernel_rfl) (by kernel_rfl) (fun _ _ _ h => h) (Or.inl ⟨by rfl, ?_⟩) hH ?_
          · intro wz hSw
            clear hSw
            go_simp
          try simp only [Act.put, List.setIfInBounds_toArray, List.set_cons_zero, List.set_cons_succ]
          refine wpAnyH_take (i := 3) (v := (.slice (some ⟨tb, tp, none⟩) r.dirty.length dc)) (by simp only [List.getElem?_toArray, List.getElem?_cons_succ, List.getElem?_cons_zero]; rfl) (by kernel_rfl) (by kernel_rfl) (by kernel_rfl) (fun _ _ _ h => h) (Or.inl ⟨by rfl, ?_⟩) hH ?_
          · intro wz hSw
            have t0' := (World.cell?_of_block (a := ⟨w.heap.size, 16, none⟩) hSw.1).trans c16r
            clear hSw
            go_simp
          try simp only [Act.put, List.setIfInBounds_toArray, List.set_cons_zero, List.set_cons_succ]
          refine wpAnyH_take (i := 4) (v := (.int .i64 k)) (by simp only [List.getElem?_toArray, List.getElem?_cons_succ, List.getElem?_cons_zero]; rfl) (by kernel_rfl) (by kernel_rfl) (by kernel_rfl) (fun _ _ _ h => h) (Or.inl ⟨by rfl, ?_⟩) hH ?_
          · intro wz hSw
            clear hSw
            go_simp
          try simp only [Act.put, List.setIfInBounds_toArray, List.set_cons_zero, List.set_cons_succ]
          refine wpAnyH_take (i := 5) (v := (.pointer (some ⟨tb, tp + k * 2, none⟩))) (by simp only [List.getElem?_toArray, List.getElem?_cons_succ, List.getElem?_cons_zero]; rfl) (by kernel_rfl) (by kernel_rfl) (by kernel_rfl) (fun _ _ _ h => h) (Or.inl ⟨by rfl, ?_⟩) hH ?_
          · intro wz hSw
            clear hSw
            go_simp
          try simp only [Act.put, List.setIfInBounds_toArray, List.set_cons_zero, List.set_cons_succ]
          refine wpAnyH_take (i := 6) (v := (.pointer (some ⟨tb, tp + k * 2, none⟩))) (by simp only [List.getElem?_toArray, List.getElem?_cons_succ, List.getElem?_cons_zero]; rfl) (by kernel_rfl) (by kernel_rfl) (by kernel_rfl) (fun _ _ _ h => h) (Or.inl ⟨by rfl, ?_⟩) hH ?_
          · intro wz hSw
            clear hSw
            go_simp
          try simp only [Act.put, List.setIfInBounds_toArray, List.set_cons_zero, List.set_cons_succ]
          refine wpAnyH_take (i := 7) (v := (.int .u32 t.1)) (by simp only [List.getElem?_toArray, List.getElem?_cons_succ, List.getElem?_cons_zero]; rfl) (by kernel_rfl) (by kernel_rfl) (by kernel_rfl) (fun _ _ _ h => h) (Or.inl ⟨by rfl, ?_⟩) hH ?_
          · intro wz hSw
            have t0' := (World.cell?_of_block (a := ⟨tb, tp + k * 2, none⟩) hSw.2.2).trans p0
            clear hSw
            go_simp
          try simp only [Act.put, List.setIfInBounds_toArray, List.set_cons_zero, List.set_cons_succ]
          refine wpAnyH_take (i := 8) (v := (.pointer (some ⟨w.heap.size, 16, none⟩))) (by simp only [List.getElem?_toArray, List.getElem?_cons_succ, List.getElem?_cons_zero]; rfl) (by kernel_rfl) (by kernel_rfl) (by kernel_rfl) (fun _ _ _ h => h) (Or.inl ⟨by rfl, ?_⟩) hH ?_
          · intro wz hSw
            clear hSw
            go_simp
          try simp only [Act.put, List.setIfInBounds_toArray, List.set_cons_zero, List.set_cons_succ]
          refine wpAnyH_take (i := 9) (v := (.slice (some ⟨tb, tp, none⟩) r.dirty.length dc)) (by simp only [List.getElem?_toArray, List.getElem?_cons_succ, List.getElem?_cons_zero]; rfl) (by kernel_rfl) (by kernel_rfl) (by kernel_rfl) (fun _ _ _ h => h) (Or.inl ⟨by rfl, ?_⟩) hH ?_
          · intro wz hSw
            have t0' := (World.cell?_of_block (a := ⟨w.heap.size, 16, none⟩) hSw.1).trans c16r
            clear hSw
            go_simp
          try simp only [Act.put, List.setIfInBounds_toArray, List.set_cons_zero, List.set_cons_succ]
          refine wpAnyH_take (i := 10) (v := (.int .i64 k)) (by simp only [List.getElem?_toArray, List.getElem?_cons_succ, List.getElem?_cons_zero]; rfl) (by kernel_rfl) (by kernel_rfl) (by kernel_rfl) (fun _ _ _ h => h) (Or.inl ⟨by rfl, ?_⟩) hH ?_
          · intro wz hSw
            clear hSw
            go_simp
          try simp only [Act.put, List.setIfInBounds_toArray, List.set_cons_zero, List.set_cons_succ]
          refine wpAnyH_take (i := 11) (v := (.pointer (some ⟨tb, tp + k * 2, none⟩))) (by simp only [List.getElem?_toArray, List.getElem?_cons_succ, List.getElem?_cons_zero]; rfl) (by kernel_rfl) (by kernel_rfl) (by kernel_rfl) (fun _ _ _ h => h) (Or.inl ⟨by rfl, ?_⟩) hH ?_
          · intro wz hSw
            clear hSw
            go_simp
          try simp only [Act.put, List.setIfInBounds_toArray, List.set_cons_zero, List.set_cons_succ]
          refine wpAnyH_take (i := 12) (v := (.pointer (some ⟨tb, tp + k * 2 + 1, none⟩))) (by simp only [List.getElem?_toArray, List.getElem?_cons_succ, List.getElem?_cons_zero]; rfl) (by kernel_rfl) (by kernel_rfl) (by kernel_rfl) (fun _ _ _ h => h) (Or.inl ⟨by rfl, ?_⟩) hH ?_
          · intro wz hSw
            clear hSw
            go_simp
          try simp only [Act.put, List.setIfInBounds_toArray, List.set_cons_zero, List.set_cons_succ]
          refine wpAnyH_take (i := 13) (v := (.int .u64 t.2)) (by simp only [List.getElem?_toArray, List.getElem?_cons_succ, List.getElem?_cons_zero]; rfl) (by kernel_rfl) (by kernel_rfl) (by kernel_rfl) (fun _ _ _ h => h) (Or.inl ⟨by rfl, ?_⟩) hH ?_
          · intro wz hSw
            have t0' := (World.cell?_of_block (a := ⟨tb, tp + k * 2 + 1, none⟩) hSw.2.2).trans p1
            clear hSw
            go_simp
          try simp only [Act.put, List.setIfInBounds_toArray, List.set_cons_zero, List.set_cons_succ]
          refine wpAnyH_take (i := 14) (v := (.agg #[.int .u32 t.1, .int .u64 t.2])) (by simp only [List.getElem?_toArray, List.getElem?_cons_succ, List.getElem?_cons_zero]; rfl) (by kernel_rfl) (by kernel_rfl) (by kernel_rfl) (fun _ _ _ h => h) (Or.inl ⟨by rfl, ?_⟩) hH ?_
          · intro wz hSw
            clear hSw
            go_simp
          try simp only [Act.put, List.setIfInBounds_toArray, List.set_cons_zero, List.set_cons_succ]
          refine wpAnyH_ready (rs := [15]) (by kernel_rfl) (by simp) ?_
          refine AllReadyH.cons (i := 15) (by simp only [List.getElem?_toArray, List.getElem?_cons_succ, List.getElem?_cons_zero]; rfl) (fun K hK => ?_) ?_
          · go_simp
            refine hK.out _ _ ⟨KA.out.block _ (by omega), KA.out.block _ zo, KA.out.block _ zt⟩ (fun hHeld => ?_)
            clear hK K
            try simp only [Act.put, List.setIfInBounds_toArray, List.set_cons_zero, List.set_cons_succ]
            refine wpAnyH_ready (rs := [16]) (by kernel_rfl) (by simp) ?_
            refine AllReadyH.cons (i := 16) (by simp only [List.getElem?_toArray, List.getElem?_cons_succ, List.getElem?_cons_zero]; rfl) (fun K hK => ?_) ?_
            · refine step_append_lies _ (by rfl) _ _ 41 (by rfl) 0 81 i2 _ 2 16 Try.underlying41 hi2 hz20 hz21 hz22 (by rfl) (by decide) u k ((r.dirty.take k).flatMap diCells) (by rfl) OWN.out ⟨wr.heap.size, 0, none⟩ 1 1 (diCells t) (by rfl) (by rfl) NEW.out ONE.out (by decide) (by unfold maxLen; omega) (by omega) (Nat.zero_le _) (wr.heap.size + 1) (by simp) ?_
              intro g cap w7 hown1 hgrow1 hat1 hlt1
              have L1 : Hid (u.ownBlock = (Value.slice (some ⟨g, 0, none⟩) (k + 1) cap).ownBlock ∨ ∃ z, (Value.slice (some ⟨g, 0, none⟩) (k + 1) cap).ownBlock = some z ∧ wr.heap.size ≤ z) := by
                rcases hat1 with h | h
                · exact .inl h
                · exact .inr ⟨g, rfl, by omega⟩
              have KP : Hid (∀ b, b < w.heap.size + 3 → b < wr.heap.size → w7.heap[b]? = wr.heap[b]?) := fun b h3 hb => (hgrow1.block b (Nat.lt_of_lt_of_le hb KA.out.size) (fun e => by have := OFF.out b e.symm; omega)).trans (KA.out.block b hb)
              rw [← HT.out] at hown1
              have HP : Hid _ := HB.out.pushD hlt KA.out hown1 hgrow1 L1.out
              clear hown1 hgrow1 hat1
              refine hK.out _ _ ⟨KP.out _ (by omega) (by omega), KP.out _ (by omega) zo, KP.out _ (by omega) zt⟩ (fun hHeld => ?_)
              clear hK K
              try simp only [Act.put, List.setIfInBounds_toArray, List.set_cons_zero, List.set_cons_succ]
              refine wpAnyH_take (i := 17) (v := (.pointer (some ⟨w.heap.size + 1 + 1, 16, none⟩))) (by simp only [List.getElem?_toArray, List.getElem?_cons_succ, List.getElem?_cons_zero]; rfl) (by kernel_rfl) (by kernel_rfl) (by kernel_rfl) (fun _ _ _ h => h) (Or.inl ⟨by rfl, ?_⟩) hHeld ?_
              · intro wz hSw
                clear hSw
                go_simp
              try simp only [Act.put, List.setIfInBounds_toArray, List.set_cons_zero, List.set_cons_succ]
              refine wpAnyH_done (by kernel_rfl) ?_ _
              have s0 := (World.cell?_of_block (a := ⟨w.heap.size + 1 + 1, 16, none⟩) hHeld.2.1).trans co
              have fz0 : w7.frozen? ⟨w.heap.size + 1 + 1, 16, none⟩ = false := (World.frozen?_of_block (a := ⟨w.heap.size + 1 + 1, 16, none⟩) hHeld.2.1).trans (HB.out.out.frozen 16)
              show Oper.wp _ _ _ _ _ _
              go_simp
              refine NoPanic.normal ?_
              go_wp2_with fail
              go_roundw
              case rel => exact ⟨k + 1, _, by omega, by go_num, HP.out⟩
              case measure => simp [intOf]; omega
            exact AllReadyH.nil
          exact AllReadyH.nil
        · obtain rfl : k = r.dirty.length := by omega
          have hT0 := HB.out.txs
          have hD0 := HB.out.dis
          rw [List.take_length] at hT0 hD0
          obtain ⟨ta', tc', rfl, _⟩ := owns_txs hT0
          obtain ⟨da', dc', rfl, _⟩ := owns_dis hD0
          obtain ⟨WX, HWX⟩ : ∃ WX, Hid (WX = wr.setRow (w.heap.size + 1) (refCells r (.slice ta' r.txs.length tc') (.slice da' r.dirty.length dc'))) := ⟨_, rfl⟩
          have hb : BlkR WX (w.heap.size + 1) (refCells r (.slice ta' r.txs.length tc') (.slice da' r.dirty.length dc')) 43 := by rw [HWX.out]; exact setRow_heap wr _ _ _ _ _ HB.out.res
          have hbel : Below w.heap.size w WX := by rw [HWX.out]; exact below_setRow HB.out.bel (by omega) _
          have hst : ∀ g, g ≠ w.heap.size + 1 → WX.heap[g]? = wr.heap[g]? := by intro g hg; rw [HWX.out]; exact setRow_other wr _ g _ hg
          obtain ⟨ta2, tc2, e1, hT2⟩ := owns_txs (rowns_same (w' := WX) hT0 fun g hg => hst g (by have := HB.out.vOff g hg; omega))
          obtain ⟨da2, dc2, e2, hD2⟩ := owns_dis (rowns_same (w' := WX) hD0 fun g hg => hst g (by have := HB.out.uOff g hg; omega))
          cases e1
          cases e2
          have hN1 : NewR w.heap.size ta' := fun x hx => by have := HB.out.vOff x.block (by rw [hx]; rfl); omega
          have hN2 : NewR w.heap.size da' := fun x hx => by have := HB.out.uOff x.block (by rw [hx]; rfl); omega
          clear hst hT0 hD0
          have HOUT : Hid (wr.heap[w.heap.size + 1 + 1]? = some (.cells (refCells r (.slice ta' r.txs.length tc') (.slice da' r.dirty.length dc')) 43 (0, 0))) := HB.out.out
          have HRES : Hid (wr.heap[w.heap.size + 1]? = some (.cells zeroCellsR 43 (0, 0))) := HB.out.res
          go_upto_region 10 with fail
          refine wp_region_lit ?_
          refine wpList_loadRow rfl _ _ rfl (w.heap.size + 1 + 1) rfl (refCells r (.slice ta' r.txs.length tc') (.slice da' r.dirty.length dc')) _ (0, 0) HOUT.out _ Try.underlying43 rfl (by kernel_rfl) ?_
          refine wpList_storeRow rfl _ _ _ rfl rfl (w.heap.size + 1) rfl (refCells r (.slice ta' r.txs.length tc') (.slice da' r.dirty.length dc')) zeroCellsR rfl _ HRES.out (by kernel_rfl) rfl (ref_one r _ _ _ _ _ _) ?_
          refine wpList_nil ?_
          rw [← HWX.out]
          obtain ⟨z0, z1, z2, z3, z4, z5, z6, z7, z8, z9, z10, z11, z12, z13, z14, z15, z16⟩ := out_cells hb
          clear hb HOUT HRES
          go_wp2_with fail
          refine bodyPost_ret (v := .agg #[.int .i64 r.kind, .int .i64 r.tx, .int .u64 r.prev, .int .u64 r.next, .int .u32 r.page, .int .i64 r.op.kind, .int .i64 r.op.at', .string r.op.S, .string r.op.old, .int .i64 r.undo, .int .i64 r.index, .string r.key, .int .u32 r.rpage, .int .i64 r.rslot, .bool r.live, .slice ta' r.txs.length tc', .slice da' r.dirty.length dc']) (by simp [results, Try.results9, go_sem, z0, z1, z2, z3, z4, z5, z6, z7, z8, z9, z10, z11, z12, z13, z14, z15, z16]) rfl ?_
          exact ⟨ta', da', tc', dc', rfl, hbel, hT2, hD2, hN1, hN2⟩

end Go.Proofs.Ytndfjjcflbpdnaa
