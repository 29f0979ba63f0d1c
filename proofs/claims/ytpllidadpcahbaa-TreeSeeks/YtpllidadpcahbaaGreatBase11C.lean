/-
  check.page at a leaf, where another level is asked for.
  check.page at a root whose children are leaves.
  tree.Check of a root over leaves.
-/
import Derived.Test.YtpllidadpcahbaaGreatBase10C
import Derived.Test.YtpllidadpcahbaaGreatTreeInnerC
namespace Go.Proofs.YtpllidadpcahbaaGreat
open Go.RowKit Go.Sort
set_option linter.unusedVariables false
set_option linter.unusedSimpArgs false

section
variable {w : World} {cb p : Nat} {A : Nat → Prop} {P : PG} {l : LG} {d : DG} {pv : Value} {L : List Nat} {mb : Nat} {D : DataW Value} {next : Nat} {ln : Bool}

set_option maxHeartbeats 6400000 in
set_option maxRecDepth 20000 in
/-- check.page at a leaf, where another level is asked for. -/
theorem page_off (h : CkAt w cb p A P l d pv L mb D next ln) (n : Nat) (h1 : 1 ≤ n) (h2 : n ≤ 2048) (hno : n ∉ L) (hL : L.length < 64) {f : FrV} (hf : P.F n = some f) (hfit : f.sh.Fits) (hB : leafB f.sh = true) (s : SpanV) :
    Calls Tryz.prog 29 #[.pointer (some ⟨cb, 0, none⟩), .int .u32 n, .int .i64 1, s.val] w fun r w' => r = .returned (.bool false) ∧ Kept (CkS mb cb pv) w w' := by
  obtain ⟨W, HW⟩ : ∃ W, Hid (W = w.alloc (.cells #[.string s.fr.key, .int .u32 s.fr.page, .int .i64 s.fr.slot, .string s.tt.key, .int .u32 s.tt.page, .int .i64 s.tt.slot, .bool s.op] 88)) := ⟨_, rfl⟩
  have b1 : Below w.heap.size w W := by rw [HW.out]; exact (Below.refl _ _).alloc (Nat.le_refl _) _
  have sb : SBox W w.heap.size s := by rw [HW.out]; exact SBox.new _ _
  have hW := h.below b1
  have hk := hW.look (n := n) (by omega)
  rw [decide_eq_false hno] at hk
  obtain ⟨c0, c1, c2, c3, c4, c5⟩ := hW.box.cells
  have hlen := hfit.len
  have hMl : (leafL f.sh).length = f.sh.slots.length := leafL_length _
  obtain ⟨W1, HW1⟩ : ∃ W1, Hid (W1 = W.alloc (.cells #[] 131)) := ⟨_, rfl⟩
  have bW1 : Below W.heap.size W W1 := by rw [HW1.out]; exact (Below.refl _ _).alloc (Nat.le_refl _) _
  have B1 := below_chain b1 bW1
  obtain ⟨u, D', hu, hh, hv⟩ := h.meet (n := n) (by omega) hno
  obtain ⟨hrun, ku, hM⟩ := hu W1 B1
  clear hu
  have hmc := h.mc
  have hcl := h.box.lt
  have hrow := h.row.lt
  have huz := ku.size
  have hwz : w.heap.size < W.heap.size := by rw [HW.out]; simp
  have cu1 : (u W1).cell? ⟨cb, 1, none⟩ = some pv := by
    have := (h.box.below B1).cells.2.1
    exact (World.cell?_of_block (w := W1) (a := ⟨cb, 1, none⟩) (ku.block cb (by have := B1.size; omega) (by show ¬ cb = mb; omega))).trans this
  obtain ⟨V3, HV3⟩ : ∃ V3, Hid (V3 = (u W1).alloc (.cells #[.int .u32 n] 24)) := ⟨_, rfl⟩
  have hownV : Hid (V3.ownsRow (cb + 1) 24 1 pv L.length (L.map fun n : Nat => Value.int .u32 (n : Int))) := by
    have e1 := h.row.kept (row := none) (w' := W1) ⟨B1.os, B1.tape, B1.output, B1.size, fun i hi _ => B1.block i hi⟩ (by cases e : pv.ownBlock <;> simp)
    have e2 := e1.kept (row := some mb) (w' := u W1) ⟨ku.os, ku.tape, ku.output, ku.size, fun i hi q => ku.block i hi (fun e => q (by rw [e]))⟩ (by
      cases e : pv.ownBlock with
      | none => exact .inl rfl
      | some k => right; intro q; have := (hrow k e).1; simp at q; omega)
    rw [HV3.out]
    exact e2.alloc _
  obtain ⟨i0, hi, hz0, hz1, hz2⟩ := info_parts infoPage
  have hlenL := h.len
  unfold SpanV.val
  go_enter Tryz.func29, Tryz.ntmps29
  go_upto_region 1 with fail
  rw [← HW.out]
  clear HW
  go_upto_region 4 with fail
  rw [← HW1.out]
  obtain ⟨e0, e1, e2, e3, e4, e5⟩ := (hW.box.below bW1).cells
  clear HW1 c0 c1 c2 c3 c4 c5 hk
  have hnews : Hid (∀ j u', ([.int .u32 (n : Int)] : List Value)[j]? = some u' → V3.cell? ((⟨(u W1).heap.size, 0, none⟩ : Addr).add j) = some u') := by rw [HV3.out]; exact cell_one_new _ _ _
  rw [HV3.out] at hnews hownV
  go_upto_region 5 with fail
  go_wp2_with (at_builtin; refine wpList_append_lies _ rfl _ _ 38 rfl (cb + 1) 24 i0 _ 1 4 Tryz.underlying38 hi hz0 hz1 hz2 rfl (by decide) pv L.length (L.map fun n : Nat => Value.int .u32 (n : Int)) rfl hownV.out ⟨(u W1).heap.size, 0, none⟩ 1 1 [.int .u32 n] rfl rfl hnews.out (by intro u' hu'; simp at hu'; subst hu'; rfl) (by decide) (by unfold maxLen; omega) (by omega) (by have := B1.size; simp; omega) _ rfl ?_; intro g cap w3 hown3 hgrow3 hloc3 hlt3; obtain ⟨F1, F2, F3, F4, F5⟩ := h.pushed hL B1 ku hM hh hv _ hown3 hgrow3)
  obtain ⟨W4, HW4⟩ : ∃ W4, Hid (W4 = w3.setCell ⟨cb, 1, none⟩ (.slice (some ⟨g, 0, none⟩) (L.length + 1) cap)) := ⟨_, rfl⟩
  have hsb4 : W4.heap[w.heap.size]? = W.heap[w.heap.size]? := by
    have q1 : pv.ownBlock ≠ some w.heap.size := fun q => by have := (hrow _ q).2; omega
    have q2 : w.heap.size ≠ cb := by omega
    have q3 : w.heap.size < W1.heap.size := Nat.lt_of_lt_of_le hwz bW1.size
    rw [HW4.out, heap_setCell_other _ _ _ _ (by simpa using q2), hgrow3.block w.heap.size (by simp; omega) (fun q => q1 q.symm), heap_old _ _ (by omega), ku.block w.heap.size q3 (by show ¬ w.heap.size = mb; omega), bW1.block w.heap.size hwz]
  have sb4 := sb.same hsb4
  have hpv : Hid (∀ k, (Value.slice (some ⟨g, 0, none⟩) (L.length + 1) cap).ownBlock = some k → pv.ownBlock = some k ∨ w.heap.size ≤ k) := fun k hk => by
    have hk' : g = k := by simpa [Value.ownBlock] using hk
    subst hk'
    rcases hloc3 with q | q
    · exact .inl q
    · right; have := B1.size; simp at q; omega
  rw [← HW4.out] at F1 F2 ⊢
  have hcb := F1.box.lt
  have HFT := hidn (tfetch_leaf F1.sys n h1 h2 hf hfit hB)
  clear HW4 F3 F4 F5 hgrow3 hown3 hloc3 hlt3 hownV hnews hM ku hrun hh hv e0 e1 e2 e3 e4 e5 cu1 hW sb HV3
  refine HFT.out.mono ?_
  rintro r w5 ⟨a5, c5, rfl, r5, b5⟩
  rw [show f.sh.slots.length = (leafL f.sh).length from hMl.symm]
  have C5 := F1.below b5
  have K5 := F2.after b5
  have s5 := sb4.below b5 sb4.lt
  have hz5 : W4.heap.size ≤ w5.heap.size := b5.size
  have hm64 : (leafL f.sh).length ≤ 64 := by rw [hMl]; exact hlen
  obtain ⟨M, HMM⟩ : ∃ M, Hid (leafL f.sh = M) := ⟨_, rfl⟩
  obtain ⟨nx, HNX⟩ : ∃ nx, Hid (nextF f.sh = nx) := ⟨_, rfl⟩
  rw [HMM.out] at r5 hm64
  rw [HMM.out, HNX.out]
  clear F1 F2 HFT sb4 hsb4 hMl
  obtain ⟨W6, HW6⟩ : ∃ W6, Hid (W6 = w5.alloc (.cells #[.int .u32 n, .int .i64 0, .slice none 0 0, .int .u32 nx, .slice a5 M.length c5] 82)) := ⟨_, rfl⟩
  have k6 : Below w5.heap.size w5 W6 := by rw [HW6.out]; exact (Below.refl _ _).alloc (Nat.le_refl _) _
  have x6 : RowV W6 w5.heap.size 5 (five (.int .u32 n) (.int .i64 0) (.slice none 0 0) (.int .u32 nx) (.slice a5 M.length c5)) := by rw [HW6.out]; exact RowV.five_new _ _ _ _ _ _ _
  have C6 := C5.below k6
  have K6 := K5.after k6
  have s6 := s5.below k6 s5.lt
  have r6 := r5.belowF k6
  have hx6 : w5.heap.size < W6.heap.size := by rw [HW6.out]; simp
  obtain ⟨q0, q1, q2, q3, q4⟩ := x6.cells5
  rw [HW6.out] at q0 q1 q2 q3 q4
  have K6' := hidn K6
  rw [HW6.out] at K6'
  clear C5 K5 s5 r5 C6 K6 s6 r6 h
  unfold leafS
  go_wp2
  go_ret
  exact ⟨rfl, K6'.out⟩

end

end Go.Proofs.YtpllidadpcahbaaGreat

namespace Go.Proofs.YtpllidadpcahbaaGreat
open Go.RowKit Go.Sort
set_option linter.unusedVariables false
set_option linter.unusedSimpArgs false

section
variable {w : World} {cb p : Nat} {A : Nat → Prop} {P : PG} {l : LG} {d : DG} {pv : Value} {L : List Nat} {mb : Nat} {D : DataW Value} {next : Nat}

set_option maxHeartbeats 6400000 in
set_option maxRecDepth 20000 in
/-- check.page at a root over leaves. -/
theorem page_root (Fs : Nat → SheetV) (h : CkAt w cb p A P l d pv L mb D next false) (n : Nat) (h1 : 1 ≤ n) (h2 : n ≤ 2048) (hno : n ∉ L) {f : FrV} (hf : P.F n = some f) (hfit : f.sh.Fits) (hN : leafB f.sh = false) (hB : innerB f.sh = true) (h0 : innerL f.sh ≠ []) (hlv : levelF f.sh = 1) (hl : L.length + 1 + (innerL f.sh).length ≤ 64)
    (hP : ∀ x ∈ innerL f.sh, (1 ≤ x.page ∧ x.page ≤ 2048) ∧ ∃ f', P.F x.page = some f' ∧ f'.sh = Fs x.page ∧ f'.sh.Fits ∧ leafB f'.sh = true)
    (hz : (∀ x, (froms (innerL f.sh))[0]? = some x → x = zeroE) ∨ (∃ x, (froms (innerL f.sh))[0]? = some x ∧ x.key.toList ≠ [])) (s : SpanV) :
    Calls Tryz.prog 29 #[.pointer (some ⟨cb, 0, none⟩), .int .u32 n, .int .i64 (-1), s.val] w (InnerOut Fs w cb p A P l d (L ++ [n]) mb s (innerL f.sh)) := by
  have hL : L.length < 64 := by omega
  obtain ⟨W, HW⟩ : ∃ W, Hid (W = w.alloc (.cells #[.string s.fr.key, .int .u32 s.fr.page, .int .i64 s.fr.slot, .string s.tt.key, .int .u32 s.tt.page, .int .i64 s.tt.slot, .bool s.op] 88)) := ⟨_, rfl⟩
  have b1 : Below w.heap.size w W := by rw [HW.out]; exact (Below.refl _ _).alloc (Nat.le_refl _) _
  have sb : SBox W w.heap.size s := by rw [HW.out]; exact SBox.new _ _
  have hW := h.below b1
  have hk := hW.look (n := n) (by omega)
  rw [decide_eq_false hno] at hk
  obtain ⟨c0, c1, c2, c3, c4, c5⟩ := hW.box.cells
  have hlen := hfit.len
  have hMl : (innerL f.sh).length = f.sh.slots.length := innerL_length _
  have hsl : f.sh.slots ≠ [] := fun q => h0 (List.eq_nil_of_length_eq_zero (by rw [hMl, q]; rfl))
  obtain ⟨W1, HW1⟩ : ∃ W1, Hid (W1 = W.alloc (.cells #[] 131)) := ⟨_, rfl⟩
  have bW1 : Below W.heap.size W W1 := by rw [HW1.out]; exact (Below.refl _ _).alloc (Nat.le_refl _) _
  have B1 := below_chain b1 bW1
  obtain ⟨u, D', hu, hh, hv⟩ := h.meet (n := n) (by omega) hno
  obtain ⟨hrun, ku, hM⟩ := hu W1 B1
  clear hu
  have hmc := h.mc
  have hcl := h.box.lt
  have hrow := h.row.lt
  have huz := ku.size
  have hwz : w.heap.size < W.heap.size := by rw [HW.out]; simp
  have cu1 : (u W1).cell? ⟨cb, 1, none⟩ = some pv := by
    have := (h.box.below B1).cells.2.1
    exact (World.cell?_of_block (w := W1) (a := ⟨cb, 1, none⟩) (ku.block cb (by have := B1.size; omega) (by show ¬ cb = mb; omega))).trans this
  obtain ⟨V3, HV3⟩ : ∃ V3, Hid (V3 = (u W1).alloc (.cells #[.int .u32 n] 24)) := ⟨_, rfl⟩
  have hownV : Hid (V3.ownsRow (cb + 1) 24 1 pv L.length (L.map fun n : Nat => Value.int .u32 (n : Int))) := by
    have e1 := h.row.kept (row := none) (w' := W1) ⟨B1.os, B1.tape, B1.output, B1.size, fun i hi _ => B1.block i hi⟩ (by cases e : pv.ownBlock <;> simp)
    have e2 := e1.kept (row := some mb) (w' := u W1) ⟨ku.os, ku.tape, ku.output, ku.size, fun i hi q => ku.block i hi (fun e => q (by rw [e]))⟩ (by
      cases e : pv.ownBlock with
      | none => exact .inl rfl
      | some k => right; intro q; have := (hrow k e).1; simp at q; omega)
    rw [HV3.out]
    exact e2.alloc _
  obtain ⟨i0, hi, hz0, hz1, hz2⟩ := info_parts infoPage
  have hlenL := h.len
  unfold SpanV.val
  go_enter Tryz.func29, Tryz.ntmps29
  go_upto_region 1 with fail
  rw [← HW.out]
  clear HW
  go_upto_region 4 with fail
  rw [← HW1.out]
  obtain ⟨e0, e1, e2, e3, e4, e5⟩ := (hW.box.below bW1).cells
  clear HW1 c0 c1 c2 c3 c4 c5 hk
  have hnews : Hid (∀ j u', ([.int .u32 (n : Int)] : List Value)[j]? = some u' → V3.cell? ((⟨(u W1).heap.size, 0, none⟩ : Addr).add j) = some u') := by rw [HV3.out]; exact cell_one_new _ _ _
  rw [HV3.out] at hnews hownV
  go_upto_region 5 with fail
  go_wp2_with (at_builtin; refine wpList_append_lies _ rfl _ _ 38 rfl (cb + 1) 24 i0 _ 1 4 Tryz.underlying38 hi hz0 hz1 hz2 rfl (by decide) pv L.length (L.map fun n : Nat => Value.int .u32 (n : Int)) rfl hownV.out ⟨(u W1).heap.size, 0, none⟩ 1 1 [.int .u32 n] rfl rfl hnews.out (by intro u' hu'; simp at hu'; subst hu'; rfl) (by decide) (by unfold maxLen; omega) (by omega) (by have := B1.size; simp; omega) _ rfl ?_; intro g cap w3 hown3 hgrow3 hloc3 hlt3; obtain ⟨F1, F2, F3, F4, F5⟩ := h.pushed hL B1 ku hM hh hv _ hown3 hgrow3)
  obtain ⟨W4, HW4⟩ : ∃ W4, Hid (W4 = w3.setCell ⟨cb, 1, none⟩ (.slice (some ⟨g, 0, none⟩) (L.length + 1) cap)) := ⟨_, rfl⟩
  have hsb4 : W4.heap[w.heap.size]? = W.heap[w.heap.size]? := by
    have q1 : pv.ownBlock ≠ some w.heap.size := fun q => by have := (hrow _ q).2; omega
    have q2 : w.heap.size ≠ cb := by omega
    have q3 : w.heap.size < W1.heap.size := Nat.lt_of_lt_of_le hwz bW1.size
    rw [HW4.out, heap_setCell_other _ _ _ _ (by simpa using q2), hgrow3.block w.heap.size (by simp; omega) (fun q => q1 q.symm), heap_old _ _ (by omega), ku.block w.heap.size q3 (by show ¬ w.heap.size = mb; omega), bW1.block w.heap.size hwz]
  have sb4 := sb.same hsb4
  rw [← HW4.out] at F1 F2 ⊢
  have hcb := F1.box.lt
  have HFT := hidn (tfetch_inner F1.sys n h1 h2 hf hfit hN hB hsl)
  have hlt4 : Hid (g < W4.heap.size) := by show g < _; rw [HW4.out]; simpa using hlt3
  clear HW4 F3 F4 F5 hgrow3 hown3 hloc3 hlt3 hownV hnews hM ku hrun hh hv e0 e1 e2 e3 e4 e5 cu1 hW sb HV3
  refine HFT.out.mono ?_
  rintro r w5 ⟨a5, c5, rfl, r5, b5⟩
  rw [show f.sh.slots.length = (innerL f.sh).length from hMl.symm]
  have C5 := F1.below b5
  have K5 := F2.after b5
  have s5 := sb4.below b5 sb4.lt
  have hz5 : W4.heap.size ≤ w5.heap.size := b5.size
  obtain ⟨M, HMM⟩ : ∃ M, Hid (innerL f.sh = M) := ⟨_, rfl⟩
  obtain ⟨nx, HNX⟩ : ∃ nx, Hid (levelF f.sh = nx) := ⟨_, rfl⟩
  rw [HMM.out] at r5 h0 hl hP hz
  rw [HMM.out, HNX.out]
  have hnx1 := hidn (show nx = 1 by rw [← HNX.out]; exact hlv)
  have hM0 : M.length ≠ 0 := fun q => h0 (List.eq_nil_of_length_eq_zero q)
  clear F1 F2 HFT sb4 hsb4 hMl
  obtain ⟨W6, HW6⟩ : ∃ W6, Hid (W6 = w5.alloc (.cells #[.int .u32 n, .int .i64 nx, .slice a5 M.length c5, .int .u32 0, .slice none 0 0] 82)) := ⟨_, rfl⟩
  have k6 : Below w5.heap.size w5 W6 := by rw [HW6.out]; exact (Below.refl _ _).alloc (Nat.le_refl _) _
  have x6 : RowV W6 w5.heap.size 5 (five (.int .u32 n) (.int .i64 nx) (.slice a5 M.length c5) (.int .u32 0) (.slice none 0 0)) := by rw [HW6.out]; exact RowV.five_new _ _ _ _ _ _ _
  have C6 := C5.below k6
  have K6 := K5.after k6
  have s6 := s5.below k6 s5.lt
  have r6 := r5.belowF k6
  have hx6 : w5.heap.size < W6.heap.size := by rw [HW6.out]; simp
  have HIL := hidn (isLeaf_inner n nx a5 M.length c5 W6 hM0)
  unfold innerS at HIL ⊢
  obtain ⟨q0, q1, q2, q3, q4⟩ := x6.cells5
  rw [HW6.out] at q0 q1 q2 q3 q4
  clear C5 K5 s5 r5
  go_wp2_with fail
  rw [← HW6.out]
  refine HIL.out.mono ?_
  rintro r w7 ⟨rfl, b7⟩
  have C7 := C6.below b7
  have K7 := K6.after b7
  have s7 := s6.below b7 s6.lt
  have r7 := r6.belowF b7
  have x7 := x6.below b7 hx6
  clear C6 K6 s6 r6 x6 HW6 HIL q0 q1 q2 q3 q4
  obtain ⟨q0, q1, q2, q3, q4⟩ := x7.cells5
  obtain ⟨t0, t1, t2, t3, t4, t5, t6, _⟩ := s7
  have hgW : g < W4.heap.size := hlt4.out
  have hfar : ∀ b o, a5 = some ⟨b, o, none⟩ → b ≠ mb ∧ b ≠ cb ∧ (Value.slice (some ⟨g, 0, none⟩) (L.length + 1) cap).ownBlock ≠ some b := fun b o e => by
    rcases r7 with q | ⟨b', o', e', hb', _⟩
    · exact absurd q h0
    · rw [e'] at e
      simp only [Option.some.injEq, Addr.mk.injEq, and_true] at e
      refine ⟨by omega, by omega, fun q => ?_⟩
      have : g = b := by simpa [Value.ownBlock] using q
      omega
  have HLF := hidn (cinner_any Fs C7 n nx a5 c5 M s r7.at (by rw [List.length_append]; simpa using hl) h0 hnx1.out hfar hP hz)
  unfold innerS SpanV.val at HLF
  have KB : Hid (Below mb w w7) := ⟨K7.os, K7.tape, K7.output, K7.size, fun q hq => K7.block q (by have := h.met.lt; omega) (fun hs => by
    rcases hs with e | e | e
    · omega
    · omega
    · have := (hrow q e).1; omega)⟩
  clear hfar
  go_wp2_with fail
  refine HLF.out.mono ?_
  rintro r w8 ⟨⟨b, rfl, hbi, hst⟩, b8⟩
  have hE : Hid (InnerOut Fs w cb p A P l d (L ++ [n]) mb s (innerL f.sh) (.returned (.bool b)) w8) := by
    rw [HMM.out]
    exact ⟨⟨b, rfl, hbi, hst⟩, KB.out.trans b8⟩
  clear t0 t1 t2 t3 t4 t5 t6 q0 q1 q2 q3 q4 hbi hst C7 K7 r7 x7 HLF h
  go_wp2
  go_ret
  exact hE.out

end

end Go.Proofs.YtpllidadpcahbaaGreat

namespace Go.Proofs.YtpllidadpcahbaaGreat
open Go.RowKit Go.Sort
set_option linter.unusedVariables false
set_option linter.unusedSimpArgs false

/-- The bounds of a root. -/
def span0 : SpanV := ⟨zeroE, zeroE, true⟩

/-- A tree of a root over leaves is well formed. -/
def TreeOk (Fs : Nat → SheetV) (n : Nat) (C : List ChildV) : Prop := (HeadOk span0 C ∧ ∀ i, KidOk Fs [n] span0 C i) ∧ ∀ y, C[C.length - 1]? = some y → nextF (Fs y.page) = 0

/-- What Check tells. -/
structure CheckOut (Fs : Nat → SheetV) (w : World) (n : Nat) (C : List ChildV) (r : Ending) (w' : World) : Prop where
  yes : TreeOk Fs n C → ∃ v, r = .returned (.tuple #[v, .int .i64 0]) ∧ w'.ownsRow w.heap.size 24 1 v (C.length + 1) ((n :: C.map ChildV.page).map fun n : Nat => Value.int .u32 (n : Int))
  no : ¬ TreeOk Fs n C → r = .returned (.tuple #[.slice none 0 0, .int .i64 120])
  bel : Below w.heap.size w w'

set_option maxHeartbeats 3200000 in
set_option maxRecDepth 20000 in
theorem check_root (Fs : Nat → SheetV) {w : World} {p : Nat} {A : Nat → Prop} {P : PG} {l : LG} {d : DG} (hS : Sys w p A P l d) (n : Nat) (h1 : 1 ≤ n) (h2 : n ≤ 2048) {f : FrV} (hf : P.F n = some f) (hfit : f.sh.Fits) (hN : leafB f.sh = false) (hB : innerB f.sh = true) (h0 : innerL f.sh ≠ []) (hlv : levelF f.sh = 1) (hl : 1 + (innerL f.sh).length ≤ 64)
    (hP : ∀ x ∈ innerL f.sh, (1 ≤ x.page ∧ x.page ≤ 2048) ∧ ∃ f', P.F x.page = some f' ∧ f'.sh = Fs x.page ∧ f'.sh.Fits ∧ leafB f'.sh = true)
    (hz : (∀ x, (froms (innerL f.sh))[0]? = some x → x = zeroE) ∨ (∃ x, (froms (innerL f.sh))[0]? = some x ∧ x.key.toList ≠ [])) :
    Calls Tryz.prog 10 #[.pointer (some ⟨p, 0, none⟩), .int .u32 n] w (CheckOut Fs w n (innerL f.sh)) := by
  have hmm := @run_makeMap Tryz.prog
  obtain ⟨W, HW⟩ : ∃ W, Hid (W = (w.alloc (.map #[] 0)).alloc (.cells #[.pointer (some ⟨p, 0, none⟩), .slice none 0 0, .map (some w.heap.size), .int .u32 0, .bool false, .int .i64 0] 85)) := ⟨_, rfl⟩
  have b1 : Below w.heap.size w W := by rw [HW.out]; exact ((Below.refl _ _).alloc (Nat.le_refl _) _).alloc (by simp) _
  have C1 : CkAt W (w.heap.size + 1) p A P l d (.slice none 0 0) [] w.heap.size (.map []) 0 false := by
    refine ⟨hS.below b1, ⟨fun j hj => ?_, by rw [HW.out]; simp⟩, ?_, fun q _ => by simp; rfl, fun q _ => rfl, World.ownsRow_nil _ _ _ _, fun k hk => hS.lt k hk, by omega, by simp⟩
    · have hblk : W.heap[w.heap.size + 1]? = some (.cells #[.pointer (some ⟨p, 0, none⟩), .slice none 0 0, .map (some w.heap.size), .int .u32 0, .bool false, .int .i64 0] 85 (0, 0)) := by
        rw [HW.out]
        have := heap_alloc_new (w.alloc (.map #[] 0)) (.cells #[.pointer (some ⟨p, 0, none⟩), .slice none 0 0, .map (some w.heap.size), .int .u32 0, .bool false, .int .i64 0] 85)
        simpa using this
      rcases (show j = 0 ∨ j = 1 ∨ j = 2 ∨ j = 3 ∨ j = 4 ∨ j = 5 by omega) with rfl | rfl | rfl | rfl | rfl | rfl <;>
        (unfold World.cell? World.frozen?; simp only [hblk]; exact ⟨rfl, rfl⟩)
    · rw [HW.out]; exact (MapV.made 24 w).same (heap_old _ _ (by simp))
  have HPG := hidn (page_root Fs C1 n h1 h2 (by simp) hf hfit hN hB h0 hlv (by simpa using hl) hP hz span0)
  simp only [span0, SpanV.val, zeroE] at HPG
  go_enter Tryz.func10, Tryz.ntmps10
  go_wp2_with fail
  rw [← HW.out]
  refine HPG.out.mono ?_
  rintro r w2 ⟨⟨b, rfl, hbi, hst⟩, b2⟩
  have B2 := hidn (b1.trans b2)
  have hM0 : 0 < (innerL f.sh).length := List.length_pos_iff.2 h0
  obtain ⟨ylast, hyl⟩ : ∃ y, (innerL f.sh)[(innerL f.sh).length - 1]? = some y := ⟨_, List.getElem?_eq_getElem (by omega)⟩
  clear HW HPG C1 hP hz
  cases b with
  | false =>
    have hno := hidn (show ¬ TreeOk Fs n (innerL f.sh) from fun q => by have := hbi.2 q.1; cases this)
    clear hbi hst
    go_wp2
    go_ret2
    exact ⟨fun q => absurd q hno.out, fun _ => rfl, B2.out⟩
  | true =>
    have hgood := hidn (hbi.1 rfl)
    obtain ⟨pv', D', nx, hck, hnx⟩ := hst rfl
    have hnx1 := hnx _ hyl
    have hrow := hidn hck.row
    obtain ⟨c0, c1, c2, c3, c4, c5⟩ := hck.box.cells
    clear hbi hst hck hnx
    by_cases hn0 : nx = 0
    · have hyes := hidn (show TreeOk Fs n (innerL f.sh) from ⟨hgood.out, fun y hy => by
        obtain rfl : ylast = y := by rw [hyl] at hy; simpa using hy
        rw [← hnx1]; exact hn0⟩)
      rw [hn0] at c3
      clear hn0 hnx1
      go_wp2
      go_ret2
      refine ⟨fun _ => ⟨pv', rfl, ?_⟩, fun q => absurd hyes.out q, B2.out⟩
      obtain ⟨r1, r2⟩ := hrow.out
      rw [show (([] : List Nat) ++ [n] ++ (innerL f.sh).map ChildV.page) = n :: (innerL f.sh).map ChildV.page from rfl] at r1 r2
      rw [show (n :: (innerL f.sh).map ChildV.page).length = (innerL f.sh).length + 1 by simp] at r1 r2
      refine ⟨r1, ?_⟩
      rcases r2 with q | ⟨g, cap, cur, e1, e2, e3⟩
      · exact .inl q
      · exact .inr ⟨g, cap, cur, e1, by omega, e3⟩
    · have hno := hidn (show ¬ TreeOk Fs n (innerL f.sh) from fun q => hn0 (by rw [hnx1]; exact q.2 _ hyl))
      have hn0' : ¬ ((nx : Int) = 0) := by omega
      clear hnx1
      go_wp2
      go_ret2
      exact ⟨fun q => absurd q hno.out, fun _ => rfl, B2.out⟩

end Go.Proofs.YtpllidadpcahbaaGreat
