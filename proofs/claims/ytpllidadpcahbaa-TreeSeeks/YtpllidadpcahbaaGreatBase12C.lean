/-
  check.page at a root of level 2 whose children are leaves, and tree.Check of it: it is not well formed.
  The small functions of girderlaw13.
  Leaves and inner pages of any number; page.Apply of a format on a blank page.
  girderlaw13.leafSlot.
  The order of entries.
  The trees of girderlaw13: their leaves and children as plain lists, and when they are well formed.
-/
import Derived.Test.YtpllidadpcahbaaGreatTreeTwoC
import Derived.Test.YtpllidadpcahbaaGreatBase11C
import Derived.Test.YtpllidadpcahbaaGreatNodeLawC
namespace Go.Proofs.YtpllidadpcahbaaGreat
open Go.RowKit Go.Sort
set_option linter.unusedVariables false
set_option linter.unusedSimpArgs false

section
variable {w : World} {cb p : Nat} {A : Nat → Prop} {P : PG} {l : LG} {d : DG} {pv : Value} {L : List Nat} {mb : Nat} {D : DataW Value} {next : Nat}

set_option maxHeartbeats 6400000 in
set_option maxRecDepth 20000 in
/-- check.page at a root over leaves. -/
theorem page_two (Fs : Nat → SheetV) (h : CkAt w cb p A P l d pv L mb D next false) (n : Nat) (h1 : 1 ≤ n) (h2 : n ≤ 2048) (hno : n ∉ L) {f : FrV} (hf : P.F n = some f) (hfit : f.sh.Fits) (hN : leafB f.sh = false) (hB : innerB f.sh = true) (h0 : innerL f.sh ≠ []) (hlv : levelF f.sh = 2) (hl : L.length + 1 + (innerL f.sh).length ≤ 64)
    (hP : ∀ x ∈ innerL f.sh, (1 ≤ x.page ∧ x.page ≤ 2048) ∧ ∃ f', P.F x.page = some f' ∧ f'.sh = Fs x.page ∧ f'.sh.Fits ∧ leafB f'.sh = true)
    (hz : (∀ x, (froms (innerL f.sh))[0]? = some x → x = zeroE) ∨ (∃ x, (froms (innerL f.sh))[0]? = some x ∧ x.key.toList ≠ [])) (s : SpanV) :
    Calls Tryz.prog 29 #[.pointer (some ⟨cb, 0, none⟩), .int .u32 n, .int .i64 (-1), s.val] w fun r w' => r = .returned (.bool false) ∧ Below mb w w' := by
  have hL : L.length < 64 := by omega
  obtain ⟨W, HW⟩ : ∃ W, Hid (W = w.alloc (.cells #[.string s.fr.key, .int .u32 s.fr.page, .int .i64 s.fr.slot, .string s.tt.key, .int .u32 s.tt.page, .int .i64 s.tt.slot, .bool s.op] 88)) := ⟨_, rfl⟩
  have b1 : Below w.heap.size w W := by rw [HW.out]; exact (Below.refl _ _).alloc (Nat.le_refl _) _
  have sb : SBox W w.heap.size s := by rw [HW.out]; exact SBox.new _ _
  have hW := h.below b1
  have hk := hW.look (n := n) (by omega)
  rw [decide_eq_false hno] at hk
  obtain ⟨c0, c1, c2, c3, c4, c5⟩ := hW.box.cells
  have hlen := hfit.len
  have hMl : (innerL f.sh).length = f.sh.slots.length := innerL_length _
  have hsl : f.sh.slots ≠ [] := fun q => h0 (List.eq_nil_of_length_eq_zero (by rw [hMl, q]; rfl))
  obtain ⟨W1, HW1⟩ : ∃ W1, Hid (W1 = W.alloc (.cells #[] 131)) := ⟨_, rfl⟩
  have bW1 : Below W.heap.size W W1 := by rw [HW1.out]; exact (Below.refl _ _).alloc (Nat.le_refl _) _
  have B1 := below_chain b1 bW1
  obtain ⟨u, D', hu, hh, hv⟩ := h.meet (n := n) (by omega) hno
  obtain ⟨hrun, ku, hM⟩ := hu W1 B1
  clear hu
  have hmc := h.mc
  have hcl := h.box.lt
  have hrow := h.row.lt
  have huz := ku.size
  have hwz : w.heap.size < W.heap.size := by rw [HW.out]; simp
  have cu1 : (u W1).cell? ⟨cb, 1, none⟩ = some pv := by
    have := (h.box.below B1).cells.2.1
    exact (World.cell?_of_block (w := W1) (a := ⟨cb, 1, none⟩) (ku.block cb (by have := B1.size; omega) (by show ¬ cb = mb; omega))).trans this
  obtain ⟨V3, HV3⟩ : ∃ V3, Hid (V3 = (u W1).alloc (.cells #[.int .u32 n] 24)) := ⟨_, rfl⟩
  have hownV : Hid (V3.ownsRow (cb + 1) 24 1 pv L.length (L.map fun n : Nat => Value.int .u32 (n : Int))) := by
    have e1 := h.row.kept (row := none) (w' := W1) ⟨B1.os, B1.tape, B1.output, B1.size, fun i hi _ => B1.block i hi⟩ (by cases e : pv.ownBlock <;> simp)
    have e2 := e1.kept (row := some mb) (w' := u W1) ⟨ku.os, ku.tape, ku.output, ku.size, fun i hi q => ku.block i hi (fun e => q (by rw [e]))⟩ (by
      cases e : pv.ownBlock with
      | none => exact .inl rfl
      | some k => right; intro q; have := (hrow k e).1; simp at q; omega)
    rw [HV3.out]
    exact e2.alloc _
  obtain ⟨i0, hi, hz0, hz1, hz2⟩ := info_parts infoPage
  have hlenL := h.len
  unfold SpanV.val
  go_enter Tryz.func29, Tryz.ntmps29
  go_upto_region 1 with fail
  rw [← HW.out]
  clear HW
  go_upto_region 4 with fail
  rw [← HW1.out]
  obtain ⟨e0, e1, e2, e3, e4, e5⟩ := (hW.box.below bW1).cells
  clear HW1 c0 c1 c2 c3 c4 c5 hk
  have hnews : Hid (∀ j u', ([.int .u32 (n : Int)] : List Value)[j]? = some u' → V3.cell? ((⟨(u W1).heap.size, 0, none⟩ : Addr).add j) = some u') := by rw [HV3.out]; exact cell_one_new _ _ _
  rw [HV3.out] at hnews hownV
  go_upto_region 5 with fail
  go_wp2_with (at_builtin; refine wpList_append_lies _ rfl _ _ 38 rfl (cb + 1) 24 i0 _ 1 4 Tryz.underlying38 hi hz0 hz1 hz2 rfl (by decide) pv L.length (L.map fun n : Nat => Value.int .u32 (n : Int)) rfl hownV.out ⟨(u W1).heap.size, 0, none⟩ 1 1 [.int .u32 n] rfl rfl hnews.out (by intro u' hu'; simp at hu'; subst hu'; rfl) (by decide) (by unfold maxLen; omega) (by omega) (by have := B1.size; simp; omega) _ rfl ?_; intro g cap w3 hown3 hgrow3 hloc3 hlt3; obtain ⟨F1, F2, F3, F4, F5⟩ := h.pushed hL B1 ku hM hh hv _ hown3 hgrow3)
  obtain ⟨W4, HW4⟩ : ∃ W4, Hid (W4 = w3.setCell ⟨cb, 1, none⟩ (.slice (some ⟨g, 0, none⟩) (L.length + 1) cap)) := ⟨_, rfl⟩
  have hsb4 : W4.heap[w.heap.size]? = W.heap[w.heap.size]? := by
    have q1 : pv.ownBlock ≠ some w.heap.size := fun q => by have := (hrow _ q).2; omega
    have q2 : w.heap.size ≠ cb := by omega
    have q3 : w.heap.size < W1.heap.size := Nat.lt_of_lt_of_le hwz bW1.size
    rw [HW4.out, heap_setCell_other _ _ _ _ (by simpa using q2), hgrow3.block w.heap.size (by simp; omega) (fun q => q1 q.symm), heap_old _ _ (by omega), ku.block w.heap.size q3 (by show ¬ w.heap.size = mb; omega), bW1.block w.heap.size hwz]
  have sb4 := sb.same hsb4
  rw [← HW4.out] at F1 F2 ⊢
  have hcb := F1.box.lt
  have HFT := hidn (tfetch_inner F1.sys n h1 h2 hf hfit hN hB hsl)
  have hlt4 : Hid (g < W4.heap.size) := by show g < _; rw [HW4.out]; simpa using hlt3
  clear HW4 F3 F4 F5 hgrow3 hown3 hloc3 hlt3 hownV hnews hM ku hrun hh hv e0 e1 e2 e3 e4 e5 cu1 hW sb HV3
  refine HFT.out.mono ?_
  rintro r w5 ⟨a5, c5, rfl, r5, b5⟩
  rw [show f.sh.slots.length = (innerL f.sh).length from hMl.symm]
  have C5 := F1.below b5
  have K5 := F2.after b5
  have s5 := sb4.below b5 sb4.lt
  have hz5 : W4.heap.size ≤ w5.heap.size := b5.size
  obtain ⟨M, HMM⟩ : ∃ M, Hid (innerL f.sh = M) := ⟨_, rfl⟩
  obtain ⟨nx, HNX⟩ : ∃ nx, Hid (levelF f.sh = nx) := ⟨_, rfl⟩
  rw [HMM.out] at r5 h0 hl hP hz
  rw [HMM.out, HNX.out]
  have hnx1 := hidn (show nx = 2 by rw [← HNX.out]; exact hlv)
  have hM0 : M.length ≠ 0 := fun q => h0 (List.eq_nil_of_length_eq_zero q)
  clear F1 F2 HFT sb4 hsb4 hMl
  obtain ⟨W6, HW6⟩ : ∃ W6, Hid (W6 = w5.alloc (.cells #[.int .u32 n, .int .i64 nx, .slice a5 M.length c5, .int .u32 0, .slice none 0 0] 82)) := ⟨_, rfl⟩
  have k6 : Below w5.heap.size w5 W6 := by rw [HW6.out]; exact (Below.refl _ _).alloc (Nat.le_refl _) _
  have x6 : RowV W6 w5.heap.size 5 (five (.int .u32 n) (.int .i64 nx) (.slice a5 M.length c5) (.int .u32 0) (.slice none 0 0)) := by rw [HW6.out]; exact RowV.five_new _ _ _ _ _ _ _
  have C6 := C5.below k6
  have K6 := K5.after k6
  have s6 := s5.below k6 s5.lt
  have r6 := r5.belowF k6
  have hx6 : w5.heap.size < W6.heap.size := by rw [HW6.out]; simp
  have HIL := hidn (isLeaf_inner n nx a5 M.length c5 W6 hM0)
  unfold innerS at HIL ⊢
  obtain ⟨q0, q1, q2, q3, q4⟩ := x6.cells5
  rw [HW6.out] at q0 q1 q2 q3 q4
  clear C5 K5 s5 r5
  go_wp2_with fail
  rw [← HW6.out]
  refine HIL.out.mono ?_
  rintro r w7 ⟨rfl, b7⟩
  have C7 := C6.below b7
  have K7 := K6.after b7
  have s7 := s6.below b7 s6.lt
  have r7 := r6.belowF b7
  have x7 := x6.below b7 hx6
  clear C6 K6 s6 r6 x6 HW6 HIL q0 q1 q2 q3 q4
  obtain ⟨q0, q1, q2, q3, q4⟩ := x7.cells5
  obtain ⟨t0, t1, t2, t3, t4, t5, t6, _⟩ := s7
  have hgW : g < W4.heap.size := hlt4.out
  have hfar : ∀ b o, a5 = some ⟨b, o, none⟩ → b ≠ mb ∧ b ≠ cb ∧ (Value.slice (some ⟨g, 0, none⟩) (L.length + 1) cap).ownBlock ≠ some b := fun b o e => by
    rcases r7 with q | ⟨b', o', e', hb', _⟩
    · exact absurd q h0
    · rw [e'] at e
      simp only [Option.some.injEq, Addr.mk.injEq, and_true] at e
      refine ⟨by omega, by omega, fun q => ?_⟩
      have : g = b := by simpa [Value.ownBlock] using q
      omega
  have HLF := hidn (cinner_two Fs C7 n nx a5 c5 M s r7.at (by rw [List.length_append]; simpa using hl) h0 hnx1.out hfar hP hz)
  unfold innerS SpanV.val at HLF
  have KB : Hid (Below mb w w7) := ⟨K7.os, K7.tape, K7.output, K7.size, fun q hq => K7.block q (by have := h.met.lt; omega) (fun hs => by
    rcases hs with e | e | e
    · omega
    · omega
    · have := (hrow q e).1; omega)⟩
  clear hfar
  go_wp2_with fail
  refine HLF.out.mono ?_
  rintro r w8 ⟨rfl, b8⟩
  have hE := hidn (KB.out.trans b8)
  clear t0 t1 t2 t3 t4 t5 t6 q0 q1 q2 q3 q4 C7 K7 r7 x7 HLF h
  go_wp2
  go_ret
  exact ⟨rfl, hE.out⟩

end

set_option maxHeartbeats 3200000 in
set_option maxRecDepth 20000 in
theorem check_two (Fs : Nat → SheetV) {w : World} {p : Nat} {A : Nat → Prop} {P : PG} {l : LG} {d : DG} (hS : Sys w p A P l d) (n : Nat) (h1 : 1 ≤ n) (h2 : n ≤ 2048) {f : FrV} (hf : P.F n = some f) (hfit : f.sh.Fits) (hN : leafB f.sh = false) (hB : innerB f.sh = true) (h0 : innerL f.sh ≠ []) (hlv : levelF f.sh = 2) (hl : 1 + (innerL f.sh).length ≤ 64)
    (hP : ∀ x ∈ innerL f.sh, (1 ≤ x.page ∧ x.page ≤ 2048) ∧ ∃ f', P.F x.page = some f' ∧ f'.sh = Fs x.page ∧ f'.sh.Fits ∧ leafB f'.sh = true)
    (hz : (∀ x, (froms (innerL f.sh))[0]? = some x → x = zeroE) ∨ (∃ x, (froms (innerL f.sh))[0]? = some x ∧ x.key.toList ≠ [])) :
    Calls Tryz.prog 10 #[.pointer (some ⟨p, 0, none⟩), .int .u32 n] w fun r w' => r = .returned (.tuple #[.slice none 0 0, .int .i64 120]) ∧ Below w.heap.size w w' := by
  have hmm := @run_makeMap Tryz.prog
  obtain ⟨W, HW⟩ : ∃ W, Hid (W = (w.alloc (.map #[] 0)).alloc (.cells #[.pointer (some ⟨p, 0, none⟩), .slice none 0 0, .map (some w.heap.size), .int .u32 0, .bool false, .int .i64 0] 85)) := ⟨_, rfl⟩
  have b1 : Below w.heap.size w W := by rw [HW.out]; exact ((Below.refl _ _).alloc (Nat.le_refl _) _).alloc (by simp) _
  have C1 : CkAt W (w.heap.size + 1) p A P l d (.slice none 0 0) [] w.heap.size (.map []) 0 false := by
    refine ⟨hS.below b1, ⟨fun j hj => ?_, by rw [HW.out]; simp⟩, ?_, fun q _ => by simp; rfl, fun q _ => rfl, World.ownsRow_nil _ _ _ _, fun k hk => hS.lt k hk, by omega, by simp⟩
    · have hblk : W.heap[w.heap.size + 1]? = some (.cells #[.pointer (some ⟨p, 0, none⟩), .slice none 0 0, .map (some w.heap.size), .int .u32 0, .bool false, .int .i64 0] 85 (0, 0)) := by
        rw [HW.out]
        have := heap_alloc_new (w.alloc (.map #[] 0)) (.cells #[.pointer (some ⟨p, 0, none⟩), .slice none 0 0, .map (some w.heap.size), .int .u32 0, .bool false, .int .i64 0] 85)
        simpa using this
      rcases (show j = 0 ∨ j = 1 ∨ j = 2 ∨ j = 3 ∨ j = 4 ∨ j = 5 by omega) with rfl | rfl | rfl | rfl | rfl | rfl <;>
        (unfold World.cell? World.frozen?; simp only [hblk]; exact ⟨rfl, rfl⟩)
    · rw [HW.out]; exact (MapV.made 24 w).same (heap_old _ _ (by simp))
  have HPG := hidn (page_two Fs C1 n h1 h2 (by simp) hf hfit hN hB h0 hlv (by simpa using hl) hP hz span0)
  simp only [span0, SpanV.val, zeroE] at HPG
  go_enter Tryz.func10, Tryz.ntmps10
  go_wp2_with fail
  rw [← HW.out]
  refine HPG.out.mono ?_
  rintro r w2 ⟨rfl, b2⟩
  have B2 := hidn (b1.trans b2)
  clear HW HPG C1 hP hz
  go_wp2
  go_ret2
  exact ⟨rfl, B2.out⟩

end Go.Proofs.YtpllidadpcahbaaGreat

namespace Go.Proofs.YtpllidadpcahbaaGreat
open Go.RowKit Go.Sort
set_option linter.unusedVariables false
set_option linter.unusedSimpArgs false

set_option maxHeartbeats 1600000 in
theorem cut13_any (e : EntV) (w : World) (hk : e.key.size ≤ 140737488351232) :
    Calls Tryz.prog 16 #[e.val] w fun r w' => r = .returned (e.cut 8).val ∧ Below w.heap.size w w' := by
  have hm := and16 e.slot
  obtain ⟨K, P, S⟩ := e
  simp only [EntV.val, EntV.cut, cutKey] at *
  have bW : Below w.heap.size w ((w.alloc (.cells #[.string K, .int .u32 P, .int .i64 S] 28)).alloc (.cells #[.string ⟨#[]⟩, .int .u32 0, .int .i64 0] 28)) := ((Below.refl _ _).alloc (Nat.le_refl _) _).alloc (by simp) _
  by_cases h : 8 < K.size
  · rw [if_pos h]
    have h' : (8 : Int) < (K.size : Int) := by omega
    have h'' : (8 : Int) ≤ (K.size : Int) := by omega
    go_enter Tryz.func16, Tryz.ntmps16
    go_wp2
    refine bodyPost_ret (v := .agg #[.string (K.extract 0 8), .int .u32 P, .int .i64 (S % 65536)]) (by simp [results, Tryz.results16, go_sem]) rfl ⟨rfl, ?_⟩
    exact ((Below.refl _ _).alloc (Nat.le_refl _) _).alloc (by simp) _
  · rw [if_neg h]
    have h' : ¬ (8 : Int) < (K.size : Int) := by omega
    go_enter Tryz.func16, Tryz.ntmps16
    go_wp2
    refine bodyPost_ret (v := .agg #[.string K, .int .u32 P, .int .i64 (S % 65536)]) (by simp [results, Tryz.results16, go_sem]) rfl ⟨rfl, ?_⟩
    exact ((Below.refl _ _).alloc (Nat.le_refl _) _).alloc (by simp) _

set_option maxHeartbeats 1600000 in
theorem before13_any (a b : EntV) (w : World) : Calls Tryz.prog 11 #[a.val, b.val] w fun r w' => r = .returned (.bool (ltE a b)) ∧ Below w.heap.size w w' := by
  unfold ltE
  simp only [EntV.val]
  have bW : Below w.heap.size w ((w.alloc (.cells #[.string a.key, .int .u32 a.page, .int .i64 a.slot] 28)).alloc (.cells #[.string b.key, .int .u32 b.page, .int .i64 b.slot] 28)) := ((Below.refl _ _).alloc (Nat.le_refl _) _).alloc (by simp) _
  by_cases h1 : a.key.toList = b.key.toList
  · have e1 : (a.key.toList == b.key.toList) = true := by rw [beq_iff_eq]; exact h1
    rw [if_pos h1]
    by_cases h2 : (a.page : Int) = b.page
    · have e2 : ((a.page : Int) == b.page) = true := by rw [beq_iff_eq]; exact h2
      rw [if_pos h2]
      clear h1 h2
      go_enter Tryz.func11, Tryz.ntmps11
      go_wp2
      go_ret
      exact ⟨rfl, bW⟩
    · have e2 : ((a.page : Int) == b.page) = false := by rw [beq_eq_false_iff_ne]; exact h2
      rw [if_neg h2]
      clear h1 h2
      go_enter Tryz.func11, Tryz.ntmps11
      go_wp2
      go_ret
      exact ⟨nret_bool (by first | rfl | simp), bW⟩
  · have e1 : (a.key.toList == b.key.toList) = false := by rw [beq_eq_false_iff_ne]; exact h1
    rw [if_neg h1]
    clear h1
    go_enter Tryz.func11, Tryz.ntmps11
    go_wp2
    go_ret
    exact ⟨rfl, bW⟩

theorem level_law (b : Bool) (w : World) : Calls Tryz.prog 23 #[.bool b] w fun r w' => r = .returned (.int .i64 (if b = true then 2 else 1)) ∧ w' = w := by
  cases b with
  | true =>
    go_enter Tryz.func23, Tryz.ntmps23
    go_wp2
    go_ret
    exact ⟨rfl, rfl⟩
  | false =>
    go_enter Tryz.func23, Tryz.ntmps23
    go_wp2
    go_ret
    exact ⟨rfl, rfl⟩

set_option maxHeartbeats 1600000 in
set_option maxRecDepth 20000 in
theorem innerSlot_any (x : ChildV) (w : World) (h1 : x.page < 4294967296) (h2 : x.e.page < 4294967296) (h3 : x.e.key.size ≤ 140737488351232) :
    Calls Tryz.prog 26 #[x.val] w fun r w' => r = .returned (.string x.bs) ∧ Below w.heap.size w w' := by
  obtain ⟨W, HW⟩ : ∃ W, Hid (W = w.alloc (.cells #[.int .u32 x.page, .string x.e.key, .int .u32 x.e.page, .int .i64 x.e.slot] 74)) := ⟨_, rfl⟩
  have b1 : Below w.heap.size w W := by rw [HW.out]; exact (Below.refl _ _).alloc (Nat.le_refl _) _
  have HP := hidn (putChild_any 0 x W h1 h2 h3)
  obtain ⟨B, HBS⟩ : ∃ B, Hid (x.bs = B) := ⟨_, rfl⟩
  simp only [ChildV.val, opChild, OpV.val] at HP ⊢
  rw [HBS.out] at HP ⊢
  have hfd : ∀ wx, (Instr.field 68 (.agg #[.int .i64 2, .int .i64 0, .string B, .string ⟨#[]⟩]) 2).run Tryz.prog wx = .ok (.string B) wx := fun wx => by first | rfl | (simp [Instr.field, Tryz.underlying68]; done)
  go_enter Tryz.func26, Tryz.ntmps26
  go_wp2_with fail
  rw [← HW.out]
  refine HP.out.mono ?_
  rintro r w2 ⟨rfl, b2⟩
  have bb := hidn (below_chain b1 b2)
  clear HW
  go_wp2
  go_ret
  exact ⟨rfl, by first | exact bb.out | exact bb.out.alloc bb.out.size _⟩

end Go.Proofs.YtpllidadpcahbaaGreat

namespace Go.Proofs.YtpllidadpcahbaaGreat
open Go.RowKit Go.Sort
set_option linter.unusedVariables false
set_option linter.unusedSimpArgs false

def leafN (num lsn next : Nat) (M : List ItemV) : SheetV := ⟨num, lsn, 3, num4 next, M.map ItemV.bs⟩
def innerN (num lsn level : Nat) (M : List ChildV) : SheetV := ⟨num, lsn, 4, num1 level, M.map ChildV.bs⟩
def blankN (num : Nat) : SheetV := ⟨num, 0, 0, ⟨#[]⟩, []⟩

theorem blankN_fits {num : Nat} (h : num < 4294967296) : (blankN num).Fits := ⟨h, by show (0 : Nat) < _; omega, by show (0 : Int) ≤ 0; omega, by show (0 : Int) ≤ 255; omega, by show (0 : Nat) ≤ 32; omega, by show (0 : Nat) ≤ 64; omega, by show (0 : Nat) + 0 ≤ 485; omega⟩

theorem leafN_fits {num lsn next : Nat} {M : List ItemV} (hn : num < 4294967296) (hl : lsn < 18446744073709551616) (hm : M.length ≤ 64) (hs : 4 + slotSum (M.map ItemV.bs) ≤ 485) : (leafN num lsn next M).Fits :=
  ⟨hn, hl, by show (0 : Int) ≤ 3; omega, by show (3 : Int) ≤ 255; omega, by show (num4 next).size ≤ 32; rw [num4_size]; omega, by show (M.map ItemV.bs).length ≤ 64; rw [List.length_map]; exact hm, by show (num4 next).size + slotSum (M.map ItemV.bs) ≤ 485; rw [num4_size]; exact hs⟩

theorem innerN_fits {num lsn level : Nat} {M : List ChildV} (hn : num < 4294967296) (hl : lsn < 18446744073709551616) (hm : M.length ≤ 64) (hs : 1 + slotSum (M.map ChildV.bs) ≤ 485) : (innerN num lsn level M).Fits :=
  ⟨hn, hl, by show (0 : Int) ≤ 4; omega, by show (4 : Int) ≤ 255; omega, by show (num1 level).size ≤ 32; rw [num1_size]; omega, by show (M.map ChildV.bs).length ≤ 64; rw [List.length_map]; exact hm, by show (num1 level).size + slotSum (M.map ChildV.bs) ≤ 485; rw [num1_size]; exact hs⟩

theorem leafN_B {M : List ItemV} (h : ∀ x ∈ M, x.e.May) (num lsn next : Nat) : leafB (leafN num lsn next M) = true := leafV_B h lsn next
theorem leafN_L {M : List ItemV} (h : ∀ x ∈ M, x.e.May) (num lsn next : Nat) : leafL (leafN num lsn next M) = M := leafV_L h lsn next
theorem leafN_next {next : Nat} (h : next < 4294967296) (num lsn : Nat) (M : List ItemV) : nextF (leafN num lsn next M) = next := leafV_next h lsn M
theorem innerN_B {M : List ChildV} (h : ∀ x ∈ M, x.page < 4294967296 ∧ x.e.May) (num lsn level : Nat) : innerB (innerN num lsn level M) = true := innerV_B h lsn level
theorem innerN_L {M : List ChildV} (h : ∀ x ∈ M, x.page < 4294967296 ∧ x.e.May) (num lsn level : Nat) : innerL (innerN num lsn level M) = M := innerV_L h lsn level
theorem innerN_level {level : Nat} (h : level < 256) (num lsn : Nat) (M : List ChildV) : levelF (innerN num lsn level M) = level := innerV_level h lsn M

theorem applyN_leaf {w : World} (num next : Nat) (hn : num < 4294967296) : Calls Tryz.prog 20 #[(blankN num).val none 0, (opFmtN 3 (num4 next)).val, .int .u64 1] w fun e w' => ∃ a' c', e = .returned (.tuple #[(leafN num 1 next []).val a' c', .int .i64 0]) ∧ Below w.heap.size w w' ∧ StrsFrom w.heap.size w' a' [] := by
  refine (applyN 1 (SheetV.Fits.ok (blankN_fits hn) (.inl rfl)) (blankN_fits hn) (fmt_ok 3 _ (by omega) (by rw [num4_size]; omega)) (fmt_chk 3 _ (by omega) (by rw [num4_size]; omega)) (nchange_fmt (fmt_ok 3 _ (by omega) (by rw [num4_size]; omega)) rfl)).mono ?_
  rintro e w' ⟨a', c', rfl, b, hq⟩
  exact ⟨a', c', rfl, b, .inl rfl⟩

end Go.Proofs.YtpllidadpcahbaaGreat

namespace Go.Proofs.YtpllidadpcahbaaGreat
open Go.RowKit Go.Sort
set_option linter.unusedVariables false
set_option linter.unusedSimpArgs false

set_option maxHeartbeats 3200000 in
set_option maxRecDepth 20000 in
theorem leafSlot_any (e : EntV) (w : World) (h2 : e.page < 4294967296) (h3 : e.key.size ≤ 140737488351232) :
    Calls Tryz.prog 25 #[e.val] w fun r w' => r = .returned (.string (ItemV.mk e true).bs) ∧ Below w.heap.size w w' := by
  have HBL : Hid (∀ wx, Calls Tryz.prog 21 #[.int .u32 1] wx fun x w' => x = .returned ((blankN 1).val none 0) ∧ Below wx.heap.size wx w') := fun wx => blank_any 1 wx
  have HFM : Hid (∀ wx, Calls Tryz.prog 24 #[.int .u32 0] wx fun e w' => e = .returned (opFmtN 3 (num4 0)).val ∧ Below wx.heap.size wx w') := fun wx => formatLeaf_any 0 wx (by omega)
  have HAP : Hid (∀ wx, Calls Tryz.prog 20 #[(blankN 1).val none 0, (opFmtN 3 (num4 0)).val, .int .u64 1] wx fun e w' => ∃ a' c', e = .returned (.tuple #[(leafN 1 1 0 []).val a' c', .int .i64 0]) ∧ Below wx.heap.size wx w' ∧ StrsFrom wx.heap.size w' a' []) := fun wx => applyN_leaf 1 0 (by omega)
  have hfit : (leafN 1 1 0 []).Fits := leafN_fits (by omega) (by omega) (by simp) (by simp [slotSum])
  have hF0 : findF ([] : List ItemV) e = (0, false) := by unfold findF idxF; simp
  have HPU : Hid (∀ wx (a : Option Addr) (c : Nat), Calls Tryz.prog 45 #[(leafN 1 1 0 []).val a c, (ItemV.mk e true).val] wx fun r w' => r = .returned (.tuple #[(OpV.mk 2 0 (ItemV.mk e true).bs ⟨#[]⟩).val, .int .i64 0]) ∧ Below wx.heap.size wx w') := fun wx a c => by
    have hL : leafL (leafN 1 1 0 []) = [] := leafN_L (by simp) 1 1 0
    have := putItem_ok (leafN 1 1 0 []) a c ⟨e, true⟩ wx (SheetV.Fits.ok hfit (.inl rfl)) (by show (0 : Nat) ≤ _; omega) h2 h3 (leafN_B (by simp) 1 1 0) (by rw [hL]; show (findF [] e).2 = false; rw [hF0])
    rw [hL, show findF [] (ItemV.mk e true).e = (0, false) from hF0] at this
    exact this
  obtain ⟨B, HBS⟩ : ∃ B, Hid ((ItemV.mk e true).bs = B) := ⟨_, rfl⟩
  rw [HBS.out] at HPU ⊢
  simp only [SheetV.val, OpV.val, ItemV.val, blankN, leafN, opFmtN, EntV.val, List.map_nil, List.length_nil] at HBL HFM HAP HPU ⊢
  obtain ⟨W, HW⟩ : ∃ W, Hid (W = w.alloc (.cells #[.string e.key, .int .u32 e.page, .int .i64 e.slot] 28)) := ⟨_, rfl⟩
  have b0 : Below w.heap.size w W := by rw [HW.out]; exact (Below.refl _ _).alloc (Nat.le_refl _) _
  have E0 : EBox W w.heap.size e := by rw [HW.out]; exact EBox.new _ _
  clear hfit hF0
  go_enter Tryz.func25, Tryz.ntmps25
  go_wp2_with fail
  rw [← HW.out]
  clear HW
  refine (HBL.out _).mono ?_
  rintro r w1 ⟨rfl, b1⟩
  go_wp2_with fail
  refine (HFM.out _).mono ?_
  rintro r w2 ⟨rfl, b2⟩
  go_wp2_with fail
  refine (HAP.out _).mono ?_
  rintro r w3 ⟨a3, c3, rfl, b3, s3⟩
  obtain ⟨W3, HW3⟩ : ∃ W, Hid (W = w3.alloc (.cells #[.int .u32 1, .int .u64 1, .int .i64 3, .string (num4 0), .slice a3 0 c3] 63)) := ⟨_, rfl⟩
  have k3 : Below w3.heap.size w3 W3 := by rw [HW3.out]; exact (Below.refl _ _).alloc (Nat.le_refl _) _
  have p3 : RowV W3 w3.heap.size 5 (five (.int .u32 1) (.int .u64 1) (.int .i64 3) (.string (num4 0)) (.slice a3 0 c3)) := by rw [HW3.out]; exact RowV.five_new _ _ _ _ _ _ _
  have B3 := below_chain (below_chain (below_chain b1 b2) b3) k3
  have E3 := E0.below B3 E0.lt
  have BB := hidn (below_chain b0 B3)
  clear b0 b1 b2 b3 k3 E0 B3
  obtain ⟨x0, x1, x2, x3, x4⟩ := p3.cells5
  obtain ⟨u0, u1, u2, _⟩ := E3
  rw [HW3.out] at x0 x1 x2 x3 x4 u0 u1 u2
  go_wp2_with fail
  rw [← HW3.out]
  clear HW3
  refine (HPU.out _ _ _).mono ?_
  rintro r w4 ⟨rfl, b4⟩
  have B4 := hidn (below_chain BB.out b4)
  clear x0 x1 x2 x3 x4 u0 u1 u2
  go_wp2
  go_ret
  exact ⟨rfl, B4.out.alloc B4.out.size _⟩

end Go.Proofs.YtpllidadpcahbaaGreat

namespace Go.Proofs.YtpllidadpcahbaaGreat
set_option linter.unusedVariables false

theorem bless_trans {x y z : List UInt8} (h : Go.Op.bytesLess x y = true) (k : Go.Op.bytesLess y z = true) : Go.Op.bytesLess x z = true := by
  induction x generalizing y z with
  | nil => cases y with
    | nil => simp [Go.Op.bytesLess] at h
    | cons b y => cases z with
      | nil => simp [Go.Op.bytesLess] at k
      | cons c z => rfl
  | cons a x ih => cases y with
    | nil => simp [Go.Op.bytesLess] at h
    | cons b y => cases z with
      | nil => simp [Go.Op.bytesLess] at k
      | cons c z =>
        rw [bless_cons] at h k ⊢
        simp only [Bool.or_eq_true, decide_eq_true_eq, Bool.and_eq_true, beq_iff_eq] at h k ⊢
        rcases h with h | ⟨rfl, h⟩ <;> rcases k with k | ⟨rfl, k⟩
        · exact Or.inl (UInt8.lt_trans h k)
        · exact Or.inl h
        · exact Or.inl k
        · exact Or.inr ⟨rfl, ih h k⟩

theorem ltE_irrefl (a : EntV) : ltE a a = false := by simp [ltE]

theorem ltE_iff (a b : EntV) : ltE a b = true ↔ Go.Op.bytesLess a.key.toList b.key.toList = true ∨ (a.key.toList = b.key.toList ∧ (a.page < b.page ∨ (a.page = b.page ∧ a.slot < b.slot))) := by
  unfold ltE
  by_cases hk : a.key.toList = b.key.toList
  · have hi : Go.Op.bytesLess a.key.toList b.key.toList = false := by rw [hk]; exact bless_irrefl _
    rw [if_pos hk, hi]
    by_cases hp : (a.page : Int) = b.page
    · rw [if_pos hp]; simp only [decide_eq_true_eq, Bool.false_eq_true, false_or]
      constructor
      · intro h; exact ⟨hk, Or.inr ⟨by omega, h⟩⟩
      · rintro ⟨_, h | h⟩ <;> omega
    · rw [if_neg hp]; simp only [decide_eq_true_eq, Bool.false_eq_true, false_or]
      constructor
      · intro h; exact ⟨hk, Or.inl (by omega)⟩
      · rintro ⟨_, h | h⟩ <;> omega
  · rw [if_neg hk]
    constructor
    · exact Or.inl
    · rintro (h | h)
      · exact h
      · exact absurd h.1 hk

theorem ltE_trans {a b c : EntV} (h : ltE a b = true) (k : ltE b c = true) : ltE a c = true := by
  rw [ltE_iff] at h k ⊢
  rcases h with h | ⟨e, h⟩ <;> rcases k with k | ⟨f, k⟩
  · exact Or.inl (bless_trans h k)
  · rw [f] at h; exact Or.inl h
  · rw [← e] at k; exact Or.inl k
  · exact Or.inr ⟨e.trans f, by omega⟩

theorem ltE_total (a b : EntV) : ltE a b = true ∨ a = b ∨ ltE b a = true := by
  rw [ltE_iff, ltE_iff]
  rcases bless_total a.key.toList b.key.toList with h | h | h
  · exact Or.inl (Or.inl h)
  · by_cases h1 : a.page < b.page
    · exact Or.inl (Or.inr ⟨h, Or.inl h1⟩)
    · by_cases h2 : b.page < a.page
      · exact Or.inr (Or.inr (Or.inr ⟨h.symm, Or.inl h2⟩))
      · have hp : a.page = b.page := by omega
        by_cases h3 : a.slot < b.slot
        · exact Or.inl (Or.inr ⟨h, Or.inr ⟨hp, h3⟩⟩)
        · by_cases h4 : b.slot < a.slot
          · exact Or.inr (Or.inr (Or.inr ⟨h.symm, Or.inr ⟨hp.symm, h4⟩⟩))
          · refine Or.inr (Or.inl ((eqE_iff a b).1 ?_))
            unfold eqE
            simp only [Bool.and_eq_true, decide_eq_true_eq]
            exact ⟨⟨h, by omega⟩, by omega⟩
  · exact Or.inr (Or.inr (Or.inl h))

theorem ltE_asymm {a b : EntV} (h : ltE a b = true) : ltE b a = false ∧ a ≠ b := by
  refine ⟨?_, fun k => by rw [k, ltE_irrefl] at h; cases h⟩
  cases k : ltE b a with
  | false => rfl
  | true => have := ltE_trans h k; rw [ltE_irrefl] at this; cases this

end Go.Proofs.YtpllidadpcahbaaGreat

namespace Go.Proofs.YtpllidadpcahbaaGreat
open Go.RowKit Go.Sort
set_option linter.unusedVariables false
set_option linter.unusedSimpArgs false

/-- A short entry. -/
structure EntV.Short (e : EntV) : Prop where
  may : e.May
  key : e.key.size ≤ 8

/-- What sorted makes. -/
structure SortedE (L : List EntV) : Prop where
  rise : L.Pairwise fun x y => ltE x y = true
  len : L.length ≤ 24
  short : ∀ x ∈ L, x.Short

/-- The items of the leaf i. -/
def chunk (L : List EntV) (k i : Nat) : List EntV := (L.drop (i * k)).take k

/-- n items make N leaves of k. -/
def IsCnt (n k N : Nat) : Prop := (n = 0 ∧ N = 1) ∨ (0 < n ∧ 0 < N ∧ (N - 1) * k < n ∧ n ≤ N * k)

def lvs (L : List EntV) (k N odd i : Nat) : List EntV :=
  if odd = 2 ∧ 1 < N ∧ i < 2 then chunk L k (1 - i) else if odd = 7 ∧ 1 < N ∧ i + 1 = N then (chunk L k i).reverse else chunk L k i

def spB (L : List EntV) (k N odd : Nat) : Bool := decide (1 < N ∧ odd ≠ 0 ∧ (odd = 7 → 1 < (chunk L k (N - 1)).length))

def nextN (N odd : Nat) (sp : Bool) (i : Nat) : Nat := if sp = true ∧ odd = 1 then 4 else if i + 1 < N then 5 + i else 0

def kidE (L : List EntV) (k odd : Nat) (sp : Bool) (i : Nat) : EntV :=
  if sp = true ∧ odd = 6 ∧ i = 0 then ⟨⟨#[0]⟩, 0, 0⟩ else if sp = true ∧ odd = 3 ∧ i = 1 then L.getD (k - 1) zeroE else if 0 < i then L.getD (i * k) zeroE else zeroE

def kidP (odd : Nat) (sp : Bool) (i : Nat) : Nat := if sp = true ∧ odd = 5 ∧ i = 1 then 4 else 4 + i

def kids (L : List EntV) (k N odd : Nat) (sp : Bool) : List ChildV := (List.range N).map fun i => ⟨kidP odd sp i, kidE L k odd sp i⟩

def live (M : List EntV) : List ItemV := M.map fun e => ⟨e, true⟩

def leafP (L : List EntV) (k N odd : Nat) (sp : Bool) (i : Nat) : SheetV := leafN (4 + i) 1 (nextN N odd sp i) (live (lvs L k N odd i))
def rootP (L : List EntV) (k N odd : Nat) (sp : Bool) : SheetV := innerN 3 1 (if sp = true ∧ odd = 4 then 2 else 1) (kids L k N odd sp)
def pageP (L : List EntV) (k N odd : Nat) (sp : Bool) (n : Nat) : SheetV := leafP L k N odd sp (n - 4)

section
variable {L : List EntV} {k N odd : Nat} {sp : Bool}

theorem live_e (M : List EntV) : (live M).map ItemV.e = M := by unfold live; rw [List.map_map]; exact List.map_id' M

theorem chunk_length (L : List EntV) (k i : Nat) : (chunk L k i).length = min k (L.length - i * k) := by unfold chunk; simp

theorem chunk_get (L : List EntV) (k i j : Nat) (h : j < (chunk L k i).length) : (chunk L k i)[j] = L.getD (i * k + j) zeroE := by
  have h2 := h
  rw [chunk_length] at h2
  have : (chunk L k i)[j]? = L[i * k + j]? := by
    unfold chunk
    rw [List.getElem?_take, if_pos (by omega), List.getElem?_drop]
  rw [List.getElem?_eq_getElem h] at this
  rw [List.getD_eq_getElem?_getD, ← this]
  rfl

theorem mem_chunk {L : List EntV} {k i : Nat} {x : EntV} (h : x ∈ chunk L k i) : ∃ j, j < k ∧ i * k + j < L.length ∧ x = L.getD (i * k + j) zeroE := by
  obtain ⟨j, hj, rfl⟩ := List.getElem_of_mem h
  have h2 := hj
  rw [chunk_length] at h2
  exact ⟨j, by omega, by omega, chunk_get L k i j hj⟩

theorem mem_lvs {i : Nat} {x : EntV} (h : x ∈ lvs L k N odd i) : x ∈ L := by
  have hc : ∀ i, x ∈ chunk L k i → x ∈ L := fun i h => List.mem_of_mem_drop (List.mem_of_mem_take h)
  unfold lvs at h
  split at h
  · exact hc _ h
  · split at h
    · exact hc _ (List.mem_reverse.1 h)
    · exact hc _ h

theorem lvs_length (i : Nat) : (lvs L k N odd i).length ≤ k := by
  unfold lvs
  split
  · rw [chunk_length]; omega
  · split
    · rw [List.length_reverse, chunk_length]; omega
    · rw [chunk_length]; omega

theorem zeroE_may : zeroE.May := ⟨by show (0 : Nat) < _; omega, by show (0 : Int) ≤ 0; omega, by show (0 : Int) ≤ 65535; omega⟩

theorem SortedE.may (h : SortedE L) (i : Nat) : (L.getD i zeroE).Short := by
  rw [List.getD_eq_getElem?_getD]
  cases e : L[i]? with
  | none => exact ⟨zeroE_may, by show (0 : Nat) ≤ 8; omega⟩
  | some x => exact h.short x (List.mem_of_getElem? e)

theorem SortedE.lt (h : SortedE L) {i j : Nat} (hij : i < j) (hj : j < L.length) : ltE (L.getD i zeroE) (L.getD j zeroE) = true := by
  have := List.pairwise_iff_getElem.1 h.rise i j (by omega) hj hij
  rw [List.getD_eq_getElem?_getD, List.getD_eq_getElem?_getD, List.getElem?_eq_getElem (by omega), List.getElem?_eq_getElem hj]
  exact this

theorem lt_zero {x : EntV} (h : x.May) : ltE x zeroE = false := by
  cases e : ltE x zeroE with
  | false => rfl
  | true =>
    rcases (ltE_iff _ _).1 e with q | ⟨_, q | ⟨_, q⟩⟩
    · have : zeroE.key.toList = [] := by rw [ByteArray.toList_eq]; rfl
      rw [this] at q
      cases e2 : x.key.toList with
      | nil => rw [e2] at q; cases q
      | cons a t => rw [e2] at q; cases q
    · exact absurd q (Nat.not_lt_zero _)
    · have := h.lo
      have q' : x.slot < 0 := q
      omega

theorem zero_lt {x y : EntV} (hx : x.May) (hy : y.May) (h : ltE x y = true) : ltE zeroE y = true := by
  rcases ltE_total zeroE y with q | q | q
  · exact q
  · rw [← q, lt_zero hx] at h; cases h
  · rw [lt_zero hy] at q; cases q

theorem IsCnt.pos (h : IsCnt L.length k N) : 0 < N := by rcases h with h | h <;> omega

theorem IsCnt.in {n : Nat} (h : IsCnt n k N) {i : Nat} (hi : i < N) (h0 : 0 < n ∨ 0 < i) : i * k < n := by
  rcases h with h | ⟨h1, h2, h3, h4⟩
  · omega
  · have : i * k ≤ (N - 1) * k := Nat.mul_le_mul_right k (by omega)
    omega

theorem IsCnt.le {n : Nat} (h : IsCnt n k N) (hk : 1 ≤ k) (hn : n ≤ 24) : N ≤ 24 := by
  rcases h with h | ⟨h1, h2, h3, h4⟩
  · omega
  · have : (N - 1) * 1 ≤ (N - 1) * k := Nat.mul_le_mul_left _ hk
    omega

theorem kids_get {i : Nat} {x : ChildV} (h : (kids L k N odd sp)[i]? = some x) : i < N ∧ x = ⟨kidP odd sp i, kidE L k odd sp i⟩ := by
  unfold kids at h
  rw [List.getElem?_map] at h
  by_cases hi : i < N
  · rw [List.getElem?_range hi] at h
    exact ⟨hi, by simpa using h.symm⟩
  · rw [List.getElem?_eq_none (by simpa using Nat.le_of_not_lt hi)] at h; simp at h

theorem kids_at {i : Nat} (hi : i < N) : (kids L k N odd sp)[i]? = some ⟨kidP odd sp i, kidE L k odd sp i⟩ := by
  unfold kids
  rw [List.getElem?_map, List.getElem?_range hi]
  rfl

theorem kids_length : (kids L k N odd sp).length = N := by unfold kids; simp

theorem froms_kids : froms (kids L k N odd sp) = (List.range N).map (kidE L k odd sp) := by unfold froms kids; rw [List.map_map]; rfl

theorem froms_getD {i : Nat} (hi : i < N) (z : EntV) : (froms (kids L k N odd sp)).getD i z = kidE L k odd sp i := by
  rw [froms_kids, List.getD_eq_getElem?_getD, List.getElem?_map, List.getElem?_range hi]; rfl

theorem froms_length : (froms (kids L k N odd sp)).length = N := by rw [froms_kids]; simp

theorem kidE_may (h : SortedE L) (i : Nat) : (kidE L k odd sp i).Short := by
  unfold kidE
  split
  · exact ⟨⟨by show (0 : Nat) < _; omega, by show (0 : Int) ≤ 0; omega, by show (0 : Int) ≤ 65535; omega⟩, by decide⟩
  · split
    · exact h.may _
    · split
      · exact h.may _
      · exact ⟨zeroE_may, by show (0 : Nat) ≤ 8; omega⟩

theorem kidP_le (i : Nat) : 4 ≤ kidP odd sp i ∧ kidP odd sp i ≤ 4 + i := by unfold kidP; split <;> omega

theorem live_may (h : SortedE L) (i : Nat) : ∀ x ∈ live (lvs L k N odd i), x.e.May := by
  intro x hx
  unfold live at hx
  obtain ⟨e, he, rfl⟩ := List.mem_map.1 hx
  exact (h.short e (mem_lvs he)).may

theorem kids_may (h : SortedE L) (hN : N ≤ 24) : ∀ x ∈ kids L k N odd sp, x.page < 4294967296 ∧ x.e.May := by
  intro x hx
  unfold kids at hx
  obtain ⟨i, hi, rfl⟩ := List.mem_map.1 hx
  have := (kidP_le (odd := odd) (sp := sp) i).2
  have := List.mem_range.1 hi
  exact ⟨by show kidP odd sp i < _; omega, (kidE_may h i).may⟩

theorem slotSum_most {α : Type} (f : α → ByteArray) (m : Nat) : ∀ M : List α, (∀ x ∈ M, (f x).size + 2 ≤ m) → slotSum (M.map f) ≤ M.length * m
  | [], _ => by simp [slotSum]
  | x :: M, h => by
    have h1 := h x (by simp)
    have h2 := slotSum_most f m M fun y hy => h y (by simp [hy])
    rw [List.map_cons, List.length_cons, Nat.add_mul, Nat.one_mul]
    simp only [slotSum] at *
    omega

theorem leafP_fits (h : SortedE L) (hk : k ≤ 8) {i : Nat} (hi : i < 24) : (leafP L k N odd sp i).Fits := by
  have hl := lvs_length (L := L) (k := k) (N := N) (odd := odd) i
  have hll : (live (lvs L k N odd i)).length ≤ 8 := by unfold live; rw [List.length_map]; omega
  refine leafN_fits (by omega) (by omega) (by omega) ?_
  have := slotSum_most ItemV.bs 17 (live (lvs L k N odd i)) fun x hx => by
    unfold live at hx
    obtain ⟨e, he, rfl⟩ := List.mem_map.1 hx
    have := (h.short e (mem_lvs he)).key
    rw [ItemV.bs_size]
    show 7 + e.key.size + 2 ≤ 17
    omega
  omega

theorem rootP_fits (h : SortedE L) (hN : N ≤ 24) : (rootP L k N odd sp).Fits := by
  refine innerN_fits (by omega) (by omega) (by rw [kids_length]; omega) ?_
  have := slotSum_most ChildV.bs 20 (kids L k N odd sp) fun x hx => by
    unfold kids at hx
    obtain ⟨i, hi, rfl⟩ := List.mem_map.1 hx
    have := (kidE_may (k := k) (odd := odd) (sp := sp) h i).key
    rw [ChildV.bs_size]
    show 10 + (kidE L k odd sp i).key.size + 2 ≤ 20
    omega
  rw [kids_length] at this
  omega

theorem nextN_lt (hN : N ≤ 24) (i : Nat) : nextN N odd sp i < 4294967296 := by unfold nextN; split <;> (try split) <;> omega

theorem pageP_next (hN : N ≤ 24) (i : Nat) : nextF (pageP L k N odd sp (4 + i)) = nextN N odd sp i := by
  unfold pageP leafP
  rw [Nat.add_sub_cancel_left]
  exact leafN_next (nextN_lt hN i) _ _ _

theorem pageP_items (h : SortedE L) (i : Nat) : leafL (pageP L k N odd sp (4 + i)) = live (lvs L k N odd i) := by
  unfold pageP leafP
  rw [Nat.add_sub_cancel_left]
  exact leafN_L (live_may h i) _ _ _

theorem part_kid {i : Nat} (hi : i < N) : partS span0 (froms (kids L k N odd sp)) i = ⟨if 0 < i then kidE L k odd sp i else zeroE, if i + 1 < N then kidE L k odd sp (i + 1) else zeroE, if i + 1 < N then false else true⟩ := by
  unfold partS
  rw [froms_length, froms_getD hi]
  by_cases h : i + 1 < N
  · rw [froms_getD h]; rfl
  · rw [if_neg h, if_neg h, if_neg h, if_neg h]; rfl

/-- Nothing is odd: the tree is well formed. -/
theorem tree_good (h : SortedE L) (hk : 1 ≤ k) (hc : IsCnt L.length k N) (hs : sp = spB L k N odd) (h0 : sp = false) : TreeOk (pageP L k N odd sp) 3 (kids L k N odd sp) := by
  have hN := hc.le hk h.len
  have hN0 := hc.pos
  have eE : ∀ i, kidE L k odd sp i = if 0 < i then L.getD (i * k) zeroE else zeroE := fun i => by unfold kidE; rw [if_neg (by simp [h0]), if_neg (by simp [h0])]
  have eP : ∀ i, kidP odd sp i = 4 + i := fun i => by unfold kidP; rw [if_neg (by simp [h0])]
  have eN : ∀ i, nextN N odd sp i = if i + 1 < N then 5 + i else 0 := fun i => by unfold nextN; rw [if_neg (by simp [h0])]
  have hq : ¬ (1 < N ∧ odd ≠ 0 ∧ (odd = 7 → 1 < (chunk L k (N - 1)).length)) := by
    rw [h0] at hs
    exact of_decide_eq_false hs.symm
  have eL : ∀ i, i < N → lvs L k N odd i = chunk L k i := fun i hi => by
    unfold lvs
    rw [if_neg (by rintro ⟨q1, q2, _⟩; exact hq ⟨q2, by omega, by omega⟩)]
    by_cases q : odd = 7 ∧ 1 < N ∧ i + 1 = N
    · rw [if_pos q]
      obtain ⟨q1, q2, q3⟩ := q
      obtain rfl : i = N - 1 := by omega
      have hle : (chunk L k (N - 1)).length ≤ 1 := by
        rcases Nat.lt_or_ge 1 (chunk L k (N - 1)).length with r | r
        · exact absurd ⟨q2, by omega, fun _ => r⟩ hq
        · exact r
      match chunk L k (N - 1), hle with
      | [], _ => rfl
      | [x], _ => rfl
    · rw [if_neg q]
  have hz : ∀ i, i < N → 0 < i → ltE zeroE (L.getD (i * k) zeroE) = true := fun i hi h1 => by
    have hin := hc.in hi (.inr h1)
    have : 1 * 1 ≤ i * k := Nat.mul_le_mul h1 hk
    exact zero_lt (h.may 0).may (h.may _).may (h.lt (by omega) hin)
  refine ⟨⟨⟨?_, ?_, ?_⟩, ?_⟩, ?_⟩
  · intro x hx
    rw [froms_kids, List.getElem?_map, List.getElem?_range hN0] at hx
    have : kidE L k odd sp 0 = x := by simpa using hx
    rw [← this, eE, if_neg (by omega)]
  · intro i hi
    have hi' : i + 1 < N := by rw [froms_length] at hi; exact hi
    have e1 : (froms (kids L k N odd sp))[i] = kidE L k odd sp i := by
      have := froms_getD (L := L) (k := k) (odd := odd) (sp := sp) (i := i) (N := N) (by omega) zeroE
      rw [List.getD_eq_getElem?_getD, List.getElem?_eq_getElem (by omega)] at this
      exact this
    have e2 : (froms (kids L k N odd sp))[i + 1] = kidE L k odd sp (i + 1) := by
      have := froms_getD (L := L) (k := k) (odd := odd) (sp := sp) (i := i + 1) (N := N) (by omega) zeroE
      rw [List.getD_eq_getElem?_getD, List.getElem?_eq_getElem (by omega)] at this
      exact this
    rw [e1, e2, eE, eE, if_pos (show 0 < i + 1 by omega)]
    by_cases q : 0 < i
    · rw [if_pos q]
      refine h.lt ?_ (hc.in hi' (.inr (by omega)))
      rw [Nat.add_mul]; omega
    · rw [if_neg q]
      exact hz _ hi' (by omega)
  · rw [List.any_eq_false]
    intro x hx
    have hx2 := List.mem_of_mem_drop hx
    rw [froms_kids] at hx2
    obtain ⟨i, _, rfl⟩ := List.mem_map.1 hx2
    show ¬ (ltE (kidE L k odd sp i) zeroE || (!true && !ltE (kidE L k odd sp i) zeroE)) = true
    rw [lt_zero (kidE_may h i).may]; simp
  · intro i x hx
    obtain ⟨hi, rfl⟩ := kids_get hx
    refine ⟨?_, ?_, ?_⟩
    · show kidP odd sp i ∉ _
      rw [eP]
      intro hm
      rcases List.mem_append.1 hm with q | q
      · have : 4 + i = 3 := by simpa using q
        omega
      · obtain ⟨y, hy, he⟩ := List.mem_map.1 q
        obtain ⟨j, hj⟩ := List.mem_iff_getElem?.1 hy
        rw [List.getElem?_take] at hj
        split at hj
        · rename_i hji
          obtain ⟨_, rfl⟩ := kids_get hj
          have he : kidP odd sp j = 4 + i := he
          rw [eP] at he
          omega
        · cases hj
    · intro y h1 hy
      obtain ⟨_, rfl⟩ := kids_get hy
      show nextF (pageP L k N odd sp (kidP odd sp (i - 1))) = kidP odd sp i
      rw [eP, eP, pageP_next hN, eN, if_pos (by omega)]
      omega
    · show LeafOk _ (leafL (pageP L k N odd sp (kidP odd sp i)))
      rw [eP, pageP_items h, part_kid hi]
      unfold LeafOk
      rw [live_e, eL i hi]
      refine ⟨fun j hj => ?_, ?_⟩
      · rw [chunk_get, chunk_get]
        rw [chunk_length] at hj
        exact h.lt (by omega) (by omega)
      · rw [List.any_eq_false]
        intro x hx
        obtain ⟨j, hj, hjl, rfl⟩ := mem_chunk hx
        have g1 : ltE (L.getD (i * k + j) zeroE) (if 0 < i then kidE L k odd sp i else zeroE) = false := by
          by_cases q : 0 < i
          · rw [if_pos q, eE, if_pos q]
            by_cases r : j = 0
            · subst r; exact ltE_irrefl _
            · exact (ltE_asymm (h.lt (by omega) hjl)).1
          · rw [if_neg q]; exact lt_zero (h.may _).may
        have g2 : i + 1 < N → ltE (L.getD (i * k + j) zeroE) (kidE L k odd sp (i + 1)) = true := fun q => by
          rw [eE, if_pos (by omega)]
          refine h.lt ?_ (hc.in q (.inr (by omega)))
          rw [Nat.add_mul]; omega
        unfold outS
        simp only
        rw [g1]
        by_cases q : i + 1 < N
        · rw [if_pos q, if_pos q, g2 q]; simp
        · rw [if_neg q, if_neg q]; simp
  · intro y hy
    obtain ⟨hi, rfl⟩ := kids_get hy
    rw [kids_length]
    show nextF (pageP L k N odd sp (kidP odd sp (N - 1))) = 0
    rw [eP, pageP_next hN, eN, if_neg (by omega)]

/-- Something is odd, and it is not the level: the tree is not well formed. -/
theorem tree_bad (h : SortedE L) (hk : 1 ≤ k) (hc : IsCnt L.length k N) (ho : odd ≤ 7) (hs : sp = spB L k N odd) (h0 : sp = true) (h4 : odd ≠ 4) : ¬ TreeOk (pageP L k N odd sp) 3 (kids L k N odd sp) := by
  have hN := hc.le hk h.len
  have hq : 1 < N ∧ odd ≠ 0 ∧ (odd = 7 → 1 < (chunk L k (N - 1)).length) := by
    rw [h0] at hs
    exact of_decide_eq_true hs.symm
  obtain ⟨hN1, ho0, h7⟩ := hq
  have hin : k < L.length := by have := hc.in (i := 1) hN1 (.inr (by omega)); omega
  rintro ⟨⟨hhead, hkid⟩, hlast⟩
  have K0 := hkid 0 _ (kids_at (by omega))
  have K1 := hkid 1 _ (kids_at hN1)
  have kill : ∀ {s : SpanV} {M : List ItemV} (x : EntV), LeafOk s M → x ∈ M.map ItemV.e → s.op = false → ltE x s.tt = false → False := fun x hl hm h1 h2 => by
    have := List.any_eq_false.1 hl.2 x hm
    unfold outS at this
    rw [h1, h2] at this
    simp at this
  rcases (show odd = 1 ∨ odd = 2 ∨ odd = 3 ∨ odd = 5 ∨ odd = 6 ∨ odd = 7 by omega) with q | q | q | q | q | q
  · have := K1.2.1 _ (by omega) (kids_at (by omega))
    have e : nextF (pageP L k N odd sp (kidP odd sp 0)) = kidP odd sp 1 := this
    have e0 : kidP odd sp 0 = 4 + 0 := by unfold kidP; rw [if_neg (by omega)]
    have e1 : kidP odd sp 1 = 5 := by unfold kidP; rw [if_neg (by omega)]
    rw [e0, e1, pageP_next hN] at e
    unfold nextN at e
    rw [if_pos ⟨h0, q⟩] at e
    omega
  · have := K0.2.2
    have e0 : kidP odd sp 0 = 4 + 0 := by unfold kidP; rw [if_neg (by omega)]
    have hl : LeafOk (partS span0 (froms (kids L k N odd sp)) 0) (leafL (pageP L k N odd sp (kidP odd sp 0))) := this
    rw [e0, pageP_items h, part_kid (by omega)] at hl
    have el : lvs L k N odd 0 = chunk L k 1 := by unfold lvs; rw [if_pos ⟨q, hN1, by omega⟩]
    have e1 : kidE L k odd sp 1 = L.getD (1 * k) zeroE := by unfold kidE; rw [if_neg (by omega), if_neg (by omega), if_pos (by omega)]
    have hlen : 0 < (chunk L k 1).length := by rw [chunk_length]; omega
    refine kill (L.getD (1 * k) zeroE) hl ?_ (by simp [hN1]) ?_
    · rw [live_e, el]
      have := chunk_get L k 1 0 hlen
      rw [Nat.add_zero] at this
      rw [← this]
      exact List.getElem_mem hlen
    · simp only [Nat.zero_add, if_pos hN1]
      rw [e1]
      exact ltE_irrefl _
  · have := K0.2.2
    have e0 : kidP odd sp 0 = 4 + 0 := by unfold kidP; rw [if_neg (by omega)]
    have hl : LeafOk (partS span0 (froms (kids L k N odd sp)) 0) (leafL (pageP L k N odd sp (kidP odd sp 0))) := this
    rw [e0, pageP_items h, part_kid (by omega)] at hl
    have el : lvs L k N odd 0 = chunk L k 0 := by unfold lvs; rw [if_neg (by omega), if_neg (by omega)]
    have e1 : kidE L k odd sp 1 = L.getD (k - 1) zeroE := by unfold kidE; rw [if_neg (by omega), if_pos ⟨h0, q, rfl⟩]
    have hlen : k - 1 < (chunk L k 0).length := by rw [chunk_length]; omega
    refine kill (L.getD (k - 1) zeroE) hl ?_ (by simp [hN1]) ?_
    · rw [live_e, el]
      have := chunk_get L k 0 (k - 1) hlen
      rw [Nat.zero_mul, Nat.zero_add] at this
      rw [← this]
      exact List.getElem_mem hlen
    · simp only [Nat.zero_add, if_pos hN1]
      rw [e1]
      exact ltE_irrefl _
  · have h1 : kidP odd sp 1 ∉ [3] ++ ((kids L k N odd sp).take 1).map ChildV.page := K1.1
    have e1 : kidP odd sp 1 = 4 := by unfold kidP; rw [if_pos ⟨h0, q, rfl⟩]
    have e0 : kidP odd sp 0 = 4 + 0 := by unfold kidP; rw [if_neg (by omega)]
    apply h1
    rw [e1]
    refine List.mem_append.2 (.inr (List.mem_map.2 ⟨⟨kidP odd sp 0, kidE L k odd sp 0⟩, ?_, by rw [e0]⟩))
    exact List.mem_iff_getElem?.2 ⟨0, by rw [List.getElem?_take, if_pos (by omega)]; exact kids_at (by omega)⟩
  · have := hhead.1 (kidE L k odd sp 0) (by rw [froms_kids, List.getElem?_map, List.getElem?_range (by omega)]; rfl)
    unfold kidE at this
    rw [if_pos ⟨h0, q, rfl⟩] at this
    have := congrArg (fun e : EntV => e.key.size) this
    exact absurd this (by decide)
  · have hl : LeafOk (partS span0 (froms (kids L k N odd sp)) (N - 1)) (leafL (pageP L k N odd sp (kidP odd sp (N - 1)))) := (hkid (N - 1) _ (kids_at (by omega))).2.2
    have e0 : kidP odd sp (N - 1) = 4 + (N - 1) := by unfold kidP; rw [if_neg (by omega)]
    rw [e0, pageP_items h] at hl
    have el : lvs L k N odd (N - 1) = (chunk L k (N - 1)).reverse := by unfold lvs; rw [if_neg (by omega), if_pos ⟨q, hN1, by omega⟩]
    have h7 := h7 q
    have hr := hl.1
    rw [live_e, el] at hr
    have h01 := hr 0 (by rw [List.length_reverse]; omega)
    rw [List.getElem_reverse, List.getElem_reverse, chunk_get, chunk_get] at h01
    have hcl := chunk_length L k (N - 1)
    have := h.lt (L := L) (i := (N - 1) * k + ((chunk L k (N - 1)).length - 1 - (0 + 1))) (j := (N - 1) * k + ((chunk L k (N - 1)).length - 1 - 0)) (by omega) (by omega)
    rw [(ltE_asymm this).1] at h01
    cases h01

end

end Go.Proofs.YtpllidadpcahbaaGreat
