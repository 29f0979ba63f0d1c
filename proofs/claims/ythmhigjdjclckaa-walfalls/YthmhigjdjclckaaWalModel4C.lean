/-
  The walk of girderlaw05's model's put.
-/
import Derived.Test.YthmhigjdjclckaaWalModel3C
import Derived.Maps.AppendAt
import Derived.Deep.Upon
namespace Go.Proofs.Ythmhigjdjclckaa
open Go.RowKit
set_option linter.unusedVariables false

theorem infoT2 : (Try.prog.info? 9).map (fun i => (i.zero, i.size, i.bytes)) = some (some (.string ⟨#[]⟩), 1, 16) := by kernel_rfl

theorem texts_of {w w' : World} {va : Option Addr} {vc : Nat} {rs : List ByteArray} {s : ByteArray} (h : w.ownsRow 0 9 1 (.slice va (rs.length + 1) vc) (rs.length + 1) (rs.map Value.string ++ [.string s]))
    (hk : ∀ g, (Value.slice va (rs.length + 1) vc).ownBlock = some g → w'.heap[g]? = w.heap[g]?) (hz : w.heap.size ≤ w'.heap.size) : TextsAt w' va (rs ++ [s]) := by
  have h' := owns_same (w' := w') h hk
  rcases h'.2 with ⟨e1, e2⟩ | ⟨g7, c7, cur, e1, e3, e4, _⟩
  · omega
  · simp only [Value.slice.injEq] at e1
    obtain ⟨rfl, _, rfl⟩ := e1
    refine .inr ⟨g7, 0, rfl, (Array.getElem?_eq_some_iff.1 e4).1, fun i hi => ?_⟩
    have hmap : rs.map Value.string ++ [.string s] = (rs ++ [s]).map Value.string := by simp
    rw [hmap] at h'
    have := owns_cells h' i (.string ((rs ++ [s]).getD i ⟨#[]⟩)) (by
      rw [List.getElem?_map, List.getD_eq_getElem?_getD, List.getElem?_eq_getElem hi]
      rfl)
    rw [Nat.zero_add]
    simpa [Addr.add_lit] using this

theorem src_none (w : World) (a : Option Addr) (c : Nat) : Src Try.prog 1 31 (.slice a 0 c) 0 [] w := by
  refine ⟨.inl ⟨_, Try.underlying31⟩, fun w' => by simp [Builtin.lenOf], ?_, ?_, rfl, fun u hu => by cases hu⟩
  · cases a <;> simp [Builtin.firstCells, loadCells, loadCellsFrom]
  · cases a <;> simp [Builtin.firstCells, loadCells, loadCellsFrom]

/-- A row of texts is put behind an empty row. -/
theorem run_copy (W : World) (ty : TypeId) (g : Nat) (a : Option Addr) (cap : Nat) (rs : List ByteArray) (hT : TextsAt W a rs) (hg : Blk W g #[] 9) (hn : rs.length ≤ 400000) :
    ∃ v6 w6, (Builtin.append_ #[31, 31] ty #[.slice (some ⟨g, 0, none⟩) 0 0, .slice a rs.length cap]).run Try.prog W = .ok v6 w6 ∧ w6.ownsRow 0 9 1 v6 rs.length (rs.map Value.string) ∧ W.grownBy w6 (some g) ∧ (v6.ownBlock = some g ∨ v6.ownBlock = some W.heap.size) := by
  obtain ⟨j0, hj, hy0, hy1, hy2⟩ := info_parts infoT2
  have hown : W.ownsRow 0 9 1 (.slice (some ⟨g, 0, none⟩) 0 0) 0 [] := ⟨rfl, .inr ⟨g, 0, #[], rfl, Nat.zero_le _, hg, Nat.le_refl _, Nat.zero_le _, rfl, rfl⟩⟩
  rcases hT with rfl | ⟨tg, tf, rfl, htg, htc⟩
  · refine ⟨_, _, run_append_nothing (P := Try.prog) W 31 31 ty 9 j0 Try.underlying31 hj (some ⟨g, 0, none⟩) 0 0 (Nat.le_refl _) (.slice a 0 cap) (by rw [hy1]; exact src_none W a cap), hown, ⟨rfl, rfl, rfl, Nat.le_refl _, fun _ _ _ => rfl⟩, .inl rfl⟩
  · have hnews : ∀ j u, (rs.map Value.string)[j]? = some u → W.cell? ((⟨tg, tf, none⟩ : Addr).add j) = some u := by
      intro j u hj'
      have hjl : j < rs.length := by
        have := (List.getElem?_eq_some_iff.1 hj').1
        simpa using this
      have hu : u = .string (rs.getD j ⟨#[]⟩) := by
        rw [List.getElem?_map, List.getElem?_eq_getElem hjl] at hj'
        rw [List.getD_eq_getElem?_getD, List.getElem?_eq_getElem hjl]
        simpa using hj'.symm
      rw [hu, Addr.add_lit]
      exact htc j hjl
    obtain ⟨v', w', h1, h2, h3, _, h5⟩ := run_append_own_at (P := Try.prog) W 0 31 ty 9 j0 (.string ⟨#[]⟩) 1 16 Try.underlying31 hj hy0 hy1 hy2 rfl (by decide) (.slice (some ⟨g, 0, none⟩) 0 0) 0 [] hown ⟨tg, tf, none⟩ rs.length cap (rs.map Value.string) (by simp) hnews (by intro u hu; obtain ⟨x, _, rfl⟩ := List.mem_map.1 hu; rfl) (by unfold maxLen; omega) (by omega) (Nat.zero_le _)
    refine ⟨v', w', h1, ?_, h3, h5⟩
    simpa using h2

theorem wpList_copy (W : World) {ops : Array Oper} {rest : List Oper} {o : Oper} {act : Act} {Q : Exit → Act → World → Prop} (hgd : o.guard = none) (sl x : Operand)
    (ho : o.op = .call { callee := .builtin .append, args := #[sl, x], argTypes := #[31, 31] }) (g : Nat) (hs : act.eval sl = .slice (some ⟨g, 0, none⟩) 0 0) (a : Option Addr) (cap : Nat) (rs : List ByteArray) (hx : act.eval x = .slice a rs.length cap)
    (hT : TextsAt W a rs) (hg : Blk W g #[] 9) (hn : rs.length ≤ 400000)
    (h : ∀ v6 w6, w6.ownsRow 0 9 1 v6 rs.length (rs.map Value.string) → W.grownBy w6 (some g) → (v6.ownBlock = some g ∨ v6.ownBlock = some W.heap.size) → wpList Try.prog ops Q rest (act.put o.dst v6) w6) : wpList Try.prog ops Q (o :: rest) act W := by
  refine wpList_plain hgd fun K hK => ?_
  obtain ⟨v6, w6, hr, h1, h2, h3⟩ := run_copy W o.type g a cap rs hT hg hn
  unfold Oper.wp execOp
  simp only [ho, resolve, invoke, builtin, Sem.run_bind, Sem.run_pure, Result.andThen_ok, List.map_toArray, List.map_cons, List.map_nil, hs, hx, hr]
  exact hK _ _ (h v6 w6 h1 h2 h3)

theorem step_copy (W : World) {ops : Array Oper} {o : Oper} {act : Act} {K : Act → World → Prop} {Q : Exit → Act → World → Prop} {E : Prop} (hgd : o.guard = none) (sl x : Operand)
    (ho : o.op = .call { callee := .builtin .append, args := #[sl, x], argTypes := #[31, 31] }) (g : Nat) (hs : act.eval sl = .slice (some ⟨g, 0, none⟩) 0 0) (a : Option Addr) (cap : Nat) (rs : List ByteArray) (hx : act.eval x = .slice a rs.length cap)
    (hT : TextsAt W a rs) (hg : Blk W g #[] 9) (hn : rs.length ≤ 400000)
    (h : ∀ v6 w6, w6.ownsRow 0 9 1 v6 rs.length (rs.map Value.string) → W.grownBy w6 (some g) → (v6.ownBlock = some g ∨ v6.ownBlock = some W.heap.size) → K (act.put o.dst v6) w6) :
    if Region.wanted o (yielded ops act.tmps) = true then Oper.wp Try.prog o act W K Q else E := by
  have hw : Region.wanted o (yielded ops act.tmps) = true := by simp [Region.wanted, hgd]
  rw [if_pos hw]
  obtain ⟨v6, w6, hr, h1, h2, h3⟩ := run_copy W o.type g a cap rs hT hg hn
  unfold Oper.wp execOp
  simp only [ho, resolve, invoke, builtin, Sem.run_bind, Sem.run_pure, Result.andThen_ok, List.map_toArray, List.map_cons, List.map_nil, hs, hx, hr]
  exact h v6 w6 h1 h2 h3

/-- A slice of a block that is new. -/
def NewAt (n : Nat) (a : Option Addr) : Prop := ∀ x, a = some x → n ≤ x.block

set_option maxHeartbeats 1600000 in
set_option maxRecDepth 8000 in
theorem mput_ok (w : World) (a : Option Addr) (cap : Nat) (rs : List ByteArray) (sure kept mark : Int) (s : ByteArray) (hT : TextsAt w a rs) (hs : Sized rs) (hn : rs.length ≤ 399999) (h1 : 1 ≤ s.size) (h2 : s.size ≤ 8192) (b : Nat) (hb : (s.size : Int) + 12 + (b : Int) ≤ (4194305 : Int) - (placeOf rs rs.length : Nat)) (hb2 : b ≤ 4194304) :
    Calls Try.prog 24 #[.agg #[.slice a rs.length cap, .int .i64 sure, .int .i64 kept, .int .u64 mark], .string s, .int .i64 b] w fun e w' => ∃ a' c', e = .returned (.tuple #[.agg #[.slice a' (rs.length + 1) c', .int .i64 sure, .int .i64 kept, .int .u64 mark], .int .u64 (placeOf rs rs.length : Nat), .int .i64 0]) ∧ Below w.heap.size w w' ∧ TextsAt w' a' (rs ++ [s]) ∧ NewAt w.heap.size a' := by
  obtain ⟨j0, hj, hy0, hy1, hy2⟩ := info_parts infoT2
  go_enter Try.func24, Try.ntmps24
  go_wp2_with fail
  have hbel : Below w.heap.size w ((w.alloc (.cells #[.slice a rs.length cap, .int .i64 sure, .int .i64 kept, .int .u64 mark] 34)).alloc (.cells #[.slice none 0 0, .int .i64 0, .int .i64 0, .int .u64 0] 34)) := ((Below.refl _ _).alloc (Nat.le_refl _) _).alloc (by simp) _
  have hbm : Blk ((w.alloc (.cells #[.slice a rs.length cap, .int .i64 sure, .int .i64 kept, .int .u64 mark] 34)).alloc (.cells #[.slice none 0 0, .int .i64 0, .int .i64 0, .int .u64 0] 34)) w.heap.size #[.slice a rs.length cap, .int .i64 sure, .int .i64 kept, .int .u64 mark] 34 := (Blk.made w _ _).same (Below.heap_alloc _ _ _ (by simp))
  have hbr : Blk ((w.alloc (.cells #[.slice a rs.length cap, .int .i64 sure, .int .i64 kept, .int .u64 mark] 34)).alloc (.cells #[.slice none 0 0, .int .i64 0, .int .i64 0, .int .u64 0] 34)) (w.heap.size + 1) #[.slice none 0 0, .int .i64 0, .int .i64 0, .int .u64 0] 34 := by
    have := Blk.made (w.alloc (.cells #[.slice a rs.length cap, .int .i64 sure, .int .i64 kept, .int .u64 mark] 34)) #[.slice none 0 0, .int .i64 0, .int .i64 0, .int .u64 0] 34
    simpa using this
  have hzz : ((w.alloc (.cells #[.slice a rs.length cap, .int .i64 sure, .int .i64 kept, .int .u64 mark] 34)).alloc (.cells #[.slice none 0 0, .int .i64 0, .int .i64 0, .int .u64 0] 34)).heap.size = w.heap.size + 2 := by simp
  generalize (w.alloc (.cells #[.slice a rs.length cap, .int .i64 sure, .int .i64 kept, .int .u64 mark] 34)).alloc (.cells #[.slice none 0 0, .int .i64 0, .int .i64 0, .int .u64 0] 34) = W2 at *
  have hT2 := hT.below hbel
  refine (mroom_any W2 a cap rs sure kept mark hT2 hs (by omega)).mono ?_
  rintro e w3 ⟨rfl, b3⟩
  have hT3 := hT2.below b3
  have hbm3 := hbm.same (b3.block w.heap.size (by omega))
  have hbr3 := hbr.same (b3.block (w.heap.size + 1) (by omega))
  have hz3 : w.heap.size + 2 ≤ w3.heap.size := by have := b3.size; omega
  have hbel3 := below_chain hbel b3
  clear hT hT2 hbm hbr hbel b3 hzz
  have hps := placeOf_le rs hs rs.length (Nat.le_refl _)
  have hpp := placeOf_pos rs rs.length
  have d1 : decide ((4194305 : Int) - (placeOf rs rs.length : Nat) < (s.size : Int) + 12 + (b : Int)) = false := by simp; omega
  have HT3 := hid hT3
  have HBM := hid hbm3
  have HBR := hid hbr3
  have HBL := hid hbel3
  have c0 : w3.cell? ⟨w.heap.size, 0, none⟩ = some (.slice a rs.length cap) := hbm3.cell 0
  have c1 : w3.cell? ⟨w.heap.size, 1, none⟩ = some (.int .i64 sure) := hbm3.cell 1
  have c2 : w3.cell? ⟨w.heap.size, 2, none⟩ = some (.int .i64 kept) := hbm3.cell 2
  have c3 : w3.cell? ⟨w.heap.size, 3, none⟩ = some (.int .u64 mark) := hbm3.cell 3
  have HM : Hid (Calls Try.prog 30 #[.agg #[.slice a rs.length cap, .int .i64 sure, .int .i64 kept, .int .u64 mark]] w3.drew fun e w' => ∃ g c, e = .returned (.slice (some ⟨g, 0, none⟩) (rs.length + 1) c) ∧ Below w3.drew.heap.size w3.drew w' ∧ (∀ i, i ≤ rs.length → w'.cell? ⟨g, i, none⟩ = some (.int .u64 (placeOf rs i : Nat)))) :=
    at_any w3.drew a cap rs sure kept mark (hT3.below ((Below.refl _ _).drew)) hs (by omega)
  have HK : Hid (∀ w5, Below w3.drew.heap.size w3.drew w5 → w5.cell? ⟨w.heap.size, 0, none⟩ = some (.slice a rs.length cap)) := fun w5 b' => (World.cell?_of_block (w := w3) (a := ⟨w.heap.size, 0, none⟩) (b'.block w.heap.size (by show w.heap.size < w3.heap.size; omega))).trans (HBM.out.cell 0)
  have i2 : (rs.length : Int) < (rs.length : Int) + 1 := by omega
  clear hT3 hbm3 hbr3 hbel3
  go_wp2_with fail
  go_region_law (go_simp; go_at_call 30; refine HM.out.mono ?_; rintro x w5 ⟨g, c, rfl, b5, hc5⟩; have hr5 := hc5 rs.length (Nat.le_refl _); have hk5 := HK.out _ b5; have HB5 := hid b5; clear b5 hc5)
  all_goals
    have hz5 : w3.heap.size ≤ w5.heap.size := HB5.out.size
    have hk5a : (w5.alloc (.cells #[] 9)).cell? ⟨w.heap.size, 0, none⟩ = some (.slice a rs.length cap) := (World.cell?_of_block (w := w5) (a := ⟨w.heap.size, 0, none⟩) (Below.heap_alloc _ _ _ (by show w.heap.size < w5.heap.size; omega))).trans hk5
    have hT5 : TextsAt (w5.alloc (.cells #[] 9)) a rs := (HT3.out.below (below_chain ((Below.refl _ _).drew) HB5.out)).below ((Below.refl _ _).alloc (Nat.le_refl _) _)
    have HT5 := hid hT5
    clear hT5
    go_wp2_with (at_builtin; refine wpList_copy _ rfl _ _ rfl w5.heap.size rfl a cap rs rfl HT5.out (Blk.made w5 #[] 9) (by omega) ?_)
    intro v6 w6 hown6 hgrow6 hloc6
    have hz6 : w5.heap.size + 1 ≤ w6.heap.size := by have := hgrow6.size; simp at this; omega
    have HOS6 : Hid (w6.os = w5.os ∧ w6.tape = w5.tape ∧ w6.output = w5.output) := ⟨hgrow6.os, hgrow6.tape, hgrow6.output⟩
    have keep6 : ∀ k, k < w5.heap.size → w6.heap[k]? = w5.heap[k]? := fun k hk => (hgrow6.block k (by simp; omega) fun e => by have : k = w5.heap.size := Option.some.inj e; omega).trans (Below.heap_alloc _ _ _ hk)
    have hv6 : ∀ k, v6.ownBlock = some k → w5.heap.size ≤ k := fun k hk => by
      rcases hloc6 with e | e
      · have h' : w5.heap.size = k := Option.some.inj (e.symm.trans hk); omega
      · have h' := Option.some.inj (e.symm.trans hk); omega
    have hown6' : (w6.alloc (.cells #[.string s] 9)).ownsRow 0 9 1 v6 rs.length (rs.map Value.string) := owns_same hown6 fun g k => Below.heap_alloc _ _ g (owns_lt hown6 k)
    have hnews6 : ∀ j u, [Value.string s][j]? = some u → (w6.alloc (.cells #[.string s] 9)).cell? ((⟨w6.heap.size, 0, none⟩ : Addr).add j) = some u := World.news_of_block (heap_alloc_new w6 _)
    clear hgrow6 hloc6
    go_wp2_with (at_builtin; refine wpList_append_own_at _ rfl _ _ 31 rfl 0 9 j0 (.string ⟨#[]⟩) 1 16 Try.underlying31 hj hy0 hy1 hy2 rfl (by decide) v6 rs.length (rs.map Value.string) rfl hown6' ⟨w6.heap.size, 0, none⟩ 1 1 [.string s] rfl rfl hnews6 (by intro u hu; simp at hu; subst hu; rfl) (by unfold maxLen; omega) (by omega) (Nat.zero_le _) ?_)
    intro v7 w7 hown7 hgrow7 hiff7 hloc7
    have HOS : Hid (w7.os = w3.os ∧ w7.tape = w3.tape ∧ w7.output = w3.output) := ⟨hgrow7.os.trans (HOS6.out.1.trans HB5.out.os), hgrow7.tape.trans (HOS6.out.2.1.trans HB5.out.tape), hgrow7.output.trans (HOS6.out.2.2.trans HB5.out.output)⟩
    have keep7 : ∀ k, k < w3.heap.size → w7.heap[k]? = w3.heap[k]? := fun k hk => (hgrow7.block k (by simp; omega) fun e => by have := hv6 k e.symm; omega).trans ((Below.heap_alloc _ _ _ (by omega)).trans ((keep6 k (by omega)).trans (HB5.out.block k hk)))
    have hv7 : ∀ k, v7.ownBlock = some k → w3.heap.size ≤ k := fun k hk => by
      rcases hloc7 with e | e
      · have := hv6 k (e.symm.trans hk); omega
      · have h' := Option.some.inj (e.symm.trans hk); omega
    have hm7 := HBM.out.same (keep7 w.heap.size (by omega))
    have hr7 := HBR.out.same (keep7 (w.heap.size + 1) (by omega))
    have hz7 : w3.heap.size ≤ w7.heap.size := by have := hgrow7.size; simp at this; omega
    obtain ⟨va, vc, hv⟩ := owns_slice hown7
    have m0 : w7.cell? ⟨w.heap.size, 0, none⟩ = some (.slice a rs.length cap) := hm7.cell 0
    have m1 : w7.cell? ⟨w.heap.size, 1, none⟩ = some (.int .i64 sure) := hm7.cell 1
    have m2 : w7.cell? ⟨w.heap.size, 2, none⟩ = some (.int .i64 kept) := hm7.cell 2
    have m3 : w7.cell? ⟨w.heap.size, 3, none⟩ = some (.int .u64 mark) := hm7.cell 3
    have n0 : w7.cell? ⟨w.heap.size + 1, 0, none⟩ = some (.slice none 0 0) := hr7.cell 0
    have n1 : w7.cell? ⟨w.heap.size + 1, 1, none⟩ = some (.int .i64 0) := hr7.cell 1
    have n2 : w7.cell? ⟨w.heap.size + 1, 2, none⟩ = some (.int .i64 0) := hr7.cell 2
    have n3 : w7.cell? ⟨w.heap.size + 1, 3, none⟩ = some (.int .u64 0) := hr7.cell 3
    have fm := hm7.frozen 0
    have fr0 := hr7.frozen 0
    have fr1 := hr7.frozen 1
    have fr2 := hr7.frozen 2
    have fr3 := hr7.frozen 3
    subst hv
    obtain ⟨WX, HWX⟩ : ∃ WX, Hid (WX = (((((w7.setCell ⟨w.heap.size, 0, none⟩ (.slice va (rs.length + 1) vc)).setCell ⟨w.heap.size + 1, 0, none⟩ (.slice va (rs.length + 1) vc)).setCell ⟨w.heap.size + 1, 1, none⟩ (.int .i64 sure)).setCell ⟨w.heap.size + 1, 2, none⟩ (.int .i64 kept)).setCell ⟨w.heap.size + 1, 3, none⟩ (.int .u64 mark))) := ⟨_, rfl⟩
    have hbx : Blk WX (w.heap.size + 1) #[.slice va (rs.length + 1) vc, .int .i64 sure, .int .i64 kept, .int .u64 mark] 34 := by
      rw [HWX.out]
      exact ((((hr7.same (heap_set _ _ _ _ (by omega))).set 0 _).set 1 _).set 2 _).set 3 _
    have hKx : Kept (fun k => k = w.heap.size ∨ k = w.heap.size + 1) w7 WX := by
      rw [HWX.out]
      exact ((((Kept.setCell _ _ _ _ _ (.inl rfl)).trans (Kept.setCell _ _ _ _ _ (.inr rfl))).trans (Kept.setCell _ _ _ _ _ (.inr rfl))).trans (Kept.setCell _ _ _ _ _ (.inr rfl))).trans (Kept.setCell _ _ _ _ _ (.inr rfl))
    have hzx := hKx.size
    have hkx : ∀ k, k < w7.heap.size → k ≠ w.heap.size → k ≠ w.heap.size + 1 → WX.heap[k]? = w7.heap[k]? := fun k k0 k1 k2 => hKx.block k k0 (by rintro (x | x); exact k1 x; exact k2 x)
    have hbelx : Below w.heap.size w WX := by
      have hb3 := HBL.out
      have ho : WX.os = w7.os ∧ WX.tape = w7.tape ∧ WX.output = w7.output := ⟨hKx.os, hKx.tape, hKx.output⟩
      have ho7 : w7.os = w3.os ∧ w7.tape = w3.tape ∧ w7.output = w3.output := HOS.out
      exact ⟨ho.1.trans (ho7.1.trans hb3.os), ho.2.1.trans (ho7.2.1.trans hb3.tape), ho.2.2.trans (ho7.2.2.trans hb3.output), by omega, fun k hk => (hkx k (by omega) (by omega) (by omega)).trans ((keep7 k (by omega)).trans (hb3.block k hk))⟩
    have htx : TextsAt WX va (rs ++ [s]) := texts_of hown7 (fun g k => hkx g (owns_lt hown7 k) (by have := hv7 g k; omega) (by have := hv7 g k; omega)) (by omega)
    have hnx : NewAt w.heap.size va := fun x hx => by have := hv7 x.block (by rw [hx]; rfl); omega
    have r0 := hbx.cell 0
    have r1 := hbx.cell 1
    have r2 := hbx.cell 2
    have r3 := hbx.cell 3
    simp only [List.getElem?_toArray, List.getElem?_cons_zero, List.getElem?_cons_succ] at r0 r1 r2 r3
    clear hbx hkx hKx hm7 hr7 hown7 hgrow7 hiff7 hloc7 keep7 keep6 hv7 hv6
    go_wp2_with fail
    rw [show (((((w7.setCell ⟨w.heap.size, 0, none⟩ (.slice va (rs.length + 1) vc)).setCell ⟨w.heap.size + 1, 0, none⟩ (.slice va (rs.length + 1) vc)).setCell ⟨w.heap.size + 1, 1, none⟩ (.int .i64 sure)).setCell ⟨w.heap.size + 1, 2, none⟩ (.int .i64 kept)).setCell ⟨w.heap.size + 1, 3, none⟩ (.int .u64 mark)) = WX from HWX.out.symm]
    refine bodyPost_ret (v := .tuple #[.agg #[.slice va (rs.length + 1) vc, .int .i64 sure, .int .i64 kept, .int .u64 mark], .int .u64 (placeOf rs rs.length : Nat), .int .i64 0]) (by simp [results, Try.results24, go_sem, r0, r1, r2, r3]) rfl ?_
    exact ⟨va, vc, rfl, hbelx, htx, hnx⟩

end Go.Proofs.Ythmhigjdjclckaa
