/-
  The walk of NodeHalves.
-/
import Derived.Test.YtplcojfogfikfaaBase8C
import Derived.Test.YtplcojfogfikfaaNodeAwakeC
import Derived.Test.YtplcojfogfikfaaBase9C
import Derived.Maps.AppendAt
import Derived.Test.YtplcojfogfikfaaPageAppCapC
import Derived.Deep.AppendLies
import Derived.BigRegion
import Derived.Deep.RegionLaw
namespace Go.Proofs.Ytplcojfogfikfaa
open Go.RowKit Go.Sort
set_option linter.unusedVariables false
set_option linter.unusedSimpArgs false

theorem RowsAt.entry {w : World} {a : Option Addr} {L : List EntV} (h : EntsAt w a L) {i : Nat} (hi : i < L.length) : ∃ b o, a = some ⟨b, o, none⟩ ∧ b < w.heap.size ∧
    w.cell? ⟨b, o + i * 3, none⟩ = some (.string L[i].key) ∧ w.cell? ⟨b, o + i * 3 + 1, none⟩ = some (.int .u32 L[i].page) ∧ w.cell? ⟨b, o + i * 3 + 2, none⟩ = some (.int .i64 L[i].slot) := by
  rcases h with h | ⟨b, o, e, hb, hc⟩
  · subst h; simp at hi
  · exact ⟨b, o, e, hb, hc i hi 0 _ rfl, hc i hi 1 _ rfl, hc i hi 2 _ rfl⟩

theorem apply_insC {p : SheetV} {w : World} {a : Option Addr} {c : Nat} (lsn k : Nat) (S : ByteArray) (h : p.Ok w a) (f : p.Fits) (hk : k ≤ 63) (hS : S.size ≤ 512) :
    Calls Try.prog 8 #[p.val a c, .agg #[.int .i64 2, .int .i64 k, .string S, .string ⟨#[]⟩], .int .u64 lsn] w fun e w' => ∃ X, e = .returned (.tuple #[X, .int .i64 (insE p (opIns k S))]) ∧ Below w.heap.size w w' ∧
      (insE p (opIns k S) = 0 → ∃ a' c', X = ({ p with slots := insL p.slots k S, lsn := lsn } : SheetV).val a' c' ∧ StrsFrom w.heap.size w' a' (insL p.slots k S) ∧ (insL p.slots k S).length ≤ c') ∧ (insE p (opIns k S) ≠ 0 → X = sheet0.val none 0) := by
  have hd := change_insC f (opIns_ok k S hk hS) rfl (by show (0 : Int) ≤ (k : Int); omega)
  have := apply_ofC (w := w) (c := c) lsn h f (opIns_ok k S hk hS) (opIns_chk k S hk hS) hd
  exact this

/-- Where NodeHalves stands: its page. -/
structure HaAt (w wx : World) (Pb lsn : Nat) (M : List ItemV) (a : Option Addr) (c : Nat) : Prop where
  page : RowV wx Pb 5 (five (.int .u32 3) (.int .u64 lsn) (.int .i64 3) (.string (num4 0)) (.slice a M.length c))
  slots : StrsAt wx a (M.map ItemV.bs)
  bel : Below w.heap.size w wx
  lo : w.heap.size ≤ Pb
  lt : Pb < wx.heap.size
  inv : HInv M
  lsn : lsn < 18446744073709551616
  cap : M.length ≤ c

theorem HaAt.below {w wx wy : World} {Pb lsn : Nat} {M : List ItemV} {a : Option Addr} {c : Nat} (h : HaAt w wx Pb lsn M a c) (k : Below wx.heap.size wx wy) : HaAt w wy Pb lsn M a c :=
  ⟨h.page.below k h.lt, h.slots.below k, below_chain h.bel k, h.lo, Nat.lt_of_lt_of_le h.lt k.size, h.inv, h.lsn, h.cap⟩

theorem HaAt.alloc {w wx : World} {Pb lsn : Nat} {M : List ItemV} {a : Option Addr} {c : Nat} (h : HaAt w wx Pb lsn M a c) (o : Obj) : HaAt w (wx.alloc o) Pb lsn M a c := h.below ((Below.refl _ _).alloc (Nat.le_refl _) _)

theorem HaAt.ok {w wx : World} {Pb lsn : Nat} {M : List ItemV} {a : Option Addr} {c : Nat} (h : HaAt w wx Pb lsn M a c) : (leafV lsn 0 M).Ok wx a := SheetV.Fits.ok (h.inv.fits h.lsn) h.slots

/-- The page is another one. -/
theorem HaAt.put {w wx : World} {Pb lsn lsn' : Nat} {M M' : List ItemV} {a a' : Option Addr} {c c' : Nat} (h : HaAt w wx Pb lsn M a c) (B : Nat) (hB : Pb < B) (hs : StrsFrom B wx a' (M'.map ItemV.bs)) (hi : HInv M') (hl : lsn' < 18446744073709551616) (hc : M'.length ≤ c') :
    HaAt w (store5 wx Pb (.int .u32 3) (.int .u64 lsn') (.int .i64 3) (.string (num4 0)) (.slice a' M'.length c')) Pb lsn' M' a' c' :=
  ⟨h.page.set5 _ _ _ _ _, (hs.store5 hB _ _ _ _ _).at, below_set5 h.bel h.lo _ _ _ _ _, h.lo, by unfold store5; simpa using h.lt, hi, hl, hc⟩

/-- Where NodeHalves stands with two copies of the page. -/
structure TwoAt (w wx : World) (Pb A B lsn : Nat) (M : List ItemV) (a : Option Addr) (c : Nat) : Prop where
  main : HaAt w wx Pb lsn M a c
  one : RowV wx A 5 (five (.int .u32 3) (.int .u64 lsn) (.int .i64 3) (.string (num4 0)) (.slice a M.length c))
  two : RowV wx B 5 (five (.int .u32 3) (.int .u64 lsn) (.int .i64 3) (.string (num4 0)) (.slice a M.length c))
  ab : A ≠ B
  pa : Pb < A
  pb : Pb < B
  la : A < wx.heap.size
  lb : B < wx.heap.size
  far : ∀ b o, a = some ⟨b, o, none⟩ → M ≠ [] → b ≠ A ∧ b ≠ B

theorem TwoAt.swap {w wx : World} {Pb A B lsn : Nat} {M : List ItemV} {a : Option Addr} {c : Nat} (h : TwoAt w wx Pb A B lsn M a c) : TwoAt w wx Pb B A lsn M a c := ⟨h.main, h.two, h.one, h.ab.symm, h.pb, h.pa, h.lb, h.la, fun b o e q => ⟨(h.far b o e q).2, (h.far b o e q).1⟩⟩

theorem TwoAt.new {w wx : World} {Pb lsn : Nat} {M : List ItemV} {a : Option Addr} {c : Nat} (h : HaAt w wx Pb lsn M a c) :
    TwoAt w ((wx.alloc (.cells #[.int .u32 3, .int .u64 lsn, .int .i64 3, .string (num4 0), .slice a M.length c] 29)).alloc (.cells #[.int .u32 3, .int .u64 lsn, .int .i64 3, .string (num4 0), .slice a M.length c] 29)).drew Pb wx.heap.size (wx.heap.size + 1) lsn M a c := by
  have hlt := h.lt
  refine ⟨((h.alloc _).alloc _).below ((Below.refl _ _).drew), ?_, ?_, by omega, by omega, by omega, by simp; omega, by simp, ?_⟩
  rotate_left 2
  · intro b o ea hM
    rcases h.slots with hs | ⟨b', o', e', hb, _⟩
    · exact absurd (List.map_eq_nil_iff.1 hs) hM
    · rw [e'] at ea
      injection ea with ea
      injection ea with ea1
      omega
  · exact ((RowV.five_new wx _ _ _ _ _ _).below ((Below.refl _ _).alloc (Nat.le_refl _) _) (by simp)).below ((Below.refl (wx.heap.size + 2) _).drew) (by omega)
  · have := (RowV.five_new (wx.alloc (.cells #[.int .u32 3, .int .u64 lsn, .int .i64 3, .string (num4 0), .slice a M.length c] 29)) (.int .u32 3) (.int .u64 lsn) (.int .i64 3) (.string (num4 0)) (.slice a M.length c) 29).below ((Below.refl (wx.heap.size + 2) _).drew) (by simp)
    simpa using this

theorem RowV.blk {w w' : World} {b N : Nat} {f : Nat → Value} (h : RowV w b N f) (e : w'.heap[b]? = w.heap[b]?) : RowV w' b N f :=
  fun j hj => ⟨(World.cell?_of_block (w := w) (a := ⟨b, j, none⟩) e).trans (h j hj).1, (World.frozen?_of_block (w := w) (a := ⟨b, j, none⟩) e).trans (h j hj).2⟩

/-- Texts in a block from its front on. -/
def BlkT (w : World) (g : Nat) (T : List ByteArray) : Prop := ∃ cur, w.heap[g]? = some (.cells cur 9 (0, 0)) ∧ ∀ i (hi : i < T.length), cur[i]? = some (.string T[i])

theorem BlkT.of {w w' : World} {g : Nat} {T : List ByteArray} (h : BlkT w g T) (e : w'.heap[g]? = w.heap[g]?) : BlkT w' g T := by
  obtain ⟨cur, h1, h2⟩ := h
  exact ⟨cur, e.trans h1, h2⟩

theorem BlkT.strs {w : World} {g : Nat} {T : List ByteArray} (h : BlkT w g T) : StrsAt w (some ⟨g, 0, none⟩) T := by
  obtain ⟨cur, h1, h2⟩ := h
  refine .inr ⟨g, 0, rfl, (Array.getElem?_eq_some_iff.1 h1).1, fun i hi => ?_⟩
  rw [Nat.zero_add, cell_of_row w g i cur _ _ h1]
  exact h2 i hi

theorem step_app {V : World} {ops : Array Oper} {o : Oper} {a : Act} {K : Act → World → Prop} {Q : Exit → Act → World → Prop} {E' : Prop} (hgd : o.guard = none) (s x : Operand)
    (ho : o.op = .call { callee := .builtin .append, args := #[s, x], argTypes := #[27, 27] }) (n : Nat) (hs : a.eval s = .slice (some ⟨n, 0, none⟩) 0 0) (hE : V.heap[n]? = some (.cells #[] 9 (0, 0)))
    (sb off m c : Nat) (hx : a.eval x = .slice (some ⟨sb, off, none⟩) m c) (T : List ByteArray) (hT : T.length = m) (hm : 0 < m) (hm2 : m ≤ 64) (hcell : ∀ i (hi : i < T.length), V.cell? ⟨sb, off + i, none⟩ = some (.string T[i]))
    (h : ∀ g cap w', BlkT w' g T → g < w'.heap.size → V.heap.size ≤ w'.heap.size → (w'.os = V.os ∧ w'.tape = V.tape ∧ w'.output = V.output) → (∀ k, k < V.heap.size → k ≠ n → w'.heap[k]? = V.heap[k]?) → (g = n ∨ g = V.heap.size) → K (a.put o.dst (.slice (some ⟨g, 0, none⟩) m cap)) w') :
    if Region.wanted o (yielded ops a.tmps) = true then Oper.wp Try.prog o a V K Q else E' := by
  obtain ⟨i0, hi, hz0, hz1, hz2⟩ := info_parts infoStr
  have hown : V.ownsRow 0 9 1 (.slice (some ⟨n, 0, none⟩) 0 0) 0 [] := ⟨rfl, .inr ⟨n, 0, #[], rfl, Nat.zero_le _, hE, Nat.le_refl _, by unfold maxLen; omega, rfl, rfl⟩⟩
  have hadd : ∀ j, (⟨sb, off, none⟩ : Addr).add j = ⟨sb, off + j, none⟩ := fun j => by
    by_cases h0 : j = 0
    · subst h0; simp [Addr.add]
    · simp [Addr.add, h0]
  have hnews : ∀ j u, (T.map Value.string)[j]? = some u → V.cell? ((⟨sb, off, none⟩ : Addr).add j) = some u := fun j u hu => by
    rw [List.getElem?_map] at hu
    obtain ⟨y, hy, rfl⟩ := Option.map_eq_some_iff.1 hu
    obtain ⟨hj, rfl⟩ := List.getElem?_eq_some_iff.1 hy
    rw [hadd]; exact hcell j hj
  have h1 : ∀ u ∈ T.map Value.string, u.oneCell' = true := fun u hu => by
    obtain ⟨y, _, rfl⟩ := List.mem_map.1 hu
    rfl
  refine step_append_lies V hgd s x 27 ho 0 9 i0 _ 1 16 Try.underlying27 hi hz0 hz1 hz2 (by rfl) (by decide) (.slice (some ⟨n, 0, none⟩) 0 0) 0 [] hs hown ⟨sb, off, none⟩ m c (T.map Value.string) hx (by rw [List.length_map, hT, Nat.mul_one]) hnews h1 hm (by unfold maxLen; omega) (by omega) (Nat.zero_le _) _ rfl ?_
  intro g cap w' hown' hgrow hloc hlt
  rw [Nat.zero_add] at *
  refine h g cap w' ?_ hlt hgrow.size ⟨hgrow.os, hgrow.tape, hgrow.output⟩ (fun k hk hkn => hgrow.block k hk (by show some k ≠ some n; simpa using hkn)) ?_
  · rcases hown'.2 with ⟨e1, _⟩ | ⟨g', cap', cur, e1, _, hg, _, _, _, htake⟩
    · cases e1
    · simp only [Value.slice.injEq, Option.some.injEq, Addr.mk.injEq, and_true, true_and] at e1
      obtain ⟨rfl, rfl⟩ := e1
      refine ⟨cur, hg, fun i hi => ?_⟩
      have : (cur.toList.take (m * 1))[i]? = some (.string T[i]) := by rw [htake]; simp [hi]
      rw [List.getElem?_take, if_pos (by omega)] at this
      simpa using this
  · rcases hloc with q | q
    · left
      have : some n = some g := q
      simpa using this.symm
    · exact .inr q

/-- Where NodeHalves stands with its two halves. -/
structure HalfAt (w wx : World) (Pb A B lsn : Nat) (M : List ItemV) (sb so c h g8 c8 g9 c9 : Nat) : Prop where
  main : HaAt w wx Pb lsn M (some ⟨sb, so, none⟩) c
  one : RowV wx A 5 (five (.int .u32 3) (.int .u64 lsn) (.int .i64 3) (.string (num4 0)) (.slice (some ⟨g8, 0, none⟩) h c8))
  two : RowV wx B 5 (five (.int .u32 3) (.int .u64 lsn) (.int .i64 3) (.string (num4 0)) (.slice (some ⟨g9, 0, none⟩) (M.length - h) c9))
  r8 : BlkT wx g8 ((M.map ItemV.bs).take h)
  r9 : BlkT wx g9 ((M.map ItemV.bs).drop h)

theorem strs_setOther {w : World} {sb so : Nat} {L : List ByteArray} (h : StrsAt w (some ⟨sb, so, none⟩) L) {k i : Nat} (hk : sb ≠ k) (v : Value) : StrsAt (w.setCell ⟨k, i, none⟩ v) (some ⟨sb, so, none⟩) L := by
  rcases h with h | ⟨b, o, e, hb, hc⟩
  · exact .inl h
  · injection e with e
    injection e with e1 e2
    subst e1
    subst e2
    refine .inr ⟨sb, so, rfl, by simpa using hb, fun i' hi' => ?_⟩
    rw [World.cell?_setCell_other _ _ _ _ (by intro q; exact hk (congrArg Addr.block q).symm)]
    exact hc i' hi'

theorem HaAt.setOther {w wx : World} {Pb lsn : Nat} {M : List ItemV} {sb so c : Nat} (h : HaAt w wx Pb lsn M (some ⟨sb, so, none⟩) c) {k i : Nat} (hk : Pb < k) (hs : sb ≠ k) (v : Value) : HaAt w (wx.setCell ⟨k, i, none⟩ v) Pb lsn M (some ⟨sb, so, none⟩) c :=
  ⟨h.page.set_other (by omega) v, strs_setOther h.slots hs v, h.bel.setCell (p := ⟨k, i, none⟩) (by have := h.lo; show _ ≤ k; omega) v, h.lo, by simpa using h.lt, h.inv, h.lsn, h.cap⟩

theorem HalfAt.put {w W X : World} {Pb A B lsn : Nat} {M : List ItemV} {sb so c h g8 c8 g9 c9 : Nat} (HT : TwoAt w W Pb A B lsn M (some ⟨sb, so, none⟩) c) (hfar : sb ≠ A ∧ sb ≠ B) (bX : Below W.heap.size W X)
    (R8 : BlkT X g8 ((M.map ItemV.bs).take h)) (R9 : BlkT X g9 ((M.map ItemV.bs).drop h)) (hg8 : W.heap.size ≤ g8) (hg9 : W.heap.size ≤ g9) :
    HalfAt w ((X.setCell ⟨A, 4, none⟩ (.slice (some ⟨g8, 0, none⟩) h c8)).setCell ⟨B, 4, none⟩ (.slice (some ⟨g9, 0, none⟩) (M.length - h) c9)) Pb A B lsn M sb so c h g8 c8 g9 c9 := by
  have hA := HT.la
  have hB := HT.lb
  have hab := HT.ab
  refine ⟨((HT.main.below bX).setOther HT.pa hfar.1 _).setOther HT.pb hfar.2 _, ((HT.one.below bX hA).set4 _).set_other (by omega) _, ((HT.two.below bX hB).set_other (by omega) _).set4 _, R8.of ?_, R9.of ?_⟩
  · rw [Below.heap_setCell _ _ _ _ (by show g8 ≠ B; omega), Below.heap_setCell _ _ _ _ (by show g8 ≠ A; omega)]
  · rw [Below.heap_setCell _ _ _ _ (by show g9 ≠ B; omega), Below.heap_setCell _ _ _ _ (by show g9 ≠ A; omega)]

theorem half_full (lsn : Nat) (a : Option Addr) (c : Nat) (T : List ByteArray) (w : World) (hl : lsn < 18446744073709551616) (hs : StrsAt w a T) (hT : T.length < 64) (hsum : slotSum T ≤ 408) :
    Calls Try.prog 29 #[.agg #[.int .u32 3, .int .u64 lsn, .int .i64 3, .string (num4 0), .slice a T.length c]] w fun e w' => e = .returned (.bool false) ∧ Below w.heap.size w w' := by
  have hf : (SheetV.mk 3 lsn 3 (num4 0) T).Fits := ⟨by show 3 < _; omega, hl, by show (0 : Int) ≤ 3; omega, by show (3 : Int) ≤ 255; omega, by show (num4 0).size ≤ 32; rw [num4_size]; omega, by show T.length ≤ 64; omega, by show (num4 0).size + slotSum T ≤ 485; rw [num4_size]; omega⟩
  have := full_any (SheetV.mk 3 lsn 3 (num4 0) T) a c w (SheetV.Fits.ok hf hs)
  rw [full_leaf lsn 0 T (by omega), decide_eq_false (by omega), decide_eq_false (by omega)] at this
  exact this

set_option maxHeartbeats 40000000 in
set_option maxRecDepth 20000 in
theorem halves_walk (ae : Option Addr) (ce : Nat) (L : List EntV) (w : World) (hm : EntsAt w ae L) (hin : ∀ x ∈ L, x.In ∧ x.key.size ≤ 140737488351232) (hlen : L.length * 32 ≤ 140737488351232) :
    Calls Try.prog 7 #[.slice ae L.length ce] w fun e w' => e = .returned (.bool true) ∧ Below w.heap.size w w' := by
  have HAW : Hid (∀ wx, Calls Try.prog 11 #[] wx fun e w' => e = .returned (.bool true) ∧ Below wx.heap.size wx w') := fun wx => nawake_any wx
  have HBL : Hid (∀ wx, Calls Try.prog 9 #[.int .u32 3] wx fun x w' => x = .returned (blankV.val none 0) ∧ Below wx.heap.size wx w') := fun wx => blank_any 3 wx
  have HFM : Hid (∀ wx, Calls Try.prog 10 #[.int .u32 0] wx fun e w' => e = .returned (opFmtN 3 (num4 0)).val ∧ Below wx.heap.size wx w') := fun wx => formatLeaf_any 0 wx (by omega)
  have HAP : Hid (∀ wx, Calls Try.prog 8 #[blankV.val none 0, (opFmtN 3 (num4 0)).val, .int .u64 1] wx fun e w' => ∃ a' c', e = .returned (.tuple #[(leafV 1 0 []).val a' c', .int .i64 0]) ∧ Below wx.heap.size wx w' ∧ StrsAt w' a' []) := fun wx => apply_leaf 0
  have HFU : Hid (∀ (wx : World) (Pb lsn : Nat) (M : List ItemV) (a : Option Addr) (c : Nat), HaAt w wx Pb lsn M a c → Calls Try.prog 29 #[(leafV lsn 0 M).val a c] wx fun e w' => e = .returned (.bool (decide (64 ≤ M.length) || decide (408 < slotSum (M.map ItemV.bs)))) ∧ Below wx.heap.size wx w') := fun wx Pb lsn M a c h => by
    have := full_any (leafV lsn 0 M) a c wx h.ok
    rw [show fullB (leafV lsn 0 M) = (decide (64 ≤ M.length) || decide (408 < slotSum (M.map ItemV.bs))) from by
      have := full_leaf lsn 0 (M.map ItemV.bs) (by have := h.inv.sum; omega)
      rw [List.length_map] at this; exact this] at this
    exact this
  have HTW : Hid (∀ (wx : World) (Pb lsn : Nat) (M : List ItemV) (a : Option Addr) (c : Nat) (x : ItemV), HaAt w wx Pb lsn M a c → (findF M x.e).2 = true → Calls Try.prog 19 #[(leafV lsn 0 M).val a c, x.val] wx fun r w' => r = .returned (.tuple #[op0.val, .int .i64 121]) ∧ Below wx.heap.size wx w') := fun wx Pb lsn M a c x h hf =>
    putItem_twice (leafV lsn 0 M) a c x wx h.ok (by have := h.inv.len; show (M.map ItemV.bs).length ≤ _; rw [List.length_map]; omega) (leafV_B h.inv.may lsn 0) (by rw [leafV_L h.inv.may]; exact hf)
  have HPU : Hid (∀ (wx : World) (Pb lsn : Nat) (M : List ItemV) (a : Option Addr) (c : Nat) (x : ItemV), HaAt w wx Pb lsn M a c → (findF M x.e).2 = false → x.e.page < 4294967296 → x.e.key.size ≤ 64 → Calls Try.prog 19 #[(leafV lsn 0 M).val a c, x.val] wx fun r w' => r = .returned (.tuple #[(OpV.mk 2 (findF M x.e).1 x.bs ⟨#[]⟩).val, .int .i64 0]) ∧ Below wx.heap.size wx w') := fun wx Pb lsn M a c x h hf hp hk => by
    have := putItem_ok (leafV lsn 0 M) a c x wx h.ok (by have := h.inv.len; show (M.map ItemV.bs).length ≤ _; rw [List.length_map]; omega) hp (by omega) (leafV_B h.inv.may lsn 0) (by rw [leafV_L h.inv.may]; exact hf)
    rw [leafV_L h.inv.may] at this
    exact this
  have HIN : Hid (∀ (wx : World) (Pb lsn : Nat) (M : List ItemV) (a : Option Addr) (c : Nat) (x : ItemV), HaAt w wx Pb lsn M a c → x.e.key.size ≤ 64 → M.length < 64 → slotSum (M.map ItemV.bs) ≤ 408 → Calls Try.prog 8 #[(leafV lsn 0 M).val a c, (OpV.mk 2 (findF M x.e).1 x.bs ⟨#[]⟩).val, .int .u64 2] wx fun e w' => ∃ a' c', e = .returned (.tuple #[(leafV 2 0 (insN M (findF M x.e).1.toNat x)).val a' c', .int .i64 0]) ∧ Below wx.heap.size wx w' ∧ StrsFrom wx.heap.size w' a' ((insN M (findF M x.e).1.toNat x).map ItemV.bs) ∧ (insN M (findF M x.e).1.toNat x).length ≤ c') := fun wx Pb lsn M a c x h hk hl hs => by
    obtain ⟨hp0, hp1, _⟩ := findF_place M x.e
    obtain ⟨n, hn⟩ := Int.eq_ofNat_of_zero_le hp0
    rw [hn] at hp1 ⊢
    have hnl : n ≤ M.length := by omega
    have hE : insE (leafV lsn 0 M) (opIns n x.bs) = 0 := by
      unfold insE
      rw [if_neg (by show ¬ ((M.map ItemV.bs).length : Int) < (n : Int); rw [List.length_map]; omega), if_neg (by show ¬ 64 ≤ (M.map ItemV.bs).length; rw [List.length_map]; omega), if_neg (by show ¬ 485 < (num4 0).size + slotSum (M.map ItemV.bs) + (2 + x.bs.size); rw [num4_size, ItemV.bs_size]; omega)]
    refine (apply_insC (c := c) 2 n x.bs h.ok (h.inv.fits h.lsn) (by omega) (by rw [ItemV.bs_size]; omega)).mono ?_
    rintro e w' ⟨X, rfl, b, hX, _⟩
    obtain ⟨a', c', rfl, hq, hcap⟩ := hX hE
    refine ⟨a', c', ?_, b, ?_, ?_⟩
    · rw [hE, show ((n : Int)).toNat = n from by omega]
      show _ = Ending.returned (.tuple #[(leafV 2 0 (insN M n x)).val a' c', .int .i64 0])
      unfold leafV
      rw [insN_map]
    · rw [show ((n : Int)).toNat = n from by omega, insN_map]; exact hq
    · rw [show ((n : Int)).toNat = n from by omega]
      have : (insL (M.map ItemV.bs) n x.bs).length ≤ c' := hcap
      rw [← insN_map, List.length_map] at this
      exact this
  have HHA : Hid (∀ (wx : World) (Pb lsn : Nat) (M : List ItemV) (a : Option Addr) (c : Nat), HaAt w wx Pb lsn M a c → Calls Try.prog 31 #[(leafV lsn 0 M).val a c] wx fun e w' => e = .returned (.int .i64 (halfF (M.map ItemV.bs))) ∧ Below wx.heap.size wx w') := fun wx Pb lsn M a c h => half_any (leafV lsn 0 M) a c wx h.ok
  simp only [SheetV.val, OpV.val, ItemV.val, blankV, leafV, opFmtN, op0, List.map_nil, List.length_nil, List.length_map] at HBL HFM HAP HFU HTW HPU HIN HHA
  go_enter Try.func7, Try.ntmps7
  go_wp2_with fail
  refine (HBL.out _).mono ?_
  rintro e w1 ⟨rfl, b1⟩
  go_wp2_with fail
  refine (HFM.out _).mono ?_
  rintro e w2 ⟨rfl, b2⟩
  go_wp2_with fail
  refine (HAP.out _).mono ?_
  rintro e w3 ⟨a3, c3, rfl, b3, s3⟩
  have B3 := below_chain (below_chain b1 b2) b3
  obtain ⟨W3, HW3⟩ : ∃ W, Hid (W = w3.alloc (.cells #[.int .u32 3, .int .u64 1, .int .i64 3, .string (num4 0), .slice a3 0 c3] 29)) := ⟨_, rfl⟩
  have h3 : HaAt w W3 w3.heap.size 1 [] a3 c3 := by
    rw [HW3.out]
    exact ⟨RowV.five_new _ _ _ _ _ _ _, .inl rfl, B3.alloc B3.size _, B3.size, by simp, HInv.nil, by omega, by simp⟩
  clear b1 b2 b3 B3 s3 HBL HFM HAP
  go_wp2_with fail
  rw [← HW3.out]
  clear HW3
  refine (HAW.out _).mono ?_
  rintro e w4 ⟨rfl, b4⟩
  have h4 := h3.below b4
  clear h3 b4 HAW
  generalize w3.heap.size = Pb at *
  go_upto_block 0 with fail
  go_cut [] from 26 to 80 (fun wx => Hid (∃ lsn M a c, HaAt w wx Pb lsn M a c))
  case first =>
    go_wp2_with fail
    go_loopw [5] (fun i wr => ∃ (k lsn : Nat) (M : List ItemV) (a : Option Addr) (c : Nat), k ≤ L.length ∧ k ≤ 80 ∧ i = .int .i64 k ∧ Hid (HaAt w wr Pb lsn M a c)) (fun i _ => 80 - (intOf i).toNat)
    case atStart => exact ⟨0, 1, [], a3, c3, by omega, by omega, rfl, h4⟩
    case round =>
      obtain ⟨k, lsn, M, a, c, hk, hk8, rfl, HH⟩ := hrel
      by_cases hlt : k < L.length
      · by_cases hlt8 : k < 80
        · obtain ⟨x0, x1, x2, x3, x4⟩ := HH.out.page.cells5
          have hi0 : (0 : Int) ≤ (k : Int) := by omega
          have hi1 : (k : Int) < (L.length : Int) := by omega
          have hi8 : (k : Int) < 80 := by omega
          have HF1 := hidn (HFU.out _ _ _ _ _ _ HH.out)
          cases hfb : (decide (64 ≤ M.length) || decide (408 < slotSum (M.map ItemV.bs))) with
          | true =>
            rw [hfb] at HF1
            go_wp2_with fail
            refine HF1.out.mono ?_
            rintro e w5 ⟨rfl, b5⟩
            have h5 := hidn (HH.out.below b5)
            go_wp2
            go_meet
            case rel => exact ⟨lsn, M, a, c, h5.out⟩
          | false =>
            rw [hfb] at HF1
            simp only [Bool.or_eq_false_iff, decide_eq_false_iff_not] at hfb
            go_wp2_with fail
            refine HF1.out.mono ?_
            rintro e w5 ⟨rfl, b5⟩
            have h5 := hidn (HH.out.below b5)
            obtain ⟨bb, o, rfl, hb, c0, c1, c2⟩ := (hm.below h5.out.bel).entry hlt
            have hink := hin L[k] (List.getElem_mem hlt)
            clear HF1 x0 x1 x2 x3 x4 HH b5
            generalize L[k] = x at *
            have hm16 := and16 x.slot
            go_upto_if 48 with fail
            go_cut [] from 48 to 52 (fun wx => wx = w5.alloc (.cells #[.string (cutKey 64 x.key), .int .u32 x.page, .int .i64 x.slot] 43))
            case first =>
              by_cases h64 : 64 < x.key.size
              · have h64' : (64 : Int) < (x.key.size : Int) := by omega
                have h64'' : (64 : Int) ≤ (x.key.size : Int) := by omega
                go_wp2
                go_meet
                case rel => unfold cutKey; rw [if_pos h64]
              · have h64' : ¬ (64 : Int) < (x.key.size : Int) := by omega
                go_wp2
                go_meet
                case rel => unfold cutKey; rw [if_neg h64]
            subst hcut
            obtain ⟨W6, HW6⟩ : ∃ W, Hid (W = w5.alloc (.cells #[.string (cutKey 64 x.key), .int .u32 x.page, .int .i64 (x.slot % 65536)] 43)) := ⟨_, rfl⟩
            have h6 : HaAt w W6 Pb lsn M a c := by rw [HW6.out]; exact h5.out.alloc _
            have hy := hidn (show EBox W6 w5.heap.size (x.cut 64) by rw [HW6.out]; exact EBox.new w5 (x.cut 64))
            obtain ⟨x0, x1, x2, x3, x4⟩ := h6.page.cells5
            rw [HW6.out] at x0 x1 x2 x3 x4
            have hne5 : Pb ≠ w5.heap.size := by have := h5.out.lt; omega
            have hmay := hidn (EntV.cut_may 64 hink.1.page)
            have hck := hidn (cutKey_size 64 x.key)
            cases hf : (findF M (x.cut 64)).2 with
            | true =>
              have HT1 := hidn (HTW.out W6 Pb lsn M a c (ItemV.mk (x.cut 64) true) h6 hf)
              simp only [EntV.cut] at HT1
              go_wp2_with fail
              rw [← HW6.out]
              refine HT1.out.mono ?_
              rintro e w7 ⟨rfl, b7⟩
              have h7 := hidn ((h6.below b7).alloc (.cells #[.int .i64 0, .int .i64 0, .string ⟨#[]⟩, .string ⟨#[]⟩] 35))
              clear HT1 x0 x1 x2 x3 x4 h6 HW6
              go_wp2
              go_roundw
              case rel => exact ⟨k + 1, lsn, M, a, c, by omega, by omega, by go_num, h7⟩
              case measure => simp [intOf]; omega
            | false =>
              have HT1 := hidn (HPU.out W6 Pb lsn M a c (ItemV.mk (x.cut 64) true) h6 hf hmay.out.page hck.out)
              have HI1 := HIN.out
              obtain ⟨X, HX⟩ : ∃ X, Hid (X = ItemV.mk (x.cut 64) true) := ⟨_, rfl⟩
              have HI2 : Hid (∀ (wx : World), HaAt w wx Pb lsn M a c → Calls Try.prog 8 #[.agg #[.int .u32 3, .int .u64 lsn, .int .i64 3, .string (num4 0), .slice a M.length c], .agg #[.int .i64 2, .int .i64 (findF M (x.cut 64)).1, .string (ItemV.mk (x.cut 64) true).bs, .string ⟨#[]⟩], .int .u64 2] wx fun e w' => ∃ a' c', e = .returned (.tuple #[.agg #[.int .u32 3, .int .u64 2, .int .i64 3, .string (num4 0), .slice a' (insN M (findF M (x.cut 64)).1.toNat (ItemV.mk (x.cut 64) true)).length c'], .int .i64 0]) ∧ Below wx.heap.size wx w' ∧ StrsFrom wx.heap.size w' a' ((insN M (findF M (x.cut 64)).1.toNat (ItemV.mk (x.cut 64) true)).map ItemV.bs) ∧ (insN M (findF M (x.cut 64)).1.toNat (ItemV.mk (x.cut 64) true)).length ≤ c') := fun wx h => HIN.out wx Pb lsn M a c (ItemV.mk (x.cut 64) true) h hck.out (by omega) (by omega)
              have hinv := hidn (h6.inv.ins (findF M (x.cut 64)).1.toNat (x := ItemV.mk (x.cut 64) true) hmay.out hck.out (by omega) (by omega))
              generalize (ItemV.mk (x.cut 64) true).bs = XB at HT1 HI2
              generalize (findF M (x.cut 64)).1 = I at HT1 HI2 hinv
              generalize insN M I.toNat (ItemV.mk (x.cut 64) true) = M2 at HI2 hinv
              simp only [EntV.cut] at HT1
              clear HI1 HX X
              go_wp2_with fail
              rw [← HW6.out]
              refine HT1.out.mono ?_
              rintro e w7 ⟨rfl, b7⟩
              obtain ⟨W8, HW8⟩ : ∃ W, Hid (W = w7.alloc (.cells #[.int .i64 2, .int .i64 I, .string XB, .string ⟨#[]⟩] 35)) := ⟨_, rfl⟩
              have h8 : HaAt w W8 Pb lsn M a c := by rw [HW8.out]; exact (h6.below b7).alloc _
              have hz7 : Pb < w7.heap.size := (h6.below b7).lt
              clear HT1 x0 x1 x2 x3 x4 h6 HW6 hy
              obtain ⟨x0, x1, x2, x3, x4⟩ := h8.page.cells5
              rw [HW8.out] at x0 x1 x2 x3 x4
              go_wp2_with fail
              rw [← HW8.out]
              refine (HI2.out _ h8).mono ?_
              rintro e w9 ⟨a9, c9, rfl, b9, s9, hc9⟩
              have h9 := h8.below b9
              have hz8 : Pb < W8.heap.size := h8.lt
              have hz9 := b9.size
              clear HI2 x0 x1 x2 x3 x4 h8 HW8
              obtain ⟨W10, HW10⟩ : ∃ W, Hid (W = w9.alloc (.cells #[.int .u32 3, .int .u64 2, .int .i64 3, .string (num4 0), .slice a9 M2.length c9] 29)) := ⟨_, rfl⟩
              have h10 : HaAt w W10 Pb lsn M a c := by rw [HW10.out]; exact h9.alloc _
              have s10 : StrsFrom W8.heap.size W10 a9 (M2.map ItemV.bs) := by rw [HW10.out]; exact s9.below ((Below.refl _ _).alloc (Nat.le_refl _) _)
              have hnew := hidn (h10.put (c' := c9) W8.heap.size hz8 s10 hinv.out (show 2 < 18446744073709551616 by omega) hc9)
              obtain ⟨x0, x1, x2, x3, x4⟩ := h10.page.cells5
              obtain ⟨g0, g1, g2, g3, g4⟩ := h10.page.open5
              rw [HW10.out] at x0 x1 x2 x3 x4 g0 g1 g2 g3 g4
              have hne9 : Pb ≠ w9.heap.size := by omega
              rw [HW10.out] at hnew
              unfold store5 at hnew
              clear h9 h10 s10 HW10 s9
              go_wp2
              go_roundw
              case rel => exact ⟨k + 1, 2, M2, a9, c9, by omega, by omega, by go_num, hnew⟩
              case measure => simp [intOf]; omega
        · obtain rfl : k = 80 := by omega
          go_wp2
          go_meet
          case rel => exact ⟨lsn, M, a, c, HH.out⟩
      · have hi1 : ¬ (k : Int) < (L.length : Int) := by omega
        go_wp2
        go_meet
        case rel => exact ⟨lsn, M, a, c, HH.out⟩
  obtain ⟨lsn, M, a, c, h5⟩ := hcut.out
  clear hcut h4 HTW HPU HIN
  have HF1 := hidn (HFU.out _ _ _ _ _ _ h5)
  obtain ⟨x0, x1, x2, x3, x4⟩ := h5.page.cells5
  cases hfb : (decide (64 ≤ M.length) || decide (408 < slotSum (M.map ItemV.bs))) with
  | false =>
    rw [hfb] at HF1
    go_wp2_with fail
    refine HF1.out.mono ?_
    rintro e w6 ⟨rfl, b6⟩
    have h6 := hidn (h5.below b6)
    go_wp2
    go_ret
    exact ⟨rfl, h6.out.bel⟩
  | true =>
    rw [hfb] at HF1
    simp only [Bool.or_eq_true, decide_eq_true_eq] at hfb
    obtain ⟨h, hh, hh1, hh2, hh4, ht, hd⟩ := halves (M.map ItemV.bs) h5.inv.sizes (by rw [List.length_map]; exact h5.inv.len) h5.inv.sum (by rw [List.length_map]; exact hfb)
    rw [List.length_map] at hh2 hh4
    go_wp2_with fail
    refine HF1.out.mono ?_
    rintro e w6 ⟨rfl, b6⟩
    have h6 := h5.below b6
    clear HF1 x0 x1 x2 x3 x4 h5 b6
    obtain ⟨x0, x1, x2, x3, x4⟩ := h6.page.cells5
    have HH1 := hidn (HHA.out _ _ _ _ _ _ h6)
    rw [hh] at HH1
    go_wp2_with fail
    refine HH1.out.mono ?_
    rintro e w7 ⟨rfl, b7⟩
    have h7 := h6.below b7
    clear HH1 x0 x1 x2 x3 x4 h6 b7 HHA
    obtain ⟨x0, x1, x2, x3, x4⟩ := h7.page.cells5
    go_upto_region 20 with fail
    go_cut [12, 13] from 86 to 87 (fun v12 v13 wx => ∃ A B : Nat, v12 = .pointer (some ⟨A, 0, none⟩) ∧ v13 = .pointer (some ⟨B, 0, none⟩) ∧ Hid (TwoAt w wx Pb A B lsn M a c))
    case first =>
      have hlt7 := h7.lt
      have hne1 : Pb ≠ w7.heap.size := by omega
      have hne2 : Pb ≠ w7.heap.size + 1 := by omega
      have hne1' : w7.heap.size ≠ Pb := by omega
      have hne2' : w7.heap.size + 1 ≠ Pb := by omega
      go_region
      · go_wp2
        go_meet
        case rel => exact ⟨w7.heap.size, w7.heap.size + 1, rfl, rfl, TwoAt.new h7⟩
      · go_wp2
        go_meet
        case rel => exact ⟨w7.heap.size + 1, w7.heap.size, rfl, rfl, (TwoAt.new h7).swap⟩
    obtain ⟨A, B, rfl, rfl, HT⟩ := hcut
    clear x0 x1 x2 x3 x4 h7
    obtain ⟨W, HWW⟩ : ∃ W, W = wc := ⟨_, rfl⟩
    rw [← HWW] at HT ⊢
    clear HWW
    obtain ⟨x0, x1, x2, x3, x4⟩ := HT.out.main.page.cells5
    have hA4 := HT.out.one.cells5.2.2.2.2
    have hB4 := HT.out.two.cells5.2.2.2.2
    have gA4 := HT.out.one.open5.2.2.2.2
    have gB4 := HT.out.two.open5.2.2.2.2
    have hcap := HT.out.main.cap
    have hMl := HT.out.main.inv.len
    obtain ⟨sb, so, rfl, hsb, hst⟩ : ∃ sb so, a = some ⟨sb, so, none⟩ ∧ sb < W.heap.size ∧ ∀ i (hi : i < (M.map ItemV.bs).length), W.cell? ⟨sb, so + i, none⟩ = some (.string (M.map ItemV.bs)[i]) := by
      rcases HT.out.main.slots with hs | ⟨b, o, e1, hb, hc⟩
      · have : (M.map ItemV.bs).length = 0 := by rw [hs]; rfl
        rw [List.length_map] at this; omega
      · exact ⟨b, o, e1, hb, hc⟩
    have hhi : (h : Int) ≤ (M.length : Int) := by omega
    have hh0 : (0 : Int) ≤ (h : Int) := by omega
    have hhc : (h : Int) ≤ (c : Int) := by omega
    have hmc : (M.length : Int) ≤ (c : Int) := by omega
    have hhn : h ≤ M.length := by omega
    have hhcN : h ≤ c := by omega
    have hPW := HT.out.main.lt
    have hch : c ≠ h := by omega
    have hch' : ¬ c = h := by omega
    have hfar := HT.out.far sb so rfl (by intro q; rw [q] at hh4; simp at hh4)
    have hT1 : ((M.map ItemV.bs).take h).length = h := by rw [List.length_take, List.length_map]; omega
    have hT2 : ((M.map ItemV.bs).drop h).length = M.length - h := by rw [List.length_drop, List.length_map]
    have HC1 : Hid (∀ V : World, V.heap[sb]? = W.heap[sb]? → ∀ i (hi : i < ((M.map ItemV.bs).take h).length), V.cell? ⟨sb, so + i, none⟩ = some (.string ((M.map ItemV.bs).take h)[i])) := fun V hV i hi => by
      rw [World.cell?_of_block (w := W) (a := ⟨sb, so + i, none⟩) hV, hst i (by rw [hT1] at hi; rw [List.length_map]; omega)]; simp
    have HC2 : Hid (∀ V : World, V.heap[sb]? = W.heap[sb]? → ∀ i (hi : i < ((M.map ItemV.bs).drop h).length), V.cell? ⟨sb, so + h + i, none⟩ = some (.string ((M.map ItemV.bs).drop h)[i])) := fun V hV i hi => by
      rw [World.cell?_of_block (w := W) (a := ⟨sb, so + h + i, none⟩) hV, Nat.add_assoc, hst (h + i) (by rw [hT2] at hi; rw [List.length_map]; omega)]; simp
    have hA := HT.out.la
    have hB := HT.out.lb
    have hpa := HT.out.pa
    have hpb := HT.out.pb
    have hab := HT.out.ab
    have hm0 : 0 < M.length - h := by omega
    have hm64 : M.length - h ≤ 64 := by omega
    have hh64 : h ≤ 64 := by omega
    have a1 : ∀ k, k < W.heap.size → (W.alloc (.cells #[] 9)).heap[k]? = W.heap[k]? := fun k hk => ((Below.refl W.heap.size W).alloc (Nat.le_refl _) _).block k hk
    have a2 : ∀ k, k < W.heap.size → ((W.alloc (.cells #[] 9)).alloc (.cells #[] 9)).heap[k]? = W.heap[k]? := fun k hk => (((Below.refl W.heap.size W).alloc (Nat.le_refl _) _).alloc (by simp) _).block k hk
    have n1 : (W.alloc (.cells #[] 9)).heap[W.heap.size]? = some (.cells #[] 9 (0, 0)) := heap_alloc_new _ _
    have n21 : ((W.alloc (.cells #[] 9)).alloc (.cells #[] 9)).heap[W.heap.size]? = some (.cells #[] 9 (0, 0)) := (((Below.refl _ _).alloc (Nat.le_refl _) _).block W.heap.size (by simp)).trans (heap_alloc_new _ _)
    have n22 : ((W.alloc (.cells #[] 9)).alloc (.cells #[] 9)).heap[W.heap.size + 1]? = some (.cells #[] 9 (0, 0)) := by
      have := heap_alloc_new (W.alloc (.cells #[] 9)) (.cells #[] 9)
      simpa using this
    have z1 : (W.alloc (.cells #[] 9)).heap.size = W.heap.size + 1 := by simp
    have z2 : ((W.alloc (.cells #[] 9)).alloc (.cells #[] 9)).heap.size = W.heap.size + 2 := by simp
    go_upto_region 21 with fail
    go_cut [] from 88 to 101 (fun wx => ∃ (g8 c8 g9 c9 : Nat), Hid (HalfAt w wx Pb A B lsn M sb so c h g8 c8 g9 c9))
    case first =>
      go_region_held3 (fun wy => wy.cell? ⟨Pb, 4, none⟩ = some (.slice (some ⟨sb, so, none⟩) M.length c))
        (first | (go_keep; done) | exact cP9 | exact cP8 | (rw [World.cell?_setCell_other _ _ _ _ (by intro q; have := congrArg Addr.block q; simp only at this; omega), World.cell?_setCell_other _ _ _ _ (by intro q; have := congrArg Addr.block q; simp only at this; omega)]; first | exact cP9 | exact cP8) | (rw [World.cell?_setCell_other _ _ _ _ (by intro q; have := congrArg Addr.block q; simp only at this; omega)]; first | exact cP9 | exact cP8))
        (first
        | (refine step_app (by rfl) _ _ (by rfl) _ (by rfl) (by first | exact n1 | exact n21 | exact n22 | exact e9a | exact e9b | exact heap_alloc_new _ _) sb so h c (by rfl) ((M.map ItemV.bs).take h) hT1 (by omega) hh64 (HC1.out _ (by first | exact a1 _ hsb | exact a2 _ hsb | exact f9 _ hsb | exact f9' _ hsb)) ?_
           intro g8 cap8 w8 R8 zg8 zz8 fr8 F8 G8
           have Z8 : W.heap.size + 1 ≤ w8.heap.size := by have := zz8; first | omega | (simp at this; omega)
           have G8n : g8 = W.heap.size ∨ g8 = W.heap.size + 1 ∨ g8 = W.heap.size + 2 ∨ (W.heap.size ≤ g8 ∧ g8 < w8.heap.size) := by
             refine .inr (.inr (.inr ⟨?_, zg8⟩))
             rcases G8 with q | q <;> first | omega | (simp at q; omega)
           have f8 : ∀ k, k < W.heap.size → w8.heap[k]? = W.heap[k]? := fun k hk => (F8 k (by first | omega | (simp; omega)) (by omega)).trans (by first | exact a1 k hk | exact a2 k hk | exact f9 k hk | exact f9' k hk)
           have f8' : ∀ k, k < W.heap.size → (w8.alloc (.cells #[] 9)).heap[k]? = W.heap[k]? := fun k hk => (((Below.refl w8.heap.size w8).alloc (Nat.le_refl _) _).block k (by omega)).trans (f8 k hk)
           have B8 : Below W.heap.size W w8 := by
             first
               | exact ⟨fr8.1, fr8.2.1, fr8.2.2, by omega, f8⟩
               | exact ⟨fr8.1.trans B9.os, fr8.2.1.trans B9.tape, fr8.2.2.trans B9.output, by omega, f8⟩
           first
             | (have e8a : w8.heap[W.heap.size]? = some (.cells #[] 9 (0, 0)) := (F8 W.heap.size (by first | (simp; done) | (simp; omega)) (by omega)).trans n21)
             | (have e8b : w8.heap[W.heap.size + 1]? = some (.cells #[] 9 (0, 0)) := (F8 (W.heap.size + 1) (by first | (simp; done) | (simp; omega)) (by omega)).trans n22)
             | (have S9 : BlkT w8 g9 ((M.map ItemV.bs).drop h) := R9.of (F8 g9 zg9 (by rcases G9 with q | q <;> first | omega | (simp at q; omega))))
             | (have S9 : BlkT w8 g9 ((M.map ItemV.bs).drop h) := R9.of ((F8 g9 (by simp; omega) (by omega)).trans (((Below.refl w9.heap.size w9).alloc (Nat.le_refl _) _).block g9 zg9)))
             | skip
           have np8 : Pb ≠ w8.heap.size := by omega
           have nq8 : w8.heap.size ≠ Pb := by omega
           have nl8 : Pb < w8.heap.size := by omega
           have PA8 := HT.out.one.blk (f8 A hA)
           have PB8 := HT.out.two.blk (f8 B hB)
           have hA48 := PA8.cells5.2.2.2.2
           have hB48 := PB8.cells5.2.2.2.2
           have gA48 := PA8.open5.2.2.2.2
           have gB48 := PB8.open5.2.2.2.2
           have cP8 := (HT.out.main.page.blk (f8 Pb hPW)).cells5.2.2.2.2)
        | (refine step_app (by rfl) _ _ (by rfl) _ (by rfl) (by first | exact n1 | exact n21 | exact n22 | exact e8a | exact e8b | exact heap_alloc_new _ _) sb (so + h) (M.length - h) (c - h) (by rfl) ((M.map ItemV.bs).drop h) hT2 hm0 hm64 (HC2.out _ (by first | exact a1 _ hsb | exact a2 _ hsb | exact f8 _ hsb | exact f8' _ hsb)) ?_
           intro g9 cap9 w9 R9 zg9 zz9 fr9 F9 G9
           have Z9 : W.heap.size + 1 ≤ w9.heap.size := by have := zz9; first | omega | (simp at this; omega)
           have G9n : g9 = W.heap.size ∨ g9 = W.heap.size + 1 ∨ g9 = W.heap.size + 2 ∨ (W.heap.size ≤ g9 ∧ g9 < w9.heap.size) := by
             refine .inr (.inr (.inr ⟨?_, zg9⟩))
             rcases G9 with q | q <;> first | omega | (simp at q; omega)
           have f9 : ∀ k, k < W.heap.size → w9.heap[k]? = W.heap[k]? := fun k hk => (F9 k (by first | omega | (simp; omega)) (by omega)).trans (by first | exact a1 k hk | exact a2 k hk | exact f8 k hk | exact f8' k hk)
           have f9' : ∀ k, k < W.heap.size → (w9.alloc (.cells #[] 9)).heap[k]? = W.heap[k]? := fun k hk => (((Below.refl w9.heap.size w9).alloc (Nat.le_refl _) _).block k (by omega)).trans (f9 k hk)
           have B9 : Below W.heap.size W w9 := by
             first
               | exact ⟨fr9.1, fr9.2.1, fr9.2.2, by omega, f9⟩
               | exact ⟨fr9.1.trans B8.os, fr9.2.1.trans B8.tape, fr9.2.2.trans B8.output, by omega, f9⟩
           first
             | (have e9a : w9.heap[W.heap.size]? = some (.cells #[] 9 (0, 0)) := (F9 W.heap.size (by first | (simp; done) | (simp; omega)) (by omega)).trans n21)
             | (have e9b : w9.heap[W.heap.size + 1]? = some (.cells #[] 9 (0, 0)) := (F9 (W.heap.size + 1) (by first | (simp; done) | (simp; omega)) (by omega)).trans n22)
             | (have S8 : BlkT w9 g8 ((M.map ItemV.bs).take h) := R8.of (F9 g8 zg8 (by rcases G8 with q | q <;> first | omega | (simp at q; omega))))
             | (have S8 : BlkT w9 g8 ((M.map ItemV.bs).take h) := R8.of ((F9 g8 (by simp; omega) (by omega)).trans (((Below.refl w8.heap.size w8).alloc (Nat.le_refl _) _).block g8 zg8)))
             | skip
           have np9 : Pb ≠ w9.heap.size := by omega
           have nq9 : w9.heap.size ≠ Pb := by omega
           have nl9 : Pb < w9.heap.size := by omega
           have PA9 := HT.out.one.blk (f9 A hA)
           have PB9 := HT.out.two.blk (f9 B hB)
           have hA49 := PA9.cells5.2.2.2.2
           have hB49 := PB9.cells5.2.2.2.2
           have gA49 := PA9.open5.2.2.2.2
           have gB49 := PB9.open5.2.2.2.2
           have cP9 := (HT.out.main.page.blk (f9 Pb hPW)).cells5.2.2.2.2))
      all_goals
        have hgg8 : W.heap.size ≤ g8 := by omega
        have hgg9 : W.heap.size ≤ g9 := by omega
        go_wp2
        go_meet
        case rel =>
          first
            | exact ⟨g8, cap8, g9, cap9, HalfAt.put HT.out hfar B9 S8 R9 hgg8 hgg9⟩
            | exact ⟨g8, cap8, g9, cap9, HalfAt.put HT.out hfar B8 R8 S9 hgg8 hgg9⟩
    obtain ⟨g8, c8, g9, c9, HX⟩ := hcut
    obtain ⟨X, HXX⟩ : ∃ W, W = wc := ⟨_, rfl⟩
    rw [← HXX] at HX ⊢
    clear HXX
    obtain ⟨p0, p1, p2, p3, p4⟩ := HX.out.main.page.cells5
    obtain ⟨q0, q1, q2, q3, q4⟩ := HX.out.one.cells5
    obtain ⟨r0, r1, r2, r3, r4⟩ := HX.out.two.cells5
    have hsz := HX.out.main.inv.sizes
    have HF8 : Hid (∀ wx, Below X.heap.size X wx → Calls Try.prog 29 #[.agg #[.int .u32 3, .int .u64 lsn, .int .i64 3, .string (num4 0), .slice (some ⟨g8, 0, none⟩) h c8]] wx fun e w' => e = .returned (.bool false) ∧ Below wx.heap.size wx w') := fun wx hb => by
      have := half_full lsn (some ⟨g8, 0, none⟩) c8 ((M.map ItemV.bs).take h) wx HX.out.main.lsn (HX.out.r8.strs.below hb) (by rw [hT1]; omega) ht
      rw [hT1] at this
      exact this
    have HF9 : Hid (∀ wx, Below X.heap.size X wx → Calls Try.prog 29 #[.agg #[.int .u32 3, .int .u64 lsn, .int .i64 3, .string (num4 0), .slice (some ⟨g9, 0, none⟩) (M.length - h) c9]] wx fun e w' => e = .returned (.bool false) ∧ Below wx.heap.size wx w') := fun wx hb => by
      have := half_full lsn (some ⟨g9, 0, none⟩) c9 ((M.map ItemV.bs).drop h) wx HX.out.main.lsn (HX.out.r9.strs.below hb) (by rw [hT2]; omega) hd
      rw [hT2] at this
      exact this
    have hla := World.block_lt_of_cell? _ _ r0
    have hh1' : (1 : Int) ≤ (h : Int) := by omega
    have hh2' : (h : Int) < (M.length : Int) := by omega
    have hh4' : (4 : Int) ≤ (M.length : Int) := by omega
    have hbel := HX.out.main.bel
    clear HFU
    go_wp2_with fail
    refine (HF8.out _ (Below.refl _ _)).mono ?_
    rintro e w11 ⟨rfl, b11⟩
    have s0 := (b11.cell (p := ⟨B, 0, none⟩) hla).trans r0
    have s1 := (b11.cell (p := ⟨B, 1, none⟩) hla).trans r1
    have s2 := (b11.cell (p := ⟨B, 2, none⟩) hla).trans r2
    have s3 := (b11.cell (p := ⟨B, 3, none⟩) hla).trans r3
    have s4 := (b11.cell (p := ⟨B, 4, none⟩) hla).trans r4
    clear r0 r1 r2 r3 r4 q0 q1 q2 q3 q4 p0 p1 p2 p3 p4
    go_wp2_with fail
    refine (HF9.out _ b11).mono ?_
    rintro e w12 ⟨rfl, b12⟩
    have bb := hidn (below_chain hbel (below_chain b11 b12))
    go_wp2
    go_ret
    exact ⟨rfl, bb.out⟩

end Go.Proofs.Ytplcojfogfikfaa
