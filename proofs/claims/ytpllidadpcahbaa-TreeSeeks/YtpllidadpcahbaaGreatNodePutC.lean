/-
  The walks of node.PutItem, Turn, SetFrom.
-/
import Derived.Test.YtpllidadpcahbaaGreatNodeFindC
import Derived.Deep.RegionHeld3
namespace Go.Proofs.YtpllidadpcahbaaGreat
open Go.RowKit Go.Sort
set_option linter.unusedVariables false
set_option linter.unusedSimpArgs false

def leafL (p : SheetV) : List ItemV := p.slots.map itemOf
def innerL (p : SheetV) : List ChildV := p.slots.map childOf

theorem leafL_length (p : SheetV) : (leafL p).length = p.slots.length := by unfold leafL; rw [List.length_map]
theorem innerL_length (p : SheetV) : (innerL p).length = p.slots.length := by unfold innerL; rw [List.length_map]

/-- Where a function with a page, some other box and a change to hand back stands. -/
structure PBox (w wx : World) (p : SheetV) (a : Option Addr) (c : Nat) : Prop where
  page : RowV wx w.heap.size 5 (five (.int .u32 p.num) (.int .u64 p.lsn) (.int .i64 p.kind) (.string p.head) (.slice a p.slots.length c))
  op : OpBox wx (w.heap.size + 2)
  bel : Below w.heap.size w wx
  lt : w.heap.size + 3 ≤ wx.heap.size

theorem PBox.below {w wx wy : World} {p : SheetV} {a : Option Addr} {c : Nat} (h : PBox w wx p a c) (k : Below wx.heap.size wx wy) : PBox w wy p a c :=
  ⟨h.page.below k (by have := h.lt; omega), h.op.below k (by have := h.lt; omega), below_chain h.bel k, Nat.le_trans h.lt k.size⟩

abbrev sheetObj (p : SheetV) (a : Option Addr) (c : Nat) : Obj := .cells #[.int .u32 p.num, .int .u64 p.lsn, .int .i64 p.kind, .string p.head, .slice a p.slots.length c] 63

theorem PBox.new (w : World) (p : SheetV) (a : Option Addr) (c : Nat) (o : Obj) : PBox w (((w.alloc (sheetObj p a c)).alloc o).alloc opCells) p a c := by
  refine ⟨((RowV.five_new w _ _ _ _ _ _).below ((Below.refl _ _).alloc (Nat.le_refl _) _) (by simp)).below ((Below.refl _ _).alloc (Nat.le_refl _) _) (by simp; omega), ?_, (((Below.refl _ _).alloc (Nat.le_refl _) _).alloc (by simp) _).alloc (by simp; omega) _, by simp⟩
  have := OpBox.new ((w.alloc (sheetObj p a c)).alloc o)
  simpa using this

/-- The box in the midst. -/
theorem second_block (w : World) (o1 o o2 : Obj) : (((w.alloc o1).alloc o).alloc o2).heap[w.heap.size + 1]? = some o := by
  have := heap_alloc_new (w.alloc o1) o
  rw [((Below.refl _ _).alloc (Nat.le_refl _) o2).block _ (by simp)]
  simpa using this

theorem leaf_yes {p : SheetV} {a : Option Addr} {c : Nat} {W : World} (hp : p.Ok W a) (hl : p.slots.length ≤ 7036874417766) (hB : leafB p = true) :
    Calls Tryz.prog 81 #[p.val a c] W fun r w' => ∃ a' c', r = .returned (.tuple #[.slice a' p.slots.length c', .int .i64 0]) ∧ ItemsAt w' a' (leafL p) ∧ Below W.heap.size W w' := by
  refine (leaf_any p a c W hp hl).mono ?_
  rintro r w' ⟨b, h, _⟩
  obtain ⟨a', c', e, hr⟩ := h hB
  exact ⟨a', c', e, hr.at, b⟩

theorem leaf_no {p : SheetV} {a : Option Addr} {c : Nat} {W : World} (hp : p.Ok W a) (hl : p.slots.length ≤ 7036874417766) (hB : leafB p = false) :
    Calls Tryz.prog 81 #[p.val a c] W fun r w' => r = .returned (.tuple #[.slice none 0 0, .int .i64 120]) ∧ Below W.heap.size W w' := by
  refine (leaf_any p a c W hp hl).mono ?_
  rintro r w' ⟨b, _, h⟩
  exact ⟨h hB, b⟩

theorem find_leaf {p : SheetV} {a : Option Addr} {c : Nat} {W : World} {e : EntV} (hl : p.slots.length ≤ 7036874417766) (hm : ItemsAt W a (leafL p)) :
    Calls Tryz.prog 35 #[.slice a p.slots.length c, e.val] W fun r w' => r = .returned (.tuple #[.int .i64 (findF (leafL p) e).1, .bool (findF (leafL p) e).2]) ∧ Below W.heap.size W w' := by
  have := find_any a c (leafL p) e W hm (by rw [leafL_length]; omega)
  rw [leafL_length] at this
  exact this

set_option maxHeartbeats 3200000 in
set_option maxRecDepth 60000 in
theorem putItem_ok (p : SheetV) (a : Option Addr) (c : Nat) (x : ItemV) (w : World) (hp : p.Ok w a) (hl : p.slots.length ≤ 7036874417766) (hx : x.e.page < 4294967296) (hk : x.e.key.size ≤ 140737488351232) (hB : leafB p = true) (hf : (findF (leafL p) x.e).2 = false) :
    Calls Tryz.prog 45 #[p.val a c, x.val] w fun r w' => r = .returned (.tuple #[(OpV.mk 2 (findF (leafL p) x.e).1 x.bs ⟨#[]⟩).val, .int .i64 0]) ∧ Below w.heap.size w w' := by
  obtain ⟨W, HW⟩ : ∃ W, Hid (W = ((w.alloc (sheetObj p a c)).alloc (.cells #[.string x.e.key, .int .u32 x.e.page, .int .i64 x.e.slot, .bool x.live] 42)).alloc opCells) := ⟨_, rfl⟩
  have hW : PBox w W p a c := by rw [HW.out]; exact PBox.new _ _ _ _ _
  have xc : W.heap[w.heap.size + 1]? = some (.cells #[.string x.e.key, .int .u32 x.e.page, .int .i64 x.e.slot, .bool x.live] 42 (0, 0)) := by rw [HW.out]; exact second_block _ _ _ _
  have HL1 := hidn (leaf_yes (c := c) (hp.below hW.bel) hl hB)
  have HF : Hid (∀ (wx : World) (a' : Option Addr) (c' : Nat), ItemsAt wx a' (leafL p) → Calls Tryz.prog 35 #[.slice a' p.slots.length c', x.e.val] wx fun r w' => r = .returned (.tuple #[.int .i64 (findF (leafL p) x.e).1, .bool false]) ∧ Below wx.heap.size wx w') := fun wx a' c' h => by
    rw [← hf]; exact find_leaf hl h
  generalize leafL p = LL at *
  have HB : Hid (∀ wx, Calls Tryz.prog 82 #[x.val] wx fun e w' => e = .returned (.string x.bs) ∧ Below wx.heap.size wx w') := fun wx => itemBytes_any x wx hx hk
  clear hB hp hf
  generalize x.bs = X at *
  generalize (findF LL x.e).1 = I at *
  obtain ⟨num, lsn, kind, hd, L⟩ := p
  simp only [SheetV.val, ItemV.val, ChildV.val, EntV.val, OpV.val, op0] at *
  go_enter Tryz.func45, Tryz.ntmps45
  go_wp2_with fail
  rw [← HW.out]
  clear HW
  refine HL1.out.mono ?_
  rintro r w1 ⟨a', c', rfl, hr, b1⟩
  have h1 := hW.below b1
  have HF1 := HF.out _ a' c' hr
  have xc1 := (b1.block (w.heap.size + 1) (by have := hW.lt; omega)).trans xc
  have d0 : w1.cell? ⟨w.heap.size + 1, 0, none⟩ = some (.string x.e.key) := by unfold World.cell?; simp [xc1]
  have d1 : w1.cell? ⟨w.heap.size + 1, 1, none⟩ = some (.int .u32 x.e.page) := by unfold World.cell?; simp [xc1]
  have d2 : w1.cell? ⟨w.heap.size + 1, 2, none⟩ = some (.int .i64 x.e.slot) := by unfold World.cell?; simp [xc1]
  clear HL1 HF hr hW
  go_wp2_with fail
  refine HF1.mono ?_
  rintro r w2 ⟨rfl, b2⟩
  have h2 := h1.below b2
  have xc2 := (b2.block (w.heap.size + 1) (by have := h1.lt; omega)).trans xc1
  clear d0 d1 d2 xc1 xc
  have d0 : w2.cell? ⟨w.heap.size + 1, 0, none⟩ = some (.string x.e.key) := by unfold World.cell?; simp [xc2]
  have d1 : w2.cell? ⟨w.heap.size + 1, 1, none⟩ = some (.int .u32 x.e.page) := by unfold World.cell?; simp [xc2]
  have d2 : w2.cell? ⟨w.heap.size + 1, 2, none⟩ = some (.int .i64 x.e.slot) := by unfold World.cell?; simp [xc2]
  have d3 : w2.cell? ⟨w.heap.size + 1, 3, none⟩ = some (.bool x.live) := by unfold World.cell?; simp [xc2]
  go_wp2_with fail
  refine (HB.out _).mono ?_
  rintro r w3 ⟨rfl, b3⟩
  have h3 := h2.below b3
  obtain ⟨z0, z1, z2, z3, g0, g1, g2, g3⟩ := h3.op
  have b4 := h3.bel
  clear h1 h2 d0 d1 d2 d3 xc2 HF1
  go_wp2
  refine bodyPost_ret (v := .tuple #[.agg #[.int .i64 2, .int .i64 I, .string X, .string ⟨#[]⟩], .int .i64 0]) (by simp [results, Tryz.results45, go_sem, z0, z1, z2, z3]) rfl ⟨rfl, ?_⟩
  exact below_put4 b4 (by omega) _ _ _ _

end Go.Proofs.YtpllidadpcahbaaGreat
