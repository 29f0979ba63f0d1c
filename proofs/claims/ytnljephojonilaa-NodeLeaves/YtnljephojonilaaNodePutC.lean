/-
  The walks of node.PutItem, Turn, SetFrom.
-/
import Derived.Test.YtnljephojonilaaNodeFindC
import Derived.Deep.RegionHeld3
namespace Go.Proofs.Ytnljephojonilaa
open Go.RowKit Go.Sort
set_option linter.unusedVariables false
set_option linter.unusedSimpArgs false

def leafL (p : SheetV) : List ItemV := p.slots.map itemOf
def innerL (p : SheetV) : List ChildV := p.slots.map childOf

theorem leafL_length (p : SheetV) : (leafL p).length = p.slots.length := by unfold leafL; rw [List.length_map]
theorem innerL_length (p : SheetV) : (innerL p).length = p.slots.length := by unfold innerL; rw [List.length_map]

/-- Where a function with a page, some other box and a change to hand back stands. -/
structure PBox (w wx : World) (p : SheetV) (a : Option Addr) (c : Nat) : Prop where
  page : RowV wx w.heap.size 5 (five (.int .u32 p.num) (.int .u64 p.lsn) (.int .i64 p.kind) (.string p.head) (.slice a p.slots.length c))
  op : OpBox wx (w.heap.size + 2)
  bel : Below w.heap.size w wx
  lt : w.heap.size + 3 ≤ wx.heap.size

theorem PBox.below {w wx wy : World} {p : SheetV} {a : Option Addr} {c : Nat} (h : PBox w wx p a c) (k : Below wx.heap.size wx wy) : PBox w wy p a c :=
  ⟨h.page.below k (by have := h.lt; omega), h.op.below k (by have := h.lt; omega), below_chain h.bel k, Nat.le_trans h.lt k.size⟩

abbrev sheetObj (p : SheetV) (a : Option Addr) (c : Nat) : Obj := .cells #[.int .u32 p.num, .int .u64 p.lsn, .int .i64 p.kind, .string p.head, .slice a p.slots.length c] 29

theorem PBox.new (w : World) (p : SheetV) (a : Option Addr) (c : Nat) (o : Obj) : PBox w (((w.alloc (sheetObj p a c)).alloc o).alloc opCells) p a c := by
  refine ⟨((RowV.five_new w _ _ _ _ _ _).below ((Below.refl _ _).alloc (Nat.le_refl _) _) (by simp)).below ((Below.refl _ _).alloc (Nat.le_refl _) _) (by simp; omega), ?_, (((Below.refl _ _).alloc (Nat.le_refl _) _).alloc (by simp) _).alloc (by simp; omega) _, by simp⟩
  have := OpBox.new ((w.alloc (sheetObj p a c)).alloc o)
  simpa using this

/-- The box in the midst. -/
theorem second_block (w : World) (o1 o o2 : Obj) : (((w.alloc o1).alloc o).alloc o2).heap[w.heap.size + 1]? = some o := by
  have := heap_alloc_new (w.alloc o1) o
  rw [((Below.refl _ _).alloc (Nat.le_refl _) o2).block _ (by simp)]
  simpa using this

theorem leaf_yes {p : SheetV} {a : Option Addr} {c : Nat} {W : World} (hp : p.Ok W a) (hl : p.slots.length ≤ 7036874417766) (hB : leafB p = true) :
    Calls Try.prog 32 #[p.val a c] W fun r w' => ∃ a' c', r = .returned (.tuple #[.slice a' p.slots.length c', .int .i64 0]) ∧ ItemsAt w' a' (leafL p) ∧ Below W.heap.size W w' := by
  refine (leaf_any p a c W hp hl).mono ?_
  rintro r w' ⟨b, h, _⟩
  obtain ⟨a', c', e, hr⟩ := h hB
  exact ⟨a', c', e, hr.at, b⟩

theorem leaf_no {p : SheetV} {a : Option Addr} {c : Nat} {W : World} (hp : p.Ok W a) (hl : p.slots.length ≤ 7036874417766) (hB : leafB p = false) :
    Calls Try.prog 32 #[p.val a c] W fun r w' => r = .returned (.tuple #[.slice none 0 0, .int .i64 120]) ∧ Below W.heap.size W w' := by
  refine (leaf_any p a c W hp hl).mono ?_
  rintro r w' ⟨b, _, h⟩
  exact ⟨h hB, b⟩

theorem inner_yes {p : SheetV} {a : Option Addr} {c : Nat} {W : World} (hp : p.Ok W a) (hl : p.slots.length ≤ 7036874417766) (hB : innerB p = true) :
    Calls Try.prog 26 #[p.val a c] W fun r w' => ∃ a' c', r = .returned (.tuple #[.slice a' p.slots.length c', .int .i64 0]) ∧ ChildsAt w' a' (innerL p) ∧ Below W.heap.size W w' := by
  refine (inner_any p a c W hp hl).mono ?_
  rintro r w' ⟨b, h, _⟩
  obtain ⟨a', c', e, hr⟩ := h hB
  exact ⟨a', c', e, hr.at, b⟩

theorem inner_no {p : SheetV} {a : Option Addr} {c : Nat} {W : World} (hp : p.Ok W a) (hl : p.slots.length ≤ 7036874417766) (hB : innerB p = false) :
    Calls Try.prog 26 #[p.val a c] W fun r w' => r = .returned (.tuple #[.slice none 0 0, .int .i64 120]) ∧ Below W.heap.size W w' := by
  refine (inner_any p a c W hp hl).mono ?_
  rintro r w' ⟨b, _, h⟩
  exact ⟨h hB, b⟩

theorem find_leaf {p : SheetV} {a : Option Addr} {c : Nat} {W : World} {e : EntV} (hl : p.slots.length ≤ 7036874417766) (hm : ItemsAt W a (leafL p)) :
    Calls Try.prog 15 #[.slice a p.slots.length c, e.val] W fun r w' => r = .returned (.tuple #[.int .i64 (findF (leafL p) e).1, .bool (findF (leafL p) e).2]) ∧ Below W.heap.size W w' := by
  have := find_any a c (leafL p) e W hm (by rw [leafL_length]; omega)
  rw [leafL_length] at this
  exact this

theorem idxF_lt {α : Type} {p : α → Bool} {L : List α} (h : 0 ≤ idxF p L) : idxF p L < L.length := by
  unfold idxF at *
  split at h
  · rename_i h1; rw [if_pos h1]; omega
  · omega

theorem findF_place (L : List ItemV) (e : EntV) : 0 ≤ (findF L e).1 ∧ (findF L e).1 ≤ L.length ∧ ((findF L e).2 = true → (findF L e).1 < L.length) := by
  unfold findF
  split
  · rename_i h
    have := idxF_lt h
    exact ⟨h, by simp only; omega, fun _ => this⟩
  · split
    · rename_i h
      have := idxF_lt h
      exact ⟨h, by simp only; omega, fun h2 => by simp at h2⟩
    · exact ⟨by simp, by simp, fun h2 => by simp at h2⟩

set_option maxHeartbeats 3200000 in
set_option maxRecDepth 60000 in
theorem putItem_no (p : SheetV) (a : Option Addr) (c : Nat) (x : ItemV) (w : World) (hp : p.Ok w a) (hl : p.slots.length ≤ 7036874417766) (hB : leafB p = false) :
    Calls Try.prog 19 #[p.val a c, x.val] w fun r w' => r = .returned (.tuple #[op0.val, .int .i64 120]) ∧ Below w.heap.size w w' := by
  obtain ⟨W, HW⟩ : ∃ W, Hid (W = ((w.alloc (sheetObj p a c)).alloc (.cells #[.string x.e.key, .int .u32 x.e.page, .int .i64 x.e.slot, .bool x.live] 49)).alloc opCells) := ⟨_, rfl⟩
  have hW : PBox w W p a c := by rw [HW.out]; exact PBox.new _ _ _ _ _
  have xc : W.heap[w.heap.size + 1]? = some (.cells #[.string x.e.key, .int .u32 x.e.page, .int .i64 x.e.slot, .bool x.live] 49 (0, 0)) := by rw [HW.out]; exact second_block _ _ _ _
  have HL1 := hidn (leaf_no (c := c) (hp.below hW.bel) hl hB)
  clear hB hp
  obtain ⟨num, lsn, kind, hd, L⟩ := p
  simp only [SheetV.val, ItemV.val, ChildV.val, EntV.val, OpV.val, op0] at *
  go_enter Try.func19, Try.ntmps19
  go_wp2_with fail
  rw [← HW.out]
  clear HW
  refine HL1.out.mono ?_
  rintro r wd ⟨rfl, bd⟩
  have h2 := hW.below bd
  obtain ⟨z0, z1, z2, z3, g0, g1, g2, g3⟩ := h2.op
  have b2 := h2.bel
  go_wp2
  refine bodyPost_ret (v := .tuple #[.agg #[.int .i64 0, .int .i64 0, .string ⟨#[]⟩, .string ⟨#[]⟩], .int .i64 120]) (by simp [results, Try.results19, go_sem, z0, z1, z2, z3]) rfl ⟨rfl, ?_⟩
  exact below_put4 b2 (by omega) _ _ _ _

set_option maxHeartbeats 3200000 in
set_option maxRecDepth 60000 in
theorem turn_no (p : SheetV) (a : Option Addr) (c : Nat) (e : EntV) (v : Bool) (w : World) (hp : p.Ok w a) (hl : p.slots.length ≤ 7036874417766) (hB : leafB p = false) :
    Calls Try.prog 16 #[p.val a c, e.val, .bool v] w fun r w' => r = .returned (.tuple #[op0.val, .int .i64 120]) ∧ Below w.heap.size w w' := by
  obtain ⟨W, HW⟩ : ∃ W, Hid (W = ((w.alloc (sheetObj p a c)).alloc (.cells #[.string e.key, .int .u32 e.page, .int .i64 e.slot] 43)).alloc opCells) := ⟨_, rfl⟩
  have hW : PBox w W p a c := by rw [HW.out]; exact PBox.new _ _ _ _ _
  have xc : W.heap[w.heap.size + 1]? = some (.cells #[.string e.key, .int .u32 e.page, .int .i64 e.slot] 43 (0, 0)) := by rw [HW.out]; exact second_block _ _ _ _
  have HL1 := hidn (leaf_no (c := c) (hp.below hW.bel) hl hB)
  clear hB hp
  obtain ⟨num, lsn, kind, hd, L⟩ := p
  simp only [SheetV.val, ItemV.val, ChildV.val, EntV.val, OpV.val, op0] at *
  go_enter Try.func16, Try.ntmps16
  go_wp2_with fail
  rw [← HW.out]
  clear HW
  refine HL1.out.mono ?_
  rintro r wd ⟨rfl, bd⟩
  have h2 := hW.below bd
  obtain ⟨z0, z1, z2, z3, g0, g1, g2, g3⟩ := h2.op
  have b2 := h2.bel
  go_wp2
  refine bodyPost_ret (v := .tuple #[.agg #[.int .i64 0, .int .i64 0, .string ⟨#[]⟩, .string ⟨#[]⟩], .int .i64 120]) (by simp [results, Try.results16, go_sem, z0, z1, z2, z3]) rfl ⟨rfl, ?_⟩
  exact below_put4 b2 (by omega) _ _ _ _

set_option maxHeartbeats 3200000 in
set_option maxRecDepth 60000 in
theorem setFrom_no (p : SheetV) (a : Option Addr) (c : Nat) (i : Int) (e : EntV) (w : World) (hp : p.Ok w a) (hl : p.slots.length ≤ 7036874417766) (hB : innerB p = false) :
    Calls Try.prog 27 #[p.val a c, .int .i64 i, e.val] w fun r w' => r = .returned (.tuple #[op0.val, .int .i64 120]) ∧ Below w.heap.size w w' := by
  obtain ⟨W, HW⟩ : ∃ W, Hid (W = ((w.alloc (sheetObj p a c)).alloc (.cells #[.string e.key, .int .u32 e.page, .int .i64 e.slot] 43)).alloc opCells) := ⟨_, rfl⟩
  have hW : PBox w W p a c := by rw [HW.out]; exact PBox.new _ _ _ _ _
  have xc : W.heap[w.heap.size + 1]? = some (.cells #[.string e.key, .int .u32 e.page, .int .i64 e.slot] 43 (0, 0)) := by rw [HW.out]; exact second_block _ _ _ _
  have HL1 := hidn (inner_no (c := c) (hp.below hW.bel) hl hB)
  clear hB hp
  obtain ⟨num, lsn, kind, hd, L⟩ := p
  simp only [SheetV.val, ItemV.val, ChildV.val, EntV.val, OpV.val, op0] at *
  go_enter Try.func27, Try.ntmps27
  go_wp2_with fail
  rw [← HW.out]
  clear HW
  refine HL1.out.mono ?_
  rintro r wd ⟨rfl, bd⟩
  have h2 := hW.below bd
  obtain ⟨z0, z1, z2, z3, g0, g1, g2, g3⟩ := h2.op
  have b2 := h2.bel
  go_wp2
  refine bodyPost_ret (v := .tuple #[.agg #[.int .i64 0, .int .i64 0, .string ⟨#[]⟩, .string ⟨#[]⟩], .int .i64 120]) (by simp [results, Try.results27, go_sem, z0, z1, z2, z3]) rfl ⟨rfl, ?_⟩
  exact below_put4 b2 (by omega) _ _ _ _

set_option maxHeartbeats 3200000 in
set_option maxRecDepth 60000 in
theorem putItem_twice (p : SheetV) (a : Option Addr) (c : Nat) (x : ItemV) (w : World) (hp : p.Ok w a) (hl : p.slots.length ≤ 7036874417766) (hB : leafB p = true) (hf : (findF (leafL p) x.e).2 = true) :
    Calls Try.prog 19 #[p.val a c, x.val] w fun r w' => r = .returned (.tuple #[op0.val, .int .i64 121]) ∧ Below w.heap.size w w' := by
  obtain ⟨W, HW⟩ : ∃ W, Hid (W = ((w.alloc (sheetObj p a c)).alloc (.cells #[.string x.e.key, .int .u32 x.e.page, .int .i64 x.e.slot, .bool x.live] 49)).alloc opCells) := ⟨_, rfl⟩
  have hW : PBox w W p a c := by rw [HW.out]; exact PBox.new _ _ _ _ _
  have xc : W.heap[w.heap.size + 1]? = some (.cells #[.string x.e.key, .int .u32 x.e.page, .int .i64 x.e.slot, .bool x.live] 49 (0, 0)) := by rw [HW.out]; exact second_block _ _ _ _
  have HL1 := hidn (leaf_yes (c := c) (hp.below hW.bel) hl hB)
  have HF : Hid (∀ (wx : World) (a' : Option Addr) (c' : Nat), ItemsAt wx a' (leafL p) → Calls Try.prog 15 #[.slice a' p.slots.length c', x.e.val] wx fun r w' => r = .returned (.tuple #[.int .i64 (findF (leafL p) x.e).1, .bool true]) ∧ Below wx.heap.size wx w') := fun wx a' c' h => by
    rw [← hf]; exact find_leaf hl h
  generalize leafL p = LL at *
  clear hB hp hf
  obtain ⟨num, lsn, kind, hd, L⟩ := p
  simp only [SheetV.val, ItemV.val, ChildV.val, EntV.val, OpV.val, op0] at *
  go_enter Try.func19, Try.ntmps19
  go_wp2_with fail
  rw [← HW.out]
  clear HW
  refine HL1.out.mono ?_
  rintro r w1 ⟨a', c', rfl, hr, b1⟩
  have h1 := hW.below b1
  have HF1 := HF.out _ a' c' hr
  have xc1 := (b1.block (w.heap.size + 1) (by have := hW.lt; omega)).trans xc
  have d0 : w1.cell? ⟨w.heap.size + 1, 0, none⟩ = some (.string x.e.key) := by unfold World.cell?; simp [xc1]
  have d1 : w1.cell? ⟨w.heap.size + 1, 1, none⟩ = some (.int .u32 x.e.page) := by unfold World.cell?; simp [xc1]
  have d2 : w1.cell? ⟨w.heap.size + 1, 2, none⟩ = some (.int .i64 x.e.slot) := by unfold World.cell?; simp [xc1]
  clear HL1 HF hr hW
  go_wp2_with fail
  refine HF1.mono ?_
  rintro r wd ⟨rfl, bd⟩
  have h2 := h1.below bd
  obtain ⟨z0, z1, z2, z3, g0, g1, g2, g3⟩ := h2.op
  have b2 := h2.bel
  go_wp2
  refine bodyPost_ret (v := .tuple #[.agg #[.int .i64 0, .int .i64 0, .string ⟨#[]⟩, .string ⟨#[]⟩], .int .i64 121]) (by simp [results, Try.results19, go_sem, z0, z1, z2, z3]) rfl ⟨rfl, ?_⟩
  exact below_put4 b2 (by omega) _ _ _ _

set_option maxHeartbeats 3200000 in
set_option maxRecDepth 60000 in
theorem turn_none (p : SheetV) (a : Option Addr) (c : Nat) (e : EntV) (v : Bool) (w : World) (hp : p.Ok w a) (hl : p.slots.length ≤ 7036874417766) (hB : leafB p = true) (hf : (findF (leafL p) e).2 = false) :
    Calls Try.prog 16 #[p.val a c, e.val, .bool v] w fun r w' => r = .returned (.tuple #[op0.val, .int .i64 2]) ∧ Below w.heap.size w w' := by
  obtain ⟨W, HW⟩ : ∃ W, Hid (W = ((w.alloc (sheetObj p a c)).alloc (.cells #[.string e.key, .int .u32 e.page, .int .i64 e.slot] 43)).alloc opCells) := ⟨_, rfl⟩
  have hW : PBox w W p a c := by rw [HW.out]; exact PBox.new _ _ _ _ _
  have xc : W.heap[w.heap.size + 1]? = some (.cells #[.string e.key, .int .u32 e.page, .int .i64 e.slot] 43 (0, 0)) := by rw [HW.out]; exact second_block _ _ _ _
  have HL1 := hidn (leaf_yes (c := c) (hp.below hW.bel) hl hB)
  have HF : Hid (∀ (wx : World) (a' : Option Addr) (c' : Nat), ItemsAt wx a' (leafL p) → Calls Try.prog 15 #[.slice a' p.slots.length c', e.val] wx fun r w' => r = .returned (.tuple #[.int .i64 (findF (leafL p) e).1, .bool false]) ∧ Below wx.heap.size wx w') := fun wx a' c' h => by
    rw [← hf]; exact find_leaf hl h
  generalize leafL p = LL at *
  clear hB hp hf
  obtain ⟨num, lsn, kind, hd, L⟩ := p
  simp only [SheetV.val, ItemV.val, ChildV.val, EntV.val, OpV.val, op0] at *
  go_enter Try.func16, Try.ntmps16
  go_wp2_with fail
  rw [← HW.out]
  clear HW
  refine HL1.out.mono ?_
  rintro r w1 ⟨a', c', rfl, hr, b1⟩
  have h1 := hW.below b1
  have HF1 := HF.out _ a' c' hr
  have xc1 := (b1.block (w.heap.size + 1) (by have := hW.lt; omega)).trans xc
  have d0 : w1.cell? ⟨w.heap.size + 1, 0, none⟩ = some (.string e.key) := by unfold World.cell?; simp [xc1]
  have d1 : w1.cell? ⟨w.heap.size + 1, 1, none⟩ = some (.int .u32 e.page) := by unfold World.cell?; simp [xc1]
  have d2 : w1.cell? ⟨w.heap.size + 1, 2, none⟩ = some (.int .i64 e.slot) := by unfold World.cell?; simp [xc1]
  clear HL1 HF hr hW
  go_wp2_with fail
  refine HF1.mono ?_
  rintro r wd ⟨rfl, bd⟩
  have h2 := h1.below bd
  obtain ⟨z0, z1, z2, z3, g0, g1, g2, g3⟩ := h2.op
  have b2 := h2.bel
  go_wp2
  refine bodyPost_ret (v := .tuple #[.agg #[.int .i64 0, .int .i64 0, .string ⟨#[]⟩, .string ⟨#[]⟩], .int .i64 2]) (by simp [results, Try.results16, go_sem, z0, z1, z2, z3]) rfl ⟨rfl, ?_⟩
  exact below_put4 b2 (by omega) _ _ _ _

set_option maxHeartbeats 3200000 in
set_option maxRecDepth 60000 in
theorem putItem_ok (p : SheetV) (a : Option Addr) (c : Nat) (x : ItemV) (w : World) (hp : p.Ok w a) (hl : p.slots.length ≤ 7036874417766) (hx : x.e.page < 4294967296) (hk : x.e.key.size ≤ 140737488351232) (hB : leafB p = true) (hf : (findF (leafL p) x.e).2 = false) :
    Calls Try.prog 19 #[p.val a c, x.val] w fun r w' => r = .returned (.tuple #[(OpV.mk 2 (findF (leafL p) x.e).1 x.bs ⟨#[]⟩).val, .int .i64 0]) ∧ Below w.heap.size w w' := by
  obtain ⟨W, HW⟩ : ∃ W, Hid (W = ((w.alloc (sheetObj p a c)).alloc (.cells #[.string x.e.key, .int .u32 x.e.page, .int .i64 x.e.slot, .bool x.live] 49)).alloc opCells) := ⟨_, rfl⟩
  have hW : PBox w W p a c := by rw [HW.out]; exact PBox.new _ _ _ _ _
  have xc : W.heap[w.heap.size + 1]? = some (.cells #[.string x.e.key, .int .u32 x.e.page, .int .i64 x.e.slot, .bool x.live] 49 (0, 0)) := by rw [HW.out]; exact second_block _ _ _ _
  have HL1 := hidn (leaf_yes (c := c) (hp.below hW.bel) hl hB)
  have HF : Hid (∀ (wx : World) (a' : Option Addr) (c' : Nat), ItemsAt wx a' (leafL p) → Calls Try.prog 15 #[.slice a' p.slots.length c', x.e.val] wx fun r w' => r = .returned (.tuple #[.int .i64 (findF (leafL p) x.e).1, .bool false]) ∧ Below wx.heap.size wx w') := fun wx a' c' h => by
    rw [← hf]; exact find_leaf hl h
  generalize leafL p = LL at *
  have HB : Hid (∀ wx, Calls Try.prog 46 #[x.val] wx fun e w' => e = .returned (.string x.bs) ∧ Below wx.heap.size wx w') := fun wx => itemBytes_any x wx hx hk
  clear hB hp hf
  generalize x.bs = X at *
  generalize (findF LL x.e).1 = I at *
  obtain ⟨num, lsn, kind, hd, L⟩ := p
  simp only [SheetV.val, ItemV.val, ChildV.val, EntV.val, OpV.val, op0] at *
  go_enter Try.func19, Try.ntmps19
  go_wp2_with fail
  rw [← HW.out]
  clear HW
  refine HL1.out.mono ?_
  rintro r w1 ⟨a', c', rfl, hr, b1⟩
  have h1 := hW.below b1
  have HF1 := HF.out _ a' c' hr
  have xc1 := (b1.block (w.heap.size + 1) (by have := hW.lt; omega)).trans xc
  have d0 : w1.cell? ⟨w.heap.size + 1, 0, none⟩ = some (.string x.e.key) := by unfold World.cell?; simp [xc1]
  have d1 : w1.cell? ⟨w.heap.size + 1, 1, none⟩ = some (.int .u32 x.e.page) := by unfold World.cell?; simp [xc1]
  have d2 : w1.cell? ⟨w.heap.size + 1, 2, none⟩ = some (.int .i64 x.e.slot) := by unfold World.cell?; simp [xc1]
  clear HL1 HF hr hW
  go_wp2_with fail
  refine HF1.mono ?_
  rintro r w2 ⟨rfl, b2⟩
  have h2 := h1.below b2
  have xc2 := (b2.block (w.heap.size + 1) (by have := h1.lt; omega)).trans xc1
  clear d0 d1 d2 xc1 xc
  have d0 : w2.cell? ⟨w.heap.size + 1, 0, none⟩ = some (.string x.e.key) := by unfold World.cell?; simp [xc2]
  have d1 : w2.cell? ⟨w.heap.size + 1, 1, none⟩ = some (.int .u32 x.e.page) := by unfold World.cell?; simp [xc2]
  have d2 : w2.cell? ⟨w.heap.size + 1, 2, none⟩ = some (.int .i64 x.e.slot) := by unfold World.cell?; simp [xc2]
  have d3 : w2.cell? ⟨w.heap.size + 1, 3, none⟩ = some (.bool x.live) := by unfold World.cell?; simp [xc2]
  go_wp2_with fail
  refine (HB.out _).mono ?_
  rintro r w3 ⟨rfl, b3⟩
  have h3 := h2.below b3
  obtain ⟨z0, z1, z2, z3, g0, g1, g2, g3⟩ := h3.op
  have b4 := h3.bel
  clear h1 h2 d0 d1 d2 d3 xc2 HF1
  go_wp2
  refine bodyPost_ret (v := .tuple #[.agg #[.int .i64 2, .int .i64 I, .string X, .string ⟨#[]⟩], .int .i64 0]) (by simp [results, Try.results19, go_sem, z0, z1, z2, z3]) rfl ⟨rfl, ?_⟩
  exact below_put4 b4 (by omega) _ _ _ _

/-- What is read in the last region of Turn and of SetFrom. -/
theorem boxes_of {w wx : World} {num lsn : Nat} {kind : Int} {hd : ByteArray} {L : List ByteArray} {a : Option Addr} {c : Nat} {e : EntV} (h : PBox w wx ⟨num, lsn, kind, hd, L⟩ a c) (xc : wx.heap[w.heap.size + 1]? = some (.cells #[.string e.key, .int .u32 e.page, .int .i64 e.slot] 43 (0, 0))) :
    (wx.cell? ⟨w.heap.size, 0, none⟩ = some (.int .u32 num) ∧ wx.cell? ⟨w.heap.size, 1, none⟩ = some (.int .u64 lsn) ∧ wx.cell? ⟨w.heap.size, 2, none⟩ = some (.int .i64 kind) ∧ wx.cell? ⟨w.heap.size, 3, none⟩ = some (.string hd) ∧ wx.cell? ⟨w.heap.size, 4, none⟩ = some (.slice a L.length c)) ∧ (wx.cell? ⟨w.heap.size + 1, 0, none⟩ = some (.string e.key) ∧ wx.cell? ⟨w.heap.size + 1, 1, none⟩ = some (.int .u32 e.page) ∧ wx.cell? ⟨w.heap.size + 1, 2, none⟩ = some (.int .i64 e.slot)) := by
  obtain ⟨x0, x1, x2, x3, x4⟩ := h.page.cells5
  refine ⟨⟨x0, x1, x2, x3, x4⟩, ?_, ?_, ?_⟩
  all_goals (unfold World.cell?; simp [xc])

theorem put4_cell {w : World} {b k i : Nat} (h : b ≠ k) (v0 v1 v2 v3 : Value) : ((((w.setCell ⟨b, 0, none⟩ v0).setCell ⟨b, 1, none⟩ v1).setCell ⟨b, 2, none⟩ v2).setCell ⟨b, 3, none⟩ v3).cell? ⟨k, i, none⟩ = w.cell? ⟨k, i, none⟩ := by
  rw [World.cell?_setCell_other _ _ _ _ (by intro q; exact h (congrArg Addr.block q)), World.cell?_setCell_other _ _ _ _ (by intro q; exact h (congrArg Addr.block q)), World.cell?_setCell_other _ _ _ _ (by intro q; exact h (congrArg Addr.block q)), World.cell?_setCell_other _ _ _ _ (by intro q; exact h (congrArg Addr.block q))]

theorem boxes_keep {w wx : World} {num lsn : Nat} {kind : Int} {hd : ByteArray} {L : List ByteArray} {a : Option Addr} {c : Nat} {e : EntV} (v0 v1 v2 v3 : Value)
    (s : (wx.cell? ⟨w.heap.size, 0, none⟩ = some (.int .u32 num) ∧ wx.cell? ⟨w.heap.size, 1, none⟩ = some (.int .u64 lsn) ∧ wx.cell? ⟨w.heap.size, 2, none⟩ = some (.int .i64 kind) ∧ wx.cell? ⟨w.heap.size, 3, none⟩ = some (.string hd) ∧ wx.cell? ⟨w.heap.size, 4, none⟩ = some (.slice a L.length c)) ∧ (wx.cell? ⟨w.heap.size + 1, 0, none⟩ = some (.string e.key) ∧ wx.cell? ⟨w.heap.size + 1, 1, none⟩ = some (.int .u32 e.page) ∧ wx.cell? ⟨w.heap.size + 1, 2, none⟩ = some (.int .i64 e.slot))) : (((((wx.setCell ⟨w.heap.size + 2, 0, none⟩ v0).setCell ⟨w.heap.size + 2, 1, none⟩ v1).setCell ⟨w.heap.size + 2, 2, none⟩ v2).setCell ⟨w.heap.size + 2, 3, none⟩ v3).cell? ⟨w.heap.size, 0, none⟩ = some (.int .u32 num) ∧ ((((wx.setCell ⟨w.heap.size + 2, 0, none⟩ v0).setCell ⟨w.heap.size + 2, 1, none⟩ v1).setCell ⟨w.heap.size + 2, 2, none⟩ v2).setCell ⟨w.heap.size + 2, 3, none⟩ v3).cell? ⟨w.heap.size, 1, none⟩ = some (.int .u64 lsn) ∧ ((((wx.setCell ⟨w.heap.size + 2, 0, none⟩ v0).setCell ⟨w.heap.size + 2, 1, none⟩ v1).setCell ⟨w.heap.size + 2, 2, none⟩ v2).setCell ⟨w.heap.size + 2, 3, none⟩ v3).cell? ⟨w.heap.size, 2, none⟩ = some (.int .i64 kind) ∧ ((((wx.setCell ⟨w.heap.size + 2, 0, none⟩ v0).setCell ⟨w.heap.size + 2, 1, none⟩ v1).setCell ⟨w.heap.size + 2, 2, none⟩ v2).setCell ⟨w.heap.size + 2, 3, none⟩ v3).cell? ⟨w.heap.size, 3, none⟩ = some (.string hd) ∧ ((((wx.setCell ⟨w.heap.size + 2, 0, none⟩ v0).setCell ⟨w.heap.size + 2, 1, none⟩ v1).setCell ⟨w.heap.size + 2, 2, none⟩ v2).setCell ⟨w.heap.size + 2, 3, none⟩ v3).cell? ⟨w.heap.size, 4, none⟩ = some (.slice a L.length c)) ∧ (((((wx.setCell ⟨w.heap.size + 2, 0, none⟩ v0).setCell ⟨w.heap.size + 2, 1, none⟩ v1).setCell ⟨w.heap.size + 2, 2, none⟩ v2).setCell ⟨w.heap.size + 2, 3, none⟩ v3).cell? ⟨w.heap.size + 1, 0, none⟩ = some (.string e.key) ∧ ((((wx.setCell ⟨w.heap.size + 2, 0, none⟩ v0).setCell ⟨w.heap.size + 2, 1, none⟩ v1).setCell ⟨w.heap.size + 2, 2, none⟩ v2).setCell ⟨w.heap.size + 2, 3, none⟩ v3).cell? ⟨w.heap.size + 1, 1, none⟩ = some (.int .u32 e.page) ∧ ((((wx.setCell ⟨w.heap.size + 2, 0, none⟩ v0).setCell ⟨w.heap.size + 2, 1, none⟩ v1).setCell ⟨w.heap.size + 2, 2, none⟩ v2).setCell ⟨w.heap.size + 2, 3, none⟩ v3).cell? ⟨w.heap.size + 1, 2, none⟩ = some (.int .i64 e.slot)) := by
  obtain ⟨⟨y0, y1, y2, y3, y4⟩, y5, y6, y7⟩ := s
  refine ⟨⟨?_, ?_, ?_, ?_, ?_⟩, ?_, ?_, ?_⟩
  all_goals (rw [put4_cell (by omega)]; assumption)

set_option maxHeartbeats 3200000 in
set_option maxRecDepth 60000 in
theorem turn_ok (p : SheetV) (a : Option Addr) (c : Nat) (e : EntV) (v : Bool) (w : World) (hp : p.Ok w a) (hl : p.slots.length ≤ 7036874417766) (hx : e.page < 4294967296) (hk : e.key.size ≤ 140737488351232) (hB : leafB p = true) (hf : (findF (leafL p) e).2 = true) :
    Calls Try.prog 16 #[p.val a c, e.val, .bool v] w fun r w' => r = .returned (.tuple #[(opSetN p (findF (leafL p) e).1.toNat (ItemV.mk e v).bs).val, .int .i64 0]) ∧ Below w.heap.size w w' := by
  obtain ⟨W, HW⟩ : ∃ W, Hid (W = ((w.alloc (sheetObj p a c)).alloc (.cells #[.string e.key, .int .u32 e.page, .int .i64 e.slot] 43)).alloc opCells) := ⟨_, rfl⟩
  have hW : PBox w W p a c := by rw [HW.out]; exact PBox.new _ _ _ _ _
  have xc : W.heap[w.heap.size + 1]? = some (.cells #[.string e.key, .int .u32 e.page, .int .i64 e.slot] 43 (0, 0)) := by rw [HW.out]; exact second_block _ _ _ _
  have hpl := findF_place (leafL p) e
  rw [leafL_length] at hpl
  have hpl2 := hpl.2.2 hf
  have HL1 := hidn (leaf_yes (c := c) (hp.below hW.bel) hl hB)
  have HF : Hid (∀ (wx : World) (a' : Option Addr) (c' : Nat), ItemsAt wx a' (leafL p) → Calls Try.prog 15 #[.slice a' p.slots.length c', e.val] wx fun r w' => r = .returned (.tuple #[.int .i64 (findF (leafL p) e).1, .bool true]) ∧ Below wx.heap.size wx w') := fun wx a' c' h => by
    rw [← hf]; exact find_leaf hl h
  generalize leafL p = LL at *
  have HB : Hid (∀ wx, Calls Try.prog 46 #[(ItemV.mk e v).val] wx fun e' w' => e' = .returned (.string (ItemV.mk e v).bs) ∧ Below wx.heap.size wx w') := fun wx => itemBytes_any (ItemV.mk e v) wx hx hk
  have HS : Hid (∀ (i : Nat), i < p.slots.length → ∀ wx, Below W.heap.size W wx → Calls Try.prog 45 #[p.val a c, .int .i64 i, .string (ItemV.mk e v).bs] wx fun e' w' => e' = .returned (opSetN p i (ItemV.mk e v).bs).val ∧ Below wx.heap.size wx w') := fun i hi wx hb => setN_any p a c i _ wx ((hp.below hW.bel).below hb) hi
  clear hB hp hf
  generalize (ItemV.mk e v).bs = X at *
  obtain ⟨I, hI⟩ : ∃ I : Nat, (findF LL e).1 = (I : Int) := ⟨(findF LL e).1.toNat, by omega⟩
  rw [hI] at HF hpl hpl2
  rw [show (findF LL e).1.toNat = I from by omega]
  clear hI
  have hIl : I < p.slots.length := by omega
  have HS1 := hidn (HS.out I hIl)
  clear HS hpl hpl2
  obtain ⟨O, HO⟩ : ∃ O, Hid (opSetN p I X = O) := ⟨_, rfl⟩
  rw [HO.out] at HS1
  rw [HO.out]
  clear HO
  obtain ⟨num, lsn, kind, hd, L⟩ := p
  simp only [SheetV.val, ItemV.val, ChildV.val, EntV.val, OpV.val, op0] at *
  go_enter Try.func16, Try.ntmps16
  go_wp2_with fail
  rw [← HW.out]
  clear HW
  refine HL1.out.mono ?_
  rintro r w1 ⟨a', c', rfl, hr, b1⟩
  have h1 := hW.below b1
  have HF1 := HF.out _ a' c' hr
  have xc1 := (b1.block (w.heap.size + 1) (by have := hW.lt; omega)).trans xc
  have d0 : w1.cell? ⟨w.heap.size + 1, 0, none⟩ = some (.string e.key) := by unfold World.cell?; simp [xc1]
  have d1 : w1.cell? ⟨w.heap.size + 1, 1, none⟩ = some (.int .u32 e.page) := by unfold World.cell?; simp [xc1]
  have d2 : w1.cell? ⟨w.heap.size + 1, 2, none⟩ = some (.int .i64 e.slot) := by unfold World.cell?; simp [xc1]
  clear HL1 HF hr hW
  go_wp2_with fail
  refine HF1.mono ?_
  rintro r w2 ⟨rfl, b2⟩
  have h2 := h1.below b2
  have xc2 := (b2.block (w.heap.size + 1) (by have := h1.lt; omega)).trans xc1
  have bb2 := hidn (below_chain b1 b2)
  clear d0 d1 d2 xc1 xc h1 HF1 b1 b2
  have s0 := boxes_of h2 xc2
  have hlt2 := h2.lt
  go_wp2_with fail
  go_region_held3 (fun wy => (wy.cell? ⟨w.heap.size, 0, none⟩ = some (.int .u32 num) ∧ wy.cell? ⟨w.heap.size, 1, none⟩ = some (.int .u64 lsn) ∧ wy.cell? ⟨w.heap.size, 2, none⟩ = some (.int .i64 kind) ∧ wy.cell? ⟨w.heap.size, 3, none⟩ = some (.string hd) ∧ wy.cell? ⟨w.heap.size, 4, none⟩ = some (.slice a L.length c)) ∧ (wy.cell? ⟨w.heap.size + 1, 0, none⟩ = some (.string e.key) ∧ wy.cell? ⟨w.heap.size + 1, 1, none⟩ = some (.int .u32 e.page) ∧ wy.cell? ⟨w.heap.size + 1, 2, none⟩ = some (.int .i64 e.slot)))
    (first | (go_keep; done) | exact boxes_keep _ _ _ _ s4 | exact s4 | exact s3)
    (first
      | (go_at_call 46; refine (HB.out _).mono ?_; rintro x w3 ⟨rfl, b3⟩
         have b3' : Below w2.heap.size w2 w3 := ⟨b3.os, b3.tape, b3.output, b3.size, b3.block⟩
         have h3 := h2.below b3'
         have s3 := boxes_of h3 ((b3'.block (w.heap.size + 1) (by omega)).trans xc2)
         have xc3 := hidn ((b3'.block (w.heap.size + 1) (by omega)).trans xc2)
         have bb3 := hidn (below_chain bb2.out b3')
         have hlt3 := h3.lt)
      | (go_at_call 45; refine (HS1.out _ bb3.out).mono ?_; rintro x w4 ⟨rfl, b4⟩
         have h4 := h3.below b4
         have s4 := boxes_of h4 ((b4.block (w.heap.size + 1) (by omega)).trans xc3.out)
         obtain ⟨z0, z1, z2, z3, g0, g1, g2, g3⟩ := h4.op
         have b5 := hidn h4.bel))
  go_wp2
  refine bodyPost_ret (v := .tuple #[.agg #[.int .i64 O.kind, .int .i64 O.at', .string O.S, .string O.old], .int .i64 0]) (by simp [results, Try.results16, go_sem, z0, z1, z2, z3]) rfl ⟨rfl, ?_⟩
  exact below_put4 b5.out (by omega) _ _ _ _

set_option maxHeartbeats 3200000 in
set_option maxRecDepth 60000 in
theorem setFrom_none (p : SheetV) (a : Option Addr) (c : Nat) (i : Int) (e : EntV) (w : World) (hp : p.Ok w a) (hl : p.slots.length ≤ 7036874417766) (hB : innerB p = true) (hi : i < 0 ∨ (p.slots.length : Int) ≤ i) :
    Calls Try.prog 27 #[p.val a c, .int .i64 i, e.val] w fun r w' => r = .returned (.tuple #[op0.val, .int .i64 2]) ∧ Below w.heap.size w w' := by
  obtain ⟨W, HW⟩ : ∃ W, Hid (W = ((w.alloc (sheetObj p a c)).alloc (.cells #[.string e.key, .int .u32 e.page, .int .i64 e.slot] 43)).alloc opCells) := ⟨_, rfl⟩
  have hW : PBox w W p a c := by rw [HW.out]; exact PBox.new _ _ _ _ _
  have xc : W.heap[w.heap.size + 1]? = some (.cells #[.string e.key, .int .u32 e.page, .int .i64 e.slot] 43 (0, 0)) := by rw [HW.out]; exact second_block _ _ _ _
  have HL1 := hidn (inner_yes (c := c) (hp.below hW.bel) hl hB)
  clear hB hp
  by_cases h0 : i < 0
  · obtain ⟨num, lsn, kind, hd, L⟩ := p
    simp only [SheetV.val, ItemV.val, ChildV.val, EntV.val, OpV.val, op0] at *
    go_enter Try.func27, Try.ntmps27
    go_wp2_with fail
    rw [← HW.out]
    clear HW
    refine HL1.out.mono ?_
    rintro r wd ⟨a', c', rfl, hr, bd⟩
    have h2 := hW.below bd
    obtain ⟨z0, z1, z2, z3, g0, g1, g2, g3⟩ := h2.op
    have b2 := h2.bel
    go_wp2
    refine bodyPost_ret (v := .tuple #[.agg #[.int .i64 0, .int .i64 0, .string ⟨#[]⟩, .string ⟨#[]⟩], .int .i64 2]) (by simp [results, Try.results27, go_sem, z0, z1, z2, z3]) rfl ⟨rfl, ?_⟩
    exact below_put4 b2 (by omega) _ _ _ _
  · have h1 : (p.slots.length : Int) ≤ i := by omega
    obtain ⟨num, lsn, kind, hd, L⟩ := p
    simp only [SheetV.val, ItemV.val, ChildV.val, EntV.val, OpV.val, op0] at *
    go_enter Try.func27, Try.ntmps27
    go_wp2_with fail
    rw [← HW.out]
    clear HW
    refine HL1.out.mono ?_
    rintro r wd ⟨a', c', rfl, hr, bd⟩
    have h2 := hW.below bd
    obtain ⟨z0, z1, z2, z3, g0, g1, g2, g3⟩ := h2.op
    have b2 := h2.bel
    go_wp2
    refine bodyPost_ret (v := .tuple #[.agg #[.int .i64 0, .int .i64 0, .string ⟨#[]⟩, .string ⟨#[]⟩], .int .i64 2]) (by simp [results, Try.results27, go_sem, z0, z1, z2, z3]) rfl ⟨rfl, ?_⟩
    exact below_put4 b2 (by omega) _ _ _ _

theorem boxes_keepC {w wx : World} {num lsn : Nat} {kind : Int} {hd : ByteArray} {L : List ByteArray} {a : Option Addr} {c : Nat} {e : EntV} {bb o i Q : Nat} (v0 v1 v2 v3 : Value) (hb : w.heap.size + 3 ≤ bb)
    (s : (wx.cell? ⟨w.heap.size, 0, none⟩ = some (.int .u32 num) ∧ wx.cell? ⟨w.heap.size, 1, none⟩ = some (.int .u64 lsn) ∧ wx.cell? ⟨w.heap.size, 2, none⟩ = some (.int .i64 kind) ∧ wx.cell? ⟨w.heap.size, 3, none⟩ = some (.string hd) ∧ wx.cell? ⟨w.heap.size, 4, none⟩ = some (.slice a L.length c)) ∧ (wx.cell? ⟨w.heap.size + 1, 0, none⟩ = some (.string e.key) ∧ wx.cell? ⟨w.heap.size + 1, 1, none⟩ = some (.int .u32 e.page) ∧ wx.cell? ⟨w.heap.size + 1, 2, none⟩ = some (.int .i64 e.slot)) ∧ wx.cell? ⟨bb, o + i * 4, none⟩ = some (.int .u32 Q)) : (((((wx.setCell ⟨w.heap.size + 2, 0, none⟩ v0).setCell ⟨w.heap.size + 2, 1, none⟩ v1).setCell ⟨w.heap.size + 2, 2, none⟩ v2).setCell ⟨w.heap.size + 2, 3, none⟩ v3).cell? ⟨w.heap.size, 0, none⟩ = some (.int .u32 num) ∧ ((((wx.setCell ⟨w.heap.size + 2, 0, none⟩ v0).setCell ⟨w.heap.size + 2, 1, none⟩ v1).setCell ⟨w.heap.size + 2, 2, none⟩ v2).setCell ⟨w.heap.size + 2, 3, none⟩ v3).cell? ⟨w.heap.size, 1, none⟩ = some (.int .u64 lsn) ∧ ((((wx.setCell ⟨w.heap.size + 2, 0, none⟩ v0).setCell ⟨w.heap.size + 2, 1, none⟩ v1).setCell ⟨w.heap.size + 2, 2, none⟩ v2).setCell ⟨w.heap.size + 2, 3, none⟩ v3).cell? ⟨w.heap.size, 2, none⟩ = some (.int .i64 kind) ∧ ((((wx.setCell ⟨w.heap.size + 2, 0, none⟩ v0).setCell ⟨w.heap.size + 2, 1, none⟩ v1).setCell ⟨w.heap.size + 2, 2, none⟩ v2).setCell ⟨w.heap.size + 2, 3, none⟩ v3).cell? ⟨w.heap.size, 3, none⟩ = some (.string hd) ∧ ((((wx.setCell ⟨w.heap.size + 2, 0, none⟩ v0).setCell ⟨w.heap.size + 2, 1, none⟩ v1).setCell ⟨w.heap.size + 2, 2, none⟩ v2).setCell ⟨w.heap.size + 2, 3, none⟩ v3).cell? ⟨w.heap.size, 4, none⟩ = some (.slice a L.length c)) ∧ (((((wx.setCell ⟨w.heap.size + 2, 0, none⟩ v0).setCell ⟨w.heap.size + 2, 1, none⟩ v1).setCell ⟨w.heap.size + 2, 2, none⟩ v2).setCell ⟨w.heap.size + 2, 3, none⟩ v3).cell? ⟨w.heap.size + 1, 0, none⟩ = some (.string e.key) ∧ ((((wx.setCell ⟨w.heap.size + 2, 0, none⟩ v0).setCell ⟨w.heap.size + 2, 1, none⟩ v1).setCell ⟨w.heap.size + 2, 2, none⟩ v2).setCell ⟨w.heap.size + 2, 3, none⟩ v3).cell? ⟨w.heap.size + 1, 1, none⟩ = some (.int .u32 e.page) ∧ ((((wx.setCell ⟨w.heap.size + 2, 0, none⟩ v0).setCell ⟨w.heap.size + 2, 1, none⟩ v1).setCell ⟨w.heap.size + 2, 2, none⟩ v2).setCell ⟨w.heap.size + 2, 3, none⟩ v3).cell? ⟨w.heap.size + 1, 2, none⟩ = some (.int .i64 e.slot)) ∧ ((((wx.setCell ⟨w.heap.size + 2, 0, none⟩ v0).setCell ⟨w.heap.size + 2, 1, none⟩ v1).setCell ⟨w.heap.size + 2, 2, none⟩ v2).setCell ⟨w.heap.size + 2, 3, none⟩ v3).cell? ⟨bb, o + i * 4, none⟩ = some (.int .u32 Q) := by
  obtain ⟨⟨y0, y1, y2, y3, y4⟩, ⟨y5, y6, y7⟩, y8⟩ := s
  refine ⟨⟨?_, ?_, ?_, ?_, ?_⟩, ⟨?_, ?_, ?_⟩, ?_⟩
  all_goals (rw [put4_cell (by omega)]; assumption)

set_option maxHeartbeats 3200000 in
set_option maxRecDepth 60000 in
theorem setFrom_ok (p : SheetV) (a : Option Addr) (c : Nat) (i : Nat) (e : EntV) (w : World) (hp : p.Ok w a) (hl : p.slots.length ≤ 7036874417766) (hx : e.page < 4294967296) (hk : e.key.size ≤ 140737488351232) (hB : innerB p = true) (hi : i < (innerL p).length) (hq : (innerL p)[i].page < 4294967296) :
    Calls Try.prog 27 #[p.val a c, .int .i64 i, e.val] w fun r w' => r = .returned (.tuple #[(opSetN p i (ChildV.mk (innerL p)[i].page e).bs).val, .int .i64 0]) ∧ Below w.heap.size w w' := by
  obtain ⟨W, HW⟩ : ∃ W, Hid (W = ((w.alloc (sheetObj p a c)).alloc (.cells #[.string e.key, .int .u32 e.page, .int .i64 e.slot] 43)).alloc opCells) := ⟨_, rfl⟩
  have hW : PBox w W p a c := by rw [HW.out]; exact PBox.new _ _ _ _ _
  have xc : W.heap[w.heap.size + 1]? = some (.cells #[.string e.key, .int .u32 e.page, .int .i64 e.slot] 43 (0, 0)) := by rw [HW.out]; exact second_block _ _ _ _
  have hiL : i < p.slots.length := by rw [innerL_length] at hi; exact hi
  have HL0 := hidn (inner_any p a c W (hp.below hW.bel) hl)
  have HB : Hid (∀ wx, Calls Try.prog 49 #[(ChildV.mk (innerL p)[i].page e).val] wx fun e' w' => e' = .returned (.string (ChildV.mk (innerL p)[i].page e).bs) ∧ Below wx.heap.size wx w') := fun wx => childBytes_any (ChildV.mk (innerL p)[i].page e) wx hq hx hk
  have HS : Hid (∀ wx, Below W.heap.size W wx → Calls Try.prog 45 #[p.val a c, .int .i64 i, .string (ChildV.mk (innerL p)[i].page e).bs] wx fun e' w' => e' = .returned (opSetN p i (ChildV.mk (innerL p)[i].page e).bs).val ∧ Below wx.heap.size wx w') := fun wx hb => setN_any p a c i _ wx ((hp.below hW.bel).below hb) hiL
  have HL1 : Hid (Calls Try.prog 26 #[p.val a c] W fun r w' => ∃ bb o c', r = .returned (.tuple #[.slice (some ⟨bb, o, none⟩) p.slots.length c', .int .i64 0]) ∧ W.heap.size ≤ bb ∧ bb < w'.heap.size ∧ w'.cell? ⟨bb, o + i * 4, none⟩ = some (.int .u32 (innerL p)[i].page) ∧ Below W.heap.size W w') := by
    refine HL0.out.mono ?_
    rintro r w' ⟨b, h, _⟩
    obtain ⟨a', c', e, hr⟩ := h hB
    rcases hr with hr | ⟨bb, o, ea, h1, h2, hc⟩
    · have : (p.slots.map childOf).length = 0 := by rw [hr]; rfl
      rw [List.length_map] at this; omega
    · subst ea
      have := hc i (by rw [List.length_map]; exact hiL) 0 (.int .u32 (innerL p)[i].page) rfl
      exact ⟨bb, o, c', e, h1, h2, this, b⟩
  clear hB hp HL0
  generalize (innerL p)[i].page = Q at *
  generalize (ChildV.mk Q e).bs = X at *
  obtain ⟨O, HO⟩ : ∃ O, Hid (opSetN p i X = O) := ⟨_, rfl⟩
  rw [HO.out] at HS
  rw [HO.out]
  clear HO hi
  have hi0 : (0 : Int) ≤ (i : Int) := by omega
  have hi1 : (i : Int) < (p.slots.length : Int) := by omega
  obtain ⟨num, lsn, kind, hd, L⟩ := p
  simp only [SheetV.val, ItemV.val, ChildV.val, EntV.val, OpV.val, op0] at *
  go_enter Try.func27, Try.ntmps27
  go_wp2_with fail
  rw [← HW.out]
  clear HW
  refine HL1.out.mono ?_
  rintro r w2 ⟨bb, o, c', rfl, hb1, hb2, hcl, b2⟩
  have h2 := hW.below b2
  have xc2 := (b2.block (w.heap.size + 1) (by have := hW.lt; omega)).trans xc
  have hbb : w.heap.size + 3 ≤ bb := by have := hW.lt; omega
  have bb2 := hidn b2
  clear HL1 hW b2 xc
  have s0 := boxes_of h2 xc2
  have hlt2 := h2.lt
  go_wp2_with fail
  go_region_held3 (fun wy => (wy.cell? ⟨w.heap.size, 0, none⟩ = some (.int .u32 num) ∧ wy.cell? ⟨w.heap.size, 1, none⟩ = some (.int .u64 lsn) ∧ wy.cell? ⟨w.heap.size, 2, none⟩ = some (.int .i64 kind) ∧ wy.cell? ⟨w.heap.size, 3, none⟩ = some (.string hd) ∧ wy.cell? ⟨w.heap.size, 4, none⟩ = some (.slice a L.length c)) ∧ (wy.cell? ⟨w.heap.size + 1, 0, none⟩ = some (.string e.key) ∧ wy.cell? ⟨w.heap.size + 1, 1, none⟩ = some (.int .u32 e.page) ∧ wy.cell? ⟨w.heap.size + 1, 2, none⟩ = some (.int .i64 e.slot)) ∧ wy.cell? ⟨bb, o + i * 4, none⟩ = some (.int .u32 Q))
    (first | (go_keep; done) | exact boxes_keepC _ _ _ _ hbb s4 | exact s4 | exact s3)
    (first
      | (go_at_call 49; refine (HB.out _).mono ?_; rintro x w3 ⟨rfl, b3⟩
         have b3' : Below w2.heap.size w2 w3 := ⟨b3.os, b3.tape, b3.output, b3.size, b3.block⟩
         have h3 := h2.below b3'
         have hc3 := (b3'.cell (p := ⟨bb, o + i * 4, none⟩) hb2).trans hcl
         have s3' := boxes_of h3 ((b3'.block (w.heap.size + 1) (by omega)).trans xc2)
         have s3 := And.intro s3'.1 (And.intro s3'.2 hc3)
         have xc3 := hidn ((b3'.block (w.heap.size + 1) (by omega)).trans xc2)
         have bb3 := hidn (below_chain bb2.out b3')
         have hz3 := b3'.size
         clear s3'
         have hlt3 := h3.lt)
      | (go_at_call 45; refine (HS.out _ bb3.out).mono ?_; rintro x w4 ⟨rfl, b4⟩
         have h4 := h3.below b4
         have hc4 := (b4.cell (p := ⟨bb, o + i * 4, none⟩) (by show bb < w3.heap.size; omega)).trans hc3
         have s4' := boxes_of h4 ((b4.block (w.heap.size + 1) (by omega)).trans xc3.out)
         have s4 := And.intro s4'.1 (And.intro s4'.2 hc4)
         clear s4'
         obtain ⟨z0, z1, z2, z3, g0, g1, g2, g3⟩ := h4.op
         have b5 := hidn h4.bel))
  go_wp2
  refine bodyPost_ret (v := .tuple #[.agg #[.int .i64 O.kind, .int .i64 O.at', .string O.S, .string O.old], .int .i64 0]) (by simp [results, Try.results27, go_sem, z0, z1, z2, z3]) rfl ⟨rfl, ?_⟩
  exact below_put4 b5.out (by omega) _ _ _ _

end Go.Proofs.Ytnljephojonilaa
