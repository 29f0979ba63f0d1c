/-
  tree.goOn with what firstFrom does at each leaf.
  tree.firstFrom, Seek and Behind in a tree of a root over leaves.
  tree.Check of a tree that girderlaw13.laid made; such a tree as Seek takes it.
-/
import Derived.Test.YtpllidadpcahbaaGreatBase14C
import Derived.Test.YtpllidadpcahbaaGreatBase13C
namespace Go.Proofs.YtpllidadpcahbaaGreat
open Go.RowKit Go.Sort
set_option linter.unusedVariables false
set_option linter.unusedSimpArgs false

/-- N leaves in frames, from page 4 on, each linked to the next one. -/
structure LeavesAt (P : PG) (N : Nat) (M : Nat → List ItemV) : Prop where
  fr : ∀ i, i < N → ∃ f, P.F (4 + i) = some f ∧ f.sh.Fits ∧ leafB f.sh = true ∧ leafL f.sh = M i ∧ nextF f.sh = if i + 1 < N then 5 + i else 0
  le : N ≤ 24

/-- The items of the leaves from i on. -/
def fromL (M : Nat → List ItemV) : Nat → Nat → List ItemV
  | _, 0 => []
  | i, n + 1 => M i ++ fromL M (i + 1) n

/-- The pages that were met. -/
structure MetAt (w : World) (mb : Nat) (L : List Nat) (D : DataW Value) : Prop where
  met : MapV 24 w mb L.length D
  has : ∀ n, n < 4294967296 → Maps.has D (keyL n) = decide (n ∈ L)
  val : ∀ n, n < 4294967296 → getV D (keyL n) (.agg #[]) = .agg #[]
  len : L.length ≤ 64

section
variable {w w' : World} {mb : Nat} {L : List Nat} {D : DataW Value}

theorem MetAt.same (h : MetAt w mb L D) (e : w'.heap[mb]? = w.heap[mb]?) : MetAt w' mb L D := ⟨h.met.same e, h.has, h.val, h.len⟩

theorem MetAt.look (h : MetAt w mb L D) {n : Nat} (hn : n < 4294967296) :
    (Instr.lookup 83 (.map (some mb)) (.int .u32 n) true).run Tryz.prog w = .ok (.tuple #[.agg #[], .bool (decide (n ∈ L))]) w := by
  rw [h.met.lookOk pageKeyed Tryz.underlying83 (tzeroStruct w) (keyL_key hn), h.has n hn, h.val n hn]

theorem MetAt.meet (h : MetAt w mb L D) {n : Nat} (hn : n < 4294967296) (hno : n ∉ L) (hL : L.length < 64) :
    ∃ (u : World → World) (D' : DataW Value), ∀ V : World, V.heap[mb]? = w.heap[mb]? → (Instr.mapUpdate 83 (.map (some mb)) (.int .u32 n) (.agg #[])).run Tryz.prog V = .ok () (u V) ∧ Kept (fun k => k = mb) V (u V) ∧ MetAt (u V) mb (L ++ [n]) D' := by
  obtain ⟨u, hu⟩ := put_ex 24 83 131 mb (.int .u32 n) (.agg #[])
  have hI : Maps.IsMap D := (h.met.tidy pageKeyed).isMap
  refine ⟨u, D.put (keyL n) (.held (.agg #[])), fun V hb => ?_⟩
  obtain ⟨hrun, hM, ht⟩ := hu V L.length D (keyL n) ((h.same hb).met) pageKeyed Tryz.underlying83 (by omega) (keyL_key hn)
  refine ⟨hrun, mapTurned_kept ht rfl, ?_, fun q hq => ?_, fun q hq => ?_, by rw [List.length_append]; simp; omega⟩
  · rw [Maps.size_put (h.met.tidy pageKeyed), h.met.2, h.has n hn, decide_eq_false hno] at hM
    rw [List.length_append]
    exact hM
  · by_cases e : q = n
    · subst e
      rw [Maps.has_put_same hI (keyL_lit q)]
      simp
    · rw [Maps.has_put_other (keyL_ne e), h.has q hq]
      simp [e]
  · by_cases e : q = n
    · subst e
      exact getV_put_same hI (keyL_lit q) _ _
    · rw [getV_put_other (keyL_ne e)]
      exact h.val q hq

end

theorem find_from {M : Nat → List ItemV} {q : ItemV → Bool} {j n : Nat} (h : (M j).find? q = none) : (fromL M j (n + 1)).find? q = (fromL M (j + 1) n).find? q := by
  show (M j ++ fromL M (j + 1) n).find? q = _
  rw [List.find?_append, h]; rfl

theorem find_here {M : Nat → List ItemV} {q : ItemV → Bool} {j n : Nat} {y : ItemV} (h : (M j).find? q = some y) : (fromL M j (n + 1)).find? q = some y := by
  show (M j ++ fromL M (j + 1) n).find? q = _
  rw [List.find?_append, h]; rfl

def pgAt (w : World) : Value → Nat
  | .pointer (some a) => match w.cell? a with | some (.int _ n) => n.toNat | _ => 0
  | _ => 0

section
variable {w : World} {p : Nat} {A : Nat → Prop} {P : PG} {l : LG} {d : DG} {C Fb Fo : Nat} {e : EntV} {B fn : Nat} {q : ItemV → Bool} {N : Nat} {M : Nat → List ItemV}

/-- Where goOn stands at the leaf j. -/
structure GoAt (w wr : World) (p : Nat) (A : Nat → Prop) (P : PG) (l : LG) (d : DG) (C Fb Fo : Nat) (e : EntV) (B fn : Nat) (x0 : ItemV) (mb : Nat) (L : List Nat) (D : DataW Value) (b n nx : Nat) (a : Option Addr) (c : Nat) (Mj : List ItemV) : Prop where
  sys : Sys wr p A P l d
  ff : FfAt wr C Fb Fo e B fn x0 false
  met : MetAt wr mb L D
  box : RowV wr b 5 (five (.int .u32 n) (.int .i64 0) (.slice none 0 0) (.int .u32 nx) (.slice a Mj.length c))
  items : ItemsAt wr a Mj
  off : ∀ b' o, a = some ⟨b', o, none⟩ → Mj ≠ [] → b' ≠ Fb ∧ b' ≠ Fo
  bel : Below w.heap.size w wr
  mlo : w.heap.size ≤ mb
  blo : mb < b
  bhi : b < wr.heap.size
  all : ∀ k, A k ∨ k = B ∨ k = C ∨ k = Fb ∨ k = Fo → k < w.heap.size

/-- The same, without the items. -/
structure GoLt (w wr : World) (p : Nat) (A : Nat → Prop) (P : PG) (l : LG) (d : DG) (C Fb Fo : Nat) (e : EntV) (B fn : Nat) (x0 : ItemV) (mb : Nat) (L : List Nat) (D : DataW Value) (b n nx : Nat) (a : Option Addr) (m c : Nat) : Prop where
  sys : Sys wr p A P l d
  ff : FfAt wr C Fb Fo e B fn x0 false
  met : MetAt wr mb L D
  box : RowV wr b 5 (five (.int .u32 n) (.int .i64 0) (.slice none 0 0) (.int .u32 nx) (.slice a m c))
  bel : Below w.heap.size w wr
  mlo : w.heap.size ≤ mb
  blo : mb < b
  bhi : b < wr.heap.size
  all : ∀ k, A k ∨ k = B ∨ k = C ∨ k = Fb ∨ k = Fo → k < w.heap.size

theorem GoLt.below {w wr wx : World} {x0 : ItemV} {mb : Nat} {L : List Nat} {D : DataW Value} {b n nx : Nat} {a : Option Addr} {m c : Nat} (h : GoLt w wr p A P l d C Fb Fo e B fn x0 mb L D b n nx a m c) (k : Below wr.heap.size wr wx) : GoLt w wx p A P l d C Fb Fo e B fn x0 mb L D b n nx a m c :=
  ⟨h.sys.below k, h.ff.below k, h.met.same (k.block mb (by have := h.blo; have := h.bhi; omega)), h.box.below k h.bhi, below_chain h.bel k, h.mlo, h.blo, Nat.lt_of_lt_of_le h.bhi k.size, h.all⟩

theorem GoAt.below {w wr wx : World} {x0 : ItemV} {mb : Nat} {L : List Nat} {D : DataW Value} {b n nx : Nat} {a : Option Addr} {c : Nat} {Mj : List ItemV} (h : GoAt w wr p A P l d C Fb Fo e B fn x0 mb L D b n nx a c Mj) (k : Below wr.heap.size wr wx) : GoAt w wx p A P l d C Fb Fo e B fn x0 mb L D b n nx a c Mj :=
  ⟨h.sys.below k, h.ff.below k, h.met.same (k.block mb (by have := h.blo; have := h.bhi; omega)), h.box.below k h.bhi, h.items.below k, h.off, below_chain h.bel k, h.mlo, h.blo, Nat.lt_of_lt_of_le h.bhi k.size, h.all⟩

theorem RowV.sameR {w w' : World} {b k : Nat} {f : Nat → Value} (h : RowV w b k f) (e : w'.heap[b]? = w.heap[b]?) : RowV w' b k f := fun j hj =>
  ⟨(World.cell?_of_block (w := w) (a := ⟨b, j, none⟩) e).trans (h j hj).1, (World.frozen?_of_block (w := w) (a := ⟨b, j, none⟩) e).trans (h j hj).2⟩

/-- The page was put to those met: its items are not looked at any more. -/
theorem GoAt.turned {w wr wx : World} {x0 : ItemV} {mb : Nat} {L L' : List Nat} {D D' : DataW Value} {b n nx : Nat} {a : Option Addr} {c : Nat} {Mj : List ItemV} (h : GoAt w wr p A P l d C Fb Fo e B fn x0 mb L D b n nx a c Mj) (k : Kept (fun k => k = mb) wr wx) (hm : MetAt wx mb L' D') : GoLt w wx p A P l d C Fb Fo e B fn x0 mb L' D' b n nx a Mj.length c := by
  have h1 := h.mlo
  have h2 := h.blo
  have h3 := h.bhi
  have hk : ∀ b, b < wr.heap.size → b ≠ mb → wx.heap[b]? = wr.heap[b]? := fun b hb hne => k.block b hb hne
  exact ⟨h.sys.same (fun b hb => hk b (h.sys.lt b hb) (by have := h.all b (.inl hb); omega)) k.size, h.ff.same (fun b hb hx => hk b hb (by have := h.all b (.inr hx); omega)) k.size, hm, h.box.sameR (hk b h3 (by omega)), ⟨k.os.trans h.bel.os, k.tape.trans h.bel.tape, k.output.trans h.bel.output, Nat.le_trans h.bel.size k.size, fun i hi => (hk i (Nat.lt_of_lt_of_le hi h.bel.size) (by omega)).trans (h.bel.block i hi)⟩, h1, h2, Nat.lt_of_lt_of_le h3 k.size, h.all⟩

/-- On to the next leaf. -/
theorem GoLt.moved {w w7 V8 : World} {x0 : ItemV} {mb : Nat} {L : List Nat} {D : DataW Value} {b n0 nx0 : Nat} {a0 : Option Addr} {m0 c0 : Nat} (h : GoLt w w7 p A P l d C Fb Fo e B fn x0 mb L D b n0 nx0 a0 m0 c0) {n nx : Nat} {a : Option Addr} {c : Nat} {Mj : List ItemV} (hV : V8 = store5 w7 b (.int .u32 n) (.int .i64 0) (.slice none 0 0) (.int .u32 nx) (.slice a Mj.length c)) {Z : Nat} (hr : RowsFrom Z 4 ItemV.enc w7 a Mj) (hZ : b < Z) :
    GoAt w (V8.alloc (.cells #[.int .u32 n, .int .i64 0, .slice none 0 0, .int .u32 nx, .slice a Mj.length c] 82)) p A P l d C Fb Fo e B fn x0 mb L D V8.heap.size n nx a c Mj := by
  have h1 := h.mlo
  have h2 := h.blo
  have h3 := h.bhi
  have hz : V8.heap.size = w7.heap.size := by rw [hV]; unfold store5; simp
  have hk : ∀ k, k ≠ b → V8.heap[k]? = w7.heap[k]? := fun k hk => by
    rw [hV]
    unfold store5
    rw [heap_setCell_other _ _ _ _ (by simpa using hk), heap_setCell_other _ _ _ _ (by simpa using hk), heap_setCell_other _ _ _ _ (by simpa using hk), heap_setCell_other _ _ _ _ (by simpa using hk), heap_setCell_other _ _ _ _ (by simpa using hk)]
  have bV : Below w.heap.size w V8 := by rw [hV]; exact below_set5 h.bel (by omega) _ _ _ _ _
  have hlt : ∀ k, A k ∨ k = B ∨ k = C ∨ k = Fb ∨ k = Fo → k ≠ b := fun k q => by have := h.all k q; omega
  have kA : Below V8.heap.size V8 (V8.alloc (.cells #[.int .u32 n, .int .i64 0, .slice none 0 0, .int .u32 nx, .slice a Mj.length c] 82)) := (Below.refl _ _).alloc (Nat.le_refl _) _
  have rows : RowsFrom Z 4 ItemV.enc V8 a Mj := hr.same (fun k g1 g2 => hk k (by omega)) (by omega)
  refine ⟨(h.sys.same (fun k hb => hk k (hlt k (.inl hb))) (by omega)).below kA, (h.ff.same (fun k _ hx => hk k (hlt k (.inr hx))) (by omega)).below kA, (h.met.same (hk mb (by omega))).same (kA.block mb (by omega)), RowV.five_new _ _ _ _ _ _ _, rows.at.below kA, fun b' o' e1 h0 => ?_, below_chain bV kA, h1, by omega, by simp, h.all⟩
  rcases rows with q | ⟨b2, o2, e2, hb2, _⟩
  · exact absurd q h0
  · rw [e1] at e2
    simp only [Option.some.injEq, Addr.mk.injEq, and_true] at e2
    obtain ⟨rfl, rfl⟩ := e2
    have l1 := h.all Fb (by simp)
    have l2 := h.all Fo (by simp)
    exact ⟨by omega, by omega⟩

/-- What goOn leaves. -/
structure OnOut (w : World) (C Fb Fo : Nat) (e : EntV) (B fn : Nat) (x0 : ItemV) (q : ItemV → Bool) (K : List ItemV) (r : Ending) (w' : World) : Prop where
  ok : r = .returned (.int .i64 0)
  no : K.find? q = none → FfAt w' C Fb Fo e B fn x0 false
  yes : ∀ y, K.find? q = some y → FfAt w' C Fb Fo e B fn y true
  kept : Kept (fun k => k = Fb ∨ k = Fo) w w'

set_option maxHeartbeats 1600000 in
set_option maxRecDepth 20000 in
theorem goOn_any (hI : IdxDoes fn e q) (hS : Sys w p A P l d) (hL : LeavesAt P N M) {i : Nat} (hi : i < N) {x0 : ItemV} (h : FfAt w C Fb Fo e B fn x0 false) (n nx : Nat) (hn : n = 4 + i) (hnx : nx = if i + 1 < N then 5 + i else 0) (a : Option Addr) (c : Nat) (hA : ItemsAt w a (M i)) (hoff : ∀ b' o, a = some ⟨b', o, none⟩ → M i ≠ [] → b' ≠ Fb ∧ b' ≠ Fo) (hM : ∀ i, (M i).length ≤ 64) :
    Calls Tryz.prog 51 #[.pointer (some ⟨p, 0, none⟩), leafS n nx a (M i).length c, .func (.func 58) #[] #[.pointer (some ⟨C, 0, none⟩), .pointer (some ⟨Fb, 0, none⟩), .pointer (some ⟨Fo, 0, none⟩)]] w (OnOut w C Fb Fo e B fn x0 q (fromL M i (N - i))) := by
  have hmm := @run_makeMap Tryz.prog
  have hN := hL.le
  have HVI : Hid (∀ (wx : World) (n nx : Nat) (a : Option Addr) (c j : Nat), ItemsAt wx a (M j) → FfAt wx C Fb Fo e B fn x0 false → (∀ b' o, a = some ⟨b', o, none⟩ → M j ≠ [] → b' ≠ Fb ∧ b' ≠ Fo) → Calls Tryz.prog 58 #[.agg #[.int .u32 n, .int .i64 0, .slice none 0 0, .int .u32 nx, .slice a (M j).length c], .pointer (some ⟨C, 0, none⟩), .pointer (some ⟨Fb, 0, none⟩), .pointer (some ⟨Fo, 0, none⟩)] wx (VisOut wx C Fb Fo e B fn q (M j))) := fun wx n nx a c j h1 h2 h3 => visit_any hI n nx a (M j) c h1 (hM j) h2 h3
  have HFL : Hid (∀ (wx : World) (j nx : Nat), j + 1 < N → nx = 5 + j → Sys wx p A P l d → ∃ nx', nx' = (if j + 1 + 1 < N then 5 + (j + 1) else 0) ∧ Calls Tryz.prog 53 #[.pointer (some ⟨p, 0, none⟩), .int .u32 nx] wx fun r w' => ∃ a' c', r = .returned (.tuple #[.agg #[.int .u32 nx, .int .i64 0, .slice none 0 0, .int .u32 nx', .slice a' (M (j + 1)).length c'], .int .i64 0]) ∧ RowsFrom wx.heap.size 4 ItemV.enc w' a' (M (j + 1)) ∧ Below wx.heap.size wx w') := fun wx j nx hj e1 hs => by
    obtain ⟨f, e2, e3, e4, e5, e6⟩ := hL.fr (j + 1) hj
    rw [show 4 + (j + 1) = nx by omega] at e2
    refine ⟨nextF f.sh, e6, ?_⟩
    rw [← e5, leafL_length]
    exact tfetch_leaf hs nx (by omega) (by omega) e2 e3 e4
  have HIL : Hid (∀ (wx : World) (next : Nat) (a : Option Addr) (m c q : Nat), Calls Tryz.prog 55 #[.agg #[.int .u32 q, .int .i64 0, .slice none 0 0, .int .u32 next, .slice a m c]] wx fun r w' => r = .returned (.bool true) ∧ Below wx.heap.size wx w') := fun wx next a m c q => isLeaf_leaf q next a m c wx
  obtain ⟨W, HW⟩ : ∃ W, Hid (W = ((w.alloc (.cells #[.int .u32 n, .int .i64 0, .slice none 0 0, .int .u32 nx, .slice a (M i).length c] 82)).alloc (.map #[] 0)).alloc (.cells #[.int .u32 n, .int .i64 0, .slice none 0 0, .int .u32 nx, .slice a (M i).length c] 82)) := ⟨_, rfl⟩
  have bW : Below w.heap.size w W := by rw [HW.out]; exact (((Below.refl _ _).alloc (Nat.le_refl _) _).alloc (by simp) _).alloc (by simp; omega) _
  have G0 : GoAt w W p A P l d C Fb Fo e B fn x0 (w.heap.size + 1) [] (.map []) (w.heap.size + 2) n nx a c (M i) := by
    have z2 : ((w.alloc (.cells #[.int .u32 n, .int .i64 0, .slice none 0 0, .int .u32 nx, .slice a (M i).length c] 82)).alloc (.map #[] 0)).heap.size = w.heap.size + 2 := by simp
    refine ⟨hS.below bW, h.below bW, ⟨?_, fun q _ => by simp; rfl, fun q _ => rfl, by simp⟩, ?_, hA.below bW, hoff, bW, by omega, by omega, by rw [HW.out]; simp, ?_⟩
    · have := MapV.made 24 (w.alloc (.cells #[.int .u32 n, .int .i64 0, .slice none 0 0, .int .u32 nx, .slice a (M i).length c] 82))
      rw [HW.out]
      refine MapV.same (w := ((w.alloc (.cells #[.int .u32 n, .int .i64 0, .slice none 0 0, .int .u32 nx, .slice a (M i).length c] 82)).alloc (.map #[] 0))) (by simpa using this) (heap_old _ _ (by simp))
    · rw [HW.out, ← z2]; exact RowV.five_new _ _ _ _ _ _ _
    · rintro k (q | q | q | q | q)
      · exact hS.lt k q
      · rw [q]; exact h.en.lt
      · rw [q]; exact h.clt
      · rw [q]; exact h.first.lt
      · rw [q]; exact h.found.lt
  unfold leafS
  have Hn0 := hidn hn
  have Hnx0 := hidn hnx
  clear hI hS hL hA hoff hM hn hnx
  go_enter Tryz.func51, Tryz.ntmps51
  go_wp2_with fail
  rw [← HW.out]
  clear HW
  go_loopw [8] (fun v8 wr => ∃ (j n nx b : Nat) (a : Option Addr) (c : Nat) (L : List Nat) (D : DataW Value), v8 = .pointer (some ⟨b, 0, none⟩) ∧ i ≤ j ∧ j < N ∧ Hid (GoAt w wr p A P l d C Fb Fo e B fn x0 (w.heap.size + 1) L D b n nx a c (M j)) ∧ Hid (n = 4 + j) ∧ Hid (nx = if j + 1 < N then 5 + j else 0) ∧ Hid ((∀ k ∈ L, k < 4 + j) ∧ L.length ≤ j) ∧ Hid ((fromL M i (N - i)).find? q = (fromL M j (N - j)).find? q)) (fun v8 wr => 28 - pgAt wr v8)
  case atStart => exact ⟨i, n, nx, w.heap.size + 2, a, c, [], .map [], rfl, Nat.le_refl _, hi, G0, Hn0, Hnx0, ⟨by simp, by simp⟩, rfl⟩
  case round =>
    clear G0 Hn0 Hnx0 bW
    obtain ⟨j, n, nx, b, a, c, L, D, rfl, hij, hj, HG, Hn, Hnx, HLL, HF⟩ := hrel
    obtain ⟨x0', x1, x2, x3, x4⟩ := HG.out.box.cells5
    have HP0 := hidn (show pgAt wr (.pointer (some ⟨b, 0, none⟩)) = n by simp only [pgAt, x0']; simp)
    have HV := hidn (HVI.out wr n nx a c j HG.out.items HG.out.ff HG.out.off)
    obtain ⟨m, hm⟩ : ∃ m, N - j = m + 1 := ⟨N - j - 1, by omega⟩
    rw [hm] at HF
    cases hfind : (M j).find? q with
    | some y =>
      have HK := hidn ((HF.out).trans (find_here hfind))
      have Hfi := hidn hfind
      have HB := hidn HG.out.bel
      clear hfind hm
      go_wp2_with fail
      refine HV.out.mono ?_
      intro r w2 hv
      obtain ⟨rfl, hf2, hk2⟩ := hv.yes y Hfi.out
      have HF2 := hidn hf2
      have HK2 := hidn hk2
      clear hv hf2 hk2 HV
      go_wp2
      go_ret
      refine ⟨rfl, fun qq => ?_, fun y' qq => ?_, (Kept.of_below HB.out).trans HK2.out⟩
      · rw [HK.out] at qq; cases qq
      · rw [HK.out] at qq
        simp only [Option.some.injEq] at qq
        subst qq
        exact HF2.out
    | none =>
      have Hfi := hidn hfind
      have HK := hidn ((HF.out).trans (find_from hfind))
      by_cases hlast : j + 1 < N
      · have hnx := hidn (show nx = 5 + j by rw [Hnx.out, if_pos hlast])
        have hnx0 : ¬ ((nx : Int) = 0) := by have := hnx.out; omega
        have hn32 : n < 4294967296 := by have := Hn.out; omega
        have hx32 : nx < 4294967296 := by have := hnx.out; omega
        clear hfind
        go_wp2_with fail
        refine HV.out.mono ?_
        intro r w2 hv
        obtain ⟨rfl, b2⟩ := hv.no Hfi.out
        have G2 := hidn (HG.out.below b2)
        clear hv HV HG x0' x1 x2 x3 x4 b2
        have hnL : n ∉ L := fun q => by have := HLL.out.1 n q; have := Hn.out; omega
        have hxL : nx ∉ L ++ [n] := fun q => by
          rcases List.mem_append.1 q with q | q
          · have := HLL.out.1 nx q; have := hnx.out; omega
          · have q' : nx = n := by simpa using q
            have := hnx.out; have := Hn.out; omega
        obtain ⟨u, D', hu⟩ := G2.out.met.meet hn32 hnL (by have := HLL.out.2; omega)
        obtain ⟨hrun, ku, hM3⟩ := hu w2 rfl
        have G3 := hidn (G2.out.turned ku hM3)
        have hlk := hM3.look hx32
        rw [decide_eq_false hxL] at hlk
        obtain ⟨y0, y1, y2, y3, y4⟩ := G2.out.box.cells5
        obtain ⟨z0, z1, z2, z3, z4⟩ := G3.out.box.cells5
        clear hu ku hM3
        go_upto_region 8 with fail
        obtain ⟨V4, HV4⟩ : ∃ V4, Hid (V4 = (u w2).alloc (.cells #[] 131)) := ⟨_, rfl⟩
        have G4 := hidn (G3.out.below (wx := V4) (by rw [HV4.out]; exact (Below.refl _ _).alloc (Nat.le_refl _) _))
        rw [← HV4.out]
        clear HV4 G2 G3 y0 y1 y2 y3 y4 z0 z1 z2 z3 z4 hrun hlk
        obtain ⟨y0, y1, y2, y3, y4⟩ := G4.out.box.cells5
        obtain ⟨nx', hnx', HC⟩ := HFL.out V4 j nx hlast hnx.out G4.out.sys
        have Hnx' := hidn hnx'
        have HCc := hidn HC
        clear hnx' HC
        go_wp2_with fail
        refine HCc.out.mono ?_
        rintro r w5 ⟨a5, c5, rfl, r5, b5⟩
        obtain ⟨W6, HW6⟩ : ∃ W6, Hid (W6 = w5.alloc (.cells #[.int .u32 nx, .int .i64 0, .slice none 0 0, .int .u32 nx', .slice a5 (M (j + 1)).length c5] 82)) := ⟨_, rfl⟩
        have k6 : Below w5.heap.size w5 W6 := by rw [HW6.out]; exact (Below.refl _ _).alloc (Nat.le_refl _) _
        have q6 : RowV W6 w5.heap.size 5 (five (.int .u32 nx) (.int .i64 0) (.slice none 0 0) (.int .u32 nx') (.slice a5 (M (j + 1)).length c5)) := by rw [HW6.out]; exact RowV.five_new _ _ _ _ _ _ _
        have z6 : w5.heap.size < W6.heap.size := by rw [HW6.out]; simp
        have G6 := hidn (G4.out.below (below_chain b5 k6))
        have r6 := r5.belowF k6
        have z5 := b5.size
        have zb := G4.out.bhi
        clear HCc y0 y1 y2 y3 y4 r5 b5 k6 G4
        go_upto_region 11 with fail
        rw [← HW6.out]
        clear HW6
        obtain ⟨y0, y1, y2, y3, y4⟩ := q6.cells5
        go_wp2_with fail
        refine (HIL.out _ _ _ _ _ _).mono ?_
        rintro r w7 ⟨rfl, b7⟩
        have G7 := hidn (G6.out.below b7)
        have q7 := q6.below b7 z6
        have r7 := r6.belowF b7
        clear y0 y1 y2 y3 y4 q6 r6 G6
        obtain ⟨y0, y1, y2, y3, y4⟩ := q7.cells5
        have r8 := G7.out.box
        obtain ⟨o0, o1, o2, o3, o4⟩ := r8.cells5
        obtain ⟨p0, p1, p2, p3, p4⟩ := r8.open5
        obtain ⟨s0, s1, s2, s3, s4⟩ := (r8.set5 (.int .u32 nx) (.int .i64 0) (.slice none 0 0) (.int .u32 nx') (.slice a5 (M (j + 1)).length c5)).cells5
        obtain ⟨V8, HV8⟩ : ∃ V8, Hid (V8 = store5 w7 b (.int .u32 nx) (.int .i64 0) (.slice none 0 0) (.int .u32 nx') (.slice a5 (M (j + 1)).length c5)) := ⟨_, rfl⟩
        have HAll := hidn (G7.out.moved (Mj := M (j + 1)) (nx := nx') (n := nx) (a := a5) (c := c5) HV8.out r7 (by omega))
        have HLL2 : Hid ((∀ k ∈ L ++ [n], k < 4 + (j + 1)) ∧ (L ++ [n]).length ≤ j + 1) := by
          refine hidn ⟨fun k hk => ?_, by rw [List.length_append]; have := HLL.out.2; simp; omega⟩
          rcases List.mem_append.1 hk with qq | qq
          · have := HLL.out.1 k qq; omega
          · have qq' : k = n := by simpa using qq
            have := Hn.out; omega
        have HF2 : Hid ((fromL M i (N - i)).find? q = (fromL M (j + 1) (N - (j + 1))).find? q) := by
          rw [show N - (j + 1) = m by omega]; exact HK
        unfold store5 at s0 s1 s2 s3 s4 HV8
        clear r7 q7 r8
        go_upto_region 15 with fail
        rw [← HV8.out] at s0 s1 s2 s3 s4 ⊢
        clear HV8 y0 y1 y2 y3 y4 o0 o1 o2 o3 o4 p0 p1 p2 p3 p4
        go_wp2
        go_roundw
        case rel => exact ⟨j + 1, nx, nx', V8.heap.size, a5, c5, L ++ [n], D', rfl, by omega, hlast, HAll, (by have := hnx.out; exact hidn (by omega)), Hnx', HLL2, HF2⟩
        case measure =>
          have hbx : pgAt (V8.alloc (.cells #[.int .u32 nx, .int .i64 0, .slice none 0 0, .int .u32 nx', .slice a5 (M (j + 1)).length c5] 82)) (.pointer (some ⟨V8.heap.size, 0, none⟩)) = nx := by
            have := HAll.out.box.cells5.1
            simp only [pgAt, this]; simp
          rw [hbx, HP0.out]
          have := hnx.out
          have := Hn.out
          omega
      · have hnx0 : nx = 0 := by rw [Hnx.out, if_neg hlast]
        clear Hnx
        subst hnx0
        clear hfind
        go_wp2_with fail
        refine HV.out.mono ?_
        intro r w2 hv
        obtain ⟨rfl, b2⟩ := hv.no Hfi.out
        have G2 := hidn (HG.out.below b2)
        have hm0 : m = 0 := by omega
        subst hm0
        clear hv HV HG x0' x1 x2 x3 x4 b2
        obtain ⟨y0, y1, y2, y3, y4⟩ := G2.out.box.cells5
        go_wp2
        go_ret
        refine ⟨rfl, fun _ => G2.out.ff, fun y' qq => ?_, Kept.of_below G2.out.bel⟩
        rw [HK.out] at qq
        cases qq

end

end Go.Proofs.YtpllidadpcahbaaGreat

namespace Go.Proofs.YtpllidadpcahbaaGreat
open Go.RowKit Go.Sort
set_option linter.unusedVariables false
set_option linter.unusedSimpArgs false

def zeroI : ItemV := ⟨⟨⟨#[]⟩, 0, 0⟩, false⟩

/-- A root over N leaves, in frames. -/
structure TreeAt (P : PG) (root N : Nat) (C : List ChildV) (M : Nat → List ItemV) : Prop where
  rt : ∃ f, P.F root = some f ∧ f.sh.Fits ∧ leafB f.sh = false ∧ innerB f.sh = true ∧ innerL f.sh = C
  r1 : 1 ≤ root
  r2 : root ≤ 2048
  pos : 0 < N
  len : C.length = N
  page : ∀ i (h : i < C.length), C[i].page = 4 + i
  lvs : LeavesAt P N M
  short : ∀ i, (M i).length ≤ 64

/-- What firstFrom tells. -/
structure FirstOut (w : World) (C : List ChildV) (e : EntV) (q : ItemV → Bool) (M : Nat → List ItemV) (N : Nat) (r : Ending) (w' : World) : Prop where
  out : ∃ (D : Nat) (y : ItemV) (fd : Bool), DownIs C e D ∧ r = .returned (.tuple #[y.val, .bool fd, .int .i64 0]) ∧ (((fromL M D (N - D)).find? q = none ∧ y = zeroI ∧ fd = false) ∨ ((fromL M D (N - D)).find? q = some y ∧ fd = true))
  bel : Below w.heap.size w w'

section
variable {w : World} {p : Nat} {A : Nat → Prop} {P : PG} {l : LG} {d : DG} {root N : Nat} {C : List ChildV} {M : Nat → List ItemV}

theorem TreeAt.down (h : TreeAt P root N C M) (hS : Sys w p A P l d) (e : EntV) :
    Calls Tryz.prog 34 #[.pointer (some ⟨p, 0, none⟩), .int .u32 root, e.val] w fun r w' => (∃ (D n nx : Nat) (a : Option Addr) (c : Nat) (way : Value), D < N ∧ DownIs C e D ∧ n = 4 + D ∧ (nx = if D + 1 < N then 5 + D else 0) ∧ r = .returned (.tuple #[way, leafS n nx a (M D).length c, .int .i64 0]) ∧ w'.ownsRow (w.heap.size + 2) 24 1 way 2 [.int .u32 root, .int .u32 n] ∧ RowsFrom w.heap.size 4 ItemV.enc w' a (M D)) ∧ Below w.heap.size w w' := by
  obtain ⟨f, e1, e2, e3, e4, e5⟩ := h.rt
  have hlen := h.len
  have hpos := h.pos
  have hN := h.lvs.le
  have hget : ∀ D x, C[D]? = some x → D < N ∧ x.page = 4 + D := fun D x hx => by
    obtain ⟨hD, rfl⟩ := List.getElem?_eq_some_iff.1 hx
    exact ⟨by omega, h.page D hD⟩
  refine (goDown_any hS root h.r1 h.r2 e1 e2 e3 e4 (by rw [e5]; intro q; rw [q] at hlen; simp at hlen; omega) ?_ e).mono ?_
  · rw [e5]
    intro x hx
    obtain ⟨D, hD⟩ := List.mem_iff_getElem?.1 hx
    obtain ⟨q1, q2⟩ := hget D x hD
    obtain ⟨f', g1, g2, g3, _⟩ := h.lvs.fr D q1
    rw [q2]
    exact ⟨by omega, f', g1, g2, g3⟩
  · rw [e5]
    rintro r w' ⟨⟨D, x, f', a, c, way, hx, hD, hf', rfl, ho, hr⟩, b⟩
    obtain ⟨q1, q2⟩ := hget D x hx
    obtain ⟨f2, g1, g2, g3, g4, g5⟩ := h.lvs.fr D q1
    rw [q2, g1] at hf'
    simp only [Option.some.injEq] at hf'
    subst hf'
    refine ⟨⟨D, x.page, nextF f2.sh, a, c, way, q1, hD, q2, g5, ?_, ho, by rw [← g4]; exact hr⟩, b⟩
    rw [← g4, leafL_length]

set_option maxHeartbeats 1600000 in
set_option maxRecDepth 20000 in
theorem firstFrom_any (h : TreeAt P root N C M) (hS : Sys w p A P l d) (e : EntV) {fn : Nat} {q : ItemV → Bool} (hI : IdxDoes fn e q) {B : Nat} (hB : EBox w B e) :
    Calls Tryz.prog 30 #[.pointer (some ⟨p, 0, none⟩), .int .u32 root, e.val, .func (.func fn) #[] #[.pointer (some ⟨B, 0, none⟩)]] w (FirstOut w C e q M N) := by
  obtain ⟨W, HW⟩ : ∃ W, Hid (W = ((w.alloc (.cells #[.string e.key, .int .u32 e.page, .int .i64 e.slot] 28)).alloc (.cells #[.func (.func fn) #[] #[.pointer (some ⟨B, 0, none⟩)]] 91)).alloc (.cells #[.string ⟨#[]⟩, .int .u32 0, .int .i64 0, .bool false] 42)) := ⟨_, rfl⟩
  have bW : Below w.heap.size w W := by rw [HW.out]; exact (((Below.refl _ _).alloc (Nat.le_refl _) _).alloc (by simp) _).alloc (by simp; omega) _
  have zW : W.heap.size = w.heap.size + 3 := by rw [HW.out]; simp
  have hE := hB.below bW hB.lt
  have hC : W.cell? ⟨w.heap.size + 1, 0, none⟩ = some (.func (.func fn) #[] #[.pointer (some ⟨B, 0, none⟩)]) := by
    have := Blk.made (w.alloc (.cells #[.string e.key, .int .u32 e.page, .int .i64 e.slot] 28)) #[.func (.func fn) #[] #[.pointer (some ⟨B, 0, none⟩)]] 91
    have := Blk.same this (heap_old _ (.cells #[.string ⟨#[]⟩, .int .u32 0, .int .i64 0, .bool false] 42) (by simp))
    rw [← HW.out] at this
    have h0 := this.cell 0
    rw [show (w.alloc (.cells #[.string e.key, .int .u32 e.page, .int .i64 e.slot] 28)).heap.size = w.heap.size + 1 by simp] at h0
    exact h0
  have hR : Blk W (w.heap.size + 2) #[.string ⟨#[]⟩, .int .u32 0, .int .i64 0, .bool false] 42 := by
    rw [HW.out]
    have := Blk.made ((w.alloc (.cells #[.string e.key, .int .u32 e.page, .int .i64 e.slot] 28)).alloc (.cells #[.func (.func fn) #[] #[.pointer (some ⟨B, 0, none⟩)]] 91)) #[.string ⟨#[]⟩, .int .u32 0, .int .i64 0, .bool false] 42
    simpa using this
  have HGD := hidn (h.down (hS.below bW) e)
  have hbl := hB.lt
  simp only [EntV.val, leafS] at HGD ⊢
  go_enter Tryz.func30, Tryz.ntmps30
  go_wp2_with fail
  rw [← HW.out]
  clear HW
  refine HGD.out.mono ?_
  rintro r w2 ⟨⟨D, n, nx, a, c, way, hD, hDI, hn, hnx, rfl, ho, hr⟩, b2⟩
  have HDI := hidn hDI
  have Hn := hidn hn
  have Hnx := hidn hnx
  clear hDI hn hnx ho HGD
  obtain ⟨W5, HW5⟩ : ∃ W5, Hid (W5 = ((w2.alloc (.cells #[.int .u32 n, .int .i64 0, .slice none 0 0, .int .u32 nx, .slice a (M D).length c] 82)).alloc (.cells #[.string ⟨#[]⟩, .int .u32 0, .int .i64 0, .bool false] 42)).alloc (.cells #[.bool false] 4)) := ⟨_, rfl⟩
  have b5 : Below w2.heap.size w2 W5 := by rw [HW5.out]; exact (((Below.refl _ _).alloc (Nat.le_refl _) _).alloc (by simp) _).alloc (by simp; omega) _
  have z5 : W5.heap.size = w2.heap.size + 3 := by rw [HW5.out]; simp
  have B5 := below_chain b2 b5
  have z2 := b2.size
  have BB5 := below_chain bW B5
  have r5 : RowV W5 w2.heap.size 5 (five (.int .u32 n) (.int .i64 0) (.slice none 0 0) (.int .u32 nx) (.slice a (M D).length c)) := by
    rw [HW5.out]
    exact ((RowV.five_new w2 _ _ _ _ _ _).below ((Below.refl _ _).alloc (Nat.le_refl _) _) (by simp)).below ((Below.refl _ _).alloc (Nat.le_refl _) _) (by simp; omega)
  have f5 : FfAt W5 (w.heap.size + 1) (w2.heap.size + 1) (w2.heap.size + 2) e B fn zeroI false := by
    refine ⟨hE.below B5 hE.lt, (B5.cell (p := ⟨w.heap.size + 1, 0, none⟩) (by show w.heap.size + 1 < _; omega)).trans hC, ?_, ?_, by omega, by omega, by omega, by omega, by omega⟩
    · rw [HW5.out]
      have := Blk.made (w2.alloc (.cells #[.int .u32 n, .int .i64 0, .slice none 0 0, .int .u32 nx, .slice a (M D).length c] 82)) #[.string ⟨#[]⟩, .int .u32 0, .int .i64 0, .bool false] 42
      have := Blk.same this (heap_old _ (.cells #[.bool false] 4) (by simp))
      simpa [zeroI] using this
    · rw [HW5.out]
      have := Blk.made ((w2.alloc (.cells #[.int .u32 n, .int .i64 0, .slice none 0 0, .int .u32 nx, .slice a (M D).length c] 82)).alloc (.cells #[.string ⟨#[]⟩, .int .u32 0, .int .i64 0, .bool false] 42)) #[.bool false] 4
      simpa using this
  have a5 : ItemsAt W5 a (M D) := (hr.belowF b5).at
  have hoff : ∀ b' o, a = some ⟨b', o, none⟩ → M D ≠ [] → b' ≠ w2.heap.size + 1 ∧ b' ≠ w2.heap.size + 2 := fun b' o e1 h0 => by
    rcases hr with q | ⟨b3, o3, e3, _, hb3, _⟩
    · exact absurd q h0
    · rw [e1] at e3
      simp only [Option.some.injEq, Addr.mk.injEq, and_true] at e3
      obtain ⟨rfl, rfl⟩ := e3
      exact ⟨by omega, by omega⟩
  have HON := hidn (goOn_any hI ((hS.below bW).below B5) h.lvs hD f5 n nx Hn.out Hnx.out a c a5 hoff h.short)
  have R5 : Blk W5 (w.heap.size + 2) #[.string ⟨#[]⟩, .int .u32 0, .int .i64 0, .bool false] 42 := hR.same (B5.block _ (by omega))
  simp only [leafS] at HON
  clear hI hB hE hC hR hr a5 hoff b2 b5
  go_upto_region 6 with fail
  rw [← HW5.out]
  clear HW5
  obtain ⟨x0, x1, x2, x3, x4⟩ := r5.cells5
  go_wp2_with fail
  refine HON.out.mono ?_
  rintro r w6 ⟨rfl, hno, hyes, hk⟩
  obtain ⟨y, fd, hff, hspec⟩ : ∃ y fd, FfAt w6 (w.heap.size + 1) (w2.heap.size + 1) (w2.heap.size + 2) e B fn y fd ∧ (((fromL M D (N - D)).find? q = none ∧ y = zeroI ∧ fd = false) ∨ ((fromL M D (N - D)).find? q = some y ∧ fd = true)) := by
    cases hq : (fromL M D (N - D)).find? q with
    | none => exact ⟨zeroI, false, hno hq, .inl ⟨rfl, rfl, rfl⟩⟩
    | some y => exact ⟨y, true, hyes y hq, .inr ⟨rfl, rfl⟩⟩
  have HSP := hidn hspec
  have R6 : Blk w6 (w.heap.size + 2) #[.string ⟨#[]⟩, .int .u32 0, .int .i64 0, .bool false] 42 := R5.same (hk.block _ (by omega) (by rintro (q | q) <;> omega))
  have B6 : Below w.heap.size w w6 := ⟨hk.os.trans BB5.os, hk.tape.trans BB5.tape, hk.output.trans BB5.output, Nat.le_trans BB5.size hk.size, fun k hk' => (hk.block k (by omega) (by rintro (q | q) <;> omega)).trans (BB5.block k hk')⟩
  clear hspec hno hyes HON x0 x1 x2 x3 x4 r5 f5
  have g0 : w6.cell? ⟨w2.heap.size + 1, 0, none⟩ = some (.string y.e.key) := hff.first.cell 0
  have g1 : w6.cell? ⟨w2.heap.size + 1, 1, none⟩ = some (.int .u32 y.e.page) := hff.first.cell 1
  have g2 : w6.cell? ⟨w2.heap.size + 1, 2, none⟩ = some (.int .i64 y.e.slot) := hff.first.cell 2
  have g3 : w6.cell? ⟨w2.heap.size + 1, 3, none⟩ = some (.bool y.live) := hff.first.cell 3
  have g4 : w6.cell? ⟨w2.heap.size + 2, 0, none⟩ = some (.bool fd) := hff.found.cell 0
  have p0 := R6.frozen 0
  have p1 := R6.frozen 1
  have p2 := R6.frozen 2
  have p3 := R6.frozen 3
  have o0 : w6.cell? ⟨w.heap.size + 2, 0, none⟩ = some (.string ⟨#[]⟩) := R6.cell 0
  have o1 : w6.cell? ⟨w.heap.size + 2, 1, none⟩ = some (.int .u32 0) := R6.cell 1
  have o2 : w6.cell? ⟨w.heap.size + 2, 2, none⟩ = some (.int .i64 0) := R6.cell 2
  have o3 : w6.cell? ⟨w.heap.size + 2, 3, none⟩ = some (.bool false) := R6.cell 3
  have R7 := (((R6.set 0 (.string y.e.key)).set 1 (.int .u32 y.e.page)).set 2 (.int .i64 y.e.slot)).set 3 (.bool y.live)
  obtain ⟨V, HV⟩ : ∃ V, Hid (V = (((w6.setCell ⟨w.heap.size + 2, 0, none⟩ (.string y.e.key)).setCell ⟨w.heap.size + 2, 1, none⟩ (.int .u32 y.e.page)).setCell ⟨w.heap.size + 2, 2, none⟩ (.int .i64 y.e.slot)).setCell ⟨w.heap.size + 2, 3, none⟩ (.bool y.live)) := ⟨_, rfl⟩
  have BV : Below w.heap.size w V := by
    rw [HV.out]
    exact (((B6.setCell (p := ⟨w.heap.size + 2, 0, none⟩) (by show w.heap.size ≤ w.heap.size + 2; omega) _).setCell (p := ⟨w.heap.size + 2, 1, none⟩) (by show w.heap.size ≤ w.heap.size + 2; omega) _).setCell (p := ⟨w.heap.size + 2, 2, none⟩) (by show w.heap.size ≤ w.heap.size + 2; omega) _).setCell (p := ⟨w.heap.size + 2, 3, none⟩) (by show w.heap.size ≤ w.heap.size + 2; omega) _
  rw [← HV.out] at R7
  have s0 : V.cell? ⟨w.heap.size + 2, 0, none⟩ = some (.string y.e.key) := R7.cell 0
  have s1 : V.cell? ⟨w.heap.size + 2, 1, none⟩ = some (.int .u32 y.e.page) := R7.cell 1
  have s2 : V.cell? ⟨w.heap.size + 2, 2, none⟩ = some (.int .i64 y.e.slot) := R7.cell 2
  have s3 : V.cell? ⟨w.heap.size + 2, 3, none⟩ = some (.bool y.live) := R7.cell 3
  clear hff hk R5 R6 R7
  go_upto_region 7 with fail
  go_region
  all_goals
    rw [← HV.out]
    clear g0 g1 g2 g3 g4 o0 o1 o2 o3 p0 p1 p2 p3
    go_wp2
    refine bodyPost_ret (v := .tuple #[.agg #[.string y.e.key, .int .u32 y.e.page, .int .i64 y.e.slot, .bool y.live], .bool fd, .int .i64 0]) (by simp [results, Tryz.results30, go_sem, s0, s1, s2, s3]) rfl ?_
    exact ⟨⟨D, y, fd, HDI.out, rfl, HSP.out⟩, BV.drew⟩

set_option maxHeartbeats 1600000 in
theorem seek_any (h : TreeAt P root N C M) (hS : Sys w p A P l d) (e : EntV) :
    Calls Tryz.prog 12 #[.pointer (some ⟨p, 0, none⟩), .int .u32 root, e.val] w (FirstOut w C e (fun x => !ltE x.e e) M N) := by
  obtain ⟨W, HW⟩ : ∃ W, Hid (W = (w.alloc (.cells #[.string e.key, .int .u32 e.page, .int .i64 e.slot] 28)).alloc (.cells #[.string ⟨#[]⟩, .int .u32 0, .int .i64 0, .bool false] 42)) := ⟨_, rfl⟩
  have bW : Below w.heap.size w W := by rw [HW.out]; exact ((Below.refl _ _).alloc (Nat.le_refl _) _).alloc (by simp) _
  have zW : W.heap.size = w.heap.size + 2 := by rw [HW.out]; simp
  have hE : EBox W w.heap.size e := by rw [HW.out]; exact (EBox.new _ _).below ((Below.refl _ _).alloc (Nat.le_refl _) _) (by simp)
  have hR : Blk W (w.heap.size + 1) #[.string ⟨#[]⟩, .int .u32 0, .int .i64 0, .bool false] 42 := by
    rw [HW.out]
    have := Blk.made (w.alloc (.cells #[.string e.key, .int .u32 e.page, .int .i64 e.slot] 28)) #[.string ⟨#[]⟩, .int .u32 0, .int .i64 0, .bool false] 42
    simpa using this
  have HFF := hidn (firstFrom_any h (hS.below bW) e (idxSeek e) hE)
  simp only [EntV.val] at HFF ⊢
  go_enter Tryz.func12, Tryz.ntmps12
  go_wp2_with fail
  rw [← HW.out]
  clear HW
  refine HFF.out.mono ?_
  rintro r w6 ⟨⟨D, y, fd, hD, rfl, hsp⟩, b6⟩
  have HD := hidn hD
  have HSP := hidn hsp
  have R6 : Blk w6 (w.heap.size + 1) #[.string ⟨#[]⟩, .int .u32 0, .int .i64 0, .bool false] 42 := hR.same (b6.block _ (by omega))
  have B6 := below_chain bW b6
  clear hD hsp HFF hE hR
  have p0 := R6.frozen 0
  have p1 := R6.frozen 1
  have p2 := R6.frozen 2
  have p3 := R6.frozen 3
  have o0 : w6.cell? ⟨w.heap.size + 1, 0, none⟩ = some (.string ⟨#[]⟩) := R6.cell 0
  have o1 : w6.cell? ⟨w.heap.size + 1, 1, none⟩ = some (.int .u32 0) := R6.cell 1
  have o2 : w6.cell? ⟨w.heap.size + 1, 2, none⟩ = some (.int .i64 0) := R6.cell 2
  have o3 : w6.cell? ⟨w.heap.size + 1, 3, none⟩ = some (.bool false) := R6.cell 3
  have R7 := (((R6.set 0 (.string y.e.key)).set 1 (.int .u32 y.e.page)).set 2 (.int .i64 y.e.slot)).set 3 (.bool y.live)
  obtain ⟨V, HV⟩ : ∃ V, Hid (V = (((w6.setCell ⟨w.heap.size + 1, 0, none⟩ (.string y.e.key)).setCell ⟨w.heap.size + 1, 1, none⟩ (.int .u32 y.e.page)).setCell ⟨w.heap.size + 1, 2, none⟩ (.int .i64 y.e.slot)).setCell ⟨w.heap.size + 1, 3, none⟩ (.bool y.live)) := ⟨_, rfl⟩
  have BV : Below w.heap.size w V := by
    rw [HV.out]
    exact (((B6.setCell (p := ⟨w.heap.size + 1, 0, none⟩) (by show w.heap.size ≤ w.heap.size + 1; omega) _).setCell (p := ⟨w.heap.size + 1, 1, none⟩) (by show w.heap.size ≤ w.heap.size + 1; omega) _).setCell (p := ⟨w.heap.size + 1, 2, none⟩) (by show w.heap.size ≤ w.heap.size + 1; omega) _).setCell (p := ⟨w.heap.size + 1, 3, none⟩) (by show w.heap.size ≤ w.heap.size + 1; omega) _
  rw [← HV.out] at R7
  have s0 : V.cell? ⟨w.heap.size + 1, 0, none⟩ = some (.string y.e.key) := R7.cell 0
  have s1 : V.cell? ⟨w.heap.size + 1, 1, none⟩ = some (.int .u32 y.e.page) := R7.cell 1
  have s2 : V.cell? ⟨w.heap.size + 1, 2, none⟩ = some (.int .i64 y.e.slot) := R7.cell 2
  have s3 : V.cell? ⟨w.heap.size + 1, 3, none⟩ = some (.bool y.live) := R7.cell 3
  clear R6 R7
  simp only [ItemV.val]
  go_wp2
  rw [← HV.out]
  refine bodyPost_ret (v := .tuple #[.agg #[.string y.e.key, .int .u32 y.e.page, .int .i64 y.e.slot, .bool y.live], .bool fd, .int .i64 0]) (by simp [results, Tryz.results12, go_sem, s0, s1, s2, s3]) rfl ?_
  exact ⟨⟨D, y, fd, HD.out, rfl, HSP.out⟩, BV⟩

set_option maxHeartbeats 1600000 in
theorem tbehind_any (h : TreeAt P root N C M) (hS : Sys w p A P l d) (e : EntV) :
    Calls Tryz.prog 13 #[.pointer (some ⟨p, 0, none⟩), .int .u32 root, e.val] w (FirstOut w C e (fun x => ltE e x.e) M N) := by
  obtain ⟨W, HW⟩ : ∃ W, Hid (W = (w.alloc (.cells #[.string e.key, .int .u32 e.page, .int .i64 e.slot] 28)).alloc (.cells #[.string ⟨#[]⟩, .int .u32 0, .int .i64 0, .bool false] 42)) := ⟨_, rfl⟩
  have bW : Below w.heap.size w W := by rw [HW.out]; exact ((Below.refl _ _).alloc (Nat.le_refl _) _).alloc (by simp) _
  have zW : W.heap.size = w.heap.size + 2 := by rw [HW.out]; simp
  have hE : EBox W w.heap.size e := by rw [HW.out]; exact (EBox.new _ _).below ((Below.refl _ _).alloc (Nat.le_refl _) _) (by simp)
  have hR : Blk W (w.heap.size + 1) #[.string ⟨#[]⟩, .int .u32 0, .int .i64 0, .bool false] 42 := by
    rw [HW.out]
    have := Blk.made (w.alloc (.cells #[.string e.key, .int .u32 e.page, .int .i64 e.slot] 28)) #[.string ⟨#[]⟩, .int .u32 0, .int .i64 0, .bool false] 42
    simpa using this
  have HFF := hidn (firstFrom_any h (hS.below bW) e (idxBehind e) hE)
  simp only [EntV.val] at HFF ⊢
  go_enter Tryz.func13, Tryz.ntmps13
  go_wp2_with fail
  rw [← HW.out]
  clear HW
  refine HFF.out.mono ?_
  rintro r w6 ⟨⟨D, y, fd, hD, rfl, hsp⟩, b6⟩
  have HD := hidn hD
  have HSP := hidn hsp
  have R6 : Blk w6 (w.heap.size + 1) #[.string ⟨#[]⟩, .int .u32 0, .int .i64 0, .bool false] 42 := hR.same (b6.block _ (by omega))
  have B6 := below_chain bW b6
  clear hD hsp HFF hE hR
  have p0 := R6.frozen 0
  have p1 := R6.frozen 1
  have p2 := R6.frozen 2
  have p3 := R6.frozen 3
  have o0 : w6.cell? ⟨w.heap.size + 1, 0, none⟩ = some (.string ⟨#[]⟩) := R6.cell 0
  have o1 : w6.cell? ⟨w.heap.size + 1, 1, none⟩ = some (.int .u32 0) := R6.cell 1
  have o2 : w6.cell? ⟨w.heap.size + 1, 2, none⟩ = some (.int .i64 0) := R6.cell 2
  have o3 : w6.cell? ⟨w.heap.size + 1, 3, none⟩ = some (.bool false) := R6.cell 3
  have R7 := (((R6.set 0 (.string y.e.key)).set 1 (.int .u32 y.e.page)).set 2 (.int .i64 y.e.slot)).set 3 (.bool y.live)
  obtain ⟨V, HV⟩ : ∃ V, Hid (V = (((w6.setCell ⟨w.heap.size + 1, 0, none⟩ (.string y.e.key)).setCell ⟨w.heap.size + 1, 1, none⟩ (.int .u32 y.e.page)).setCell ⟨w.heap.size + 1, 2, none⟩ (.int .i64 y.e.slot)).setCell ⟨w.heap.size + 1, 3, none⟩ (.bool y.live)) := ⟨_, rfl⟩
  have BV : Below w.heap.size w V := by
    rw [HV.out]
    exact (((B6.setCell (p := ⟨w.heap.size + 1, 0, none⟩) (by show w.heap.size ≤ w.heap.size + 1; omega) _).setCell (p := ⟨w.heap.size + 1, 1, none⟩) (by show w.heap.size ≤ w.heap.size + 1; omega) _).setCell (p := ⟨w.heap.size + 1, 2, none⟩) (by show w.heap.size ≤ w.heap.size + 1; omega) _).setCell (p := ⟨w.heap.size + 1, 3, none⟩) (by show w.heap.size ≤ w.heap.size + 1; omega) _
  rw [← HV.out] at R7
  have s0 : V.cell? ⟨w.heap.size + 1, 0, none⟩ = some (.string y.e.key) := R7.cell 0
  have s1 : V.cell? ⟨w.heap.size + 1, 1, none⟩ = some (.int .u32 y.e.page) := R7.cell 1
  have s2 : V.cell? ⟨w.heap.size + 1, 2, none⟩ = some (.int .i64 y.e.slot) := R7.cell 2
  have s3 : V.cell? ⟨w.heap.size + 1, 3, none⟩ = some (.bool y.live) := R7.cell 3
  clear R6 R7
  simp only [ItemV.val]
  go_wp2
  rw [← HV.out]
  refine bodyPost_ret (v := .tuple #[.agg #[.string y.e.key, .int .u32 y.e.page, .int .i64 y.e.slot, .bool y.live], .bool fd, .int .i64 0]) (by simp [results, Tryz.results13, go_sem, s0, s1, s2, s3]) rfl ?_
  exact ⟨⟨D, y, fd, HD.out, rfl, HSP.out⟩, BV⟩

end

end Go.Proofs.YtpllidadpcahbaaGreat

namespace Go.Proofs.YtpllidadpcahbaaGreat
open Go.RowKit Go.Sort
set_option linter.unusedVariables false
set_option linter.unusedSimpArgs false

section
variable {L : List EntV} {k N odd : Nat} {sp : Bool} {w : World} {p : Nat} {A : Nat → Prop} {P : PG} {l : LG} {d : DG}

theorem rootP_N : leafB (rootP L k N odd sp) = false := by
  unfold leafB leafH rootP innerN
  simp

theorem rootP_B (h : SortedE L) (hN : N ≤ 24) : innerB (rootP L k N odd sp) = true := innerN_B (kids_may h hN) _ _ _
theorem rootP_L (h : SortedE L) (hN : N ≤ 24) : innerL (rootP L k N odd sp) = kids L k N odd sp := innerN_L (kids_may h hN) _ _ _
theorem rootP_lv : levelF (rootP L k N odd sp) = if sp = true ∧ odd = 4 then 2 else 1 := innerN_level (by split <;> omega) _ _ _

/-- What Check tells of it. -/
structure Ck13 (w : World) (L : List EntV) (k N odd : Nat) (sp : Bool) (r : Ending) (w' : World) : Prop where
  yes : sp = false → ∃ v, r = .returned (.tuple #[v, .int .i64 0]) ∧ w'.ownsRow w.heap.size 24 1 v (N + 1) ((3 :: (kids L k N odd sp).map ChildV.page).map fun n : Nat => Value.int .u32 (n : Int))
  no : sp = true → r = .returned (.tuple #[.slice none 0 0, .int .i64 120])
  bel : Below w.heap.size w w'

theorem check13 (hL : SortedE L) (hk1 : 1 ≤ k) (hk8 : k ≤ 8) (hc : IsCnt L.length k N) (ho : odd ≤ 7) (hs : sp = spB L k N odd) (hS : Sys w p A P l d) (h3 : P.F 3 = some ⟨rootP L k N odd sp, 1⟩) (h4 : ∀ i, i < N → P.F (4 + i) = some ⟨leafP L k N odd sp i, 1⟩) :
    Calls Tryz.prog 10 #[.pointer (some ⟨p, 0, none⟩), .int .u32 3] w (Ck13 w L k N odd sp) := by
  have hN := hc.le hk1 hL.len
  have hN0 := hc.pos
  have eL := rootP_L (k := k) (odd := odd) (sp := sp) hL hN
  have hP : ∀ x ∈ innerL (rootP L k N odd sp), (1 ≤ x.page ∧ x.page ≤ 2048) ∧ ∃ f' : FrV, P.F x.page = some f' ∧ f'.sh = pageP L k N odd sp x.page ∧ f'.sh.Fits ∧ leafB f'.sh = true := by
    rw [eL]
    intro x hx
    obtain ⟨i, hi⟩ := List.mem_iff_getElem?.1 hx
    obtain ⟨hiN, rfl⟩ := kids_get hi
    obtain ⟨j, hj, e⟩ : ∃ j, j < N ∧ kidP odd sp i = 4 + j := by
      unfold kidP
      split
      · exact ⟨0, by omega, rfl⟩
      · exact ⟨i, hiN, rfl⟩
    show (1 ≤ kidP odd sp i ∧ kidP odd sp i ≤ 2048) ∧ _
    rw [e]
    refine ⟨by omega, ⟨leafP L k N odd sp j, 1⟩, h4 j hj, ?_, leafP_fits hL hk8 (by omega), leafN_B (live_may hL j) _ _ _⟩
    unfold pageP
    rw [Nat.add_sub_cancel_left]
  have hz : (∀ x, (froms (innerL (rootP L k N odd sp)))[0]? = some x → x = zeroE) ∨ (∃ x, (froms (innerL (rootP L k N odd sp)))[0]? = some x ∧ x.key.toList ≠ []) := by
    rw [eL, froms_kids, List.getElem?_map, List.getElem?_range hN0]
    by_cases h6 : sp = true ∧ odd = 6
    · refine .inr ⟨kidE L k odd sp 0, rfl, ?_⟩
      unfold kidE
      rw [if_pos ⟨h6.1, h6.2, rfl⟩, ByteArray.toList_eq]
      simp
    · refine .inl fun x hx => ?_
      have : kidE L k odd sp 0 = x := by simpa using hx
      rw [← this]
      unfold kidE
      rw [if_neg (fun q => h6 ⟨q.1, q.2.1⟩), if_neg (by omega), if_neg (by omega)]
  have h0 : innerL (rootP L k N odd sp) ≠ [] := by rw [eL]; intro q; have := kids_length (L := L) (k := k) (N := N) (odd := odd) (sp := sp); rw [q] at this; simp at this; omega
  have hl : 1 + (innerL (rootP L k N odd sp)).length ≤ 64 := by rw [eL, kids_length]; omega
  have hfit := rootP_fits (k := k) (odd := odd) (sp := sp) hL hN
  by_cases h44 : sp = true ∧ odd = 4
  · refine (check_two (pageP L k N odd sp) hS 3 (by omega) (by omega) h3 hfit rootP_N (rootP_B hL hN) h0 (by show levelF (rootP L k N odd sp) = 2; rw [rootP_lv, if_pos h44]) hl hP hz).mono ?_
    rintro r w' ⟨rfl, b⟩
    exact ⟨fun q => (by rw [h44.1] at q; cases q), fun _ => rfl, b⟩
  · refine (check_root (pageP L k N odd sp) hS 3 (by omega) (by omega) h3 hfit rootP_N (rootP_B hL hN) h0 (by show levelF (rootP L k N odd sp) = 1; rw [rootP_lv, if_neg h44]) hl hP hz).mono ?_
    rintro r w' ⟨hy, hn, b⟩
    simp only [eL] at hy hn
    refine ⟨fun q => ?_, fun q => hn (tree_bad hL hk1 hc ho hs q (fun r => h44 ⟨q, r⟩)), b⟩
    obtain ⟨v, e1, e2⟩ := hy (tree_good hL hk1 hc hs q)
    rw [kids_length] at e2
    exact ⟨v, e1, e2⟩

/-- The tree as Seek takes it. -/
theorem tree13 (hL : SortedE L) (hk1 : 1 ≤ k) (hk8 : k ≤ 8) (hc : IsCnt L.length k N) (hs : sp = spB L k N odd) (h0 : sp = false) (h3 : P.F 3 = some ⟨rootP L k N odd sp, 1⟩) (h4 : ∀ i, i < N → P.F (4 + i) = some ⟨leafP L k N odd sp i, 1⟩) :
    TreeAt P 3 N (kids L k N odd sp) (fun i => live (lvs L k N odd i)) := by
  have hN := hc.le hk1 hL.len
  refine ⟨⟨_, h3, rootP_fits hL hN, rootP_N, rootP_B hL hN, rootP_L hL hN⟩, by omega, by omega, hc.pos, kids_length, fun i hi => ?_, ⟨fun i hi => ⟨_, h4 i hi, leafP_fits hL hk8 (by omega), leafN_B (live_may hL i) _ _ _, leafN_L (live_may hL i) _ _ _, ?_⟩, hN⟩, fun i => ?_⟩
  · rw [kids_length] at hi
    have := kids_at (L := L) (k := k) (N := N) (odd := odd) (sp := sp) hi
    rw [List.getElem?_eq_getElem (by rw [kids_length]; exact hi)] at this
    rw [Option.some.inj this]
    show kidP odd sp i = 4 + i
    unfold kidP
    rw [if_neg (by rw [h0]; simp)]
  · show nextF (leafN (4 + i) 1 (nextN N odd sp i) (live (lvs L k N odd i))) = _
    rw [leafN_next (nextN_lt hN i)]
    unfold nextN
    rw [if_neg (by rw [h0]; simp)]
  · have := lvs_length (L := L) (k := k) (N := N) (odd := odd) i
    unfold live
    rw [List.length_map]
    omega

end

end Go.Proofs.YtpllidadpcahbaaGreat
