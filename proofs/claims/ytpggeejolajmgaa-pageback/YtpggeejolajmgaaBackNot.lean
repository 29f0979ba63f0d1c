/-
  PageBack of a page that does not fit; PageBack of any page. An argument of type []api.Op, opened: each element is a kind, a place and two texts.
-/
import Derived.Test.YtpggeejolajmgaaBackWalk
import Derived.Test.YtpggeejolajmgaaSheets
import Derived.Deep.Slices
import Derived.Lib.SmallJoins
namespace Go.Proofs.Ytpggeejolajmgaa
open Go.RowKit Go.Sort
set_option linter.unusedVariables false

set_option maxHeartbeats 1600000 in
set_option maxRecDepth 8000 in
theorem back_not (p : SheetV) (a : Option Addr) (c : Nat) (la : Option Addr) (n lc : Nat) (w : World) (hp : p.Ok w a) (F : ¬ p.Fits) :
    Calls Try.prog 3 #[p.val a c, .slice la n lc] w fun e w' => e = .returned (.bool true) ∧ Below w.heap.size w w' := by
  have HREF : Hid (∀ wx, Calls Try.prog 9 #[p.val a c] wx fun e w' => e = .returned (p.val a c) ∧ Below wx.heap.size wx w') := fun wx => ref_any p a c wx
  have HRM : Hid (∀ wx, Below w.heap.size w wx → Calls Try.prog 8 #[p.val a c] wx fun e w' => e = .returned (.int .i64 (roomF p)) ∧ Below wx.heap.size wx w') := fun wx hb => (hp.below hb).refRoom c
  have hcases : roomF p < 0 ∨ (¬ roomF p < 0 ∧ 64 < p.slots.length) ∨ (¬ roomF p < 0 ∧ ¬ 64 < p.slots.length ∧ 32 < p.head.size) ∨ (¬ roomF p < 0 ∧ ¬ 64 < p.slots.length ∧ ¬ 32 < p.head.size ∧ p.kind < 0) ∨ (¬ roomF p < 0 ∧ ¬ 64 < p.slots.length ∧ ¬ 32 < p.head.size ∧ ¬ p.kind < 0 ∧ 255 < p.kind) := by
    by_cases c1 : roomF p < 0
    · exact .inl c1
    by_cases c2 : 64 < p.slots.length
    · exact .inr (.inl ⟨c1, c2⟩)
    by_cases c3 : 32 < p.head.size
    · exact .inr (.inr (.inl ⟨c1, c2, c3⟩))
    by_cases c4 : p.kind < 0
    · exact .inr (.inr (.inr (.inl ⟨c1, c2, c3, c4⟩)))
    by_cases c5 : 255 < p.kind
    · exact .inr (.inr (.inr (.inr ⟨c1, c2, c3, c4, c5⟩)))
    exfalso
    apply F
    have hr := roomF_eq hp (by omega)
    exact ⟨hp.num, hp.lsn, by omega, by omega, by omega, by omega, by omega⟩
  have hln := hp.len
  have hhd := hp.head
  obtain ⟨R, HR⟩ : ∃ R, Hid (roomF p = R) := ⟨_, rfl⟩
  rw [HR.out] at HRM hcases
  obtain ⟨W0, HW0⟩ : ∃ W0, Hid (W0 = w.alloc (.cells #[.int .u32 p.num, .int .u64 p.lsn, .int .i64 p.kind, .string p.head, .slice a p.slots.length c] 28)) := ⟨_, rfl⟩
  have p0 : RowV W0 w.heap.size 5 (five (.int .u32 p.num) (.int .u64 p.lsn) (.int .i64 p.kind) (.string p.head) (.slice a p.slots.length c)) := by rw [HW0.out]; exact RowV.five_new w _ _ _ _ _ _
  have bel0 : Below w.heap.size w W0 := by rw [HW0.out]; exact (Below.refl _ _).alloc (Nat.le_refl _) _
  have z0 : w.heap.size < W0.heap.size := by rw [HW0.out]; simp
  simp only [SheetV.val] at HREF HRM ⊢
  clear hp F HR
  rcases hcases with h1 | ⟨h1, h2⟩ | ⟨h1, h2, h3⟩ | ⟨h1, h2, h3, h4⟩ | ⟨h1, h2, h3, h4, h5⟩
  all_goals
    go_enter Try.func3, Try.ntmps3
    go_wp2_with fail
    rw [← HW0.out]
    refine (HREF.out _).mono ?_
    rintro e w1 ⟨rfl, b1⟩
    have p1 := p0.below b1 z0
    have bel1 := below_chain bel0 b1
    have z1 := Nat.lt_of_lt_of_le z0 b1.size
    obtain ⟨x0, x1, x2, x3, x4⟩ := p1.cells5
    go_wp2_with fail
    refine (HRM.out _ bel1).mono ?_
    rintro e w2 ⟨rfl, b2⟩
    have p2 := p1.below b2 z1
    have bel2 := below_chain bel1 b2
    clear x0 x1 x2 x3 x4
    obtain ⟨x0, x1, x2, x3, x4⟩ := p2.cells5
    go_wp2_with fail
    refine (awake_any _).mono ?_
    rintro e w3 ⟨rfl, b3⟩
    go_wp2
    go_ret
    exact ⟨rfl, below_chain bel2 b3⟩

theorem back_walk (p : SheetV) (a : Option Addr) (c : Nat) (la : Option Addr) (n lc : Nat) (O : Nat → OpV) (w : World) (hp : p.Ok w a) (hO : IsOps w la n O) :
    Calls Try.prog 3 #[p.val a c, .slice la n lc] w fun e w' => e = .returned (.bool true) ∧ Below w.heap.size w w' := by
  by_cases F : p.Fits
  · exact back_fits p a c la n lc O w hp hO F
  · exact back_not p a c la n lc w hp F

end Go.Proofs.Ytpggeejolajmgaa

namespace Go.Proofs.Ytpggeejolajmgaa
open Go.ChangeShapes Go.WideShapes Go.ChangeAt Go.RowKit Go.Deep
set_option linter.unusedVariables false

/-- No change. -/
def opNone : OpV := ⟨0, 0, ByteArray.empty, ByteArray.empty⟩

theorem cellsOp : Try.prog.cellsOf 37 = 4 := by kernel_rfl

/-- How a change reads. -/
def OpV.data {H : Type} (v : OpV) : DataW H := .agg [.lit (.int .i64 v.kind), .lit (.int .i64 v.at'), .lit (.string v.S.data.toList), .lit (.string v.old.data.toList)]

theorem add_off' (b o i : Nat) : (⟨b, o, none⟩ : Addr).add i = ⟨b, o + i, none⟩ := by
  by_cases h0 : i = 0
  · subst h0; simp [Addr.add]
  · simp [Addr.add, h0]

theorem list4' {α : Type} {cs : List α} (h : cs.length = 4) : ∃ c0 c1 c2 c3, cs = [c0, c1, c2, c3] := by
  match cs, h with
  | [c0, c1, c2, c3], _ => exact ⟨c0, c1, c2, c3, rfl⟩

/-- The cells of a change. -/
structure OpCells (w : World) (b o : Nat) (i : Nat) (v : OpV) : Prop where
  c0 : w.cell? ⟨b, o + i * 4, none⟩ = some (.int .i64 v.kind)
  c1 : w.cell? ⟨b, o + i * 4 + 1, none⟩ = some (.int .i64 v.at')
  c2 : w.cell? ⟨b, o + i * 4 + 2, none⟩ = some (.string v.S)
  c3 : w.cell? ⟨b, o + i * 4 + 3, none⟩ = some (.string v.old)
  k : -9223372036854775808 ≤ v.kind ∧ v.kind ≤ 9223372036854775807
  a : -9223372036854775808 ≤ v.at' ∧ v.at' ≤ 9223372036854775807

set_option maxHeartbeats 800000 in
theorem open_op {H : Type} {enc : TypeId × Value → H} {w : World} {base : Nat} {spare : Nat → Bool} {held : Bool} {fuel i b o : Nat} {cs : List Value} {D : DataW H} {Pl : List MemPlace}
    (h1 : w.cells? base ((⟨b, o, none⟩ : Addr).add (i * 4)) 4 = some cs) (h2 : DataW.trod enc Try.prog w base spare held fuel 37 cs = some (D, Pl)) :
    ∃ v : OpV, b < w.heap.size ∧ OpCells w b o i v ∧ D = v.data := by
  obtain ⟨_, hlen, hcell⟩ := World.cells?_some h1
  obtain ⟨y0, y1, y2, y3, n, hx, _, g0, g1, g2, g3⟩ := Joins.trod_struct4 Try.underlying37 h2
  obtain ⟨v0, v1, v2, v3, rfl⟩ := list4' hlen
  simp only [cellsInt, cellsString] at g0 g1 g2 g3
  obtain ⟨a0, e0, rfl, w0⟩ := DataW.trod_int Try.underlying3 g0
  obtain ⟨a1, e1, rfl, w1⟩ := DataW.trod_int Try.underlying3 g1
  obtain ⟨a2, e2, rfl, w2⟩ := DataW.trod_string Try.underlying9 g2
  obtain ⟨a3, e3, rfl, w3⟩ := DataW.trod_string Try.underlying9 g3
  simp at e0 e1 e2 e3
  subst e0 e1 e2 e3
  have k0 := hcell 0 (by omega)
  have k1 := hcell 1 (by omega)
  have k2 := hcell 2 (by omega)
  have k3 := hcell 3 (by omega)
  simp only [add_off', List.getElem?_cons_zero, List.getElem?_cons_succ] at k0 k1 k2 k3
  simp only [Prod.mk.injEq] at hx
  refine ⟨⟨a0, a1, a2, a3⟩, World.block_lt_of_cell? _ _ k0, ⟨k0, k1, k2, k3, bounds_i64' w0, bounds_i64' w1⟩, ?_⟩
  rw [hx.1]; rfl

theorem weights_ops {H : Type} (f : Nat → OpV) (l : List Nat) {i : Nat} (hi : i ∈ l) : (f i).S.size ∈ DataW.weightsAll (H := H) Try.prog 37 (l.map fun i => (f i).data) ∧ (f i).old.size ∈ DataW.weightsAll (H := H) Try.prog 37 (l.map fun i => (f i).data) := by
  induction l with
  | nil => cases hi
  | cons x l ih =>
    simp only [List.map_cons, DataW.weightsAll, List.mem_append]
    rcases List.mem_cons.1 hi with rfl | hi
    · constructor
      · left; simp [OpV.data, DataW.weights, Try.underlying37, DataW.weightsEach]
      · left; simp [OpV.data, DataW.weights, Try.underlying37, DataW.weightsEach]
    · exact ⟨.inr (ih hi).1, .inr (ih hi).2⟩

theorem open_ops {H : Type} {enc : TypeId × Value → H} {w : World} {base : Nat} {spare : Nat → Bool} {held : Bool} {a : Option Addr} {len cap : Nat} {d : DataW H} {pl : List MemPlace}
    (h : DataW.Trod enc Try.prog w base spare held 29 (.slice a len cap) d pl) (hw : ∀ n ∈ d.weights Try.prog 29, n ≤ reachBytes) :
    ∃ O : Nat → OpV, IsOps w a len O := by
  obtain ⟨fuel, hf⟩ := h
  rcases open_slice Try.underlying29 hf with ⟨hcs, hx⟩ | ⟨a', len', cap', m, n, D, Pl, hcs, _, hl, hm, hmm, hx, hel⟩
  · simp [Value.cells] at hcs
    obtain ⟨rfl, rfl, rfl⟩ := hcs
    exact ⟨fun _ => opNone, ⟨by unfold maxLen; omega, .inl rfl⟩⟩
  · simp [Value.cells] at hcs
    obtain ⟨rfl, rfl, rfl⟩ := hcs
    have hlm : len ≤ m := by rw [hmm]; split <;> omega
    rw [cellsOp] at hel
    simp only [Prod.mk.injEq] at hx
    by_cases h0 : len = 0
    · subst h0
      exact ⟨fun _ => opNone, ⟨by unfold maxLen; omega, .inl rfl⟩⟩
    · obtain ⟨cs0, q0, _⟩ := hel 0 (by omega)
      obtain ⟨_, hlen0, hc0⟩ := World.cells?_some q0
      have hc00 := hc0 0 (by omega)
      obtain ⟨v0, v1, v2, v3, rfl⟩ := list4' hlen0
      have hsp : a'.spot = none := by
        have := World.cell?_spot (show w.cell? a' = some v0 by simpa [Addr.add] using hc00)
        exact this
      obtain ⟨b, o, sp⟩ := a'
      simp only at hsp
      subst hsp
      obtain ⟨A, hA⟩ := @choose_lt OpV ⟨opNone⟩ len (fun i v => b < w.heap.size ∧ OpCells w b o i v ∧ D i = v.data) (fun i hi => by
        obtain ⟨cs, q1, q2⟩ := hel i (by omega)
        exact open_op q1 q2)
      have hmap : (List.range len).map D = (List.range len).map fun i => (A i).data := List.map_congr_left (fun i hi => (hA i (by simpa using hi)).2.2)
      refine ⟨A, ⟨by omega, .inr ⟨b, o, rfl, (hA 0 (by omega)).1, fun i hi => ?_⟩⟩⟩
      have q := (hA i hi).2.1
      have hs := weights_ops (H := H) A (List.range len) (i := i) (by simpa using hi)
      have e1 : (A i).S.size ≤ 140737488351232 := by
        have := hw (A i).S.size (by
          rw [hx.1, hmap]
          simp only [DataW.weights, Try.underlying29, List.mem_append, List.mem_cons]
          simp [hs.1])
        simpa [reachBytes] using this
      have e2 : (A i).old.size ≤ 140737488351232 := by
        have := hw (A i).old.size (by
          rw [hx.1, hmap]
          simp only [DataW.weights, Try.underlying29, List.mem_append, List.mem_cons]
          simp [hs.2])
        simpa [reachBytes] using this
      exact ⟨q.c0, q.c1, q.c2, q.c3, ⟨q.k, q.a, e1, e2⟩⟩

end Go.Proofs.Ytpggeejolajmgaa
