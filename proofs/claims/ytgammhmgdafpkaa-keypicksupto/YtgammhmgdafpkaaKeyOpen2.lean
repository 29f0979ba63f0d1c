/-
  Arguments of type []int and [2]api.Entry, opened.
-/
import Derived.Test.YtgammhmgdafpkaaRows
import Derived.Test.YtgammhmgdafpkaaKeyPicksW
import Derived.Test.YtgammhmgdafpkaaKeySmall
import Derived.ChangeSame
namespace Go.Proofs.Ytgammhmgdafpkaa
open Go.ChangeShapes Go.WideShapes Go.ChangeAt Go.RowKit Go.Deep
set_option linter.unusedVariables false

theorem klist1 {α : Type} {cs : List α} (h : cs.length = 1) : ∃ c0, cs = [c0] := by
  match cs, h with
  | [c0], _ => exact ⟨c0, rfl⟩

set_option maxHeartbeats 800000 in
theorem open_kints {H : Type} {enc : TypeId × Value → H} {w : World} {base : Nat} {spare : Nat → Bool} {held : Bool} {a : Option Addr} {len cap : Nat} {d : DataW H} {pl : List MemPlace}
    (h : DataW.Trod enc Try.prog w base spare held 37 (.slice a len cap) d pl) :
    ∃ C : List Int, C.length = len ∧ KInts w a C ∧ len ≤ Rows.uptoBulk d := by
  obtain ⟨fuel, hf⟩ := h
  rcases open_slice Try.underlying37 hf with ⟨hcs, hx⟩ | ⟨a', len', cap', m, n, D, Pl, hcs, _, hl, hm, hmm, hx, hel⟩
  · simp [Value.cells] at hcs
    obtain ⟨rfl, rfl, rfl⟩ := hcs
    exact ⟨[], rfl, .inl rfl, Nat.zero_le _⟩
  · simp [Value.cells] at hcs
    obtain ⟨rfl, rfl, rfl⟩ := hcs
    have hlm : len ≤ m := by rw [hmm]; split <;> omega
    rw [kcellsI] at hel
    simp only [Prod.mk.injEq] at hx
    have hbulk : ∀ l : List (DataW H), l.length ≤ Rows.uptoBulkAll l := by
      intro l
      induction l with
      | nil => exact Nat.zero_le _
      | cons x l ih =>
        simp only [Rows.uptoBulkAll, List.length_cons]
        have : 1 ≤ Rows.uptoBulk x := by
          cases x with
          | lit y => cases y <;> simp only [Rows.uptoBulk] <;> omega
          | _ => simp only [Rows.uptoBulk] <;> omega
        omega
    have hb : len ≤ Rows.uptoBulk d := by
      rw [hx.1]
      simp only [Rows.uptoBulk]
      have := hbulk ((List.range len).map D)
      simp at this
      omega
    by_cases h0 : len = 0
    · subst h0
      exact ⟨[], rfl, .inl rfl, Nat.zero_le _⟩
    · obtain ⟨cs0, q0, _⟩ := hel 0 (by omega)
      obtain ⟨_, hlen0, hc0⟩ := World.cells?_some q0
      have hc00 := hc0 0 (by omega)
      obtain ⟨v0, rfl⟩ := klist1 hlen0
      have hsp : a'.spot = none := by
        have := World.cell?_spot (show w.cell? a' = some v0 by simpa [Addr.add] using hc00)
        exact this
      obtain ⟨b, o, sp⟩ := a'
      simp only at hsp
      subst hsp
      obtain ⟨A, hA⟩ := @choose_lt Int ⟨0⟩ len (fun i v => b < w.heap.size ∧ w.cell? ⟨b, o + i, none⟩ = some (.int .i64 v)) (fun i hi => by
        obtain ⟨cs, q1, q2⟩ := hel i (by omega)
        obtain ⟨_, hlen1, hc1⟩ := World.cells?_some q1
        obtain ⟨u0, rfl⟩ := klist1 hlen1
        obtain ⟨z, e0, _, _⟩ := DataW.trod_int Try.underlying3 q2
        simp at e0
        subst e0
        have k0 := hc1 0 (by omega)
        simp only [kadd_off, List.getElem?_cons_zero, Nat.mul_one, Nat.add_zero] at k0
        exact ⟨z, World.block_lt_of_cell? _ _ k0, k0⟩)
      refine ⟨(List.range len).map A, by simp, .inr ⟨b, o, rfl, (hA 0 (by omega)).1, fun i hi => ?_⟩, hb⟩
      have := (hA i (by simpa using hi)).2
      simpa using this

theorem kcellsE : Try.prog.cellsOf 43 = 3 := by kernel_rfl
theorem kcellsE2 : Try.prog.cellsOf 44 = 6 := by kernel_rfl
theorem kcellsR : Try.prog.cellsOf 41 = 2 := by kernel_rfl
theorem kcellsP : Try.prog.cellsOf 39 = 1 := by kernel_rfl

theorem kbounds_u32 {n : Int} (h : Lit.wf (.int .u32 n) = true) : 0 ≤ n ∧ n ≤ 4294967295 := by
  have e1 : IntKind.u32.min = 0 := by decide
  have e2 : IntKind.u32.max = 4294967295 := by decide
  simpa [Lit.wf, e1, e2] using h

set_option maxHeartbeats 800000 in
theorem kopen_entry {H : Type} {enc : TypeId × Value → H} {w : World} {base : Nat} {spare : Nat → Bool} {held : Bool} {fuel : Nat} {v0 v1 v2 : Value} {x : DataW H × List MemPlace}
    (h : DataW.trod enc Try.prog w base spare held fuel 43 [v0, v1, v2] = some x) : ∃ (k : ByteArray) (p : Nat) (s : Int), v0 = .string k ∧ v1 = .int .u32 p ∧ v2 = .int .i64 s := by
  obtain ⟨y0, y1, n, _, _, g0, g1⟩ := trod_struct2 Try.underlying43 h
  simp only [kcellsS, kcellsR] at g0 g1
  obtain ⟨a0, e0, rfl, _⟩ := DataW.trod_string Try.underlying9 g0
  obtain ⟨z0, z1, m, _, _, r0, r1⟩ := trod_struct2 Try.underlying41 g1
  simp only [kcellsP, kcellsI] at r0 r1
  obtain ⟨a1, e1, rfl, w1⟩ := DataW.trod_int Try.underlying39 r0
  obtain ⟨a2, e2, rfl, _⟩ := DataW.trod_int Try.underlying3 r1
  simp at e0 e1 e2
  obtain ⟨p, rfl⟩ := Int.eq_ofNat_of_zero_le (kbounds_u32 w1).1
  exact ⟨a0, p, a2, e0, e1, e2⟩

set_option maxHeartbeats 800000 in
theorem open_entries {H : Type} {enc : TypeId × Value → H} {w : World} {base b0 : Nat} {r : Reach} {spare : Nat → Bool} {held : Bool} {v : Value} {d : DataW H} {p : List MemPlace}
    (hv : Value.okWide Try.prog w r b0 44 v) (h : DataW.Trod enc Try.prog w base spare held 44 v d p) :
    ∃ x y : EntV, v = .agg #[.string x.1, .int .u32 x.2.1, .int .i64 x.2.2, .string y.1, .int .u32 y.2.1, .int .i64 y.2.2] := by
  simp only [Value.okWide, Try.underlying44] at hv
  obtain ⟨cs, rfl, hsz, _⟩ := hv
  rw [kcellsE2] at hsz
  obtain ⟨l⟩ := cs
  obtain ⟨v0, v1, v2, v3, v4, v5, rfl⟩ : ∃ v0 v1 v2 v3 v4 v5, l = [v0, v1, v2, v3, v4, v5] := by
    match l, hsz with
    | [v0, v1, v2, v3, v4, v5], _ => exact ⟨_, _, _, _, _, _, rfl⟩
  obtain ⟨fuel, hf⟩ := h
  obtain ⟨xs, m, _, _, _, hl, hx⟩ := DataW.trod_array Try.underlying44 hf
  have g0 := hx 0 (by omega)
  have g1 := hx 1 (by omega)
  simp only [kcellsE, Value.cells] at g0 g1
  obtain ⟨y0, k0⟩ : ∃ y, xs[0]? = some y := ⟨_, List.getElem?_eq_getElem (by omega)⟩
  obtain ⟨y1, k1⟩ : ∃ y, xs[1]? = some y := ⟨_, List.getElem?_eq_getElem (by omega)⟩
  rw [k0] at g0
  rw [k1] at g1
  simp only [Nat.zero_mul, Nat.one_mul, List.drop_zero, List.drop_succ_cons, List.take_succ_cons, List.take_zero] at g0 g1
  obtain ⟨xk, xp, xs', rfl, rfl, rfl⟩ := kopen_entry g0
  obtain ⟨yk, yp, ys, rfl, rfl, rfl⟩ := kopen_entry g1
  exact ⟨(xk, xp, xs'), (yk, yp, ys), rfl⟩

end Go.Proofs.Ytgammhmgdafpkaa
