/-
  SpacePlays: the map and the array of booleans in memory.
-/
import Derived.Test.YtkknglcckjhngaaSpaceSaysC
import Derived.Test.YtkknglcckjhngaaSBMemC
import Derived.Test.YtkknglcckjhngaaNoneWalkC
import Derived.Test.YtkknglcckjhngaaRowBigC
namespace Go.Proofs.Ytkknglcckjhngaa
open Go.RowKit Go.Sort Go.Joins
set_option linter.unusedVariables false

theorem i64_and4095 (n : Int) : bits .and .i64 n 4095 = n % 4096 := by
  have h63 : (BitVec.ofInt 64 4095).toNat = 2 ^ 12 - 1 := by decide
  have key : (BitVec.ofInt 64 n &&& BitVec.ofInt 64 4095).toNat = (n % ((2 ^ 64 : Nat) : Int)).toNat % 2 ^ 12 := by
    rw [BitVec.toNat_and, BitVec.toNat_ofInt, h63, Nat.and_two_pow_sub_one_eq_mod]
  show IntKind.i64.wrap ((BitVec.ofInt 64 n &&& BitVec.ofInt 64 4095).toNat : Nat) = n % 4096
  rw [key, IntKind.wrap_i64]
  omega

/-- 2050 booleans, all false. -/
def zeroB : Array Value := (List.replicate 2050 (.bool false)).toArray

theorem zeroB_built : Try.prog.built 37 [] = some zeroB := by kernel_rfl
theorem zeroB_info : (Try.prog.info? 37).map (fun i => (i.zero, i.size)) = some (some (.agg zeroB), 2050) := by kernel_rfl
theorem zeroB_size : zeroB.size = 2050 := by unfold zeroB; rw [List.size_toArray, List.length_replicate]
theorem zeroB_one : zeroB.all (·.oneCell') = true := by
  unfold zeroB
  rw [List.all_toArray, List.all_eq_true]
  intro x hx
  rw [List.eq_of_mem_replicate hx]
  rfl
theorem zeroB_at (n : Nat) (h : n ≤ 2049) : zeroB[n]? = some (.bool false) := by
  unfold zeroB
  rw [List.getElem?_toArray, List.getElem?_replicate, if_pos (by omega)]

/-- A value whose own block is Hb. -/
def hv (Hb : Nat) : Value := .slice (some ⟨Hb, 0, none⟩) 0 0

/-- The map at M, the booleans at Hb. -/
structure PLAt (w wr : World) (M Hb : Nat) (s : ByteArray) (l : Nat) (a : Option Addr) (c : Nat) (f : Nat → Bool) : Prop where
  bel : Below w.heap.size w wr
  M1 : w.heap.size ≤ M
  MH : M < Hb
  H2 : Hb < wr.heap.size
  cur : RowV wr M 5 (five (.int .u32 1) (.int .u64 l) (.int .i64 1) (.string ⟨#[]⟩) (.slice a 1 c))
  str : StrOff wr (hv Hb) M a s
  has : ∃ C, wr.heap[Hb]? = some (.cells C 37 (0, 0)) ∧ C.size = 2050 ∧ ∀ n, n ≤ 2049 → C[n]? = some (.bool (f n))

section
variable {w wr wx : World} {M Hb : Nat} {s : ByteArray} {l : Nat} {a : Option Addr} {c : Nat} {f : Nat → Bool}

theorem PLAt.below (h : PLAt w wr M Hb s l a c f) (k : Below wr.heap.size wr wx) : PLAt w wx M Hb s l a c f := by
  obtain ⟨C, h1, h2, h3⟩ := h.has
  have hMH := h.MH
  have hH2 := h.H2
  exact ⟨h.bel.trans (k.mono h.bel.size), h.M1, h.MH, Nat.lt_of_lt_of_le h.H2 k.size, h.cur.below k (by omega), h.str.kept k.size (fun b hb _ _ => k.block b hb) (fun _ _ x => x), C, (k.block _ h.H2).trans h1, h2, h3⟩

theorem PLAt.cell (h : PLAt w wr M Hb s l a c f) (n : Nat) (hn : n ≤ 2049) : wr.cell? ⟨Hb, n, none⟩ = some (.bool (f n)) ∧ wr.frozen? ⟨Hb, n, none⟩ = false := by
  obtain ⟨C, h1, h2, h3⟩ := h.has
  exact ⟨(cell_of_block h1 n).trans (h3 n hn), unfrozen_of_block h1 n⟩

theorem PLAt.congr (h : PLAt w wr M Hb s l a c f) {g : Nat → Bool} (e : ∀ n, n ≤ 2049 → f n = g n) : PLAt w wr M Hb s l a c g := by
  obtain ⟨C, h1, h2, h3⟩ := h.has
  exact ⟨h.bel, h.M1, h.MH, h.H2, h.cur, h.str, C, h1, h2, fun n hn => by rw [← e n hn]; exact h3 n hn⟩

/-- One boolean is stored. -/
theorem PLAt.set (h : PLAt w wr M Hb s l a c f) (m : Nat) (hm : m ≤ 2049) (b : Bool) : PLAt w (wr.setCell ⟨Hb, m, none⟩ (.bool b)) M Hb s l a c (fun n => if n = m then b else f n) := by
  obtain ⟨C, h1, h2, h3⟩ := h.has
  have hMH := h.MH
  have hM1 := h.M1
  have kb : ∀ k, k ≠ Hb → (wr.setCell ⟨Hb, m, none⟩ (.bool b)).heap[k]? = wr.heap[k]? := fun k hk => Below.heap_setCell _ _ _ _ hk
  refine ⟨h.bel.setCell (by show w.heap.size ≤ Hb; omega) _, h.M1, h.MH, by simpa using h.H2, h.cur.set_other (by omega) _, h.str.kept (by simp) (fun k _ n _ => kb k (fun e => n (by rw [e]; rfl))) (fun _ _ x => x), _, block_setCell h1 _, by simpa using h2, fun n hn => ?_⟩
  rw [Array.getElem?_setIfInBounds]
  by_cases e : n = m
  · subst e
    rw [if_pos rfl, if_pos (by omega), if_pos rfl]
  · rw [if_neg (fun q => e q.symm), if_neg e]
    exact h3 n hn

/-- Another map is stored over the one at M. -/
theorem PLAt.put (h : PLAt w wr M Hb s l a c f) {s' : ByteArray} {l' : Nat} {a' : Option Addr} {c' : Nat} (hs : StrOff wr (hv Hb) M a' s') :
    PLAt w (store5 wr M (.int .u32 1) (.int .u64 l') (.int .i64 1) (.string ⟨#[]⟩) (.slice a' 1 c')) M Hb s' l' a' c' f := by
  have kb : ∀ b, b ≠ M → (store5 wr M (.int .u32 1) (.int .u64 l') (.int .i64 1) (.string ⟨#[]⟩) (.slice a' 1 c')).heap[b]? = wr.heap[b]? := fun b hb => store5_block _ _ _ _ _ _ _ _ hb
  obtain ⟨C, h1, h2, h3⟩ := h.has
  have hMH := h.MH
  exact ⟨below_set5 h.bel h.M1 _ _ _ _ _, h.M1, h.MH, by rw [store5_size]; exact h.H2, h.cur.set5 _ _ _ _ _, hs.kept (by rw [store5_size]; exact Nat.le_refl _) (fun b _ _ n => kb b n) (fun _ _ x => x), C, (kb Hb (by omega)).trans h1, h2, h3⟩

end

/-- The first page that is free, or 2049. -/
def IsFirst (s : ByteArray) (f : Nat) : Prop := 1 ≤ f ∧ f ≤ 2049 ∧ (∀ n, 1 ≤ n → n < f → tkB s n = true) ∧ (f ≤ 2048 → tkB s f = false)

theorem freeF_first {s : ByteArray} {f : Nat} (h : IsFirst s f) (R k : Nat) (hk : k < f) : freeF s R k = if f ≤ R + k then f else 0 := by
  obtain ⟨h1, h2, h3, h4⟩ := h
  induction R generalizing k with
  | zero => rw [if_neg (by omega)]; rfl
  | succ R ih =>
    by_cases e : k + 1 = f
    · rw [if_pos (by omega)]
      have : tkB s (k + 1) = false := by
        rw [e]
        by_cases c : f ≤ 2048
        · exact h4 c
        · have : decide (1 ≤ f ∧ f ≤ 2048) = false := by simp; omega
          unfold tkB; rw [this]; rfl
      rw [freeF_no _ _ _ this, e]
    · rw [freeF_tk _ _ _ (h3 (k + 1) (by omega) (by omega)), ih (k + 1) (by omega)]
      by_cases c : f ≤ R + 1 + k
      · rw [if_pos c, if_pos (by omega)]
      · rw [if_neg c, if_neg (by omega)]

/-- What Take tells, by the first page that is free. -/
theorem take_first {l : Nat} {s : ByteArray} {f : Nat} (hs : s.size = 256) (h : IsFirst s f) (N : Int) :
    (takeE (mapV l s) N = if N < f ∨ 2048 < f then 20 else 0) ∧ (takeE (mapV l s) N = 0 → takeN (mapV l s) N = f) := by
  have hN : takeN (mapV l s) N = if f ≤ roomN N then f else 0 := by
    unfold takeN; rw [mapV_slot, freeF_first h (roomN N) 0 (by have := h.1; omega)]; rfl
  have h1 := h.1
  have hR : (f ≤ roomN N) ↔ ¬ (N < f ∨ 2048 < f) := by
    unfold roomN
    split <;> omega
  have hE : takeE (mapV l s) N = if takeN (mapV l s) N = 0 then 20 else 0 := by unfold takeE; rw [mapV_is l s hs]; rfl
  by_cases c : f ≤ roomN N
  · rw [if_pos c] at hN
    rw [hE, hN, if_neg (by omega), if_neg (hR.1 c)]
    exact ⟨rfl, fun _ => rfl⟩
  · rw [if_neg c] at hN
    rw [hE, hN, if_pos rfl, if_pos (by rw [hR] at c; exact Decidable.not_not.1 c)]
    exact ⟨rfl, fun q => by cases q⟩

end Go.Proofs.Ytkknglcckjhngaa
