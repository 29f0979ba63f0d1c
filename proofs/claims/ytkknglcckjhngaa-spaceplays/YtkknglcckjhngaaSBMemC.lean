/-
  SpaceBack: changes behind one another, as plain data and in memory.
-/
import Derived.Test.YtkknglcckjhngaaSpaceAwakeC
import Derived.Test.YtkknglcckjhngaaBase5C
namespace Go.Proofs.Ytkknglcckjhngaa
open Go.RowKit Go.Sort
set_option linter.unusedVariables false

theorem i64_and63 (n : Int) : bits .and .i64 n 63 = n % 64 := by
  have h63 : (BitVec.ofInt 64 63).toNat = 2 ^ 6 - 1 := by decide
  have key : (BitVec.ofInt 64 n &&& BitVec.ofInt 64 63).toNat = (n % ((2 ^ 64 : Nat) : Int)).toNat % 2 ^ 6 := by
    rw [BitVec.toNat_and, BitVec.toNat_ofInt, h63, Nat.and_two_pow_sub_one_eq_mod]
  show IntKind.i64.wrap ((BitVec.ofInt 64 n &&& BitVec.ofInt 64 63).toNat : Nat) = n % 64
  rw [key, IntKind.wrap_i64]
  omega

/-- The cells of a change. -/
def ocell (s : ByteArray) (n : Nat) : List Value := [.int .i64 6, .int .i64 (atN n : Nat), .string (one (bytN s (atN n) ^^^ pwN n)), .string (one (bytN s (atN n)))]

/-- The map behind all changes; their cells. -/
def endS (s : ByteArray) (L : List Nat) : ByteArray := L.foldl flipS s
def opsC : ByteArray → List Nat → List Value
  | _, [] => []
  | s, n :: L => ocell s n ++ opsC (flipS s n) L

theorem endS_snoc (s : ByteArray) (L : List Nat) (n : Nat) : endS s (L ++ [n]) = flipS (endS s L) n := by simp [endS]

theorem opsC_append (s : ByteArray) (L M : List Nat) : opsC s (L ++ M) = opsC s L ++ opsC (endS s L) M := by
  induction L generalizing s with
  | nil => rfl
  | cons n L ih => simp only [List.cons_append, opsC, ih, List.append_assoc]; rfl

theorem opsC_snoc (s : ByteArray) (L : List Nat) (n : Nat) : opsC s (L ++ [n]) = opsC s L ++ ocell (endS s L) n := by
  rw [opsC_append]; simp [opsC]

theorem opsC_length (s : ByteArray) (L : List Nat) : (opsC s L).length = L.length * 4 := by
  induction L generalizing s with
  | nil => rfl
  | cons n L ih => simp only [opsC, List.length_append, ih, List.length_cons, ocell, List.length_nil]; omega

theorem opsC_at (s : ByteArray) (L : List Nat) (j i : Nat) (hj : j < L.length) (hi : i < 4) : (opsC s L)[j * 4 + i]? = (ocell (endS s (L.take j)) L[j])[i]? := by
  have hL : L = L.take j ++ (L[j] :: L.drop (j + 1)) := by rw [← List.drop_eq_getElem_cons hj, List.take_append_drop]
  have h1 : opsC s L = opsC s (L.take j) ++ (ocell (endS s (L.take j)) L[j] ++ opsC (flipS (endS s (L.take j)) L[j]) (L.drop (j + 1))) := by
    conv => lhs; rw [hL]
    rw [opsC_append]; rfl
  rw [h1, List.getElem?_append_right (by rw [opsC_length, List.length_take]; omega), opsC_length, List.length_take, List.getElem?_append_left (by simp [ocell]; omega)]
  congr 1
  omega

def AllPg (L : List Nat) : Prop := ∀ n ∈ L, 1 ≤ n ∧ n ≤ 2048

theorem endS_size {s : ByteArray} (hs : s.size = 256) (L : List Nat) (h : AllPg L) : (endS s L).size = 256 := by
  induction L generalizing s with
  | nil => exact hs
  | cons n L ih => exact ih (flip_size hs (h n (by simp)).2) (fun m hm => h m (by simp [hm]))

theorem endS_take {s : ByteArray} (L : List Nat) (j : Nat) (hj : j < L.length) : endS s (L.take (j + 1)) = flipS (endS s (L.take j)) L[j] := by
  rw [List.take_succ_eq_append_getElem hj, endS_snoc]

/-- A text in memory, outside of two blocks. -/
def StrOff (w : World) (v : Value) (M : Nat) (a : Option Addr) (s : ByteArray) : Prop := ∃ b o, a = some ⟨b, o, none⟩ ∧ b < w.heap.size ∧ v.ownBlock ≠ some b ∧ b ≠ M ∧ w.cell? ⟨b, o, none⟩ = some (.string s)

theorem StrOff.at {w : World} {v : Value} {M : Nat} {a : Option Addr} {s : ByteArray} (h : StrOff w v M a s) : StrsAt w a [s] := by
  obtain ⟨b, o, e, h1, _, _, hc⟩ := h
  refine .inr ⟨b, o, e, h1, fun i hi => ?_⟩
  obtain rfl : i = 0 := by simpa using hi
  exact hc

theorem StrOff.of {w : World} {v : Value} {M B : Nat} {a : Option Addr} {s : ByteArray} (h : StrsFrom B w a [s]) (hM : M < B) (hv : ∀ g, v.ownBlock = some g → g < B) : StrOff w v M a s := by
  rcases h with h | ⟨b, o, e, h1, h2, hc⟩
  · cases h
  · exact ⟨b, o, e, h2, fun q => by have := hv b q; omega, by omega, hc 0 (by simp)⟩

theorem StrOff.kept {w w' : World} {v u : Value} {M : Nat} {a : Option Addr} {s : ByteArray} (h : StrOff w v M a s) (hz : w.heap.size ≤ w'.heap.size) (k : ∀ b, b < w.heap.size → v.ownBlock ≠ some b → b ≠ M → w'.heap[b]? = w.heap[b]?)
    (e : ∀ b, b < w.heap.size → v.ownBlock ≠ some b → u.ownBlock ≠ some b) : StrOff w' u M a s := by
  obtain ⟨b, o, ea, h1, h2, h3, hc⟩ := h
  exact ⟨b, o, ea, Nat.lt_of_lt_of_le h1 hz, e b h1 h2, h3, (World.cell?_of_block (w := w) (a := ⟨b, o, none⟩) (k b h1 h2 h3)).trans hc⟩

/-- Where SpaceBack's first loop stands: the map (at M), what it was (at Wb), the changes (v). -/
structure SBAt (w wr : World) (M Wb : Nat) (s0 s : ByteArray) (l : Nat) (a0 a : Option Addr) (c0 c : Nat) (L : List Nat) (v : Value) : Prop where
  bel : Below w.heap.size w wr
  M1 : w.heap.size ≤ M
  M2 : M < wr.heap.size
  W1 : w.heap.size ≤ Wb
  W2 : Wb < wr.heap.size
  ne : M ≠ Wb
  cur : RowV wr M 5 (five (.int .u32 1) (.int .u64 l) (.int .i64 1) (.string ⟨#[]⟩) (.slice a 1 c))
  was : RowV wr Wb 5 (five (.int .u32 1) (.int .u64 1) (.int .i64 1) (.string ⟨#[]⟩) (.slice a0 1 c0))
  str : StrOff wr v M a s
  str0 : StrOff wr v M a0 s0
  own : wr.ownsRow 0 41 4 v L.length (opsC s0 L)
  off : ∀ g, v.ownBlock = some g → w.heap.size ≤ g ∧ g ≠ M ∧ g ≠ Wb

section
variable {w wr wx : World} {M Wb : Nat} {s0 s : ByteArray} {l : Nat} {a0 a : Option Addr} {c0 c : Nat} {L : List Nat} {v : Value}

theorem SBAt.below (h : SBAt w wr M Wb s0 s l a0 a c0 c L v) (k : Below wr.heap.size wr wx) : SBAt w wx M Wb s0 s l a0 a c0 c L v :=
  ⟨h.bel.trans (k.mono h.bel.size), h.M1, Nat.lt_of_lt_of_le h.M2 k.size, h.W1, Nat.lt_of_lt_of_le h.W2 k.size, h.ne, h.cur.below k h.M2, h.was.below k h.W2, h.str.kept k.size (fun b hb _ _ => k.block b hb) (fun _ _ x => x), h.str0.kept k.size (fun b hb _ _ => k.block b hb) (fun _ _ x => x), owns_same h.own fun g hg => k.block g (h.own.lt g hg).2, h.off⟩

theorem store5_block (w2 : World) (Q k : Nat) (v0 v1 v2 v3 v4 : Value) (n3 : k ≠ Q) : (store5 w2 Q v0 v1 v2 v3 v4).heap[k]? = w2.heap[k]? := by
  unfold store5
  have hk : ∀ (u : World) (i : Nat) (v : Value), (u.setCell ⟨Q, i, none⟩ v).heap[k]? = u.heap[k]? := fun u i v => Below.heap_setCell _ _ _ _ n3
  rw [hk, hk, hk, hk, hk]

/-- Another map is stored over the one at M. -/
theorem SBAt.put (h : SBAt w wr M Wb s0 s l a0 a c0 c L v) {s' : ByteArray} {l' : Nat} {a' : Option Addr} {c' : Nat} (hs : StrOff wr v M a' s') :
    SBAt w (store5 wr M (.int .u32 1) (.int .u64 l') (.int .i64 1) (.string ⟨#[]⟩) (.slice a' 1 c')) M Wb s0 s' l' a0 a' c0 c' L v := by
  have kb : ∀ b, b ≠ M → (store5 wr M (.int .u32 1) (.int .u64 l') (.int .i64 1) (.string ⟨#[]⟩) (.slice a' 1 c')).heap[b]? = wr.heap[b]? := fun b hb => store5_block _ _ _ _ _ _ _ _ hb
  refine ⟨below_set5 h.bel h.M1 _ _ _ _ _, h.M1, by rw [store5_size]; exact h.M2, h.W1, by rw [store5_size]; exact h.W2, h.ne, h.cur.set5 _ _ _ _ _, h.was.set5_other h.ne _ _ _ _ _, hs.kept (by rw [store5_size]; exact Nat.le_refl _) (fun b _ _ n => kb b n) (fun _ _ x => x), h.str0.kept (by rw [store5_size]; exact Nat.le_refl _) (fun b _ _ n => kb b n) (fun _ _ x => x), owns_same h.own fun g hg => kb g (h.off g hg).2.1, h.off⟩

/-- A change is put behind the others, and the map behind it is stored. -/
theorem SBAt.push (h : SBAt w wr M Wb s0 s l a0 a c0 c L v) (n : Nat) (he : s = endS s0 L) {wa w1 : World} {v1 : Value} {s' : ByteArray} {l' : Nat} {a' : Option Addr} {c' : Nat}
    (k1 : Below wr.heap.size wr wa) (o1 : w1.ownsRow 0 41 4 v1 (L.length + 1) (opsC s0 L ++ ocell s n)) (g1 : wa.grownBy w1 v.ownBlock) (l1 : v1.ownBlock = v.ownBlock ∨ ∃ z, v1.ownBlock = some z ∧ wr.heap.size ≤ z) (hs : StrOff wr v M a' s') :
    SBAt w (store5 w1 M (.int .u32 1) (.int .u64 l') (.int .i64 1) (.string ⟨#[]⟩) (.slice a' 1 c')) M Wb s0 s' l' a0 a' c0 c' (L ++ [n]) v1 := by
  have s1 := k1.size
  have s2 := g1.size
  have hM1 := h.M1
  have hM2 := h.M2
  have hW2 := h.W2
  have hW1 := h.W1
  have kb : ∀ k, k < wr.heap.size → v.ownBlock ≠ some k → w1.heap[k]? = wr.heap[k]? := fun k hk n1 =>
    (g1.block k (by omega) (fun e => n1 e.symm)).trans (k1.block k hk)
  have e1 : ∀ b, b < wr.heap.size → v.ownBlock ≠ some b → v1.ownBlock ≠ some b := fun b hb n e => by
    rcases l1 with e' | ⟨z, e', hz'⟩
    · exact n (e' ▸ e)
    · rw [e'] at e
      have := Option.some.inj e
      omega
  have nM : v.ownBlock ≠ some M := fun e => (h.off _ e).2.1 rfl
  have nW : v.ownBlock ≠ some Wb := fun e => (h.off _ e).2.2 rfl
  have off1 : ∀ g, v1.ownBlock = some g → w.heap.size ≤ g ∧ g ≠ M ∧ g ≠ Wb := fun g hg => by
    rcases l1 with e | ⟨z, e, hz'⟩
    · exact h.off g (e ▸ hg)
    · rw [e] at hg
      have := Option.some.inj hg
      exact ⟨by omega, by omega, by omega⟩
  have row : ∀ b (f : Nat → Value), b < wr.heap.size → v.ownBlock ≠ some b → RowV wr b 5 f → RowV w1 b 5 f := fun b f hb n1 hr j hj =>
    ⟨(World.cell?_of_block (w := wr) (a := ⟨b, j, none⟩) (kb b hb n1)).trans (hr j hj).1, (World.frozen?_of_block (w := wr) (a := ⟨b, j, none⟩) (kb b hb n1)).trans (hr j hj).2⟩
  have hB1 : Below w.heap.size w w1 := (h.bel.trans (k1.mono h.bel.size)).grown g1 (by omega) fun k e => (h.off k e).1
  have h2 : SBAt w w1 M Wb s0 s l a0 a c0 c (L ++ [n]) v1 := by
    refine ⟨hB1, h.M1, by omega, h.W1, by omega, h.ne, row _ _ hM2 nM h.cur, row _ _ hW2 nW h.was, h.str.kept (by omega) (fun b hb n1 _ => kb b hb n1) e1, h.str0.kept (by omega) (fun b hb n1 _ => kb b hb n1) e1, ?_, off1⟩
    rw [opsC_snoc, ← he, List.length_append]
    exact o1
  exact h2.put (hs.kept (by omega) (fun b hb n1 _ => kb b hb n1) e1)

end

/-- page.Apply of the inverse of a change leads back. -/
theorem apply_inv {l : Nat} {s : ByteArray} {w : World} {a : Option Addr} {c : Nat} (l' n : Nat) (hl : l < 18446744073709551616) (hl' : l' < 18446744073709551616) (hs : s.size = 256) (hn : n ≤ 2048) (h : StrsAt w a [flipS s n]) :
    Calls Try.prog 12 #[(mapV l (flipS s n)).val a c, (invO (turnO s n)).val, .int .u64 l'] w fun e w' => ∃ a' c', e = .returned (.tuple #[(mapV l' s).val a' c', .int .i64 0]) ∧ Below w.heap.size w w' ∧ StrsFrom w.heap.size w' a' [s] := by
  have f := mapV_fits l s hl hs
  have hd := turnO_do (p := mapV l s) (n := n) rfl hs hn
  have hb := do_back f (turnO_chk s n hn) (turnO_kind s n) hd.1
  rw [hd.2] at hb
  have f2 : (mapV l (flipS s n)).Fits := hb.1
  have hc := chk_inv (turnO_chk s n hn) (turnO_kind s n)
  have ho := inv_ok (turnO_ok s n hn)
  have hdo := does f2 ho hc.1 hc.2
  have e1 : doE (mapV l (flipS s n)) (invO (turnO s n)) = 0 := hb.2.1
  have e2 : doQ (mapV l (flipS s n)) (invO (turnO s n)) = mapV l s := hb.2.2
  rw [e1, e2] at hdo
  refine (apply_of l' (SheetV.Fits.ok f2 h) f2 ho hc.1 hdo).mono ?_
  rintro e w' ⟨X, rfl, b, hX, _⟩
  obtain ⟨a', c', rfl, hq⟩ := hX rfl
  exact ⟨a', c', rfl, b, hq⟩

theorem freeF_range (s : ByteArray) (f k : Nat) (h : freeF s f k ≠ 0) : k < freeF s f k ∧ freeF s f k ≤ k + f := by
  induction f generalizing k with
  | zero => exact absurd rfl h
  | succ f ih =>
    simp only [freeF] at h ⊢
    split
    · rename_i c
      rw [if_pos c] at h
      have := ih (k + 1) h
      omega
    · omega

end Go.Proofs.Ytkknglcckjhngaa
