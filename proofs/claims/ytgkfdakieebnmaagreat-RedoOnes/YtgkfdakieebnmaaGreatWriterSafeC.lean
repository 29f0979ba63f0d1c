/-
  A writer's methods leave all but the writer and rows of bytes as it was.
-/
import Derived.Test.YtgkfdakieebnmaaGreatWriterWalksJ
set_option linter.unusedVariables false
set_option linter.unusedSimpArgs false
namespace Go.Proofs.YtgkfdakieebnmaaGreat
open Go.RowKit

def WSafe (b : Nat) (w w' : World) : Prop := ∀ k cs t, k ≠ b → t ≠ 5 → w.heap[k]? = some (.cells cs t (0, 0)) → w'.heap[k]? = some (.cells cs t (0, 0))

theorem WSafe.refl (b : Nat) (w : World) : WSafe b w w := fun _ _ _ _ _ h => h
theorem WSafe.trans {b : Nat} {u v w : World} (h : WSafe b u v) (k : WSafe b v w) : WSafe b u w := fun i cs t hi ht hc => k i cs t hi ht (h i cs t hi ht hc)
theorem WSafe.of_below {b : Nat} {w w' : World} (h : Below w.heap.size w w') : WSafe b w w' := fun i cs t hi ht hc => (h.block i (Array.getElem?_eq_some_iff.1 hc).1).trans hc

section
variable {w : World} {b : Nat} {l : List UInt8} {a : Option Addr} {c : Nat}

set_option maxHeartbeats 800000 in
set_option maxRecDepth 60000 in
theorem wbytes_s (h : IsWriter w b l a c) (s : ByteArray) (hl : l.length + s.size ≤ 140737488355328) :
    Calls Tryz.prog 108 #[.pointer (some ⟨b, 0, none⟩), .string s] w fun x w' =>
      x = .returned (.tuple #[]) ∧ (∃ a' c', IsWriter w' b (l ++ s.data.toList) a' c') ∧ Below b w w' ∧ WSafe b w w' := by
  obtain ⟨i0, hi, hz0, hz1, hz2⟩ := info_parts i5
  have hc0 := h.c0
  have hf0 := h.f0
  have hown := h.own
  have hlt := h.lt
  go_enter Tryz.func108, Tryz.ntmps108
  go_wp2_with (at_builtin; refine Lib.wpList_append_own_string _ rfl _ _ 90 9 rfl (b + 1) 5 i0 Tryz.underlying90 Tryz.underlying9 hi hz0 hz1 hz2 (.slice a l.length c) l.length (cellsOf l) rfl hown s rfl (by unfold maxLen; omega) hl (by omega) ?_)
  intro v' w1 hown' hgrow _
  have hne : some b ≠ (Value.slice a l.length c).ownBlock := fun e => by have := hown.lt b e.symm; omega
  have hbk := hgrow.block b hlt hne
  have hc1 := (World.cell?_of_block (w := w) (a := ⟨b, 0, none⟩) hbk).trans hc0
  have hf1 := (World.frozen?_of_block (w := w) (a := ⟨b, 0, none⟩) hbk).trans hf0
  have hz1 : b < w1.heap.size := Nat.lt_of_lt_of_le hlt hgrow.size
  have hbel : Below b w w1 := (Below.refl b w).grown hgrow (by omega) (fun k hk => by have := hown.lt k hk; omega)
  obtain ⟨a', c', hv⟩ : ∃ a' c', v' = .slice a' (l.length + s.size) c' := by
    rcases hown'.2 with ⟨e1, e2⟩ | ⟨g, cap, cur, e1, _⟩
    · exact ⟨none, 0, by rw [e1, e2]⟩
    · exact ⟨_, _, e1⟩
  subst hv
  rw [strCells_eq] at hown'
  have HO : Hid (w1.ownsRow (b + 1) 5 1 (.slice a' (l.length + s.size) c') (l.length + s.size) (cellsOf l ++ cellsOf s.data.toList)) := hown'
  have HWS : Hid (WSafe b w (w1.setCell ⟨b, 0, none⟩ (.slice a' (l.length + s.size) c'))) := fun k cs t hk ht hc => by
    refine (Below.heap_setCell _ _ _ _ hk).trans ((hgrow.block k (Array.getElem?_eq_some_iff.1 hc).1 fun e => ?_).trans hc)
    rcases hown.2 with ⟨e1, _⟩ | ⟨g, cap, cur, e1, _, hg, _⟩
    · rw [e1] at e; cases e
    · rw [e1] at e
      have e' : k = g := Option.some.inj e
      subst e'
      rw [hc] at hg
      simp only [Option.some.injEq, Obj.cells.injEq] at hg
      exact ht hg.2.1
  clear hown' hown hgrow hne hbk h hc0 hf0
  go_wp2
  go_end0
  have hlen : (l ++ s.data.toList).length = l.length + s.size := by simp
  refine ⟨rfl, ⟨a', c', ?_, ?_, ?_, ?_⟩, hbel.setCell (p := ⟨b, 0, none⟩) (Nat.le_refl _) _, HWS.out⟩
  · rw [hlen]; exact World.cell?_setCell_same _ _ _ hc1
  · rw [World.frozen?_setCell]; exact hf1
  · rw [hlen, show cellsOf (l ++ s.data.toList) = cellsOf l ++ cellsOf s.data.toList from by simp [cellsOf]]
    exact ownsRow_setCell_below HO.out (a := ⟨b, 0, none⟩) (by show b < b + 1; omega) _
  · simpa using hz1

set_option maxHeartbeats 400000 in
set_option maxRecDepth 60000 in
theorem wnumber_s (h : IsWriter w b l a c) (n : Nat) (x : Int) (hn : n < 18446744073709551616) (hl : l.length + 8 ≤ 140737488355328) :
    Calls Tryz.prog 107 #[.pointer (some ⟨b, 0, none⟩), .int .u64 n, .int .i64 x] w fun y w' =>
      y = .returned (.tuple #[]) ∧ (∃ a' c', IsWriter w' b (l ++ putL n (longOf x)) a' c') ∧ Below b w w' ∧ WSafe b w w' := by
  have hlt := h.lt
  have hlen : (ByteArray.mk (putL n (longOf x)).toArray).size ≤ 8 := by rw [bytes_size, putL_length]; unfold longOf; omega
  go_enter Tryz.func107, Tryz.ntmps107
  go_wp2_with fail
  refine (put_any n x _ hn).mono ?_
  rintro y w1 ⟨rfl, b1⟩
  go_wp2_with fail
  refine (wbytes_s (h.below b1) _ (by omega)).mono ?_
  rintro y w2 ⟨rfl, ⟨a', c', h2⟩, b2, s2⟩
  go_wp2
  go_end0
  refine ⟨rfl, ⟨a', c', ?_⟩, below_lower b1 b2 (by omega), (WSafe.of_below b1).trans s2⟩
  simpa using h2

set_option maxHeartbeats 400000 in
set_option maxRecDepth 60000 in
theorem wtext_s (h : IsWriter w b l a c) (s : ByteArray) (hs : s.size ≤ 140737488351232) (hl : l.length + 65537 ≤ 140737488355328) :
    Calls Tryz.prog 176 #[.pointer (some ⟨b, 0, none⟩), .string s] w fun y w' =>
      y = .returned (.int .i64 (textE s)) ∧ (∃ a' c', IsWriter w' b (l ++ textB s) a' c') ∧ Below b w w' ∧ WSafe b w w' := by
  have hlt := h.lt
  by_cases hz : s.size ≤ 65535
  · have hlen : (ByteArray.mk (putL s.size 2 ++ s.data.toList).toArray).size ≤ 65537 := by rw [bytes_size]; simp [putL_length]; omega
    go_enter Tryz.func176, Tryz.ntmps176
    go_wp2_with fail
    refine (text_ok s _ hz).mono ?_
    rintro y w1 ⟨rfl, b1⟩
    go_wp2_with fail
    refine (wbytes_s (h.below b1) _ (by omega)).mono ?_
    rintro y w2 ⟨rfl, ⟨a', c', h2⟩, b2, s2⟩
    go_wp2
    go_ret
    refine ⟨by unfold textE; rw [if_pos hz]; rfl, ⟨a', c', ?_⟩, below_lower b1 b2 (by omega), (WSafe.of_below b1).trans s2⟩
    unfold textB; rw [if_pos hz]
    simpa using h2
  · go_enter Tryz.func176, Tryz.ntmps176
    go_wp2_with fail
    refine (text_more s _ (by omega) (by unfold maxLen; omega)).mono ?_
    rintro y w1 ⟨rfl, rfl⟩
    go_wp2
    go_ret
    refine ⟨by unfold textE; rw [if_neg hz]; rfl, ⟨a, c, ?_⟩, Below.refl _ _, WSafe.refl _ _⟩
    unfold textB; rw [if_neg hz, List.append_nil]
    exact h

set_option maxHeartbeats 400000 in
set_option maxRecDepth 60000 in
theorem wbool_s (h : IsWriter w b l a c) (v : Bool) (hl : l.length + 8 ≤ 140737488355328) :
    Calls Tryz.prog 177 #[.pointer (some ⟨b, 0, none⟩), .bool v] w fun y w' =>
      y = .returned (.tuple #[]) ∧ (∃ a' c', IsWriter w' b (l ++ putL v.toNat 1) a' c') ∧ Below b w w' ∧ WSafe b w w' := by
  cases v
  · go_enter Tryz.func177, Tryz.ntmps177
    go_wp2_with fail
    refine (wnumber_s h 0 1 (by decide) hl).mono ?_
    rintro y w2 ⟨rfl, h2, b2, s2⟩
    go_wp2
    go_end0
    exact ⟨rfl, h2, b2, s2⟩
  · go_enter Tryz.func177, Tryz.ntmps177
    go_wp2_with fail
    refine (wnumber_s h 1 1 (by decide) hl).mono ?_
    rintro y w2 ⟨rfl, h2, b2, s2⟩
    go_wp2
    go_end0
    exact ⟨rfl, h2, b2, s2⟩

end

end Go.Proofs.YtgkfdakieebnmaaGreat
