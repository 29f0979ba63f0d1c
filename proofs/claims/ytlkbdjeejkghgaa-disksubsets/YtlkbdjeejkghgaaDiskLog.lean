/-
  The walks of AppendLog and SyncLog, as long as there is no plan.
-/
import Derived.Test.YtlkbdjeejkghgaaDiskWrite
namespace Go.Proofs.Ytlkbdjeejkghgaa
open Go.RowKit
set_option linter.unusedVariables false

theorem infoB : (Try.prog.info? 5).map (fun i => (i.zero, i.size, i.bytes)) = some (some (.int .u8 0), 1, 1) := by kernel_rfl

theorem owns_zero {w : World} {b : Nat} {e : TypeId} {z n : Nat} {v : Value} {xs : List Value} (h : w.ownsRow b e z v n xs) : w.ownsRow 0 e z v n xs := by
  refine ⟨h.1, ?_⟩
  rcases h.2 with h | ⟨g, cap, cur, e, _, k⟩
  · exact .inl h
  · exact .inr ⟨g, cap, cur, e, Nat.zero_le _, k⟩

/-- Bytes of a text behind a row: where the new row lies. -/
theorem run_text_at (w : World) (ty : TypeId) (v : Value) (n : Nat) (xs : List Value) (hown : w.ownsRow 0 5 1 v n xs) (s : ByteArray) (hb : n + s.size ≤ 1000000000) :
    ∃ v' w', (Builtin.append_ #[22, 9] ty #[v, .string s]).run Try.prog w = .ok v' w' ∧ w'.ownsRow 0 5 1 v' (n + s.size) (xs ++ Lib.strCells s) ∧ w.grownBy w' v.ownBlock ∧ (∀ k, v'.ownBlock = some k → v.ownBlock = some k ∨ w.heap.size ≤ k) := by
  obtain ⟨i0, hi, hz0, hz1, hz2⟩ := info_parts infoB
  obtain ⟨v', w', hr, h2, h3, _⟩ := Lib.run_append_own_string (P := Try.prog) w 0 22 9 ty 5 i0 Try.underlying22 Try.underlying9 hi hz0 hz1 hz2 v n xs hown s (by unfold maxLen; omega) (by omega) (Nat.zero_le _)
  refine ⟨v', w', hr, h2, h3, ?_⟩
  rcases hown.2 with ⟨rfl, rfl⟩ | ⟨g, cap, cur, rfl, h0, hg, hnc, hcm, hcs, htake⟩
  · have hx : xs = [] := List.eq_nil_of_length_eq_zero (by simpa using hown.1)
    subst hx
    obtain ⟨v2, w2, hr2, h22, _, _⟩ := Lib.run_append_own_string (P := Try.prog) w w.heap.size 22 9 ty 5 i0 Try.underlying22 Try.underlying9 hi hz0 hz1 hz2 _ 0 [] (World.ownsRow_nil w w.heap.size _ _) s (by unfold maxLen; omega) (by omega) (Nat.le_refl _)
    rw [hr] at hr2
    simp only [Result.ok.injEq] at hr2
    obtain ⟨rfl, rfl⟩ := hr2
    exact fun k hk => .inr (h22.lt k hk).1
  · by_cases hroom : n + s.size ≤ cap
    · have := Lib.run_append_room_string (P := Try.prog) w 22 9 ty 5 i0 Try.underlying22 Try.underlying9 hi hz1 g n cap cur hg s hroom (by omega)
      rw [hr] at this
      simp only [Result.ok.injEq] at this
      rw [this.1]
      exact fun k hk => .inl hk
    · have := Lib.run_append_grow_string (P := Try.prog) w 22 9 ty 5 i0 (.int .u8 0) Try.underlying22 Try.underlying9 hi hz0 ⟨g, 0, none⟩ n cap xs (by rw [hz1]; exact hown.1) (fun j u hj => hown.cells (g := g) rfl j u hj) s (by omega) (by omega) (by rw [hz2]; exact growslice_fits (by omega) (by omega))
      rw [hr] at this
      simp only [Result.ok.injEq] at this
      rw [this.1]
      exact fun k hk => .inr (by simp only [Value.ownBlock, Option.some.injEq] at hk; omega)

theorem wpList_text_at (w : World) {ops : Array Oper} {rest : List Oper} {o : Oper} {a : Act} {Q : Exit → Act → World → Prop} (hgd : o.guard = none) (sl x : Operand)
    (ho : o.op = .call { callee := .builtin .append, args := #[sl, x], argTypes := #[22, 9] }) (v : Value) (n : Nat) (xs : List Value) (hs : a.eval sl = v) (hown : w.ownsRow 0 5 1 v n xs) (s : ByteArray) (hx : a.eval x = .string s)
    (hb : n + s.size ≤ 1000000000)
    (h : ∀ v' w', w'.ownsRow 0 5 1 v' (n + s.size) (xs ++ Lib.strCells s) → w.grownBy w' v.ownBlock → (∀ k, v'.ownBlock = some k → v.ownBlock = some k ∨ w.heap.size ≤ k) → wpList Try.prog ops Q rest (a.put o.dst v') w') : wpList Try.prog ops Q (o :: rest) a w := by
  refine wpList_plain hgd fun K hK => ?_
  obtain ⟨v', w', hr, h2, h3, h4⟩ := run_text_at w o.type v n xs hown s hb
  unfold Oper.wp execOp
  simp only [ho, resolve, invoke, builtin, Sem.run_bind, Sem.run_pure, Result.andThen_ok, List.map_toArray, List.map_cons, List.map_nil, hs, hx, hr]
  exact hK _ _ (h v' w' h2 h3 h4)

theorem logged {w w' : World} {p : Nat} {m : Mem} {d : DG} (h : DiskAt w p m d) {v' : Value} {l : List UInt8} (hown : w'.ownsRow 0 5 1 v' l.length (cellsOf l)) (hg : w.grownBy w' m.logV.ownBlock) (hloc : ∀ k, v'.ownBlock = some k → m.logV.ownBlock = some k ∨ w.heap.size ≤ k) :
    (∀ k, k < w.heap.size → m.logV.ownBlock ≠ some k → w'.heap[k]? = w.heap[k]?) ∧ DiskAt (w'.setCell ⟨p, 9, none⟩ v') p { m with logV := v' } { d with log := l } ∧ Kept (m.has p) w (w'.setCell ⟨p, 9, none⟩ v') := by
  have hP := h.parts
  have ha := hP.apart
  have hb : ∀ k, k < w.heap.size → m.logV.ownBlock ≠ some k → w'.heap[k]? = w.heap[k]? := fun k hk hn => hg.block k hk fun e => hn e.symm
  have hp : m.logV.ownBlock ≠ some p := fun e => h.off (.inr (.inr (.inr (.inl e)))) rfl
  have hblk : Blk w' p (dvals m d) 47 := h.blk.same (hb p h.lt hp)
  have hvp : ∀ k, v'.ownBlock = some k → k ≠ p := by
    rintro k hk rfl
    rcases hloc k hk with e | e
    · exact hp e
    · have := h.lt; omega
  have off : ∀ k, m.rest k → m.logV.ownBlock ≠ some k → (w'.setCell ⟨p, 9, none⟩ v').heap[k]? = w.heap[k]? := fun k hk hn =>
    (heap_set _ _ _ _ (h.off hk)).trans (hb k (h.rest_lt hk) hn)
  obtain ⟨f, hf, hz⟩ := hP.sure
  exact ⟨hb, ⟨hblk.set 9 v', ⟨hP.plan.same fun g k => off g (.inr (.inr (.inr (.inr k)))) fun e => (ha.2.1 g e).2.2 k, ⟨f, hf.same (off _ (.inl rfl) fun e => (ha.2.1 _ e).1 rfl), hz⟩,
    hP.fresh.same (off _ (.inr (.inl rfl)) fun e => (ha.2.1 _ e).2.1 rfl), hP.ne, owns_same hP.loose fun g k => off g (.inr (.inr (.inl k))) fun e => (ha.1 g k).2.2.1 e, owns_same hown fun g k => heap_set _ _ _ _ (hvp g k)⟩⟩,
    (Kept.of_grown hg fun b e => .inr (.inr (.inr (.inr (.inl e))))).trans (Kept.setCell _ _ _ _ _ (.inl rfl))⟩

/-- Bytes were put behind the log. -/
def putD (d : DG) (s : ByteArray) : DG := { d with calls := d.calls + 1, log := d.log ++ s.data.toList }

section
variable {w : World} {p : Nat} {S : Nat → Prop} {d : DG}





end

end Go.Proofs.Ytlkbdjeejkghgaa
