/-
  The walk of Write, as long as there is no plan.
-/
import Derived.Test.YtlphebebnjcidaaGreatRepeatJ
set_option linter.unusedVariables false
set_option linter.unusedSimpArgs false
namespace Go.Proofs.YtlphebebnjcidaaGreat
open Go.RowKit

theorem infoW : (Tryz.prog.info? 152).map (fun i => (i.zero, i.size, i.bytes)) = some (some (.agg #[.int .u32 0, .string ⟨#[]⟩, .int .u64 0]), 3, 32) := by kernel_rfl

section
variable {w : World} {p : Nat} {m : Mem} {d : DG}

theorem pushed (h : DiskAt w p m d) (x : LW) {W w' : World} {v' : Value} (hB : Below w.heap.size w W) (hown : w'.ownsRow 0 152 3 v' (d.loose.length + 1) (d.loose.flatMap wcells ++ wcells x)) (hg : W.grownBy w' m.looseV.ownBlock)
    {z : Nat} (hzz : w.heap.size ≤ z) (hloc : v'.ownBlock = m.looseV.ownBlock ∨ v'.ownBlock = some z) :
    (∀ k, k < w.heap.size → m.looseV.ownBlock ≠ some k → w'.heap[k]? = w.heap[k]?) ∧ DiskAt (w'.setCell ⟨p, 6, none⟩ v') p { m with looseV := v' } { d with loose := d.loose ++ [x] } ∧ (∀ k, v'.ownBlock = some k → m.rest k ∨ w.heap.size ≤ k) ∧
      Kept (m.has p) w (w'.setCell ⟨p, 6, none⟩ v') := by
  have hP := h.parts
  have ha := hP.apart
  have hb : ∀ k, k < w.heap.size → m.looseV.ownBlock ≠ some k → w'.heap[k]? = w.heap[k]? := fun k hk hn =>
    (hg.block k (Nat.lt_of_lt_of_le hk hB.size) (fun e => hn e.symm)).trans (hB.block k hk)
  have hp : m.looseV.ownBlock ≠ some p := fun e => h.off (.inr (.inr (.inl e))) rfl
  have hblk : Blk w' p (dvals m d) 115 := h.blk.same (hb p h.lt hp)
  have hvp : ∀ k, v'.ownBlock = some k → k ≠ p := by
    rintro k hk rfl
    rcases hloc with e | e
    · exact hp (e ▸ hk)
    · rw [e] at hk
      have := Option.some.inj hk
      have := h.lt
      omega
  have off : ∀ k, m.rest k → m.looseV.ownBlock ≠ some k → (w'.setCell ⟨p, 6, none⟩ v').heap[k]? = w.heap[k]? := fun k hk hn =>
    (heap_set _ _ _ _ (h.off hk)).trans (hb k (h.rest_lt hk) hn)
  obtain ⟨f, hf, hz⟩ := hP.sure
  refine ⟨hb, ⟨hblk.set 6 v', ⟨hP.plan.same fun g k => off g (.inr (.inr (.inr (.inr k)))) fun e => (ha.1 g e).2.2.2 k, ⟨f, hf.same (off _ (.inl rfl) fun e => (ha.1 _ e).1 rfl), hz⟩,
    hP.fresh.same (off _ (.inr (.inl rfl)) fun e => (ha.1 _ e).2.1 rfl), hP.ne, ?_, owns_same hP.log fun g k => off g (.inr (.inr (.inr (.inl k)))) fun e => (ha.1 g e).2.2.1 k⟩⟩, ?_, ?_⟩
  · show World.ownsRow _ _ _ _ v' (d.loose ++ [x]).length ((d.loose ++ [x]).flatMap wcells)
    rw [List.length_append, List.flatMap_append]
    simp only [List.length_cons, List.length_nil, List.flatMap_cons, List.flatMap_nil, List.append_nil]
    exact owns_same hown fun g k => heap_set _ _ _ _ (hvp g k)
  · intro k hk
    rcases hloc with e | e
    · exact .inl (.inr (.inr (.inl (e ▸ hk))))
    · rw [e] at hk
      have := Option.some.inj hk
      exact .inr (by omega)
  · exact ((Kept.of_below hB).trans (Kept.of_grown hg fun b e => .inr (.inr (.inr (.inl e))))).trans (Kept.setCell _ _ _ _ _ (.inl rfl))

end

section
variable {w : World} {p : Nat} {S : Nat → Prop} {d : DG}

end

end Go.Proofs.YtlphebebnjcidaaGreat
