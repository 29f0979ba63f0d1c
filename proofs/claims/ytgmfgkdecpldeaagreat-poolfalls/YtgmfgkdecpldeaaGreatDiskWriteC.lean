/-
  The walk of Write, as long as there is no plan.
-/
import Derived.Test.YtgmfgkdecpldeaaGreatDiskCallsC
namespace Go.Proofs.YtgmfgkdecpldeaaGreat
open Go.RowKit
set_option linter.unusedVariables false

theorem infoW : (Tryz.prog.info? 128).map (fun i => (i.zero, i.size, i.bytes)) = some (some (.agg #[.int .u32 0, .string ⟨#[]⟩, .int .u64 0]), 3, 32) := by kernel_rfl

section
variable {w : World} {p : Nat} {m : Mem} {d : DG}

theorem pushed (h : DiskAt w p m d) (x : LW) {W w' : World} {v' : Value} (hB : Below w.heap.size w W) (hown : w'.ownsRow 0 128 3 v' (d.loose.length + 1) (d.loose.flatMap wcells ++ wcells x)) (hg : W.grownBy w' m.looseV.ownBlock)
    {z : Nat} (hzz : w.heap.size ≤ z) (hloc : v'.ownBlock = m.looseV.ownBlock ∨ v'.ownBlock = some z) :
    (∀ k, k < w.heap.size → m.looseV.ownBlock ≠ some k → w'.heap[k]? = w.heap[k]?) ∧ DiskAt (w'.setCell ⟨p, 6, none⟩ v') p { m with looseV := v' } { d with loose := d.loose ++ [x] } ∧ (∀ k, v'.ownBlock = some k → m.rest k ∨ w.heap.size ≤ k) ∧
      Kept (m.has p) w (w'.setCell ⟨p, 6, none⟩ v') := by
  have hP := h.parts
  have ha := hP.apart
  have hb : ∀ k, k < w.heap.size → m.looseV.ownBlock ≠ some k → w'.heap[k]? = w.heap[k]? := fun k hk hn =>
    (hg.block k (Nat.lt_of_lt_of_le hk hB.size) (fun e => hn e.symm)).trans (hB.block k hk)
  have hp : m.looseV.ownBlock ≠ some p := fun e => h.off (.inr (.inr (.inl e))) rfl
  have hblk : Blk w' p (dvals m d) 98 := h.blk.same (hb p h.lt hp)
  have hvp : ∀ k, v'.ownBlock = some k → k ≠ p := by
    rintro k hk rfl
    rcases hloc with e | e
    · exact hp (e ▸ hk)
    · rw [e] at hk
      have := Option.some.inj hk
      have := h.lt
      omega
  have off : ∀ k, m.rest k → m.looseV.ownBlock ≠ some k → (w'.setCell ⟨p, 6, none⟩ v').heap[k]? = w.heap[k]? := fun k hk hn =>
    (heap_set _ _ _ _ (h.off hk)).trans (hb k (h.rest_lt hk) hn)
  obtain ⟨f, hf, hz⟩ := hP.sure
  refine ⟨hb, ⟨hblk.set 6 v', ⟨hP.plan.same fun g k => off g (.inr (.inr (.inr (.inr k)))) fun e => (ha.1 g e).2.2.2 k, ⟨f, hf.same (off _ (.inl rfl) fun e => (ha.1 _ e).1 rfl), hz⟩,
    hP.fresh.same (off _ (.inr (.inl rfl)) fun e => (ha.1 _ e).2.1 rfl), hP.ne, ?_, owns_same hP.log fun g k => off g (.inr (.inr (.inr (.inl k)))) fun e => (ha.1 g e).2.2.1 k⟩⟩, ?_, ?_⟩
  · show World.ownsRow _ _ _ _ v' (d.loose ++ [x]).length ((d.loose ++ [x]).flatMap wcells)
    rw [List.length_append, List.flatMap_append]
    simp only [List.length_cons, List.length_nil, List.flatMap_cons, List.flatMap_nil, List.append_nil]
    exact owns_same hown fun g k => heap_set _ _ _ _ (hvp g k)
  · intro k hk
    rcases hloc with e | e
    · exact .inl (.inr (.inr (.inl (e ▸ hk))))
    · rw [e] at hk
      have := Option.some.inj hk
      exact .inr (by omega)
  · exact ((Kept.of_below hB).trans (Kept.of_grown hg fun b e => .inr (.inr (.inr (.inl e))))).trans (Kept.setCell _ _ _ _ _ (.inl rfl))

theorem freshened (h : DiskAt w p m d) {w' : World} {pg : Nat} {s : ByteArray} (h1 : IsPages w' m.fresh (d.nF + 1) (setF d.fresh pg s)) (h2 : w.mapTurned w' m.fresh) :
    DiskAt w' p m { d with fresh := setF d.fresh pg s, nF := d.nF + 1 } ∧ Kept (· = m.fresh) w w' := by
  have hg := h2.grown
  have hb : ∀ k, k < w.heap.size → k ≠ m.fresh → w'.heap[k]? = w.heap[k]? := fun k hk hn => hg.block k hk (fun e => hn (Option.some.inj e))
  have hP := h.parts
  have ha := hP.apart
  obtain ⟨f, hf, hz⟩ := hP.sure
  exact ⟨⟨h.blk.same (hb p h.lt (fun e => h.off (.inr (.inl rfl)) e.symm)), ⟨hP.plan.same fun g k => hb g (h.rest_lt (.inr (.inr (.inr (.inr k))))) (ha.2.2 g k).2, ⟨f, hf.same (hb _ (h.rest_lt (.inl rfl)) hP.ne), hz⟩,
    h1, hP.ne, owns_same hP.loose fun g k => hb g (h.rest_lt (.inr (.inr (.inl k)))) (ha.1 g k).2.1,
    owns_same hP.log fun g k => hb g (h.rest_lt (.inr (.inr (.inr (.inl k))))) (ha.2.1 g k).2.1⟩⟩, Kept.of_grown hg fun b e => (Option.some.inj e).symm⟩

end

/-- A page was written. -/
def wrD (d : DG) (pg : Nat) (s : ByteArray) : DG := { d with calls := d.calls + 1, loose := d.loose ++ [⟨pg, s, 0⟩], fresh := setF d.fresh pg s, nF := d.nF + 1 }

section
variable {w : World} {p : Nat} {S : Nat → Prop} {d : DG}

set_option maxHeartbeats 1600000 in
set_option maxRecDepth 8000 in
theorem write_out (h : IsDisk w p S d) (hd : d.dead = false) (hl : d.plan = []) (hn : d.calls ≤ 1000000 ∧ d.loose.length ≤ 1000000 ∧ d.nF ≤ 1000000) (q : Nat) (hq : q < 4294967296) (hc : checkE d.room q = 0) (s : ByteArray) (hs : s.size = 512) :
    Calls Tryz.prog 34 #[.pointer (some ⟨p, 0, none⟩), .int .u32 q, .string s] w fun x w' => x = .returned (.int .i64 0) ∧ ∃ S', IsDisk w' p S' (wrD d q s) ∧ Moves S S' w w' := by
  obtain ⟨m, hD, hS, _⟩ := h
  obtain ⟨i0, hi, hz0, hz1, hz2⟩ := info_parts infoW
  have HD : Hid (DiskAt w p m d) := hD
  have HS : Hid (∀ k, m.has p k → S k) := hS
  clear hD hS
  go_enter Tryz.func34, Tryz.ntmps34
  go_wp2_with fail
  refine (dead_any HD.out.blk.cells).mono ?_
  rintro x w1 ⟨rfl, rfl⟩
  rw [hd]
  go_wp2_with fail
  refine (check_any HD.out.blk.cells q hq).mono ?_
  rintro x w1 ⟨rfl, rfl⟩
  rw [hc]
  go_wp2_with fail
  refine (powered_none HD.out hl hn.1).mono ?_
  rintro x w1 ⟨rfl, hD1, hK1⟩
  have HD1 : Hid (DiskAt w1 p m { d with calls := d.calls + 1 }) := hD1
  have HK1 : Hid (Kept (fun k => k = p) _ w1) := hK1
  clear hD1 hK1
  go_wp2_with fail
  refine (clone_any _ _ (by omega)).mono ?_
  rintro x w2 ⟨rfl, b2⟩
  have HB2 : Hid (Below w1.heap.size w1 w2) := b2
  have HD2 : Hid (DiskAt w2 p m { d with calls := d.calls + 1 }) := HD1.out.below b2
  clear b2
  have c6 := HD2.out.blk.cells.c6
  have hlt2 := HD2.out.lt
  have HB3 : Hid (Below w2.heap.size w2 (w2.alloc (.cells #[.int .u32 q, .string s, .int .u64 0] 128))) := (Below.refl _ _).alloc (Nat.le_refl _) _
  have hown3 := (HD2.out.below HB3.out).parts.loose
  have hnb := Blk.made w2 #[.int .u32 q, .string s, .int .u64 0] 128
  have hnews : ∀ j u, (wcells ⟨q, s, 0⟩)[j]? = some u → (w2.alloc (.cells #[.int .u32 q, .string s, .int .u64 0] 128)).cell? ((⟨w2.heap.size, 0, none⟩ : Addr).add j) = some u := by
    intro j u hj
    have e := hnb.cell j
    rw [Addr.add_lit, Nat.zero_add, e]
    simpa [wcells] using hj
  go_wp2_with (at_builtin; refine wpList_append_own_at _ rfl _ _ 96 rfl 0 128 i0 (.agg #[.int .u32 0, .string ⟨#[]⟩, .int .u64 0]) 3 32 Tryz.underlying96 hi hz0 hz1 hz2 rfl (by decide) m.looseV d.loose.length (d.loose.flatMap wcells) rfl hown3 ⟨w2.heap.size, 0, none⟩ 1 1 (wcells ⟨q, s, 0⟩) rfl rfl hnews (by intro u hu; simp [wcells] at hu; rcases hu with rfl | rfl | rfl <;> rfl) (by unfold maxLen; omega) (by omega) (Nat.zero_le _) ?_)
  intro v' w3 hown' hgrow _ hloc
  obtain ⟨a', c', hv⟩ : ∃ a' c', v' = .slice a' (d.loose.length + 1) c' := by
    rcases hown'.2 with ⟨e1, e2⟩ | ⟨g, cap, cur, e1, _⟩
    · omega
    · exact ⟨_, _, e1⟩
  obtain ⟨hb3, hD3, hr3, hK3⟩ := pushed HD2.out ⟨q, s, 0⟩ HB3.out hown' hgrow (z := w2.heap.size + 1) (by omega) hloc
  obtain ⟨u, hu⟩ := putP_ex m.fresh q s
  obtain ⟨hr, hp1, hp2⟩ := hu _ _ _ hD3.parts.fresh (by show d.nF ≤ _; omega) hq (by omega)
  obtain ⟨hD4, hK4⟩ := freshened hD3 hp1 hp2
  have c6' : w3.cell? ⟨p, 6, none⟩ = some m.looseV := (World.cell?_of_block (w := w2) (a := ⟨p, 6, none⟩) (hb3 p hlt2 (fun e => HD2.out.off (.inr (.inr (.inl e))) rfl))).trans c6
  have f6' : w3.frozen? ⟨p, 6, none⟩ = false := (World.frozen?_of_block (w := w2) (a := ⟨p, 6, none⟩) (hb3 p hlt2 (fun e => HD2.out.off (.inr (.inr (.inl e))) rfl))).trans (HD2.out.blk.cells.fr 6)
  have c7' : w3.cell? ⟨p, 7, none⟩ = some (.map (some m.fresh)) := (World.cell?_of_block (w := w2) (a := ⟨p, 7, none⟩) (hb3 p hlt2 (fun e => HD2.out.off (.inr (.inr (.inl e))) rfl))).trans HD2.out.blk.cells.c7
  have hr' : (Instr.mapUpdate 95 (.map (some m.fresh)) (.int .u32 q) (.string s)).run Tryz.prog (w3.setCell ⟨p, 6, none⟩ v') = .ok () (u (w3.setCell ⟨p, 6, none⟩ v')) := hr
  clear hr
  have HD4 : Hid (DiskAt (u (w3.setCell ⟨p, 6, none⟩ v')) p { m with looseV := v' } (wrD d q s)) := hD4
  have HK4 : Hid (Kept (m.has p) w2 (u (w3.setCell ⟨p, 6, none⟩ v'))) := by
    exact hK3.trans (hK4.mono fun k e => .inr (.inr (.inl e)))
  have HR : Hid (∀ k, v'.ownBlock = some k → m.rest k ∨ w2.heap.size ≤ k) := hr3
  clear hD4 hK4 hr3 hK3 hD3 hb3 hp1 hp2 hu hown' hgrow hloc hnews hnb hown3 c6
  subst hv
  go_wp2
  go_ret
  refine ⟨rfl, ?_⟩
  refine moved HD.out HS.out HD4.out ?_ ((HK1.out.mono fun k e => .inl e).trans ((Kept.of_below HB2.out).trans HK4.out)) fun k x => x
  have hz := HK1.out.size
  have hz2 := HB2.out.size
  rintro k (x | x | x | x | x)
  · exact .inl (.inl x)
  · exact .inl (.inr (.inl x))
  · rcases HR.out k x with y | y
    · exact .inl y
    · exact .inr (by omega)
  · exact .inl (.inr (.inr (.inr (.inl x))))
  · exact .inl (.inr (.inr (.inr (.inr x))))

end

end Go.Proofs.YtgmfgkdecpldeaaGreat
