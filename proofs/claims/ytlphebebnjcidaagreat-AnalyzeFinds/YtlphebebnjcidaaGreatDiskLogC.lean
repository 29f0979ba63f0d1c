/-
  The walks of AppendLog and SyncLog, as long as there is no plan.
-/
import Derived.Test.YtlphebebnjcidaaGreatDiskWriteC
set_option linter.unusedVariables false
set_option linter.unusedSimpArgs false
namespace Go.Proofs.YtlphebebnjcidaaGreat
open Go.RowKit

theorem infoB : (Tryz.prog.info? 5).map (fun i => (i.zero, i.size, i.bytes)) = some (some (.int .u8 0), 1, 1) := by kernel_rfl

theorem run_text_at (w : World) (ty : TypeId) (v : Value) (n : Nat) (xs : List Value) (hown : w.ownsRow 0 5 1 v n xs) (s : ByteArray) (hb : n + s.size ≤ 1000000000) :
    ∃ v' w', (Builtin.append_ #[91, 9] ty #[v, .string s]).run Tryz.prog w = .ok v' w' ∧ w'.ownsRow 0 5 1 v' (n + s.size) (xs ++ Lib.strCells s) ∧ w.grownBy w' v.ownBlock ∧ (∀ k, v'.ownBlock = some k → v.ownBlock = some k ∨ w.heap.size ≤ k) := by
  obtain ⟨i0, hi, hz0, hz1, hz2⟩ := info_parts infoB
  obtain ⟨v', w', hr, h2, h3, _⟩ := Lib.run_append_own_string (P := Tryz.prog) w 0 91 9 ty 5 i0 Tryz.underlying91 Tryz.underlying9 hi hz0 hz1 hz2 v n xs hown s (by unfold maxLen; omega) (by omega) (Nat.zero_le _)
  refine ⟨v', w', hr, h2, h3, ?_⟩
  rcases hown.2 with ⟨rfl, rfl⟩ | ⟨g, cap, cur, rfl, h0, hg, hnc, hcm, hcs, htake⟩
  · have hx : xs = [] := List.eq_nil_of_length_eq_zero (by simpa using hown.1)
    subst hx
    obtain ⟨v2, w2, hr2, h22, _, _⟩ := Lib.run_append_own_string (P := Tryz.prog) w w.heap.size 91 9 ty 5 i0 Tryz.underlying91 Tryz.underlying9 hi hz0 hz1 hz2 _ 0 [] (World.ownsRow_nil w w.heap.size _ _) s (by unfold maxLen; omega) (by omega) (Nat.le_refl _)
    rw [hr] at hr2
    simp only [Result.ok.injEq] at hr2
    obtain ⟨rfl, rfl⟩ := hr2
    exact fun k hk => .inr (h22.lt k hk).1
  · by_cases hroom : n + s.size ≤ cap
    · have := Lib.run_append_room_string (P := Tryz.prog) w 91 9 ty 5 i0 Tryz.underlying91 Tryz.underlying9 hi hz1 g n cap cur hg s hroom (by omega)
      rw [hr] at this
      simp only [Result.ok.injEq] at this
      rw [this.1]
      exact fun k hk => .inl hk
    · have := Lib.run_append_grow_string (P := Tryz.prog) w 91 9 ty 5 i0 (.int .u8 0) Tryz.underlying91 Tryz.underlying9 hi hz0 ⟨g, 0, none⟩ n cap xs (by rw [hz1]; exact hown.1) (fun j u hj => hown.cells (g := g) rfl j u hj) s (by omega) (by omega) (by rw [hz2]; exact growslice_fits (by omega) (by omega))
      rw [hr] at this
      simp only [Result.ok.injEq] at this
      rw [this.1]
      exact fun k hk => .inr (by simp only [Value.ownBlock, Option.some.injEq] at hk; omega)

theorem wpList_text_at (w : World) {ops : Array Oper} {rest : List Oper} {o : Oper} {a : Act} {Q : Exit → Act → World → Prop} (hgd : o.guard = none) (sl x : Operand)
    (ho : o.op = .call { callee := .builtin .append, args := #[sl, x], argTypes := #[91, 9] }) (v : Value) (n : Nat) (xs : List Value) (hs : a.eval sl = v) (hown : w.ownsRow 0 5 1 v n xs) (s : ByteArray) (hx : a.eval x = .string s)
    (hb : n + s.size ≤ 1000000000)
    (h : ∀ v' w', w'.ownsRow 0 5 1 v' (n + s.size) (xs ++ Lib.strCells s) → w.grownBy w' v.ownBlock → (∀ k, v'.ownBlock = some k → v.ownBlock = some k ∨ w.heap.size ≤ k) → wpList Tryz.prog ops Q rest (a.put o.dst v') w') : wpList Tryz.prog ops Q (o :: rest) a w := by
  refine wpList_plain hgd fun K hK => ?_
  obtain ⟨v', w', hr, h2, h3, h4⟩ := run_text_at w o.type v n xs hown s hb
  unfold Oper.wp execOp
  simp only [ho, resolve, invoke, builtin, Sem.run_bind, Sem.run_pure, Result.andThen_ok, List.map_toArray, List.map_cons, List.map_nil, hs, hx, hr]
  exact hK _ _ (h v' w' h2 h3 h4)

theorem logged {w w' : World} {p : Nat} {m : Mem} {d : DG} (h : DiskAt w p m d) {v' : Value} {l : List UInt8} (hown : w'.ownsRow 0 5 1 v' l.length (dcellsOf l)) (hg : w.grownBy w' m.logV.ownBlock) (hloc : ∀ k, v'.ownBlock = some k → m.logV.ownBlock = some k ∨ w.heap.size ≤ k) :
    (∀ k, k < w.heap.size → m.logV.ownBlock ≠ some k → w'.heap[k]? = w.heap[k]?) ∧ DiskAt (w'.setCell ⟨p, 9, none⟩ v') p { m with logV := v' } { d with log := l } ∧ Kept (m.has p) w (w'.setCell ⟨p, 9, none⟩ v') := by
  have hP := h.parts
  have ha := hP.apart
  have hb : ∀ k, k < w.heap.size → m.logV.ownBlock ≠ some k → w'.heap[k]? = w.heap[k]? := fun k hk hn => hg.block k hk fun e => hn e.symm
  have hp : m.logV.ownBlock ≠ some p := fun e => h.off (.inr (.inr (.inr (.inl e)))) rfl
  have hblk : Blk w' p (dvals m d) 115 := h.blk.same (hb p h.lt hp)
  have hvp : ∀ k, v'.ownBlock = some k → k ≠ p := by
    rintro k hk rfl
    rcases hloc k hk with e | e
    · exact hp e
    · have := h.lt; omega
  have off : ∀ k, m.rest k → m.logV.ownBlock ≠ some k → (w'.setCell ⟨p, 9, none⟩ v').heap[k]? = w.heap[k]? := fun k hk hn =>
    (heap_set _ _ _ _ (h.off hk)).trans (hb k (h.rest_lt hk) hn)
  obtain ⟨f, hf, hz⟩ := hP.sure
  exact ⟨hb, ⟨hblk.set 9 v', ⟨hP.plan.same fun g k => off g (.inr (.inr (.inr (.inr k)))) fun e => (ha.2.1 g e).2.2 k, ⟨f, hf.same (off _ (.inl rfl) fun e => (ha.2.1 _ e).1 rfl), hz⟩,
    hP.fresh.same (off _ (.inr (.inl rfl)) fun e => (ha.2.1 _ e).2.1 rfl), hP.ne, owns_same hP.loose fun g k => off g (.inr (.inr (.inl k))) fun e => (ha.1 g k).2.2.1 e, owns_same hown fun g k => heap_set _ _ _ _ (hvp g k)⟩⟩,
    (Kept.of_grown hg fun b e => .inr (.inr (.inr (.inr (.inl e))))).trans (Kept.setCell _ _ _ _ _ (.inl rfl))⟩

def putD (d : DG) (s : ByteArray) : DG := { d with calls := d.calls + 1, log := d.log ++ s.data.toList }

section
variable {w : World} {p : Nat} {S : Nat → Prop} {d : DG}

set_option maxHeartbeats 1600000 in
set_option maxRecDepth 8000 in
theorem appendLog_out (h : IsDisk w p S d) (hd : d.dead = false) (hl : d.plan = []) (hn : d.calls ≤ 1000000) (s : ByteArray) (hs : d.log.length + s.size ≤ 4194304) :
    Calls Tryz.prog 42 #[.pointer (some ⟨p, 0, none⟩), .string s] w fun x w' => x = .returned (.int .i64 0) ∧ ∃ S', IsDisk w' p S' (putD d s) ∧ Moves S S' w w' := by
  obtain ⟨m, hD, hS, _⟩ := h
  obtain ⟨a, c, hv⟩ : ∃ a c, m.logV = .slice a d.log.length c := by
    rcases hD.parts.log.2 with ⟨e1, e2⟩ | ⟨g', cap', cur', e1, _⟩
    · exact ⟨none, 0, by rw [e1, e2]⟩
    · exact ⟨_, _, e1⟩
  have c9 := hD.blk.cells.c9
  rw [hv] at c9
  have HD : Hid (DiskAt w p m d) := hD
  have HS : Hid (∀ k, m.has p k → S k) := hS
  clear hD hS
  have hs' : (s.size : Int) ≤ 4194304 - (d.log.length : Int) := by omega
  go_enter Tryz.func42, Tryz.ntmps42
  go_wp2_with fail
  refine (dead_any HD.out.blk.cells).mono ?_
  rintro x w1 ⟨rfl, rfl⟩
  rw [hd]
  go_wp2_with fail
  refine (powered_none HD.out hl hn).mono ?_
  rintro x w2 ⟨rfl, hD1, hK1⟩
  have HD1 : Hid (DiskAt w2 p m { d with calls := d.calls + 1 }) := hD1
  have HK1 : Hid (Kept (fun k => k = p) _ w2) := hK1
  clear hD1 hK1 c9
  have c9 := HD1.out.blk.cells.c9
  have hlt := HD1.out.lt
  have hown := HD1.out.parts.log
  rw [hv] at c9 hown
  go_wp2_with (at_builtin; refine wpList_text_at _ rfl _ _ rfl (.slice a d.log.length c) d.log.length (dcellsOf d.log) rfl hown s rfl (by omega) ?_)
  intro v' w3 hown' hgrow hloc
  obtain ⟨a', c', hv'⟩ : ∃ a' c', v' = .slice a' (d.log.length + s.size) c' := by
    rcases hown'.2 with ⟨e1, e2⟩ | ⟨g, cap, cur, e1, _⟩
    · exact ⟨none, 0, by rw [e1, e2]⟩
    · exact ⟨_, _, e1⟩
  rw [← hv] at hgrow hloc
  have hown2 : w3.ownsRow 0 5 1 v' (d.log ++ s.data.toList).length (dcellsOf (d.log ++ s.data.toList)) := by
    have e : (d.log ++ s.data.toList).length = d.log.length + s.size := by simp
    rw [e]
    rw [dstrCells_eq] at hown'
    have e2 : dcellsOf (d.log ++ s.data.toList) = dcellsOf d.log ++ dcellsOf s.data.toList := by simp [dcellsOf]
    rw [e2]
    exact hown'
  obtain ⟨hb3, hD3, hK3⟩ := logged HD1.out hown2 hgrow hloc
  have hpb : m.logV.ownBlock ≠ some p := fun e => HD1.out.off (.inr (.inr (.inr (.inl e)))) rfl
  have c9' : w3.cell? ⟨p, 9, none⟩ = some m.logV := (World.cell?_of_block (w := w2) (a := ⟨p, 9, none⟩) (hb3 p hlt hpb)).trans HD1.out.blk.cells.c9
  have f9' : w3.frozen? ⟨p, 9, none⟩ = false := (World.frozen?_of_block (w := w2) (a := ⟨p, 9, none⟩) (hb3 p hlt hpb)).trans (HD1.out.blk.cells.fr 9)
  have HD3 : Hid (DiskAt (w3.setCell ⟨p, 9, none⟩ v') p { m with logV := v' } (putD d s)) := hD3
  have HK3 : Hid (Kept (m.has p) w2 (w3.setCell ⟨p, 9, none⟩ v')) := hK3
  have HR : Hid (∀ k, v'.ownBlock = some k → m.logV.ownBlock = some k ∨ w2.heap.size ≤ k) := hloc
  clear hb3 hD3 hK3 hown2 hown' hown hgrow hloc c9 hpb
  subst hv'
  go_wp2
  go_ret
  refine ⟨rfl, ?_⟩
  refine moved HD.out HS.out HD3.out ?_ ((HK1.out.mono fun k e => .inl e).trans HK3.out) fun k x => x
  have hz := HK1.out.size
  rintro k (x | x | x | x | x)
  · exact .inl (.inl x)
  · exact .inl (.inr (.inl x))
  · exact .inl (.inr (.inr (.inl x)))
  · rcases HR.out k x with y | y
    · exact .inl (.inr (.inr (.inr (.inl y))))
    · exact .inr (by omega)
  · exact .inl (.inr (.inr (.inr (.inr x))))

set_option maxHeartbeats 1600000 in
set_option maxRecDepth 8000 in
theorem syncLog_out (h : IsDisk w p S d) (hd : d.dead = false) (hl : d.plan = []) (hn : d.calls ≤ 1000000) (hll : d.log.length ≤ 1000000000) :
    Calls Tryz.prog 44 #[.pointer (some ⟨p, 0, none⟩)] w fun x w' => x = .returned (.int .i64 0) ∧ ∃ S', IsDisk w' p S' { d with calls := d.calls + 1, sl := d.log.length } ∧ Moves S S' w w' := by
  obtain ⟨m, hD, hS, _⟩ := h
  obtain ⟨a, c, hv⟩ : ∃ a c, m.logV = .slice a d.log.length c := by
    rcases hD.parts.log.2 with ⟨e1, e2⟩ | ⟨g', cap', cur', e1, _⟩
    · exact ⟨none, 0, by rw [e1, e2]⟩
    · exact ⟨_, _, e1⟩
  have HD : Hid (DiskAt w p m d) := hD
  have HS : Hid (∀ k, m.has p k → S k) := hS
  clear hD hS
  go_enter Tryz.func44, Tryz.ntmps44
  go_wp2_with fail
  refine (dead_any HD.out.blk.cells).mono ?_
  rintro x w1 ⟨rfl, rfl⟩
  rw [hd]
  go_wp2_with fail
  refine (powered_none HD.out hl hn).mono ?_
  rintro x w2 ⟨rfl, hD1, hK1⟩
  have HD1 : Hid (DiskAt w2 p m { d with calls := d.calls + 1 }) := hD1
  have HK1 : Hid (Kept (fun k => k = p) _ w2) := hK1
  clear hD1 hK1
  have c9 := HD1.out.blk.cells.c9
  rw [hv] at c9
  go_wp2_with fail
  refine (cut_any HD1.out d.log.length (Nat.le_refl _) hll).mono ?_
  rintro x w3 ⟨rfl, ⟨v, hd3, hvb⟩, hk3⟩
  rw [show ({ d with calls := d.calls + 1 } : DG).log = d.log from rfl, List.take_length] at hd3
  have HF : Hid (∃ S', IsDisk w3 p S' { d with calls := d.calls + 1, sl := d.log.length } ∧ Moves S S' w1 w3) := by
    refine moved HD.out HS.out hd3 ?_ (HK1.out.trans hk3) fun k x => .inl x
    rintro k (x | x | x | x | x)
    · exact .inl (.inl x)
    · exact .inl (.inr (.inl x))
    · exact .inl (.inr (.inr (.inl x)))
    · simp only at x
      rcases hvb with e | e
      · rw [e] at x; cases x
      · rw [e] at x; exact .inl (.inr (.inr (.inr (.inl x))))
    · exact .inl (.inr (.inr (.inr (.inr x))))
  clear hd3 hk3 hvb
  go_wp2
  go_ret
  exact ⟨rfl, HF.out⟩

end

end Go.Proofs.YtlphebebnjcidaaGreat
