/-
  The walks of AppendLog and SyncLog, as long as there is no plan.
-/
import Derived.Test.YtchjboijoebifaaGreatDiskWriteC
import Derived.Lib.FrozenHead
import Derived.Lib.ConvBytes
import Derived.Test.YtchjboijoebifaaGreatWalFrameJ
set_option linter.unusedVariables false
set_option linter.unusedSimpArgs false
namespace Go.Proofs.YtchjboijoebifaaGreat
open Go.RowKit

theorem infoB : (Tryz.prog.info? 5).map (fun i => (i.zero, i.size, i.bytes)) = some (some (.int .u8 0), 1, 1) := by kernel_rfl

theorem run_text_at (w : World) (ty : TypeId) (v : Value) (n : Nat) (xs : List Value) (hown : w.ownsRow 0 5 1 v n xs) (s : ByteArray) (hb : n + s.size ≤ 1000000000) :
    ∃ v' w', (Builtin.append_ #[92, 9] ty #[v, .string s]).run Tryz.prog w = .ok v' w' ∧ w'.ownsRow 0 5 1 v' (n + s.size) (xs ++ Lib.strCells s) ∧ w.grownBy w' v.ownBlock ∧ (∀ k, v'.ownBlock = some k → v.ownBlock = some k ∨ w.heap.size ≤ k) := by
  obtain ⟨i0, hi, hz0, hz1, hz2⟩ := info_parts infoB
  obtain ⟨v', w', hr, h2, h3, _⟩ := Lib.run_append_own_string (P := Tryz.prog) w 0 92 9 ty 5 i0 Tryz.underlying92 Tryz.underlying9 hi hz0 hz1 hz2 v n xs hown s (by unfold maxLen; omega) (by omega) (Nat.zero_le _)
  refine ⟨v', w', hr, h2, h3, ?_⟩
  rcases hown.2 with ⟨rfl, rfl⟩ | ⟨g, cap, cur, rfl, h0, hg, hnc, hcm, hcs, htake⟩
  · have hx : xs = [] := List.eq_nil_of_length_eq_zero (by simpa using hown.1)
    subst hx
    obtain ⟨v2, w2, hr2, h22, _, _⟩ := Lib.run_append_own_string (P := Tryz.prog) w w.heap.size 92 9 ty 5 i0 Tryz.underlying92 Tryz.underlying9 hi hz0 hz1 hz2 _ 0 [] (World.ownsRow_nil w w.heap.size _ _) s (by unfold maxLen; omega) (by omega) (Nat.le_refl _)
    rw [hr] at hr2
    simp only [Result.ok.injEq] at hr2
    obtain ⟨rfl, rfl⟩ := hr2
    exact fun k hk => .inr (h22.lt k hk).1
  · by_cases hroom : n + s.size ≤ cap
    · have := Lib.run_append_room_string (P := Tryz.prog) w 92 9 ty 5 i0 Tryz.underlying92 Tryz.underlying9 hi hz1 g n cap cur hg s hroom (by omega)
      rw [hr] at this
      simp only [Result.ok.injEq] at this
      rw [this.1]
      exact fun k hk => .inl hk
    · have := Lib.run_append_grow_string (P := Tryz.prog) w 92 9 ty 5 i0 (.int .u8 0) Tryz.underlying92 Tryz.underlying9 hi hz0 ⟨g, 0, none⟩ n cap xs (by rw [hz1]; exact hown.1) (fun j u hj => hown.cells (g := g) rfl j u hj) s (by omega) (by omega) (by rw [hz2]; exact growslice_fits (by omega) (by omega))
      rw [hr] at this
      simp only [Result.ok.injEq] at this
      rw [this.1]
      exact fun k hk => .inr (by simp only [Value.ownBlock, Option.some.injEq] at hk; omega)

theorem wpList_text_at (w : World) {ops : Array Oper} {rest : List Oper} {o : Oper} {a : Act} {Q : Exit → Act → World → Prop} (hgd : o.guard = none) (sl x : Operand)
    (ho : o.op = .call { callee := .builtin .append, args := #[sl, x], argTypes := #[92, 9] }) (v : Value) (n : Nat) (xs : List Value) (hs : a.eval sl = v) (hown : w.ownsRow 0 5 1 v n xs) (s : ByteArray) (hx : a.eval x = .string s)
    (hb : n + s.size ≤ 1000000000)
    (h : ∀ v' w', w'.ownsRow 0 5 1 v' (n + s.size) (xs ++ Lib.strCells s) → w.grownBy w' v.ownBlock → (∀ k, v'.ownBlock = some k → v.ownBlock = some k ∨ w.heap.size ≤ k) → wpList Tryz.prog ops Q rest (a.put o.dst v') w') : wpList Tryz.prog ops Q (o :: rest) a w := by
  refine wpList_plain hgd fun K hK => ?_
  obtain ⟨v', w', hr, h2, h3, h4⟩ := run_text_at w o.type v n xs hown s hb
  unfold Oper.wp execOp
  simp only [ho, resolve, invoke, builtin, Sem.run_bind, Sem.run_pure, Result.andThen_ok, List.map_toArray, List.map_cons, List.map_nil, hs, hx, hr]
  exact hK _ _ (h v' w' h2 h3 h4)

theorem logged {w w' : World} {p : Nat} {m : Mem} {d : DG} (h : DiskAt w p m d) {v' : Value} {l : List UInt8} (hown : w'.ownsRow 0 5 1 v' l.length (dcellsOf l)) (hg : w.grownBy w' m.logV.ownBlock) (hloc : ∀ k, v'.ownBlock = some k → m.logV.ownBlock = some k ∨ w.heap.size ≤ k) :
    (∀ k, k < w.heap.size → m.logV.ownBlock ≠ some k → w'.heap[k]? = w.heap[k]?) ∧ DiskAt (w'.setCell ⟨p, 9, none⟩ v') p { m with logV := v' } { d with log := l } ∧ Kept (m.has p) w (w'.setCell ⟨p, 9, none⟩ v') := by
  have hP := h.parts
  have ha := hP.apart
  have hb : ∀ k, k < w.heap.size → m.logV.ownBlock ≠ some k → w'.heap[k]? = w.heap[k]? := fun k hk hn => hg.block k hk fun e => hn e.symm
  have hp : m.logV.ownBlock ≠ some p := fun e => h.off (.inr (.inr (.inr (.inl e)))) rfl
  have hblk : Blk w' p (dvals m d) 123 := h.blk.same (hb p h.lt hp)
  have hvp : ∀ k, v'.ownBlock = some k → k ≠ p := by
    rintro k hk rfl
    rcases hloc k hk with e | e
    · exact hp e
    · have := h.lt; omega
  have off : ∀ k, m.rest k → m.logV.ownBlock ≠ some k → (w'.setCell ⟨p, 9, none⟩ v').heap[k]? = w.heap[k]? := fun k hk hn =>
    (heap_set _ _ _ _ (h.off hk)).trans (hb k (h.rest_lt hk) hn)
  obtain ⟨f, hf, hz⟩ := hP.sure
  exact ⟨hb, ⟨hblk.set 9 v', ⟨hP.plan.same fun g k => off g (.inr (.inr (.inr (.inr k)))) fun e => (ha.2.1 g e).2.2 k, ⟨f, hf.same (off _ (.inl rfl) fun e => (ha.2.1 _ e).1 rfl), hz⟩,
    hP.fresh.same (off _ (.inr (.inl rfl)) fun e => (ha.2.1 _ e).2.1 rfl), hP.ne, owns_same hP.loose fun g k => off g (.inr (.inr (.inl k))) fun e => (ha.1 g k).2.2.1 e, owns_same hown fun g k => heap_set _ _ _ _ (hvp g k)⟩⟩,
    (Kept.of_grown hg fun b e => .inr (.inr (.inr (.inr (.inl e))))).trans (Kept.setCell _ _ _ _ _ (.inl rfl))⟩

def putD (d : DG) (s : ByteArray) : DG := { d with calls := d.calls + 1, log := d.log ++ s.data.toList }

section
variable {w : World} {p : Nat} {S : Nat → Prop} {d : DG}

set_option maxHeartbeats 1600000 in
set_option maxRecDepth 8000 in
theorem appendLog_out (h : IsDisk w p S d) (hd : d.dead = false) (hl : d.plan = []) (hn : d.calls ≤ 1000000) (s : ByteArray) (hs : d.log.length + s.size ≤ 4194304) :
    Calls Tryz.prog 50 #[.pointer (some ⟨p, 0, none⟩), .string s] w fun x w' => x = .returned (.int .i64 0) ∧ ∃ S', IsDisk w' p S' (putD d s) ∧ Moves S S' w w' := by
  obtain ⟨m, hD, hS, _⟩ := h
  obtain ⟨a, c, hv⟩ : ∃ a c, m.logV = .slice a d.log.length c := by
    rcases hD.parts.log.2 with ⟨e1, e2⟩ | ⟨g', cap', cur', e1, _⟩
    · exact ⟨none, 0, by rw [e1, e2]⟩
    · exact ⟨_, _, e1⟩
  have c9 := hD.blk.cells.c9
  rw [hv] at c9
  have HD : Hid (DiskAt w p m d) := hD
  have HS : Hid (∀ k, m.has p k → S k) := hS
  clear hD hS
  have hs' : (s.size : Int) ≤ 4194304 - (d.log.length : Int) := by omega
  go_enter Tryz.func50, Tryz.ntmps50
  go_wp2_with fail
  refine (dead_any HD.out.blk.cells).mono ?_
  rintro x w1 ⟨rfl, rfl⟩
  rw [hd]
  go_wp2_with fail
  refine (powered_none HD.out hl hn).mono ?_
  rintro x w2 ⟨rfl, hD1, hK1⟩
  have HD1 : Hid (DiskAt w2 p m { d with calls := d.calls + 1 }) := hD1
  have HK1 : Hid (Kept (fun k => k = p) _ w2) := hK1
  clear hD1 hK1 c9
  have c9 := HD1.out.blk.cells.c9
  have hlt := HD1.out.lt
  have hown := HD1.out.parts.log
  rw [hv] at c9 hown
  go_wp2_with (at_builtin; refine wpList_text_at _ rfl _ _ rfl (.slice a d.log.length c) d.log.length (dcellsOf d.log) rfl hown s rfl (by omega) ?_)
  intro v' w3 hown' hgrow hloc
  obtain ⟨a', c', hv'⟩ : ∃ a' c', v' = .slice a' (d.log.length + s.size) c' := by
    rcases hown'.2 with ⟨e1, e2⟩ | ⟨g, cap, cur, e1, _⟩
    · exact ⟨none, 0, by rw [e1, e2]⟩
    · exact ⟨_, _, e1⟩
  rw [← hv] at hgrow hloc
  have hown2 : w3.ownsRow 0 5 1 v' (d.log ++ s.data.toList).length (dcellsOf (d.log ++ s.data.toList)) := by
    have e : (d.log ++ s.data.toList).length = d.log.length + s.size := by simp
    rw [e]
    rw [dstrCells_eq] at hown'
    have e2 : dcellsOf (d.log ++ s.data.toList) = dcellsOf d.log ++ dcellsOf s.data.toList := by simp [dcellsOf]
    rw [e2]
    exact hown'
  obtain ⟨hb3, hD3, hK3⟩ := logged HD1.out hown2 hgrow hloc
  have hpb : m.logV.ownBlock ≠ some p := fun e => HD1.out.off (.inr (.inr (.inr (.inl e)))) rfl
  have c9' : w3.cell? ⟨p, 9, none⟩ = some m.logV := (World.cell?_of_block (w := w2) (a := ⟨p, 9, none⟩) (hb3 p hlt hpb)).trans HD1.out.blk.cells.c9
  have f9' : w3.frozen? ⟨p, 9, none⟩ = false := (World.frozen?_of_block (w := w2) (a := ⟨p, 9, none⟩) (hb3 p hlt hpb)).trans (HD1.out.blk.cells.fr 9)
  have HD3 : Hid (DiskAt (w3.setCell ⟨p, 9, none⟩ v') p { m with logV := v' } (putD d s)) := hD3
  have HK3 : Hid (Kept (m.has p) w2 (w3.setCell ⟨p, 9, none⟩ v')) := hK3
  have HR : Hid (∀ k, v'.ownBlock = some k → m.logV.ownBlock = some k ∨ w2.heap.size ≤ k) := hloc
  clear hb3 hD3 hK3 hown2 hown' hown hgrow hloc c9 hpb
  subst hv'
  go_wp2
  go_ret
  refine ⟨rfl, ?_⟩
  refine moved HD.out HS.out HD3.out ?_ ((HK1.out.mono fun k e => .inl e).trans HK3.out) fun k x => x
  have hz := HK1.out.size
  rintro k (x | x | x | x | x)
  · exact .inl (.inl x)
  · exact .inl (.inr (.inl x))
  · exact .inl (.inr (.inr (.inl x)))
  · rcases HR.out k x with y | y
    · exact .inl (.inr (.inr (.inr (.inl y))))
    · exact .inr (by omega)
  · exact .inl (.inr (.inr (.inr (.inr x))))

set_option maxHeartbeats 1600000 in
set_option maxRecDepth 8000 in
theorem syncLog_out (h : IsDisk w p S d) (hd : d.dead = false) (hl : d.plan = []) (hn : d.calls ≤ 1000000) (hll : d.log.length ≤ 1000000000) :
    Calls Tryz.prog 52 #[.pointer (some ⟨p, 0, none⟩)] w fun x w' => x = .returned (.int .i64 0) ∧ ∃ S', IsDisk w' p S' { d with calls := d.calls + 1, sl := d.log.length } ∧ Moves S S' w w' := by
  obtain ⟨m, hD, hS, _⟩ := h
  obtain ⟨a, c, hv⟩ : ∃ a c, m.logV = .slice a d.log.length c := by
    rcases hD.parts.log.2 with ⟨e1, e2⟩ | ⟨g', cap', cur', e1, _⟩
    · exact ⟨none, 0, by rw [e1, e2]⟩
    · exact ⟨_, _, e1⟩
  have HD : Hid (DiskAt w p m d) := hD
  have HS : Hid (∀ k, m.has p k → S k) := hS
  clear hD hS
  go_enter Tryz.func52, Tryz.ntmps52
  go_wp2_with fail
  refine (dead_any HD.out.blk.cells).mono ?_
  rintro x w1 ⟨rfl, rfl⟩
  rw [hd]
  go_wp2_with fail
  refine (powered_none HD.out hl hn).mono ?_
  rintro x w2 ⟨rfl, hD1, hK1⟩
  have HD1 : Hid (DiskAt w2 p m { d with calls := d.calls + 1 }) := hD1
  have HK1 : Hid (Kept (fun k => k = p) _ w2) := hK1
  clear hD1 hK1
  have c9 := HD1.out.blk.cells.c9
  rw [hv] at c9
  go_wp2_with fail
  refine (cut_any HD1.out d.log.length (Nat.le_refl _) hll).mono ?_
  rintro x w3 ⟨rfl, ⟨v, hd3, hvb⟩, hk3⟩
  rw [show ({ d with calls := d.calls + 1 } : DG).log = d.log from rfl, List.take_length] at hd3
  have HF : Hid (∃ S', IsDisk w3 p S' { d with calls := d.calls + 1, sl := d.log.length } ∧ Moves S S' w1 w3) := by
    refine moved HD.out HS.out hd3 ?_ (HK1.out.trans hk3) fun k x => .inl x
    rintro k (x | x | x | x | x)
    · exact .inl (.inl x)
    · exact .inl (.inr (.inl x))
    · exact .inl (.inr (.inr (.inl x)))
    · simp only at x
      rcases hvb with e | e
      · rw [e] at x; cases x
      · rw [e] at x; exact .inl (.inr (.inr (.inr (.inl x))))
    · exact .inl (.inr (.inr (.inr (.inr x))))
  clear hd3 hk3 hvb
  go_wp2
  go_ret
  exact ⟨rfl, HF.out⟩

end

end Go.Proofs.YtchjboijoebifaaGreat

namespace Go.Proofs.YtchjboijoebifaaGreat
open Go.RowKit

def ByteRow (w : World) (v : Value) (l : List UInt8) : Prop :=
  (v = .slice none 0 0 ∧ l = []) ∨ ∃ g cap cur fz, v = .slice (some ⟨g, 0, none⟩) l.length cap ∧ w.heap[g]? = some (.cells cur 5 fz) ∧ (fz.2 = 0 ∨ cap ≤ fz.1) ∧ l.length ≤ cap ∧ cap ≤ maxLen ∧ cur.size = cap ∧ cur.toList.take l.length = dcellsOf l

theorem ByteRow.block {w : World} {v : Value} {l : List UInt8} (h : ByteRow w v l) {g : Nat} (k : v.ownBlock = some g) : ∃ cur fz, w.heap[g]? = some (.cells cur 5 fz) := by
  rcases h with ⟨rfl, _⟩ | ⟨g', cap, cur, fz, rfl, hb, _⟩
  · cases k
  · cases k; exact ⟨cur, fz, hb⟩

theorem ByteRow.lt {w : World} {v : Value} {l : List UInt8} (h : ByteRow w v l) {g : Nat} (k : v.ownBlock = some g) : g < w.heap.size := by
  obtain ⟨cur, fz, hb⟩ := h.block k
  exact (Array.getElem?_eq_some_iff.1 hb).1

theorem ByteRow.same {w w' : World} {v : Value} {l : List UInt8} (h : ByteRow w v l) (k : ∀ g, v.ownBlock = some g → w'.heap[g]? = w.heap[g]?) : ByteRow w' v l := by
  rcases h with h | ⟨g', cap, cur, fz, rfl, hb, hr⟩
  · exact .inl h
  · exact .inr ⟨g', cap, cur, fz, rfl, (k g' rfl).trans hb, hr⟩

theorem ByteRow.slice {w : World} {v : Value} {l : List UInt8} (h : ByteRow w v l) : ∃ a c, v = .slice a l.length c := by
  rcases h with ⟨rfl, rfl⟩ | ⟨g', cap, cur, fz, rfl, _⟩
  · exact ⟨none, 0, rfl⟩
  · exact ⟨_, _, rfl⟩

theorem cellsOf_get {l : List UInt8} {j : Nat} (hj : j < l.length) : (dcellsOf l)[j]? = some (.int .u8 (l[j].toNat : Int)) := by
  simp [dcellsOf, hj]

theorem ByteRow.cell {w : World} {g cap : Nat} {l : List UInt8} {n : Nat} (h : ByteRow w (.slice (some ⟨g, 0, none⟩) n cap) l) (j : Nat) (hj : j < l.length) : w.cell? ⟨g, j, none⟩ = some (.int .u8 (l[j].toNat : Int)) := by
  rcases h with ⟨h, _⟩ | ⟨g', cap', cur, fz, e, hb, _, _, _, hc, ht⟩
  · cases h
  · simp only [Value.slice.injEq, Option.some.injEq, Addr.mk.injEq] at e
    obtain ⟨⟨rfl, _, _⟩, _, _⟩ := e
    have h1 := cellsOf_get hj
    rw [← ht, List.getElem?_take, if_pos hj] at h1
    rw [cell_of_row w g j cur _ fz hb]
    simpa using h1

theorem ByteRow.of_owns {w : World} {v : Value} {l : List UInt8} (h : w.ownsRow 0 5 1 v l.length (dcellsOf l)) : ByteRow w v l := by
  rcases h.2 with ⟨e, e2⟩ | ⟨g, cap, cur, rfl, _, hg, h1, h2, h3, h4⟩
  · exact .inl ⟨e, List.eq_nil_of_length_eq_zero e2⟩
  · exact .inr ⟨g, cap, cur, (0, 0), rfl, hg, .inl rfl, h1, h2, by simpa using h3, by simpa using h4⟩

theorem storeCells_row (P : Program) (g o : Nat) (t : TypeId) (fz : Nat × Nat) : ∀ (vs : List Value) (i : Nat) (cur : Array Value) (w : World), w.heap[g]? = some (.cells cur t fz) → (fz.2 = 0 ∨ cur.size ≤ fz.1) → o + i + vs.length ≤ cur.size → (∀ v ∈ vs, v.oneCell' = true) →
    (storeCells ⟨g, o, none⟩ vs i).run P w = .ok () (w.setRow g (cur.toList.take (o + i) ++ vs ++ cur.toList.drop (o + i + vs.length)).toArray)
  | [], i, cur, w, hg, _, _, _ => by
    simp only [storeCells, List.append_nil, List.length_nil, Nat.add_zero, List.take_append_drop, Array.toArray_toList]
    rw [setRow_self w g cur t fz hg]
    rfl
  | v :: rest, i, cur, w, hg, hfz, hl, h1 => by
    have hi : o + i < cur.size := by simp at hl; omega
    have hadd : (⟨g, o, none⟩ : Addr).add i = ⟨g, o + i, none⟩ := by unfold Addr.add; split <;> simp_all
    have hcell : w.cell? ⟨g, o + i, none⟩ = some cur[o + i] := by simp [World.cell?, hg, hi]
    have hfro : w.frozen? ⟨g, o + i, none⟩ = false := by
      obtain ⟨lo, hi'⟩ := fz
      simp only [World.frozen?, hg, Bool.and_eq_false_iff, decide_eq_false_iff_not]
      simp only at hfz
      omega
    have hst : (store ((⟨g, o, none⟩ : Addr).add i) v).run P w = .ok () (w.setRow g (cur.setIfInBounds (o + i) v)) := by
      rw [hadd, run_store P w _ v _ (h1 v (by simp)), hcell]
      simp [hfro, setCell_eq_setRow w g (o + i) cur t fz v hg]
    have ih := storeCells_row P g o t fz rest (i + 1) (cur.setIfInBounds (o + i) v) (w.setRow g (cur.setIfInBounds (o + i) v)) (setRow_heap w g cur _ t _ hg) (by simpa using hfz) (by simp at hl ⊢; omega) (fun x hx => h1 x (by simp [hx]))
    simp only [storeCells, Sem.run_bind, hst, Result.andThen_ok, ih, setRow_setRow]
    congr 3
    have e := list_seg_step cur.toList (o + i) v rest (by simp at hl ⊢; omega)
    simpa [Array.toList_setIfInBounds, Nat.add_assoc] using e

theorem run_row_room (w : World) (ty : TypeId) (g n cap : Nat) (cur : Array Value) (fz : Nat × Nat) (hg : w.heap[g]? = some (.cells cur 5 fz)) (hfz : fz.2 = 0 ∨ cur.size ≤ fz.1) (s : ByteArray)
    (hroom : n + s.size ≤ cap) (hfit : n + s.size ≤ cur.size) :
    (Builtin.append_ #[92, 9] ty #[.slice (some ⟨g, 0, none⟩) n cap, .string s]).run Tryz.prog w =
      .ok (.slice (some ⟨g, 0, none⟩) (n + s.size) cap) (w.setRow g (cur.toList.take n ++ Lib.strCells s ++ cur.toList.drop (n + s.size)).toArray) := by
  obtain ⟨i0, hi, hz0, hz1, hz2⟩ := info_parts infoB
  have hf := Lib.run_firstCells_string (P := Tryz.prog) w 1 s
  have hst := storeCells_row Tryz.prog g n 5 fz (Lib.strCells s) 0 cur w hg hfz (by simpa [Lib.strCells_length] using hfit) (Lib.strCells_oneCell s)
  simp only [Nat.add_zero, Lib.strCells_length] at hst
  simp [Builtin.append_, run_underlying Tryz.underlying92, run_underlying Tryz.underlying9, sizeOf, typeInfo, hi, hz1, Builtin.lenOf, hroom, hf, Addr.add_lit, hst]

theorem run_row_text (w : World) (ty : TypeId) (v : Value) (l : List UInt8) (hown : ByteRow w v l) (s : ByteArray) (hb : l.length + s.size ≤ 1000000000) :
    ∃ v' w', (Builtin.append_ #[92, 9] ty #[v, .string s]).run Tryz.prog w = .ok v' w' ∧ ByteRow w' v' (l ++ s.data.toList) ∧ w.grownBy w' v.ownBlock ∧ (∀ k, v'.ownBlock = some k → v.ownBlock = some k ∨ w.heap.size ≤ k) := by
  obtain ⟨i0, hi, hz0, hz1, hz2⟩ := info_parts infoB
  have hlen : (l ++ s.data.toList).length = l.length + s.size := by simp
  have hcells : dcellsOf (l ++ s.data.toList) = dcellsOf l ++ Lib.strCells s := by rw [dstrCells_eq]; simp [dcellsOf]
  have hcl : (dcellsOf l).length = l.length := by simp [dcellsOf]
  rcases hown with ⟨rfl, rfl⟩ | ⟨g, cap, cur, fz, rfl, hg, hfz, hnc, hcm, hcs, htake⟩
  · obtain ⟨v', w', h1, h2, h3, h4⟩ := run_text_at w ty (.slice none 0 0) 0 [] (World.ownsRow_nil w 0 _ _) s (by simpa using hb)
    refine ⟨v', w', h1, ByteRow.of_owns ?_, h3, h4⟩
    rw [hlen, hcells]
    simpa [dcellsOf] using h2
  · by_cases hroom : l.length + s.size ≤ cap
    · have hr := run_row_room w ty g l.length cap cur fz hg (by rw [hcs]; exact hfz) s hroom (by omega)
      refine ⟨_, _, hr, .inr ⟨g, cap, _, fz, by rw [hlen], setRow_heap w g cur _ _ _ hg, hfz, by omega, hcm, ?_, ?_⟩, ⟨rfl, rfl, rfl, by simp, fun k _ hk => setRow_other w g k _ (fun e => hk (by simp [Value.ownBlock, e]))⟩, fun k hk => .inl hk⟩
      · simp only [List.size_toArray, List.length_append, List.length_take, List.length_drop, Array.length_toList, Lib.strCells_length]
        omega
      · rw [htake, hcells]
        have e : (dcellsOf l ++ Lib.strCells s).length = (l ++ s.data.toList).length := by rw [List.length_append, hcl, Lib.strCells_length, hlen]
        rw [← e]
        exact List.take_left
    · have holds : ∀ j u, (dcellsOf l)[j]? = some u → w.cell? ((⟨g, 0, none⟩ : Addr).add j) = some u := by
        intro j u hu
        have hadd : (⟨g, 0, none⟩ : Addr).add j = ⟨g, j, none⟩ := by unfold Addr.add; split <;> simp_all
        rw [hadd, cell_of_row w g j cur _ fz hg]
        rw [← htake, List.getElem?_take] at hu
        split at hu
        · simpa using hu
        · cases hu
      have hr := Lib.run_append_grow_string (P := Tryz.prog) w 92 9 ty 5 i0 (.int .u8 0) Tryz.underlying92 Tryz.underlying9 hi hz0 ⟨g, 0, none⟩ l.length cap (dcellsOf l) (by rw [hz1]; simpa using hcl) holds s (by omega) (by omega) (by rw [hz2]; exact growslice_fits (by omega) (by omega))
      have hge := grownCap_ge w (l.length + s.size) cap 5
      have hcm2 : grownCap w (l.length + s.size) cap 5 ≤ maxLen := grownCap_le_maxLen w (l.length + s.size) cap 5 (by unfold maxLen; omega)
      refine ⟨_, _, hr, .inr ⟨w.heap.size, _, _, (0, 0), by rw [hlen], heap_alloc_new w.drew _, .inl rfl, by rw [hlen]; exact hge, hcm2, ?_, ?_⟩, ⟨rfl, rfl, rfl, by simp, fun k hk _ => Go.heap_alloc_old w.drew _ hk⟩, fun k hk => .inr (by simp only [Value.ownBlock, Option.some.injEq] at hk; omega)⟩
      · have hz1 : (Value.int IntKind.u8 0).cells.size = 1 := rfl
        simp only [Array.size_append, List.size_toArray, size_zeroCells, hz1, hcl, Lib.strCells_length]
        omega
      · simp only [Array.toList_append, List.append_assoc]
        rw [← List.append_assoc, hcells]
        have e : (dcellsOf l ++ Lib.strCells s).length = (l ++ s.data.toList).length := by rw [List.length_append, hcl, Lib.strCells_length, hlen]
        rw [← e]
        exact List.take_left

theorem wpList_row_text (w : World) {ops : Array Oper} {rest : List Oper} {o : Oper} {a : Act} {Q : Exit → Act → World → Prop} (hgd : o.guard = none) (sl x : Operand)
    (ho : o.op = .call { callee := .builtin .append, args := #[sl, x], argTypes := #[92, 9] }) (v : Value) (l : List UInt8) (hs : a.eval sl = v) (hown : ByteRow w v l) (s : ByteArray) (hx : a.eval x = .string s)
    (hb : l.length + s.size ≤ 1000000000)
    (h : ∀ v' w', ByteRow w' v' (l ++ s.data.toList) → w.grownBy w' v.ownBlock → (∀ k, v'.ownBlock = some k → v.ownBlock = some k ∨ w.heap.size ≤ k) → wpList Tryz.prog ops Q rest (a.put o.dst v') w') : wpList Tryz.prog ops Q (o :: rest) a w := by
  refine wpList_plain hgd fun K hK => ?_
  obtain ⟨v', w', hr, h2, h3, h4⟩ := run_row_text w o.type v l hown s hb
  unfold Oper.wp execOp
  simp only [ho, resolve, invoke, builtin, Sem.run_bind, Sem.run_pure, Result.andThen_ok, List.map_toArray, List.map_cons, List.map_nil, hs, hx, hr]
  exact hK _ _ (h v' w' h2 h3 h4)

theorem run_row_made (w : World) (s : ByteArray) (hs : s.size ≤ 1000000000) :
    ∃ v w', (convert 9 92 (.string s)).run Tryz.prog w = .ok v w' ∧ ByteRow w' v s.data.toList ∧ Below w.heap.size w w' ∧ (∀ k, v.ownBlock = some k → w.heap.size ≤ k) := by
  have hr := Lib.run_convert_string_bytes (P := Tryz.prog) w 9 92 5 s Tryz.underlying9 Tryz.underlying92 Tryz.underlying5
  have hge := grownCap_ge w s.size 0 5
  have hcm2 : grownCap w s.size 0 5 ≤ maxLen := grownCap_le_maxLen w s.size 0 5 (by unfold maxLen; omega)
  have hz : (Lib.bytesCells w 5 s).size = grownCap w s.size 0 5 := by
    simp [Lib.bytesCells]
    omega
  refine ⟨_, _, hr, .inr ⟨w.heap.size, _, _, _, by simp, Lib.bytesWorld_at_new w _ s, .inr (by rw [hz]; exact Nat.le_refl _), by simpa using hge, hcm2, hz, ?_⟩, ⟨rfl, rfl, rfl, by rw [Lib.bytesWorld_size]; omega, fun k hk => Lib.bytesWorld_at_old w _ s k hk⟩, fun k hk => by simp only [Value.ownBlock, Option.some.injEq] at hk; omega⟩
  simp only [Lib.bytesCells, Array.toList_append, Array.toList_map]
  rw [List.take_append_of_le_length (by simp), List.take_of_length_le (by simp)]
  rfl

end Go.Proofs.YtchjboijoebifaaGreat

namespace Go.Proofs.YtchjboijoebifaaGreat
open Go.RowKit

structure LG where
  dp : Nat
  bytes : List UInt8
  starts : List Nat
  flushed : Nat
  half : Bool
  kept : Nat

def lsnCells (l : List Nat) : List Value := l.map fun (n : Nat) => .int .u64 (n : Int)

def lvals (bv sv : Value) (l : LG) : Array Value := #[.pointer (some ⟨l.dp, 0, none⟩), bv, sv, .int .i64 l.flushed, .bool l.half, .int .i64 l.kept]

structure LogAt (w : World) (p : Nat) (bv sv : Value) (l : LG) : Prop where
  blk : Blk w p (lvals bv sv l) 95
  bytes : ByteRow w bv l.bytes
  starts : w.ownsRow 0 31 1 sv l.starts.length (lsnCells l.starts)

structure LCells (w : World) (p : Nat) (bv sv : Value) (l : LG) : Prop where
  c0 : w.cell? ⟨p, 0, none⟩ = some (.pointer (some ⟨l.dp, 0, none⟩))
  c1 : w.cell? ⟨p, 1, none⟩ = some bv
  c2 : w.cell? ⟨p, 2, none⟩ = some sv
  c3 : w.cell? ⟨p, 3, none⟩ = some (.int .i64 l.flushed)
  c4 : w.cell? ⟨p, 4, none⟩ = some (.bool l.half)
  c5 : w.cell? ⟨p, 5, none⟩ = some (.int .i64 l.kept)
  fr : ∀ i, w.frozen? ⟨p, i, none⟩ = false

theorem LogAt.cells {w : World} {p : Nat} {bv sv : Value} {l : LG} (h : LogAt w p bv sv l) : LCells w p bv sv l :=
  ⟨h.blk.cell 0, h.blk.cell 1, h.blk.cell 2, h.blk.cell 3, h.blk.cell 4, h.blk.cell 5, h.blk.frozen⟩

def lhas (p : Nat) (bv sv : Value) (k : Nat) : Prop := k = p ∨ bv.ownBlock = some k ∨ sv.ownBlock = some k

theorem LogAt.same {w w' : World} {p : Nat} {bv sv : Value} {l : LG} (h : LogAt w p bv sv l) (e : ∀ k, lhas p bv sv k → w'.heap[k]? = w.heap[k]?) : LogAt w' p bv sv l :=
  ⟨h.blk.same (e p (.inl rfl)), h.bytes.same fun g k => e g (.inr (.inl k)), owns_same h.starts fun g k => e g (.inr (.inr k))⟩

theorem owns_lt {w : World} {e : TypeId} {z n : Nat} {v : Value} {xs : List Value} (h : w.ownsRow 0 e z v n xs) {g : Nat} (k : v.ownBlock = some g) : g < w.heap.size := by
  obtain ⟨cur, hb⟩ := owns_block h k
  exact hb.lt

theorem LogAt.lt {w : World} {p : Nat} {bv sv : Value} {l : LG} (h : LogAt w p bv sv l) {k : Nat} (hk : lhas p bv sv k) : k < w.heap.size := by
  rcases hk with rfl | hk | hk
  · exact h.blk.lt
  · exact h.bytes.lt hk
  · exact owns_lt h.starts hk

theorem LogAt.apart {w : World} {p : Nat} {bv sv : Value} {l : LG} (h : LogAt w p bv sv l) :
    (∀ g, bv.ownBlock = some g → g ≠ p ∧ sv.ownBlock ≠ some g) ∧ (∀ g, sv.ownBlock = some g → g ≠ p) := by
  have hb := h.blk
  unfold Blk at hb
  refine ⟨fun g k => ⟨?_, fun k' => ?_⟩, fun g k => ?_⟩
  · rintro rfl
    obtain ⟨cur, fz, e⟩ := h.bytes.block k
    rw [e] at hb
    simp only [Option.some.injEq, Obj.cells.injEq] at hb
    exact absurd hb.2.1 (by decide)
  · obtain ⟨cur, fz, e⟩ := h.bytes.block k
    obtain ⟨cur', e'⟩ := owns_block h.starts k'
    unfold Blk at e'; rw [e] at e'
    simp only [Option.some.injEq, Obj.cells.injEq] at e'
    exact absurd e'.2.1 (by decide)
  · rintro rfl
    obtain ⟨cur, e⟩ := owns_block h.starts k
    unfold Blk at e; rw [e] at hb
    simp only [Option.some.injEq, Obj.cells.injEq] at hb
    exact absurd hb.2.1 (by decide)

def IsLog (w : World) (p : Nat) (S : Nat → Prop) (l : LG) : Prop := ∃ bv sv, LogAt w p bv sv l ∧ (∀ k, lhas p bv sv k → S k) ∧ ∀ k, S k → k < w.heap.size

theorem IsLog.same {w w' : World} {p : Nat} {S : Nat → Prop} {l : LG} (h : IsLog w p S l) (e : ∀ k, S k → w'.heap[k]? = w.heap[k]?) (hs : w.heap.size ≤ w'.heap.size) : IsLog w' p S l := by
  obtain ⟨bv, sv, hd, h1, h2⟩ := h
  exact ⟨bv, sv, hd.same fun k hk => e k (h1 k hk), h1, fun k hk => Nat.lt_of_lt_of_le (h2 k hk) hs⟩

theorem IsLog.lt {w : World} {p : Nat} {S : Nat → Prop} {l : LG} (h : IsLog w p S l) {k : Nat} (hk : S k) : k < w.heap.size := by
  obtain ⟨_, _, _, _, h2⟩ := h
  exact h2 k hk

theorem IsLog.below {w w' : World} {p : Nat} {S : Nat → Prop} {l : LG} (h : IsLog w p S l) (k : Below w.heap.size w w') : IsLog w' p S l :=
  h.same (fun i hi => k.block i (h.lt hi)) k.size

theorem IsLog.beside {w w' : World} {p : Nat} {S D D' : Nat → Prop} {l : LG} (h : IsLog w p S l) (hm : Moves D D' w w') (ha : ∀ k, S k → ¬ D k) : IsLog w' p S l ∧ ∀ k, S k → ¬ D' k :=
  ⟨h.same (fun k hk => hm.1.block k (h.lt hk) (ha k hk)) hm.1.size, fun k hk => (hm.off (h.lt hk) (ha k hk)).2⟩

theorem IsDisk.lt {w : World} {p : Nat} {S : Nat → Prop} {d : DG} (h : IsDisk w p S d) {k : Nat} (hk : S k) : k < w.heap.size := by
  obtain ⟨_, _, _, h2⟩ := h
  exact h2 k hk

theorem IsDisk.beside {w w' : World} {p : Nat} {S D D' : Nat → Prop} {d : DG} (h : IsDisk w p S d) (hm : Moves D D' w w') (ha : ∀ k, S k → ¬ D k) : IsDisk w' p S d ∧ ∀ k, S k → ¬ D' k :=
  ⟨h.same (fun k hk => hm.1.block k (h.lt hk) (ha k hk)) hm.1.size, fun k hk => (hm.off (h.lt hk) (ha k hk)).2⟩

theorem owns_slice {w : World} {e : TypeId} {z n : Nat} {v : Value} {xs : List Value} (h : w.ownsRow 0 e z v n xs) : ∃ a c, v = .slice a n c := by
  rcases h.2 with ⟨e1, e2⟩ | ⟨g, cap, cur, e1, _⟩
  · exact ⟨none, 0, by rw [e1, e2]⟩
  · exact ⟨_, _, e1⟩

section
variable {w : World} {p : Nat} {S : Nat → Prop} {l : LG}

theorem room_out (h : IsLog w p S l) (hl : l.bytes.length ≤ 4194304) :
    Calls Tryz.prog 29 #[.pointer (some ⟨p, 0, none⟩)] w fun e w' => e = .returned (.int .i64 ((4194304 : Int) - (l.bytes.length : Int))) ∧ w' = w := by
  obtain ⟨bv, sv, hL, _⟩ := h
  have c1 := hL.cells.c1
  obtain ⟨a, c, rfl⟩ := hL.bytes.slice
  clear hL
  go_enter Tryz.func29, Tryz.ntmps29
  go_wp2
  go_ret
  exact ⟨rfl, rfl⟩

theorem end_out (h : IsLog w p S l) (hl : l.bytes.length ≤ 4194304) :
    Calls Tryz.prog 10 #[.pointer (some ⟨p, 0, none⟩)] w fun e w' => e = .returned (.int .u64 ((l.bytes.length + 1 : Nat) : Int)) ∧ w' = w := by
  obtain ⟨bv, sv, hL, _⟩ := h
  have c1 := hL.cells.c1
  obtain ⟨a, c, rfl⟩ := hL.bytes.slice
  clear hL
  go_enter Tryz.func10, Tryz.ntmps10
  go_wp2_with fail
  refine (lsn_any l.bytes.length _ (by omega)).mono ?_
  rintro e w1 ⟨rfl, rfl⟩
  go_wp2
  go_ret
  exact ⟨rfl, rfl⟩

theorem flushed_out (h : IsLog w p S l) (hl : l.flushed ≤ 4194304) :
    Calls Tryz.prog 49 #[.pointer (some ⟨p, 0, none⟩)] w fun e w' => e = .returned (.int .u64 ((l.flushed + 1 : Nat) : Int)) ∧ w' = w := by
  obtain ⟨bv, sv, hL, _⟩ := h
  have c3 := hL.cells.c3
  clear hL
  go_enter Tryz.func49, Tryz.ntmps49
  go_wp2_with fail
  refine (lsn_any l.flushed _ (by omega)).mono ?_
  rintro e w1 ⟨rfl, rfl⟩
  go_wp2
  go_ret
  exact ⟨rfl, rfl⟩

end

end Go.Proofs.YtchjboijoebifaaGreat
