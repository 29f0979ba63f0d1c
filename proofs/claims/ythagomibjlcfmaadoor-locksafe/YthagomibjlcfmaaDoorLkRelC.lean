/-
  The walk of Release.
-/
import Derived.Test.YthagomibjlcfmaaDoorLkGrant3C
import Derived.Laws.OwnMore
namespace Go.Proofs.YthagomibjlcfmaaDoor
open Go.RowKit
set_option linter.unusedVariables false
set_option linter.unusedSimpArgs false

/-- A table from the queues of some locks of which one was taken. -/
def outT (T : Tab) (tx : Int) (NL : List NameV) : Tab := NL.foldl (fun T n => T.setQ n (withF (T.Q n) (tx, 0, 0, false))) T

theorem outT_snoc (T : Tab) (tx : Int) (NL : List NameV) (n : NameV) : outT T tx (NL ++ [n]) = (outT T tx NL).setQ n (withF ((outT T tx NL).Q n) (tx, 0, 0, false)) := by
  unfold outT; rw [List.foldl_append]; rfl

theorem setQ_other (T : Tab) {n n' : NameV} (L : List Pl) (h : n' ≠ n) : (T.setQ n L).Q n' = T.Q n' := by simp [Tab.setQ, h]
theorem setQ_same (T : Tab) (n : NameV) (L : List Pl) : (T.setQ n L).Q n = L := by simp [Tab.setQ]
theorem setQ_z (T : Tab) (n : NameV) (L : List Pl) : (T.setQ n L).z ≤ T.z + 1 := by
  unfold Tab.setQ
  simp only
  split <;> split <;> omega

theorem outT_Q (T : Tab) (tx : Int) (NL : List NameV) (n : NameV) (h : n ∉ NL) : (outT T tx NL).Q n = T.Q n := by
  induction NL generalizing T with
  | nil => rfl
  | cons m NL ih =>
    have h1 : n ≠ m := fun e => h (by simp [e])
    have h2 : n ∉ NL := fun e => h (by simp [e])
    show (outT (T.setQ m _) tx NL).Q n = _
    rw [ih _ h2, setQ_other _ _ h1]

theorem outT_Q_mem (T : Tab) (tx : Int) (NL : List NameV) (n : NameV) (h : n ∈ NL) (hd : NL.Nodup) : (outT T tx NL).Q n = withF (T.Q n) (tx, 0, 0, false) := by
  induction NL generalizing T with
  | nil => cases h
  | cons m NL ih =>
    rw [List.nodup_cons] at hd
    by_cases e : n = m
    · subst e
      show (outT (T.setQ n _) tx NL).Q n = _
      rw [outT_Q _ _ _ _ hd.1, setQ_same]
    · show (outT (T.setQ m _) tx NL).Q n = _
      rw [ih _ (by simpa [e] using h) hd.2, setQ_other _ _ e]

theorem outT_z (T : Tab) (tx : Int) (NL : List NameV) : (outT T tx NL).z ≤ T.z + NL.length := by
  induction NL generalizing T with
  | nil => exact Nat.le_refl _
  | cons m NL ih =>
    have := ih (T.setQ m (withF (T.Q m) (tx, 0, 0, false)))
    have := setQ_z T m (withF (T.Q m) (tx, 0, 0, false))
    show (outT (T.setQ m _) tx NL).z ≤ _
    simp only [List.length_cons]
    omega

theorem withF_out_len (L : List Pl) (tx : Int) : (withF L (tx, 0, 0, false)).length ≤ L.length := by
  unfold withF
  rw [if_pos ⟨rfl, rfl⟩]
  exact List.length_eraseIdx_le _ _

theorem withF_out_mem {L : List Pl} {tx : Int} {p : Pl} (h : p ∈ withF L (tx, 0, 0, false)) : p ∈ L := by
  unfold withF at h
  rw [if_pos ⟨rfl, rfl⟩] at h
  exact List.mem_of_mem_eraseIdx h

/-- The locks NL are granted, one behind the other: who goes on, and the table behind. -/
def RelR : List NameV → Tab → List Int → Tab → Prop
  | [], T, zs, T' => zs = [] ∧ T' = T
  | n :: NL, T, zs, T' => ∃ k zs', GrantR (T.Q n) k ∧ zs = whoF (T.Q n) k ++ zs' ∧ RelR NL ((T.delWs (whoF (T.Q n) k)).setQ n (stateL (T.Q n) (waitF (T.Q n)) k)) zs' T'

theorem RelR_snoc {NL : List NameV} {T T' : Tab} {zs : List Int} {n : NameV} {k : Nat} (h : RelR NL T zs T') (hg : GrantR (T'.Q n) k) : RelR (NL ++ [n]) T (zs ++ whoF (T'.Q n) k) ((T'.delWs (whoF (T'.Q n) k)).setQ n (stateL (T'.Q n) (waitF (T'.Q n)) k)) := by
  induction NL generalizing T zs with
  | nil =>
    obtain ⟨rfl, rfl⟩ := h
    exact ⟨k, [], hg, by simp, rfl, rfl⟩
  | cons m NL ih =>
    obtain ⟨k', zs', h1, rfl, h2⟩ := h
    exact ⟨k', zs' ++ whoF (T'.Q n) k, h1, by simp, ih h2⟩

theorem RelR_Q {NL : List NameV} {T T' : Tab} {zs : List Int} (h : RelR NL T zs T') {n : NameV} (hn : n ∉ NL) : T'.Q n = T.Q n := by
  induction NL generalizing T zs with
  | nil => obtain ⟨_, rfl⟩ := h; rfl
  | cons m NL ih =>
    obtain ⟨k', zs', h1, rfl, h2⟩ := h
    have e1 : n ≠ m := fun e => hn (by simp [e])
    rw [ih h2 (fun e => hn (by simp [e])), setQ_other _ _ e1]
    rfl

theorem RelR_z {NL : List NameV} {T T' : Tab} {zs : List Int} (h : RelR NL T zs T') : T'.z ≤ T.z + NL.length := by
  induction NL generalizing T zs with
  | nil => obtain ⟨_, rfl⟩ := h; exact Nat.le_refl _
  | cons m NL ih =>
    obtain ⟨k', zs', h1, rfl, h2⟩ := h
    have := ih h2
    have := setQ_z (T.delWs (whoF (T.Q m) k')) m (stateL (T.Q m) (waitF (T.Q m)) k')
    have e : (T.delWs (whoF (T.Q m) k')).z = T.z := rfl
    simp only [List.length_cons]
    omega

theorem not_mem_take {α : Type} {L : List α} {j : Nat} (hd : L.Nodup) (hj : j < L.length) : L[j] ∉ L.take j := by
  intro x
  have h := (List.nodup_append.1 (show (L.take j ++ L.drop j).Nodup by rw [List.take_append_drop]; exact hd)).2.2
  exact h _ x L[j] (by rw [List.drop_eq_getElem_cons hj]; exact List.mem_cons_self) rfl

/-- append of one list of numbers to another. -/
theorem run_append_ints {B B' : Nat} {w : World} {v v' : Value} {xs ys : List Int} (h : IntsAt B w v xs) (h' : IntsAt B' w v' ys) (hl : xs.length + ys.length ≤ 1000000000) (hB : B ≤ w.heap.size) (ty : TypeId) :
    ∃ v'' w', (Builtin.append_ #[38, 38] ty #[v, v']).run Tryd.prog w = .ok v'' w' ∧ IntsAt B w' v'' (xs ++ ys) ∧ w.grownBy w' v.ownBlock ∧ (v''.ownBlock = v.ownBlock ∨ v''.ownBlock = some w.heap.size) := by
  obtain ⟨i0, hi, hzz⟩ := Option.map_eq_some_iff.1 infoInt
  simp only [Prod.mk.injEq] at hzz
  obtain ⟨hz0, hz1, hz2⟩ := hzz
  rcases h'.2 with ⟨rfl, hn⟩ | ⟨g, cap, cur, rfl, hb0, hb, hn, hm, hs, ht⟩
  · have : ys = [] := List.eq_nil_of_length_eq_zero hn
    subst this
    refine ⟨v, w, run_append_owned_none (P := Tryd.prog) w B 38 ty 3 i0 1 Tryd.underlying38 hi v xs.length (xs.map (Value.int .i64)) h, by rw [List.append_nil]; exact h, ⟨rfl, rfl, rfl, Nat.le_refl _, fun _ _ _ => rfl⟩, .inl rfl⟩
  · have hc : ∀ j u, (ys.map (Value.int .i64))[j]? = some u → w.cell? ((⟨g, 0, none⟩ : Addr).add j) = some u := World.ownsRow.cells (g := g) h' rfl
    obtain ⟨v'', w', hr, ho, hg, _, hat⟩ := run_append_own_at (P := Tryd.prog) w B 38 ty 3 i0 (.int .i64 0) 1 8 Tryd.underlying38 hi hz0 hz1 hz2 rfl (by decide) v xs.length (xs.map (Value.int .i64)) h ⟨g, 0, none⟩ ys.length cap (ys.map (Value.int .i64)) (by simp) hc (by intro u hu; simp at hu; obtain ⟨x, _, rfl⟩ := hu; rfl) (by unfold maxLen; omega) (by omega) hB
    refine ⟨v'', w', hr, ?_, hg, hat⟩
    unfold IntsAt
    rw [List.length_append, List.map_append]
    exact ho

theorem wpList_append_ints {B B' : Nat} (w : World) {ops : Array Oper} {rest : List Oper} {o : Oper} {a : Act} {Q : Exit → Act → World → Prop} (hgd : o.guard = none) (s x : Operand) (ho : o.op = .call { callee := .builtin .append, args := #[s, x], argTypes := #[38, 38] })
    (v v' : Value) (xs ys : List Int) (hs : a.eval s = v) (hx : a.eval x = v') (h1 : IntsAt B w v xs) (h2 : IntsAt B' w v' ys) (hl : xs.length + ys.length ≤ 1000000000) (hB : B ≤ w.heap.size)
    (h : ∀ v'' w', IntsAt B w' v'' (xs ++ ys) → w.grownBy w' v.ownBlock → (v''.ownBlock = v.ownBlock ∨ v''.ownBlock = some w.heap.size) → wpList Tryd.prog ops Q rest (a.put o.dst v'') w') : wpList Tryd.prog ops Q (o :: rest) a w := by
  refine wpList_plain hgd fun K hK => ?_
  obtain ⟨v'', w', hr, r2, r3, r5⟩ := run_append_ints h1 h2 hl hB o.type
  unfold Oper.wp execOp
  simp only [ho, resolve, invoke, builtin, Sem.run_bind, Sem.run_pure, Result.andThen_ok, List.map_toArray, List.map_cons, List.map_nil, hs, hx, hr]
  exact hK _ _ (h v'' w' r2 r3 r5)

/-- One is told of a lock's queue, and the queue is laid. -/
theorem with_lay2 {S : Nat → Prop} {w : World} {b bq bw : Nat} {DQ DW : DataW Value} {T : Tab} {n : NameV} {l : Lit} (hn : NKey n l) (h : TabX noEx S w b bq bw DQ DW T) (p : Pl) (hz : T.z ≤ 1000000) (hL : (T.Q n).length < 1000000) :
    Calls Tryd.prog 20 #[getV DQ l nilS, pval p] w fun e w2 => ∃ v2, e = .returned v2 ∧ KeptL S w w2 ∧ w2.cell? ⟨b, 0, none⟩ = some (.map (some bq)) ∧
      Hid (Calls Tryd.prog 19 #[.pointer (some ⟨b, 0, none⟩), nval n, v2] w2 fun e w4 => e = .returned (.tuple #[]) ∧ w4.cell? ⟨b, 0, none⟩ = some (.map (some bq)) ∧ ∃ S', IsTab S' w4 b (T.setQ n (withF (T.Q n) p)) ∧ MovesL S S' w w4) := by
  refine (with_any (h.valq n l hn (fun x => x)) p (by omega)).mono ?_
  rintro e w2 ⟨v2, rfl, h2, st⟩
  have k2 : KeptL S w w2 := KeptL.of_grown st.grown fun g e => (h.rows n l g hn e).1
  have t3 := h.touch hn st.grown
  refine ⟨v2, rfl, k2, t3.c0, ?_⟩
  have hloc : v2.ownBlock = (getV DQ l nilS).ownBlock ∨ ∃ z, v2.ownBlock = some z ∧ ¬ S z := by
    rcases st.at' with e | ⟨z, e, hz'⟩
    · exact .inl e
    · exact .inr ⟨z, e, fun x => by have := h.lt z x; omega⟩
  refine (lay_any hn t3 h2 hloc hz (by have := withF_len (T.Q n) p; omega)).mono ?_
  rintro e w4 ⟨rfl, ht, hk⟩
  refine ⟨rfl, (World.cell?_of_block (w := w2) (w' := w4) (a := ⟨b, 0, none⟩) (hk.block b (t3.lt b t3.sb) h.ne.1)).trans t3.c0, _, ht, k2.trans (hk.mono fun x e => e ▸ h.sq), ?_⟩
  intro k hk'
  rcases hk' with hk' | hk'
  · exact .inl hk'
  · rcases st.at' with e | ⟨z, e, hz'⟩
    · exact .inl (h.rows n l k hn (e ▸ hk')).1
    · obtain rfl : z = k := Option.some.inj (e.symm.trans hk')
      exact .inr hz'

end Go.Proofs.YthagomibjlcfmaaDoor
