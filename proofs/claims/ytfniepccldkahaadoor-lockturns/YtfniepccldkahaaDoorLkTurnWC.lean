/-
  Where LockTurns stands, and the calls that it makes.
-/
import Derived.Test.YtfniepccldkahaaDoorLkTurnTC
import Derived.Test.YtfniepccldkahaaDoorLkHasC
import Derived.Test.YtfniepccldkahaaDoorLkAwakeC
import Derived.Test.YtfniepccldkahaaDoorLkSort1C
namespace Go.Proofs.YtfniepccldkahaaDoor
open Go.RowKit
set_option linter.unusedVariables false
set_option linter.unusedSimpArgs false

theorem NSorts.mono {m m' : Nat} (h : NSorts m) (hm : m' ≤ m) : NSorts m' := fun B NL w v hl hn => h B NL w v (by omega) hn

/-- The table, the name and the list of modes, in memory. -/
structure TuAt (w wr : World) (b : Nat) (S : Nat → Prop) (T : Tab) (nb : Nat) (o7 : Value) (M : List Int) : Prop where
  bel : Below w.heap.size w wr
  laid : 2 ≤ w.heap.size
  tab : IsTab S wr b T
  soff : ∀ k, S k → w.heap.size ≤ k
  nbx : wr.heap[nb]? = some (.cells #[.int .i64 2, .int .i64 1, .int .u32 0, .int .i64 0] 42)
  nbl : w.heap.size ≤ nb
  nbs : ¬ S nb
  ord : IntsAt w.heap.size wr o7 M
  ooff : ∀ g, o7.ownBlock = some g → ¬ S g

section
variable {w wr wx : World} {b nb : Nat} {S S' : Nat → Prop} {T T' : Tab} {o7 : Value} {M : List Int}

theorem TuAt.lt (h : TuAt w wr b S T nb o7 M) : nb < wr.heap.size := (Array.getElem?_eq_some_iff.1 h.nbx).1

theorem TuAt.below (h : TuAt w wr b S T nb o7 M) (k : Below wr.heap.size wr wx) : TuAt w wx b S T nb o7 M :=
  ⟨h.bel.trans (k.mono h.bel.size), h.laid, h.tab.below k, h.soff, (k.block nb h.lt).trans h.nbx, h.nbl, h.nbs, h.ord.below k, h.ooff⟩

theorem TuAt.move (h : TuAt w wr b S T nb o7 M) (m : MovesL S S' wr wx) (ht : IsTab S' wx b T') : TuAt w wx b S' T' nb o7 M := by
  have hb := m.below h.soff h.bel h.bel.size
  exact ⟨hb.1, h.laid, ht, hb.2, (m.off h.lt h.nbs).1.trans h.nbx, h.nbl, (m.off h.lt h.nbs).2, h.ord.same fun g hg => (m.off (h.ord.lt g hg).2 (h.ooff g hg)).1, fun g hg => (m.off (h.ord.lt g hg).2 (h.ooff g hg)).2⟩

theorem TuAt.cells (h : TuAt w wr b S T nb o7 M) : wr.cell? ⟨nb, 0, none⟩ = some (.int .i64 2) ∧ wr.cell? ⟨nb, 1, none⟩ = some (.int .i64 1) ∧ wr.cell? ⟨nb, 2, none⟩ = some (.int .u32 0) ∧ wr.cell? ⟨nb, 3, none⟩ = some (.int .i64 0) :=
  ⟨by simp [World.cell?, h.nbx], by simp [World.cell?, h.nbx], by simp [World.cell?, h.nbx], by simp [World.cell?, h.nbx]⟩

theorem TuAt.s01 (h : TuAt w wr b S T nb o7 M) : ¬ S 0 ∧ ¬ S 1 := ⟨fun x => by have := h.soff 0 x; have := h.laid; omega, fun x => by have := h.soff 1 x; have := h.laid; omega⟩

theorem TuAt.kept (h : TuAt w wr b S T nb o7 M) (hl : LkLaid w) : LkLaid wr := hl.below hl.lt h.bel

/-- Has. -/
theorem TuAt.has (h : TuAt w wr b S T nb o7 M) {Hs : List Nat} {nx : Nat} (ts : TS T M Hs nx) (t : Nat) :
    Calls Tryd.prog 26 #[.pointer (some ⟨b, 0, none⟩), .int .i64 ((t : Int) + 2), .agg #[.int .i64 2, .int .i64 1, .int .u32 0, .int .i64 0]] wr fun e w' => e = .returned (.int .i64 (if t ∈ Hs then M.getD t 0 else 0)) ∧ Below wr.heap.size wr w' := by
  obtain ⟨l, hl⟩ := nokT
  have := has_any h.tab ((t : Int) + 2) nT l hl
  rw [ts.q, QS_has ts.hs] at this
  exact this

/-- Waits. -/
theorem TuAt.waits (h : TuAt w wr b S T nb o7 M) {Hs : List Nat} {nx : Nat} (ts : TS T M Hs nx) (hn : nx < M.length) (hM : M.length ≤ 12) :
    Calls Tryd.prog 23 #[.pointer (some ⟨b, 0, none⟩), .int .i64 ((nx : Int) + 2)] wr fun e w' => e = .returned (.bool true) ∧ Below wr.heap.size wr w' := by
  have := waits_any h.tab ((nx : Int) + 2) ⟨by omega, by omega⟩
  rw [ts.w nx (Nat.le_refl _) hn] at this
  exact this

theorem QS_r64 {M : List Int} {Hs : List Nat} {nx : Nat} (hM : M.length ≤ 12) (hh : ∀ i ∈ Hs, i < nx) (hn : nx ≤ M.length) : ∀ p ∈ QS M Hs nx, i64R p.1 := by
  intro p hp
  unfold QS at hp
  rcases List.mem_append.1 hp with x | x
  · obtain ⟨i, hi, rfl⟩ := List.mem_map.1 x
    have := hh i hi
    show i64R ((i : Int) + 2)
    exact ⟨by omega, by omega⟩
  · obtain ⟨i, hi, rfl⟩ := List.mem_map.1 x
    rw [List.mem_range'_1] at hi
    show i64R ((i : Int) + 2)
    exact ⟨by omega, by omega⟩

theorem nodup_len {L : List Nat} {n : Nat} (hd : L.Nodup) (h : ∀ i ∈ L, i < n) : L.length ≤ n := by
  induction n generalizing L with
  | zero =>
    cases L with
    | nil => exact Nat.le_refl _
    | cons a L => have := h a (by simp); omega
  | succ n ih =>
    by_cases hn : n ∈ L
    · have h1 := ih (L := L.erase n) (hd.erase n) (fun i hi => by
        have := (List.Nodup.mem_erase_iff hd).1 hi
        have := h i this.2
        omega)
      rw [List.length_erase_of_mem hn] at h1
      omega
    · have := ih hd (fun i hi => by
        have := h i hi
        rcases Nat.lt_or_ge i n with x | x
        · exact x
        · obtain rfl : i = n := by omega
          exact absurd hi hn)
      omega

theorem QS_len {M : List Int} {Hs : List Nat} {nx : Nat} (hd : Hs.Nodup) (hh : ∀ i ∈ Hs, i < nx) (hn : nx ≤ M.length) : (QS M Hs nx).length ≤ M.length := by
  have := nodup_len hd hh
  unfold QS
  simp
  omega

/-- What Release leaves here. -/
def TuRel (w wr wx : World) (b nb : Nat) (o7 : Value) (M : List Int) (Hs : List Nat) (nx : Nat) (v : Value) : Prop :=
  ∃ S' T' k, k ≤ M.length - nx ∧ TuAt w wx b S' T' nb o7 M ∧ TS T' M (Hs ++ List.range' nx k) (nx + k) ∧ IntsAt w.heap.size wx v ((List.range' nx k).map fun (i : Nat) => (i : Int) + 2) ∧ ∀ g, v.ownBlock = some g → ¬ S' g

/-- Release of one that has the lock. -/
theorem TuAt.rel (h : TuAt w wr b S T nb o7 M) (hl : LkLaid w) {A B : List Nat} {t nx : Nat} (ts : TS T M (A ++ t :: B) nx) (hM : M.length ≤ 12) (hM0 : ∀ x ∈ M, x ≠ 0) :
    Calls Tryd.prog 20 #[.pointer (some ⟨b, 0, none⟩), .int .i64 ((t : Int) + 2)] wr fun e w' => ∃ v, e = .returned v ∧ TuRel w wr w' b nb o7 M (A ++ B) nx v := by
  have ht := ts.hs t (by simp)
  have hle := ts.le
  have hz : T.z ≤ 1 := by rw [ts.z]; split <;> omega
  have hQ : ∀ n, n = nT ∨ T.Q n = [] := fun n => by by_cases e : n = nT; exact .inl e; exact .inr (ts.o n e)
  refine (release_any (h.kept hl) h.tab ((t : Int) + 2) ⟨by omega, by omega⟩ (by omega) (fun n => ?_) (fun n p hp => ?_) h.s01 (nsorts_one.mono hz)).mono ?_
  · rcases hQ n with rfl | e
    · rw [ts.q]; have := QS_len ts.nd ts.hs ts.le; omega
    · rw [e]; simp
  · rcases hQ n with rfl | e
    · rw [ts.q] at hp; exact QS_r64 hM ts.hs ts.le p hp
    · rw [e] at hp; cases hp
  · rintro e w' ⟨v, rfl, S', NL, zs, T', hN, hR, hi, hT, hm, ho⟩
    obtain ⟨k, hk, rfl, ts'⟩ := ts.rel hM0 hN hR
    refine ⟨v, rfl, S', T', k, hk, h.move hm hT, ts', ?_, ho⟩
    refine ⟨hi.1, ?_⟩
    rcases hi.2 with x | ⟨g, cap, cur, e, hB, r⟩
    · exact .inl x
    · exact .inr ⟨g, cap, cur, e, by have := h.bel.size; omega, r⟩

/-- Release of the first one. -/
theorem TuAt.rel1 (h : TuAt w wr b S T nb o7 M) (hl : LkLaid w) (ta : TA T M) (hM : M.length ≤ 12) (hM0 : ∀ x ∈ M, x ≠ 0) :
    Calls Tryd.prog 20 #[.pointer (some ⟨b, 0, none⟩), .int .i64 1] wr fun e w' => ∃ v, e = .returned v ∧ TuRel w wr w' b nb o7 M [] 0 v := by
  have hz : T.z ≤ 1 := by rw [ta.z]; split <;> omega
  have hQ : ∀ n, n = nT ∨ T.Q n = [] := fun n => by by_cases e : n = nT; exact .inl e; exact .inr (ta.o n e)
  refine (release_any (h.kept hl) h.tab 1 ⟨by omega, by omega⟩ (by omega) (fun n => ?_) (fun n p hp => ?_) h.s01 (nsorts_one.mono hz)).mono ?_
  · rcases hQ n with rfl | e
    · rw [ta.q]; have := QS_len (M := M) (Hs := []) (nx := 0) (by simp) (by simp) (by omega); simp; omega
    · rw [e]; simp
  · rcases hQ n with rfl | e
    · rw [ta.q] at hp
      rcases List.mem_cons.1 hp with rfl | x
      · exact ⟨by decide, by decide⟩
      · exact QS_r64 hM (by simp) (by omega) p x
    · rw [e] at hp; cases hp
  · rintro e w' ⟨v, rfl, S', NL, zs, T', hN, hR, hi, hT, hm, ho⟩
    obtain ⟨k, hk, rfl, ts'⟩ := ta.rel hM0 hN hR
    refine ⟨v, rfl, S', T', k, by omega, h.move hm hT, by simpa using ts', ?_, ho⟩
    refine ⟨hi.1, ?_⟩
    rcases hi.2 with x | ⟨g, cap, cur, e, hB, r⟩
    · exact .inl x
    · exact .inr ⟨g, cap, cur, e, by have := h.bel.size; omega, r⟩

/-- One more asks. -/
theorem TuAt.ask (h : TuAt w wr b S T nb o7 M) (hl : LkLaid w) (ta : TA T M) (hM : M.length ≤ 12) {m : Int} (hm : modB m = true) :
    Calls Tryd.prog 22 #[.pointer (some ⟨b, 0, none⟩), .int .i64 ((M.length : Int) + 2), .agg #[.int .i64 2, .int .i64 1, .int .u32 0, .int .i64 0], .int .i64 m, .bool false, .bool true] wr fun e w' => e = .returned (.tuple #[.bool false, .int .i64 0]) ∧ ∃ S' T', TuAt w w' b S' T' nb o7 M ∧ TA T' (M ++ [m]) := by
  obtain ⟨l, hn⟩ := nokT
  obtain ⟨h1, h2, h3, h4, h5, h6⟩ := ta.ask hm
  have hlen : (T.Q nT).length ≤ 13 := by rw [ta.q]; have := QS_len (M := M) (Hs := []) (nx := 0) (by simp) (by simp) (by omega); simp; omega
  have hz : T.z ≤ 1 := by rw [ta.z]; split <;> omega
  have key := ask_wait (h.kept hl) h.tab ((M.length : Int) + 2) nT l hn m false true (by omega) ⟨by omega, by omega⟩ hm (ta.no _ (Int.le_refl _)) (by omega) (by omega) (by rw [h1]; show joinF 0 m ≠ 0; rw [h2]; exact h3) (fun _ => h4) (by rw [h1]; show joinF 0 m ≠ 0; rw [h2]; exact h3) (by rw [h1]; show blkF (T.Q nT) ((M.length : Int) + 2, 0, joinF 0 m, false) ≠ []; rw [h2]; exact h5) trivial rfl (by have := ta.y; omega)
  refine key.mono ?_
  rintro e w' ⟨rfl, S', hT, hmv⟩
  refine ⟨rfl, S', _, h.move hmv hT, ?_⟩
  rw [h1]
  show TA ((T.setQ nT (withF (T.Q nT) ((M.length : Int) + 2, 0, joinF 0 m, false))).setW ((M.length : Int) + 2) nT) (M ++ [m])
  rw [h2]
  exact h6
end

end Go.Proofs.YtfniepccldkahaaDoor
