/-
  The chains of a whole log, read from its first record: the last place of each transaction, and what was taken back; plain data.
  The two maps of a reader of the whole log: the last places by number, what was taken back by number and place.
  The two maps of a reader of the whole log, as they stand: look-ups and stores.
  What the reader of the whole log meets: each record by its place, decoded.
  Where girderlaw09.TxnChains stands: the argument's row, the two maps, the log that is read.
  The walk of girderlaw09.TxnChains.
  Proved: for any list of acts the call TxnChains(acts) returns true, and the argument reads afterwards as it read before. No condition.
-/
import Derived.Test.YtjemeopafkafgaaGreatTxNoJ
import Derived.Test.YtjemeopafkafgaaGreatPoolReadJ
import Derived.DeepKeys4
import Derived.Maps.OwnSet
import Derived.Test.YtjemeopafkafgaaGreatTxOneFJ
import Derived.Test.YtjemeopafkafgaaGreatTxNewJ
import Derived.Test.YtjemeopafkafgaaGreatRowOpsJ
import Derived.Deep.RegionHeld3
import Derived.BigQuiet
import Derived.Test.YtjemeopafkafgaaGreatRows
import Derived.ProofKit
import Derived.OpenShut
import Derived.Deep.Slices
import Derived.Deep.Strs
import Derived.Lib.SmallJoins
import Derived.ShutString
import Derived.ChangeOld
import Derived.SizedLaws
import Derived.ChangeSlices
namespace Go.Proofs.YtjemeopafkafgaaGreat
open Go.RowKit Go.Sort
set_option linter.unusedVariables false
set_option linter.unusedSimpArgs false

/-- What the reader keeps. -/
structure ChS where
  last : Int → Nat
  und : Int → Nat → Bool

def ch0 : ChS := ⟨fun _ => 0, fun _ _ => false⟩
def ChS.pass (s : ChS) (r : RecV) : Prop := r.prev = s.last r.tx ∧ (r.kind = 2 → s.und r.tx r.next = false)
def ChS.after (s : ChS) (at' : Nat) (r : RecV) : ChS :=
  ⟨fun k => if k = r.tx then at' else s.last k, fun k q => if k = r.tx ∧ r.kind = 2 ∧ q = r.next then true else if k = r.tx ∧ r.kind = 1 ∧ q = r.prev then false else s.und k q⟩

def chAt (rs : List ByteArray) (R : Nat → RecV) : Nat → ChS
  | 0 => ch0
  | i + 1 => (chAt rs R i).after (placeOf rs i) (R i)

theorem chAt_snoc (rs : List ByteArray) (s : ByteArray) (R R' : Nat → RecV) (hR : ∀ i, i < rs.length → R' i = R i) : ∀ i, i ≤ rs.length → chAt (rs ++ [s]) R' i = chAt rs R i
  | 0, _ => rfl
  | i + 1, h => by
    show (chAt (rs ++ [s]) R' i).after (placeOf (rs ++ [s]) i) (R' i) = (chAt rs R i).after (placeOf rs i) (R i)
    rw [chAt_snoc rs s R R' hR i (by omega), placeOf_snoc rs s i (by omega), hR i (by omega)]

theorem chAt_lt (rs : List ByteArray) (R : Nat → RecV) : ∀ (i : Nat) (k : Int), (chAt rs R i).last k < placeOf rs i
  | 0, _ => by show 0 < 1; omega
  | i + 1, k => by
    have h := chAt_lt rs R i k
    show (if k = (R i).tx then placeOf rs i else (chAt rs R i).last k) < placeOf rs i + _
    split <;> omega

/-- What one transaction has, against what the reader keeps. -/
structure ChL (s : ChS) (n last : Nat) (L : List UpN) : Prop where
  lst : s.last n = last
  free : ∀ x ∈ L, s.und n x.r.prev = false ∧ x.r.prev < last
  down : L.Pairwise fun x y => y.r.prev < x.r.prev

/-- Each record passes; whoever is under way stands right; numbers that are to come have nothing. -/
structure ChH (nx : Nat) (rs : List ByteArray) (f : Fk) : Prop where
  ex : ∃ R : Nat → RecV, (∀ i, i < rs.length → rs.getD i ⟨#[]⟩ = ⟨(encR (R i)).toArray⟩ ∧ (∃ n : Nat, RecOk n (R i)) ∧ (chAt rs R i).pass (R i)) ∧ (∀ who n last L, f who = some (n, last, L) → ChL (chAt rs R rs.length) n last L) ∧ (∀ n : Nat, nx ≤ n → (chAt rs R rs.length).last n = 0)
  lt : ∀ who n last L, f who = some (n, last, L) → n < nx
  dist : ∀ who who' n last L last' L', f who = some (n, last, L) → f who' = some (n, last', L') → who = who'

theorem ChH.step {nx who n last : Nat} {rs : List ByteArray} {f : Fk} {L L' : List UpN} {l : LG} {r : RecV} (h : ChH nx rs (setK f who (some (n, last, L)))) (hR : RecsAt l rs) (ho : RecOk n r) (hp : r.prev = last)
    (hk : ∀ s, ChL s n last L → r.kind = 2 → s.und n r.next = false) (hL : ∀ s (at' : Nat), ChL s n last L → last < at' → ChL (s.after at' r) n at' L') :
    ChH nx (rs ++ [⟨(encR r).toArray⟩]) (setK f who (some (n, l.bytes.length + 1, L'))) := by
  obtain ⟨R, h1, h2, h3⟩ := h.ex
  have hown := h2 who n last L (setK_eq _ _ _)
  have hn := h.lt who n last L (setK_eq _ _ _)
  have htx := ho.tx
  have hlen := hR.long
  have hlast := chAt_lt rs R rs.length n
  rw [hown.lst] at hlast
  refine ⟨⟨fun i => if i = rs.length then r else R i, ?_, ?_, ?_⟩, ?_, ?_⟩
  · intro i hi
    have hc := chAt_snoc rs ⟨(encR r).toArray⟩ R (fun i => if i = rs.length then r else R i) (fun i hi => if_neg (by omega)) i (by simp at hi; omega)
    by_cases e : i = rs.length
    · subst e
      simp only [if_true] at hc ⊢
      rw [hc]
      refine ⟨getD_last _ _, ⟨n, ho⟩, ?_, fun hk2 => ?_⟩
      · rw [htx, hown.lst]; exact hp
      · rw [htx]; exact hk _ hown hk2
    · simp only [if_neg e] at hc ⊢
      rw [hc, List.getD_eq_getElem?_getD, List.getElem?_append_left (by simp at hi; omega), ← List.getD_eq_getElem?_getD]
      exact h1 i (by simp at hi; omega)
  all_goals
    have hlast' : chAt (rs ++ [⟨(encR r).toArray⟩]) (fun i => if i = rs.length then r else R i) (rs ++ [⟨(encR r).toArray⟩] : List ByteArray).length = (chAt rs R rs.length).after (l.bytes.length + 1) r := by
      rw [List.length_append, List.length_singleton]
      show (chAt _ _ rs.length).after (placeOf _ rs.length) (if rs.length = rs.length then r else _) = _
      rw [chAt_snoc rs ⟨(encR r).toArray⟩ R (fun i => if i = rs.length then r else R i) (fun i hi => if_neg (by omega)) rs.length (Nat.le_refl _), placeOf_snoc rs _ _ (Nat.le_refl _), if_pos rfl, ← hlen]
  · intro who' n' last' L'' hf
    rw [hlast']
    by_cases e : who' = who
    · subst e
      rw [setK_eq] at hf
      simp only [Option.some.injEq, Prod.mk.injEq] at hf
      obtain ⟨rfl, rfl, rfl⟩ := hf
      exact hL _ _ hown (by omega)
    · rw [setK_ne _ _ e] at hf
      have hf' : setK f who (some (n, last, L)) who' = some (n', last', L'') := by rw [setK_ne _ _ e]; exact hf
      have hne : (n' : Int) ≠ r.tx := by
        rw [htx]
        intro e2
        have e3 : n' = n := by omega
        subst e3
        exact e (h.dist who' who n' last' L'' last L hf' (setK_eq _ _ _))
      have hw := h2 who' n' last' L'' hf'
      refine ⟨?_, fun x hx => ?_, hw.down⟩
      · show (if (n' : Int) = r.tx then _ else _) = _
        rw [if_neg hne]; exact hw.lst
      · refine ⟨?_, (hw.free x hx).2⟩
        show (if (n' : Int) = r.tx ∧ _ then true else if (n' : Int) = r.tx ∧ _ then false else _) = false
        rw [if_neg (fun q => hne q.1), if_neg (fun q => hne q.1)]
        exact (hw.free x hx).1
  · intro k hk2
    rw [hlast']
    show (if (k : Int) = r.tx then _ else _) = _
    rw [if_neg (by rw [htx]; omega)]
    exact h3 k hk2
  · intro who' n' last' L'' hf
    by_cases e : who' = who
    · subst e
      rw [setK_eq] at hf
      simp only [Option.some.injEq, Prod.mk.injEq] at hf
      omega
    · rw [setK_ne _ _ e] at hf
      exact h.lt who' n' last' L'' (by rw [setK_ne _ _ e]; exact hf)
  · intro j k n' l1 L1 l2 L2 hj hk2
    have key : ∀ j l1 L1, setK f who (some (n, l.bytes.length + 1, L')) j = some (n', l1, L1) → ∃ l1 L1, setK f who (some (n, last, L)) j = some (n', l1, L1) := by
      intro j l1 L1 hj
      by_cases e : j = who
      · subst e
        rw [setK_eq] at hj
        simp only [Option.some.injEq, Prod.mk.injEq] at hj
        exact ⟨last, L, by rw [setK_eq, hj.1]⟩
      · rw [setK_ne _ _ e] at hj
        exact ⟨l1, L1, by rw [setK_ne _ _ e]; exact hj⟩
    obtain ⟨a1, A1, ha⟩ := key j l1 L1 hj
    obtain ⟨b1, B1, hb⟩ := key k l2 L2 hk2
    exact h.dist j k n' a1 A1 b1 B1 ha hb

theorem ChL.up {s : ChS} {n last at' : Nat} {L : List UpN} {x : UpN} (h : ChL s n last L) (ht : x.r.tx = n) (hk : x.r.kind = 1) (hp : x.r.prev = last) (hl : last < at') : ChL (s.after at' x.r) n at' (x :: L) := by
  refine ⟨?_, fun y hy => ?_, ?_⟩
  · show (if (n : Int) = x.r.tx then at' else _) = at'
    rw [if_pos ht.symm]
  · show (if (n : Int) = x.r.tx ∧ x.r.kind = 2 ∧ y.r.prev = x.r.next then true else if (n : Int) = x.r.tx ∧ x.r.kind = 1 ∧ y.r.prev = x.r.prev then false else s.und n y.r.prev) = false ∧ y.r.prev < at'
    rw [if_neg (fun q => by have := q.2.1; omega)]
    rcases List.mem_cons.1 hy with e | hy
    · exact ⟨by rw [if_pos ⟨ht.symm, hk, by rw [e]⟩], by rw [e]; omega⟩
    · have := h.free y hy
      refine ⟨?_, by omega⟩
      split
      · rfl
      · exact this.1
  · exact List.pairwise_cons.2 ⟨fun y hy => by have := (h.free y hy).2; omega, h.down⟩

theorem ChL.mark {s : ChS} {n last at' : Nat} {L : List UpN} {r : RecV} (h : ChL s n last L) (ht : r.tx = n) (hk : 2 < r.kind) (hl : last < at') : ChL (s.after at' r) n at' L := by
  refine ⟨?_, fun y hy => ?_, h.down⟩
  · show (if (n : Int) = r.tx then at' else _) = at'
    rw [if_pos ht.symm]
  · show (if (n : Int) = r.tx ∧ r.kind = 2 ∧ y.r.prev = r.next then true else if (n : Int) = r.tx ∧ r.kind = 1 ∧ y.r.prev = r.prev then false else s.und n y.r.prev) = false ∧ y.r.prev < at'
    rw [if_neg (fun q => by have := q.2.1; omega), if_neg (fun q => by have := q.2.1; omega)]
    have := h.free y hy
    exact ⟨this.1, by omega⟩

theorem ChL.comp {s : ChS} {n last at' : Nat} {xs : List UpN} {x : UpN} {r : RecV} (h : ChL s n last (x :: xs)) (ht : r.tx = n) (hk : r.kind = 2) (hx : r.next = x.r.prev) (hl : last < at') : ChL (s.after at' r) n at' xs := by
  obtain ⟨hd1, hd2⟩ := List.pairwise_cons.1 h.down
  refine ⟨?_, fun y hy => ?_, hd2⟩
  · show (if (n : Int) = r.tx then at' else _) = at'
    rw [if_pos ht.symm]
  · show (if (n : Int) = r.tx ∧ r.kind = 2 ∧ y.r.prev = r.next then true else if (n : Int) = r.tx ∧ r.kind = 1 ∧ y.r.prev = r.prev then false else s.und n y.r.prev) = false ∧ y.r.prev < at'
    have := h.free y (List.mem_cons_of_mem _ hy)
    rw [if_neg (fun q => by have := q.2.2; have := hd1 y hy; omega), if_neg (fun q => by have := q.2.1; omega)]
    exact ⟨this.1, by omega⟩

theorem ChL.drop {s : ChS} {n last : Nat} {K L : List UpN} (h : ChL s n last (K ++ L)) : ChL s n last L :=
  ⟨h.lst, fun x hx => h.free x (List.mem_append_right _ hx), (List.pairwise_append.1 h.down).2.1⟩

theorem ch_ok : HOk ChH where
  step nx f who n hn := {
    log := fun hR h hu hp hpl => h.step hR hu.ok hp (fun s hs hk => by have := hu.kind; omega) fun s at' hs hl => hs.up hu.ok.tx hu.kind hp hl
    comp := fun r hR h hu ho hk hp hx => h.step hR ho hp (fun s hs _ => by rw [hx]; exact (hs.free _ (List.mem_cons_self ..)).1) fun s at' hs hl => hs.comp ho.tx hk hx hl
    mark := fun r hR h ho hk hp => h.step hR ho hp (fun s hs hk2 => by omega) fun s at' hs hl => hs.mark ho.tx (by omega) hl
    top := fun r hR h ho hk hp => h.step hR ho hp (fun s hs hk2 => by omega) fun s at' hs hl => hs.drop.mark ho.tx (by omega) hl }
  born := fun {nx rs f who} h hf => by
    obtain ⟨R, h1, h2, h3⟩ := h.ex
    have old : ∀ k n last L, setK f who (some (nx, 0, [])) k = some (n, last, L) → (k = who ∧ n = nx ∧ last = 0 ∧ L = []) ∨ f k = some (n, last, L) := by
      intro k n last L hk
      by_cases e : k = who
      · subst e
        rw [setK_eq] at hk
        simp only [Option.some.injEq, Prod.mk.injEq] at hk
        exact .inl ⟨rfl, hk.1.symm, hk.2.1.symm, hk.2.2.symm⟩
      · rw [setK_ne _ _ e] at hk; exact .inr hk
    refine ⟨⟨R, h1, fun k n last L hk => ?_, fun n hn => h3 n (by omega)⟩, fun k n last L hk => ?_, fun j k n l1 L1 l2 L2 hj hk => ?_⟩
    · rcases old k n last L hk with ⟨rfl, rfl, rfl, rfl⟩ | hk
      · exact ⟨h3 _ (Nat.le_refl _), fun x hx => by simp at hx, List.Pairwise.nil⟩
      · exact h2 k n last L hk
    · rcases old k n last L hk with ⟨rfl, rfl, rfl, rfl⟩ | hk
      · omega
      · have := h.lt k n last L hk; omega
    · rcases old j n l1 L1 hj with ⟨e1, e, -, -⟩ | hj' <;> rcases old k n l2 L2 hk with ⟨e2, e', -, -⟩ | hk'
      · rw [e1, e2]
      · have := h.lt k _ _ _ hk'; omega
      · have := h.lt j _ _ _ hj'; omega
      · exact h.dist j k n l1 L1 l2 L2 hj' hk'
  gone := fun {nx rs f who n last L} h => by
    obtain ⟨R, h1, h2, h3⟩ := h.ex
    have old : ∀ k n' last' L', setK f who none k = some (n', last', L') → setK f who (some (n, last, L)) k = some (n', last', L') := by
      intro k n' last' L' hk
      by_cases e : k = who
      · subst e; rw [setK_eq] at hk; simp at hk
      · rw [setK_ne _ _ e] at hk; rw [setK_ne _ _ e]; exact hk
    exact ⟨⟨R, h1, fun k n' last' L' hk => h2 k n' last' L' (old k n' last' L' hk), h3⟩, fun k n' last' L' hk => h.lt k n' last' L' (old k n' last' L' hk), fun j k n' l1 L1 l2 L2 hj hk => h.dist j k n' l1 L1 l2 L2 (old j _ _ _ hj) (old k _ _ _ hk)⟩

/-- Ahead of the first record. -/
theorem ChH.nil : ChH 1 [] fun _ => none :=
  ⟨⟨fun _ => ⟨0, 0, 0, 0, 0, ⟨0, 0, ⟨#[]⟩, ⟨#[]⟩⟩, 0, 0, ⟨#[]⟩, 0, 0, false, [], []⟩, fun i hi => by simp at hi, fun _ _ _ _ h => by simp at h, fun _ _ => rfl⟩, fun _ _ _ _ h => by simp at h, fun _ _ _ _ _ _ _ h => by simp at h⟩

end Go.Proofs.YtjemeopafkafgaaGreat

namespace Go.Proofs.YtjemeopafkafgaaGreat
open Go.RowKit
set_option linter.unusedVariables false
set_option linter.unusedSimpArgs false

def ckv (n : Int) (q : Nat) : Value := .agg #[.int .i64 n, .int .u64 q]

theorem ckLaidOut : laidOutB Tryz.prog = true := by kernel_rfl
theorem ckRow : (61 : TypeId) < Tryz.prog.types.size := of_decide_eq_true (by kernel_rfl)
theorem ckWide : (match Tryz.prog.underlying 61 with | some (.array _ _) | some (.struct _) => true | _ => false) = true := by rw [Tryz.underlying61]
set_option maxRecDepth 100000 in
theorem ckKeyed : Maps.Keyed Tryz.prog 61 := Maps.Keyed.of_law (deep_law_laid ckLaidOut (m := 4) (by omega) ckRow (by kernel_rfl) ckWide)

theorem ckv_inj {n n' : Int} {q q' : Nat} (h : ckv n q = ckv n' q') : n = n' ∧ q = q' := by
  unfold ckv at h
  simp only [Value.agg.injEq, Array.mk.injEq, List.cons.injEq, Value.int.injEq, true_and, and_true] at h
  exact ⟨h.1, by omega⟩

theorem ck_type : Tryz.prog.keyType 61 = true := by kernel_rfl
theorem ck_formed (n : Int) (q : Nat) : (ckv n q).formed Tryz.prog 61 = true := by kernel_rfl
theorem ck_size : ∃ m, Tryz.prog.types.size + 1 = m + 2 := ⟨Tryz.prog.types.size - 1, by kernel_rfl⟩
theorem ck_cells : Tryz.prog.cellsOf 61 = 2 := by kernel_rfl
theorem ck_cells1 : Tryz.prog.cellsOf 3 = 1 := by kernel_rfl
theorem ck_cells2 : Tryz.prog.cellsOf 28 = 1 := by kernel_rfl

theorem ckey_ex (n : Int) (q : Nat) (h1 : -9223372036854775808 ≤ n) (h2 : n ≤ 9223372036854775807) (h3 : q < 18446744073709551616) : ∃ l, keyOf Tryz.prog 61 (ckv n q) = some l := by
  obtain ⟨m, hm⟩ := ck_size
  have w1 : (Lit.int .i64 n).wf = true := WalkArith.wf_i64 (by omega)
  have w2 : (Lit.int .u64 (q : Int)).wf = true := WalkArith.wf_u64 (by omega)
  unfold keyOf
  rw [Tryz.underlying61]
  simp only [ck_type, ck_formed, Bool.and_self, if_true]
  rw [hm]
  refine ⟨.string (keyBytes [.int .i64 n, .int .u64 q]), ?_⟩
  have : Tryz.prog.keyLits (m + 2) 61 (ckv n q).cells.toList = some [.int .i64 n, .int .u64 q] := by
    show Tryz.prog.keyLits (m + 1 + 1) 61 [.int .i64 n, .int .u64 q] = _
    simp [Program.keyLits, Tryz.underlying61, Tryz.underlying3, Tryz.underlying28, ck_cells, ck_cells1, ck_cells2, w1, w2]
  rw [this]
  rfl

theorem ck_ne {n n' : Int} {q q' : Nat} {l l' : Lit} (h : keyOf Tryz.prog 61 (ckv n q) = some l) (h' : keyOf Tryz.prog 61 (ckv n' q') = some l') (hne : ¬ (n = n' ∧ q = q')) : l ≠ l' := fun e => hne (ckv_inj (ckKeyed.inj h (e ▸ h')))

end Go.Proofs.YtjemeopafkafgaaGreat

namespace Go.Proofs.YtjemeopafkafgaaGreat
open Go.RowKit Go.Sort
set_option linter.unusedVariables false
set_option linter.unusedSimpArgs false

theorem ch_zero1 (w : World) : (zeroValue 28).run Tryz.prog w = .ok (.int .u64 0) w := by kernel_rfl
theorem ch_zero2 (w : World) : (zeroValue 4).run Tryz.prog w = .ok (.bool false) w := by kernel_rfl

/-- The maps hold what the reader keeps; at most c of each. -/
structure ChMaps (w : World) (bl bu : Nat) (L : Int → Nat) (U : Int → Nat → Bool) (c : Nat) : Prop where
  ex : ∃ nl nu Dl Du, MapV 3 w bl nl Dl ∧ MapV 61 w bu nu Du ∧ nl ≤ c ∧ nu ≤ c ∧
    (∀ n : Int, getV Dl (xkey n) (.int .u64 0) = .int .u64 (L n : Nat)) ∧
    (∀ (n : Int) (q : Nat) (l : Lit), keyOf Tryz.prog 61 (ckv n q) = some l → getV Du l (.bool false) = .bool (U n q))
  ne : bl ≠ bu

section
variable {w w' : World} {bl bu c : Nat} {L : Int → Nat} {U : Int → Nat → Bool}

theorem ChMaps.same (h : ChMaps w bl bu L U c) (e1 : w'.heap[bl]? = w.heap[bl]?) (e2 : w'.heap[bu]? = w.heap[bu]?) : ChMaps w' bl bu L U c := by
  obtain ⟨nl, nu, Dl, Du, a, b, x⟩ := h.ex
  exact ⟨⟨nl, nu, Dl, Du, a.same e1, b.same e2, x⟩, h.ne⟩

theorem ChMaps.lt (h : ChMaps w bl bu L U c) : bl < w.heap.size ∧ bu < w.heap.size := by
  obtain ⟨nl, nu, Dl, Du, a, b, x⟩ := h.ex
  exact ⟨a.lt, b.lt⟩

theorem ChMaps.below (h : ChMaps w bl bu L U c) (k : Below w.heap.size w w') : ChMaps w' bl bu L U c :=
  h.same (k.block bl h.lt.1) (k.block bu h.lt.2)

theorem ChMaps.last (h : ChMaps w bl bu L U c) (n : Int) (h1 : -9223372036854775808 ≤ n) (h2 : n ≤ 9223372036854775807) :
    (Instr.lookup 36 (.map (some bl)) (.int .i64 n) false).run Tryz.prog w = .ok (.int .u64 (L n : Nat)) w := by
  obtain ⟨nl, nu, Dl, Du, a, b, _, _, x, _⟩ := h.ex
  rw [a.look xKeyed Tryz.underlying36 (ch_zero1 w) (xkey_key h1 h2), x n]

theorem ChMaps.und (h : ChMaps w bl bu L U c) (n : Int) (q : Nat) (h1 : -9223372036854775808 ≤ n) (h2 : n ≤ 9223372036854775807) (h3 : q < 18446744073709551616) :
    (Instr.lookup 37 (.map (some bu)) (ckv n q) false).run Tryz.prog w = .ok (.bool (U n q)) w := by
  obtain ⟨nl, nu, Dl, Du, a, b, _, _, _, x⟩ := h.ex
  obtain ⟨l, hl⟩ := ckey_ex n q h1 h2 h3
  rw [b.look ckKeyed Tryz.underlying37 (ch_zero2 w) hl, x n q l hl]

theorem ChMaps.putLast (h : ChMaps w bl bu L U c) (n : Int) (at' : Nat) (h1 : -9223372036854775808 ≤ n) (h2 : n ≤ 9223372036854775807) (hc : c ≤ 1000000) :
    ∃ w', (Instr.mapUpdate 36 (.map (some bl)) (.int .i64 n) (.int .u64 (at' : Nat))).run Tryz.prog w = .ok () w' ∧ ChMaps w' bl bu (fun k => if k = n then at' else L k) U (c + 1) ∧ Kept (fun k => k = bl) w w' := by
  obtain ⟨nl, nu, Dl, Du, a, b, s1, s2, x, y⟩ := h.ex
  obtain ⟨u, hu⟩ := put_ex 3 36 28 bl (.int .i64 n) (.int .u64 (at' : Nat))
  obtain ⟨hrun, hM, ht⟩ := hu w nl Dl (xkey n) a xKeyed Tryz.underlying36 (by omega) (xkey_key h1 h2)
  have hk : Kept (fun k => k = bl) w (u w) := mapTurned_kept ht rfl
  refine ⟨u w, hrun, ⟨⟨_, nu, _, Du, hM, b.same (hk.block bu b.lt fun e => h.ne e.symm), ?_, by omega, fun k => ?_, y⟩, h.ne⟩, hk⟩
  · rw [Maps.size_put (a.tidy xKeyed), a.2]
    split <;> omega
  · by_cases e : k = n
    · subst e
      rw [getV_put_same (a.tidy xKeyed).isMap (xkey_lit _), if_pos rfl]
    · rw [getV_put_other (xkey_ne e), if_neg e]
      exact x k

theorem ChMaps.putUnd (h : ChMaps w bl bu L U c) (n : Int) (q : Nat) (v : Bool) (h1 : -9223372036854775808 ≤ n) (h2 : n ≤ 9223372036854775807) (h3 : q < 18446744073709551616) (hc : c ≤ 1000000) :
    ∃ w', (Instr.mapUpdate 37 (.map (some bu)) (ckv n q) (.bool v)).run Tryz.prog w = .ok () w' ∧ ChMaps w' bl bu L (fun k p => if k = n ∧ p = q then v else U k p) (c + 1) ∧ Kept (fun k => k = bu) w w' := by
  obtain ⟨nl, nu, Dl, Du, a, b, s1, s2, x, y⟩ := h.ex
  obtain ⟨l, hl⟩ := ckey_ex n q h1 h2 h3
  obtain ⟨u, hu⟩ := put_ex 61 37 4 bu (ckv n q) (.bool v)
  obtain ⟨hrun, hM, ht⟩ := hu w nu Du l b ckKeyed Tryz.underlying37 (by omega) hl
  have hk : Kept (fun k => k = bu) w (u w) := mapTurned_kept ht rfl
  refine ⟨u w, hrun, ⟨⟨nl, _, Dl, _, a.same (hk.block bl a.lt h.ne), hM, by omega, ?_, x, fun k p l' hl' => ?_⟩, h.ne⟩, hk⟩
  · rw [Maps.size_put (b.tidy ckKeyed), b.2]
    split <;> omega
  · by_cases e : k = n ∧ p = q
    · obtain ⟨rfl, rfl⟩ := e
      obtain rfl : l' = l := Option.some.inj (hl'.symm.trans hl)
      rw [getV_put_same (b.tidy ckKeyed).isMap (ckKeyed.key hl), if_pos ⟨rfl, rfl⟩]
    · rw [getV_put_other (ck_ne hl' hl e), if_neg e]
      exact y k p l' hl'

end

end Go.Proofs.YtjemeopafkafgaaGreat

namespace Go.Proofs.YtjemeopafkafgaaGreat
open Go.RowKit Go.Sort
set_option linter.unusedVariables false
set_option linter.unusedSimpArgs false

/-- A log, all of whose records are known, beside a pool and a manager. -/
structure ChLog (wx : World) (m p : Nat) (A : Nat → Prop) (P : PG) (l : LG) (rs : List ByteArray) (R : Nat → RecV) : Prop where
  sys : ∃ X d M, MSys wx m p X A P l d M
  recs : RecsAt l rs
  len : l.bytes.length ≤ 4194304
  rec' : ∀ i, i < rs.length → rs.getD i ⟨#[]⟩ = ⟨(encR (R i)).toArray⟩ ∧ (∃ n : Nat, RecOk n (R i)) ∧ (chAt rs R i).pass (R i)

theorem PI.chain {w wx : World} {A : Nat → Prop} {m p lp F N : Nat} {o : Nat → OwnV} {T : Nat → ByteArray} (h : PI w wx A m p lp ChH o T F N) (hF : F ≤ 4194304) : ∃ P l rs R, ChLog wx m p A P l rs R := by
  obtain ⟨X, P, l, d, rs, M, f, hM, hR, hlo, hd, hP, ho, hk, hkk, hb, hm, hn, hH⟩ := h.ex
  obtain ⟨R, h1, h2, h3⟩ := hH.ex
  exact ⟨P, l, rs, R, ⟨⟨X, d, M, hM⟩, hR, by omega, h1⟩⟩

section
variable {wx wy : World} {m p : Nat} {A : Nat → Prop} {P : PG} {l : LG} {rs : List ByteArray} {R : Nat → RecV}

theorem ChLog.below (h : ChLog wx m p A P l rs R) (k : Below wx.heap.size wx wy) : ChLog wy m p A P l rs R := by
  obtain ⟨X, d, M, hM⟩ := h.sys
  exact ⟨⟨X, d, M, hM.below k⟩, h.recs, h.len, h.rec'⟩

theorem ChLog.get (h : ChLog wx m p A P l rs R) (i : Nat) (hi : i < rs.length) :
    Calls Tryz.prog 11 #[.pointer (some ⟨P.lp, 0, none⟩), .int .u64 (placeOf rs i : Nat)] wx fun e w' => e = .returned (.tuple #[.string (rs.getD i ⟨#[]⟩), .int .u64 (placeOf rs (i + 1) : Nat), .bool true]) ∧ Below wx.heap.size wx w' := by
  obtain ⟨X, d, M, hM⟩ := h.sys
  obtain ⟨Lg, hLg, _, _⟩ := hM.log
  have hcnt := h.recs.count
  have hl := h.len
  refine (get_recs hLg h.recs (by omega) h.len i hi).mono ?_
  rintro e w' ⟨rfl, q, rfl⟩
  exact ⟨rfl, below_drewN (Below.refl _ _) q⟩

theorem ChLog.dec (h : ChLog wx m p A P l rs R) (i : Nat) (hi : i < rs.length) (wz : World) :
    Calls Tryz.prog 12 #[.string (rs.getD i ⟨#[]⟩)] wz fun e w' => ∃ ta da tc dc, e = .returned (.tuple #[.agg ((R i).cells ta da tc dc), .int .i64 0]) ∧ Below wz.heap.size wz w' := by
  obtain ⟨h1, ⟨n, hok⟩, _⟩ := h.rec' i hi
  rw [h1]
  exact dec_rec _ wz hok.may hok.wide hok.prev hok.next hok.page hok.rpage hok.len hok.ok

end

theorem after_last (s : ChS) (at' : Nat) (r : RecV) : (s.after at' r).last = fun k => if k = r.tx then at' else s.last k := rfl

theorem after_und2 (s : ChS) (at' : Nat) {r : RecV} (hk : r.kind = 2) : (s.after at' r).und = fun k q => if k = r.tx ∧ q = r.next then true else s.und k q := by
  funext k q
  show (if k = r.tx ∧ r.kind = 2 ∧ q = r.next then true else if k = r.tx ∧ r.kind = 1 ∧ q = r.prev then false else s.und k q) = _
  by_cases e : k = r.tx ∧ q = r.next
  · rw [if_pos ⟨e.1, hk, e.2⟩, if_pos e]
  · rw [if_neg (fun x => e ⟨x.1, x.2.2⟩), if_neg (fun x => by have := x.2.1; omega), if_neg e]

theorem after_und1 (s : ChS) (at' : Nat) {r : RecV} (hk : r.kind = 1) : (s.after at' r).und = fun k q => if k = r.tx ∧ q = r.prev then false else s.und k q := by
  funext k q
  show (if k = r.tx ∧ r.kind = 2 ∧ q = r.next then true else if k = r.tx ∧ r.kind = 1 ∧ q = r.prev then false else s.und k q) = _
  rw [if_neg (fun x => by have := x.2.1; omega)]
  by_cases e : k = r.tx ∧ q = r.prev
  · rw [if_pos ⟨e.1, hk, e.2⟩, if_pos e]
  · rw [if_neg (fun x => e ⟨x.1, x.2.2⟩), if_neg e]

theorem after_und0 (s : ChS) (at' : Nat) {r : RecV} (h1 : r.kind ≠ 1) (h2 : r.kind ≠ 2) : (s.after at' r).und = s.und := by
  funext k q
  show (if k = r.tx ∧ r.kind = 2 ∧ q = r.next then true else if k = r.tx ∧ r.kind = 1 ∧ q = r.prev then false else s.und k q) = _
  rw [if_neg (fun x => h2 x.2.1), if_neg (fun x => h1 x.2.1)]

end Go.Proofs.YtjemeopafkafgaaGreat

namespace Go.Proofs.YtjemeopafkafgaaGreat
open Go.RowKit Go.Sort
set_option linter.unusedVariables false
set_option linter.unusedSimpArgs false

/-- An act in the argument's row. -/
structure ActRow (wy : World) (ab o : Nat) (kd x : Int) (s : ByteArray) : Prop where
  c0 : wy.cell? ⟨ab, o, none⟩ = some (.int .i64 kd)
  c1 : wy.cell? ⟨ab, o + 1, none⟩ = some (.int .i64 x)
  c2 : wy.cell? ⟨ab, o + 2, none⟩ = some (.string s)

section
variable {w wx w' : World} {ab o : Nat} {kd x : Int} {s : ByteArray}

theorem ActRow.lt (h : ActRow w ab o kd x s) : ab < w.heap.size := World.block_lt_of_cell? _ _ h.c0

theorem ActRow.same (h : ActRow w ab o kd x s) (e : w'.heap[ab]? = w.heap[ab]?) : ActRow w' ab o kd x s :=
  ⟨(World.cell?_of_block (w := w) (a := ⟨ab, o, none⟩) e).trans h.c0, (World.cell?_of_block (w := w) (a := ⟨ab, o + 1, none⟩) e).trans h.c1, (World.cell?_of_block (w := w) (a := ⟨ab, o + 2, none⟩) e).trans h.c2⟩

theorem ActRow.under (h : ActRow w ab o kd x s) {n : Nat} (b : Below n w w') (hn : ab < n) : ActRow w' ab o kd x s := h.same (b.block ab hn)

theorem PI.ge {A : Nat → Prop} {m p lp : Nat} {H : Nat → List ByteArray → Fk → Prop} {os : Nat → OwnV} {T : Nat → ByteArray} {F N : Nat} (h : PI w wx A m p lp H os T F N) : ∀ k, A k → w.heap.size ≤ k := by
  obtain ⟨X, P, l, d, rs, M, f, hM, hR, hlo, hd, hP, ho, _⟩ := h.ex
  exact ho.ge

/-- The record's first four cells. -/
structure RecBox (w : World) (b : Nat) (r : RecV) : Prop where
  k0 : w.cell? ⟨b, 0, none⟩ = some (.int .i64 r.kind)
  k1 : w.cell? ⟨b, 1, none⟩ = some (.int .i64 r.tx)
  k2 : w.cell? ⟨b, 2, none⟩ = some (.int .u64 (r.prev : Nat))
  k3 : w.cell? ⟨b, 3, none⟩ = some (.int .u64 (r.next : Nat))

theorem RecBox.same {b : Nat} {r : RecV} (h : RecBox w b r) (e : w'.heap[b]? = w.heap[b]?) : RecBox w' b r :=
  ⟨(World.cell?_of_block (w := w) (a := ⟨b, 0, none⟩) e).trans h.k0, (World.cell?_of_block (w := w) (a := ⟨b, 1, none⟩) e).trans h.k1, (World.cell?_of_block (w := w) (a := ⟨b, 2, none⟩) e).trans h.k2, (World.cell?_of_block (w := w) (a := ⟨b, 3, none⟩) e).trans h.k3⟩

theorem RecBox.of {b : Nat} {r : RecV} {ta da : Option Addr} {tc dc : Nat} {t : TypeId} (h : BlkR w b (r.cells ta da tc dc) t) : RecBox w b r := ⟨h.cell 0, h.cell 1, h.cell 2, h.cell 3⟩

theorem chb_kept {n : Nat} {S : Nat → Prop} (h : Below n w wx) (hn : n ≤ wx.heap.size) (k : Kept S wx w') (hS : ∀ b, S b → n ≤ b) : Below n w w' :=
  ⟨k.os.trans h.os, k.tape.trans h.tape, k.output.trans h.output, Nat.le_trans h.size k.size, fun i hi => (k.block i (by omega) fun y => by have := hS i y; omega).trans (h.block i hi)⟩

/-- Where the reader stands: the maps in blocks bl and bu. -/
structure RdAt (w0 wx : World) (m p : Nat) (A : Nat → Prop) (P : PG) (l : LG) (rs : List ByteArray) (R : Nat → RecV) (bl bu : Nat) (L : Int → Nat) (U : Int → Nat → Bool) (c : Nat) : Prop where
  maps : ChMaps wx bl bu L U c
  log : ChLog wx m p A P l rs R
  bel : Below w0.heap.size w0 wx
  nl : w0.heap.size ≤ bl ∧ w0.heap.size ≤ bu
  no : ¬ A bl ∧ ¬ A bu

variable {w0 : World} {m p : Nat} {A : Nat → Prop} {P : PG} {l : LG} {rs : List ByteArray} {R : Nat → RecV} {bl bu c : Nat} {L : Int → Nat} {U : Int → Nat → Bool}

theorem RdAt.below (h : RdAt w0 wx m p A P l rs R bl bu L U c) (b : Below wx.heap.size wx w') : RdAt w0 w' m p A P l rs R bl bu L U c :=
  ⟨h.maps.below b, h.log.below b, below_chain h.bel b, h.nl, h.no⟩

theorem RdAt.kept (h : RdAt w0 wx m p A P l rs R bl bu L U c) {S : Nat → Prop} (k : Kept S wx w') (hS : ∀ b, S b → ¬ A b ∧ w0.heap.size ≤ b) {L' : Int → Nat} {U' : Int → Nat → Bool} {c' : Nat} (hm : ChMaps w' bl bu L' U' c') : RdAt w0 w' m p A P l rs R bl bu L' U' c' := by
  obtain ⟨X, d, M, hM⟩ := h.log.sys
  refine ⟨hm, ⟨⟨X, d, M, hM.same (fun i hi => k.block i (hM.lt i hi) fun y => (hS i y).1 hi) k.size⟩, h.log.recs, h.log.len, h.log.rec'⟩, chb_kept h.bel h.bel.size k fun b y => (hS b y).2, h.nl, h.no⟩

theorem RdAt.stepL (h : RdAt w0 wx m p A P l rs R bl bu L U c) (n : Int) (at' : Nat) (h1 : -9223372036854775808 ≤ n) (h2 : n ≤ 9223372036854775807) (hc : c ≤ 1000000) :
    ∃ w', (Instr.mapUpdate 36 (.map (some bl)) (.int .i64 n) (.int .u64 (at' : Nat))).run Tryz.prog wx = .ok () w' ∧ RdAt w0 w' m p A P l rs R bl bu (fun k => if k = n then at' else L k) U (c + 1) ∧ ∀ k, k < wx.heap.size → k ≠ bl → k ≠ bu → w'.heap[k]? = wx.heap[k]? := by
  obtain ⟨w', hr, hm, hk⟩ := h.maps.putLast n at' h1 h2 hc
  exact ⟨w', hr, h.kept hk (fun b e => by rw [e]; exact ⟨h.no.1, h.nl.1⟩) hm, fun k hl a b => hk.block k hl a⟩

theorem RdAt.stepU (h : RdAt w0 wx m p A P l rs R bl bu L U c) (n : Int) (q : Nat) (v : Bool) (h1 : -9223372036854775808 ≤ n) (h2 : n ≤ 9223372036854775807) (h3 : q < 18446744073709551616) (hc : c ≤ 1000000) :
    ∃ w', (Instr.mapUpdate 37 (.map (some bu)) (.agg #[.int .i64 n, .int .u64 q]) (.bool v)).run Tryz.prog wx = .ok () w' ∧ RdAt w0 w' m p A P l rs R bl bu L (fun k p => if k = n ∧ p = q then v else U k p) (c + 1) ∧ ∀ k, k < wx.heap.size → k ≠ bl → k ≠ bu → w'.heap[k]? = wx.heap[k]? := by
  obtain ⟨w', hr, hm, hk⟩ := h.maps.putUnd n q v h1 h2 h3 hc
  exact ⟨w', hr, h.kept hk (fun b e => by rw [e]; exact ⟨h.no.2, h.nl.2⟩) hm, fun k hl a b => hk.block k hl b⟩

theorem RdAt.last (h : RdAt w0 wx m p A P l rs R bl bu L U c) (n : Int) (h1 : -9223372036854775808 ≤ n) (h2 : n ≤ 9223372036854775807) :
    (Instr.lookup 36 (.map (some bl)) (.int .i64 n) false).run Tryz.prog wx = .ok (.int .u64 (L n : Nat)) wx := h.maps.last n h1 h2

theorem RdAt.und (h : RdAt w0 wx m p A P l rs R bl bu L U c) (n : Int) (q : Nat) (h1 : -9223372036854775808 ≤ n) (h2 : n ≤ 9223372036854775807) (h3 : q < 18446744073709551616) :
    (Instr.lookup 37 (.map (some bu)) (.agg #[.int .i64 n, .int .u64 q]) false).run Tryz.prog wx = .ok (.bool (U n q)) wx := h.maps.und n q h1 h2 h3

theorem RdAt.room (h : RdAt w0 wx m p A P l rs R bl bu L U c) {c' : Nat} (hc : c ≤ c') : RdAt w0 wx m p A P l rs R bl bu L U c' := by
  obtain ⟨nl, nu, Dl, Du, a, b, s1, s2, x⟩ := h.maps.ex
  exact ⟨⟨⟨nl, nu, Dl, Du, a, b, Nat.le_trans s1 hc, Nat.le_trans s2 hc, x⟩, h.maps.ne⟩, h.log, h.bel, h.nl, h.no⟩

/-- Two fresh maps. -/
theorem rd_start {A0 : Nat → Prop} (hL : ChLog wx m p A0 P l rs R) (hb : Below w0.heap.size w0 wx) (hA : ∀ k, A0 k → k < wx.heap.size) :
    RdAt w0 ((wx.alloc (.map #[] 0)).alloc (.map #[] 0)) m p A0 P l rs R wx.heap.size (wx.alloc (.map #[] 0)).heap.size (chAt rs R 0).last (chAt rs R 0).und 0 := by
  have b1 : Below wx.heap.size wx (wx.alloc (.map #[] 0)) := (Below.refl _ _).alloc (Nat.le_refl _) _
  have b2 : Below (wx.alloc (.map #[] 0)).heap.size (wx.alloc (.map #[] 0)) ((wx.alloc (.map #[] 0)).alloc (.map #[] 0)) := (Below.refl _ _).alloc (Nat.le_refl _) _
  have z : (wx.alloc (.map #[] 0)).heap.size = wx.heap.size + 1 := by simp
  have m1 := MapV.made 3 wx
  have m2 := MapV.made 61 (wx.alloc (.map #[] 0))
  have hs := hb.size
  refine ⟨⟨⟨0, 0, .map [], .map [], m1.same (b2.block _ (by omega)), m2, Nat.le_refl _, Nat.le_refl _, fun n => rfl, fun n q l hl => rfl⟩, by omega⟩, (hL.below b1).below b2, below_chain (below_chain hb b1) b2, ⟨hs, by omega⟩, fun y => by have := hA _ y; omega, fun y => by have := hA _ y; omega⟩

end

end Go.Proofs.YtjemeopafkafgaaGreat

namespace Go.Proofs.YtjemeopafkafgaaGreat
open Go.RowKit Go.Sort
set_option linter.unusedVariables false
set_option linter.unusedSimpArgs false

theorem chmixed : Tryz.prog.follows .mixedOrders = true := by kernel_rfl
theorem ch_and3 (n : Int) : bits .and .i64 n 3 = n % 4 := by
  have h63 : (BitVec.ofInt 64 3).toNat = 2 ^ 2 - 1 := by decide
  have key : (BitVec.ofInt 64 n &&& BitVec.ofInt 64 3).toNat = (n % ((2 ^ 64 : Nat) : Int)).toNat % 2 ^ 2 := by
    rw [BitVec.toNat_and, BitVec.toNat_ofInt, h63, Nat.and_two_pow_sub_one_eq_mod]
  show IntKind.i64.wrap ((BitVec.ofInt 64 n &&& BitVec.ofInt 64 3).toNat : Nat) = n % 4
  rw [key, IntKind.wrap_i64]
  omega

theorem ch_info : (Tryz.prog.info? 31).map (fun i => (i.zero, i.size)) = some (some (.agg (cells24 (fun _ => own0))), 24) := by kernel_rfl
theorem ch_built : Tryz.prog.built 31 [] = some (cells24 (fun _ => own0)) := by kernel_rfl

set_option maxHeartbeats 12800000 in
set_option maxRecDepth 20000 in
theorem chains_walk (a : Option Addr) (n c : Nat) (K W : Nat → Int) (S : Nat → ByteArray) (w : World) (hA : ActArg w a n K W S) (hn : n ≤ 9223372036854775807) :
    Calls Tryz.prog 3 #[.slice a n c] w fun e w' => e = .returned (.bool true) ∧ Below w.heap.size w w' := by
  have HB := hidx (tbegun_any w)
  have HAA := hidx hA
  clear hA
  go_enter Tryz.func3, Tryz.ntmps3
  go_wp2_with fail
  refine HB.out.mono ?_
  rintro e w1 ⟨⟨m, p, dp, lp, A1, rfl, h1, hA1, b1⟩⟩
  have O1 : Hid (Ours w w1 A1) := hidx ⟨hA1, b1⟩
  have H1 := hidx h1
  have HAW := hidx (tawake_any w1)
  clear HB h1 hA1 b1
  go_wp2_with fail
  refine HAW.out.mono ?_
  rintro e w2 ⟨rfl, b2⟩
  have P2 := hidx (pi_start (H := ChH) (H1.out.below b2) (O1.out.below b2) ChH.nil)
  have hlt2 : ∀ k, A1 k → k < w2.heap.size := (H1.out.below b2).lt
  have HLT := hidx hlt2
  clear HAW H1 O1 b2 hlt2
  go_upto_region 4 with fail
  go_cut [5] from 30 to 30 (fun v5 wx => v5 = .pointer (some ⟨w2.heap.size, 0, none⟩) ∧ Hid (PlAt w wx m p lp ChH w2.heap.size (fun _ => own0) (fun _ => ⟨#[48]⟩) (1 + 400 * 0) (2 * 0)))
  case first =>
    as_aux_lemma =>
      have HPZ : Hid (PlAt w (w2.alloc (.cells (cells24 (fun _ => own0)) 31)) m p lp ChH w2.heap.size (fun _ => own0) (fun _ => ⟨#[48]⟩) (1 + 400 * 0) (2 * 0)) := by
        have bA : Below w2.heap.size w2 (w2.alloc (.cells (cells24 (fun _ => own0)) 31)) := (Below.refl _ _).alloc (Nat.le_refl _) _
        exact ⟨⟨A1, P2.out.below bA, fun y => by have := HLT.out _ y; omega⟩, heap_alloc_new _ _, P2.out.bel.size⟩
      obtain ⟨iT, hiT, hzT⟩ := Option.map_eq_some_iff.1 ch_info
      simp only [Prod.mk.injEq] at hzT
      obtain ⟨hz0, hz1⟩ := hzT
      refine wp_region_lit ?_
      refine wpList_buildNone rfl 31 rfl (cells24 (fun _ => own0)) ch_built ?_
      refine wpList_allocBig rfl 31 rfl (cells24 (fun _ => own0)) iT hiT hz0 ?_
      refine wpList_storeRow rfl (.tmp 5) (.tmp 30) 31 rfl rfl w2.heap.size rfl (cells24 (fun _ => own0)) (cells24 (fun _ => own0)) rfl 31 (heap_alloc_new w2 _) (by kernel_rfl) rfl (by kernel_rfl) ?_
      rw [setRow_self _ _ _ _ _ (heap_alloc_new w2 _)]
      go_wp2_with fail
      go_meet
      case rel => exact ⟨rfl, HPZ⟩
  obtain ⟨rfl, PL0⟩ := hcut
  obtain ⟨bb, HBB⟩ : ∃ b, Hid (w2.heap.size = b) := ⟨_, rfl⟩
  rw [HBB.out] at PL0 ⊢
  clear P2 HLT
  go_wp2_with fail
  go_loopw [6] (fun v6 wr => ∃ (i : Nat) (os : Nat → OwnV) (T : Nat → ByteArray), v6 = .int .i64 i ∧ i ≤ n ∧ i ≤ 60 ∧ Hid (PlAt w wr m p lp ChH bb os T (1 + 400 * i) (2 * i))) (fun v _ => 60 - (intOf v).toNat)
  case atStart => exact ⟨0, _, _, rfl, Nat.zero_le _, Nat.zero_le _, PL0⟩
  case round =>
    obtain ⟨i, os, T, rfl, hin, hi60, HPL⟩ := hrel
    clear PL0 HBB
    by_cases hlt : i < n ∧ i < 60
    · obtain ⟨hl1, hl2⟩ := hlt
      obtain ⟨ab, ao, rfl, hab, hcel⟩ : ∃ b o, a = some ⟨b, o, none⟩ ∧ b < w.heap.size ∧ ∀ i, i < n → w.cell? ⟨b, o + i * 3, none⟩ = some (.int .i64 (K i)) ∧ w.cell? ⟨b, o + i * 3 + 1, none⟩ = some (.int .i64 (W i)) ∧ w.cell? ⟨b, o + i * 3 + 2, none⟩ = some (.string (S i)) ∧ (S i).size ≤ 9223372036854775807 := by
        rcases HAA.out with h | h
        · omega
        · exact h
      obtain ⟨e0, e1, e2, hS⟩ := hcel i hl1
      obtain ⟨kd, HKD⟩ : ∃ z, Hid (K i = z) := ⟨_, rfl⟩
      obtain ⟨x, HX⟩ : ∃ z, Hid (W i = z) := ⟨_, rfl⟩
      obtain ⟨s, HSS⟩ : ∃ z, Hid (S i = z) := ⟨_, rfl⟩
      rw [HKD.out] at e0
      rw [HX.out] at e1
      rw [HSS.out] at e2 hS
      have hbw := HPL.out.bel
      have AR : Hid (ActRow wr ab (ao + i * 3) kd x s) := hidx (ActRow.under ⟨e0, e1, e2⟩ hbw hab)
      have a0 : wr.cell? ⟨ab, ao + i * 3, none⟩ = some (.int .i64 kd) := AR.out.c0
      have a1 : wr.cell? ⟨ab, ao + i * 3 + 1, none⟩ = some (.int .i64 x) := AR.out.c1
      have HS := hidx hS
      have d1 : decide ((i : Int) < (n : Int)) = true := by simp; omega
      have d1' : decide (i < n) = true := by simp; omega
      have d2 : decide ((i : Int) < 60) = true := by simp; omega
      have d2' : decide (i < 60) = true := by simp; omega
      have i1 : (0 : Int) ≤ (i : Int) := by omega
      have i2 : (i : Int) < (n : Int) := by omega
      obtain ⟨A0, hp0, hn0⟩ := HPL.out.ex
      have HA0 : Hid (PI w wr A0 m p lp ChH os T (1 + 400 * i) (2 * i) ∧ ¬ A0 bb ∧ ¬ A0 ab) := ⟨hp0, hn0, fun y => by have := hp0.ge _ y; omega⟩
      clear hcel hS e0 e1 e2 hbw hp0 hn0 HKD HX HSS
      go_upto_region 8 with fail
      go_cut [7] from 41 to 48 (fun v7 wx => ∃ who : Nat, who < 3 ∧ v7 = .int .i64 who ∧ wx = wr)
      case first =>
        obtain ⟨r, hr, hr4⟩ : ∃ r : Nat, bits .and .i64 x 3 = (r : Int) ∧ r < 4 := ⟨(x % 4).toNat, by rw [ch_and3]; omega, by omega⟩
        have hm : ((r : Int) + 3).tmod 3 = (((r + 3) % 3 : Nat) : Int) := by rw [Int.tmod_eq_emod_of_nonneg (by omega)]; omega
        obtain ⟨q, hq, hq3⟩ : ∃ q : Nat, (r + 3) % 3 = q ∧ q < 3 := ⟨_, rfl, by omega⟩
        rw [hq] at hm
        have hw : IntKind.i64.wrap ((r : Int) + 3) = (r : Int) + 3 := by rw [IntKind.wrap_i64]; omega
        go_wp2_with fail
        go_meet
        case rel => exact ⟨q, hq3, rfl, rfl⟩
      obtain ⟨who, hw3, rfl, hwx⟩ := hcut
      obtain rfl := hwx.symm
      by_cases hsk : kd = 8
      · obtain rfl := hsk
        have HPN := hidx (HPL.out.room (F' := 1 + 400 * (i + 1)) (N' := 2 * (i + 1)) (by omega) (by omega))
        clear HPL HA0 AR
        go_wp2_with fail
        go_roundw
        case rel => exact ⟨i + 1, os, T, by go_num, by omega, by omega, HPN⟩
        case measure => simp [intOf]; omega
      · have H8 : Hid (∀ k, kd = 8 → (os k).aheadS = false) := fun k e => absurd e hsk
        rcases (by omega : who = 0 ∨ who = 1 ∨ who = 2) with rfl | rfl | rfl
        · go_upto_region 10 with fail
          rw [show (((0 : Nat)) : Int) = 0 from rfl]
          clear hsk a0 a1
          go_cut [8, 9] from 49 to 67 (fun v8 v9 wx => ∃ (b9 : Nat) (o' : OwnV), v8 = .pointer (some ⟨b9, 0, none⟩) ∧ v9 = .bool true ∧ Hid (BkOut w wx m p lp ChH bb os (1 + 400 * (i + 1)) (2 * (i + 1)) 0 b9 o'))
          case first =>
            as_aux_lemma =>
            have HON : Hid (∀ wy, Below wr.heap.size wr wy → Calls Tryz.prog 7 #[.pointer (some ⟨m, 0, none⟩), .int .i64 0, .agg #[.int .i64 (os 0).n, .string (os 0).now, .string (os 0).was, .string (os 0).saved, .int .u64 (os 0).save, .bool (os 0).has, .bool (os 0).ahead, .bool (os 0).aheadS], .agg #[.int .i64 kd, .int .i64 x, .string s]] wy (OneOut w wy A0 m p lp ChH os (1 + 400 * i) (2 * i) 0)) := fun wy b => one_any (who := 0) ch_ok (HA0.out.1.below b) (by omega) (by omega) (by omega) kd x s HS.out (H8.out 0)
            refine wp_region_noPanic ?_
            refine wp_region_held_drew (S := (fun wy : World => BlkR wy bb (cells24 os) 31 ∧ ActRow wy ab (ao + i * 3) kd x s)) chmixed ⟨HPL.out.row, AR.out.same rfl⟩ (fun hH => ?_)
            obtain ⟨WD, HWD⟩ : ∃ W, Hid (W = wr.drew) := ⟨_, rfl⟩
            have HBD : Hid (Below wr.heap.size wr WD) := by show Below _ _ _; rw [HWD.out]; exact (Below.refl _ _).drew
            rw [← HWD.out] at hH ⊢
            clear HWD
            refine wpAnyH_take (i := 0) (v := (.pointer (some ⟨m, 0, none⟩))) (by simp only [List.getElem?_toArray, List.getElem?_cons_zero]; rfl) (by kernel_rfl) (by kernel_rfl) (by kernel_rfl) (fun _ _ _ h => h) (Or.inl ⟨by rfl, ?_⟩) hH ?_
            · intro wz hSw
              clear hSw
              go_simp
            try simp only [Act.put, List.setIfInBounds_toArray, List.set_cons_zero, List.set_cons_succ]
            refine wpAnyH_take (i := 1) (v := (.int .i64 0)) (by simp only [List.getElem?_toArray, List.getElem?_cons_succ, List.getElem?_cons_zero]; rfl) (by kernel_rfl) (by kernel_rfl) (by kernel_rfl) (fun _ _ _ h => h) (Or.inl ⟨by rfl, ?_⟩) hH ?_
            · intro wz hSw
              clear hSw
              go_simp
            try simp only [Act.put, List.setIfInBounds_toArray, List.set_cons_zero, List.set_cons_succ]
            refine wpAnyH_take (i := 2) (v := (.int .i64 0)) (by simp only [List.getElem?_toArray, List.getElem?_cons_succ, List.getElem?_cons_zero]; rfl) (by kernel_rfl) (by kernel_rfl) (by kernel_rfl) (fun _ _ _ h => h) (Or.inl ⟨by rfl, ?_⟩) hH ?_
            · intro wz hSw
              clear hSw
              go_simp
            try simp only [Act.put, List.setIfInBounds_toArray, List.set_cons_zero, List.set_cons_succ]
            refine wpAnyH_take (i := 3) (v := (.pointer (some ⟨bb, 0, none⟩))) (by simp only [List.getElem?_toArray, List.getElem?_cons_succ, List.getElem?_cons_zero]; rfl) (by kernel_rfl) (by kernel_rfl) (by kernel_rfl) (fun _ _ _ h => h) (Or.inl ⟨by rfl, ?_⟩) hH ?_
            · intro wz hSw
              clear hSw
              go_simp
            try simp only [Act.put, List.setIfInBounds_toArray, List.set_cons_zero, List.set_cons_succ]
            refine wpAnyH_take (i := 4) (v := (.agg #[.int .i64 (os 0).n, .string (os 0).now, .string (os 0).was, .string (os 0).saved, .int .u64 (os 0).save, .bool (os 0).has, .bool (os 0).ahead, .bool (os 0).aheadS])) (by simp only [List.getElem?_toArray, List.getElem?_cons_succ, List.getElem?_cons_zero]; rfl) (by kernel_rfl) (by kernel_rfl) (by kernel_rfl) (fun _ _ _ h => h) (Or.inl ⟨by rfl, ?_⟩) hH ?_
            · intro wz hSw
              have s0 : wz.cell? ⟨bb, 0, none⟩ = some (.int .i64 (os 0).n) := BlkR.cell hSw.1 0
              have s1 : wz.cell? ⟨bb, 1, none⟩ = some (.string (os 0).now) := BlkR.cell hSw.1 1
              have s2 : wz.cell? ⟨bb, 2, none⟩ = some (.string (os 0).was) := BlkR.cell hSw.1 2
              have s3 : wz.cell? ⟨bb, 3, none⟩ = some (.string (os 0).saved) := BlkR.cell hSw.1 3
              have s4 : wz.cell? ⟨bb, 4, none⟩ = some (.int .u64 (os 0).save) := BlkR.cell hSw.1 4
              have s5 : wz.cell? ⟨bb, 5, none⟩ = some (.bool (os 0).has) := BlkR.cell hSw.1 5
              have s6 : wz.cell? ⟨bb, 6, none⟩ = some (.bool (os 0).ahead) := BlkR.cell hSw.1 6
              have s7 : wz.cell? ⟨bb, 7, none⟩ = some (.bool (os 0).aheadS) := BlkR.cell hSw.1 7
              clear hSw
              go_simp
            try simp only [Act.put, List.setIfInBounds_toArray, List.set_cons_zero, List.set_cons_succ]
            refine wpAnyH_take (i := 5) (v := (.slice (some ⟨ab, ao, none⟩) n c)) (by simp only [List.getElem?_toArray, List.getElem?_cons_succ, List.getElem?_cons_zero]; rfl) (by kernel_rfl) (by kernel_rfl) (by kernel_rfl) (fun _ _ _ h => h) (Or.inl ⟨by rfl, ?_⟩) hH ?_
            · intro wz hSw
              clear hSw
              go_simp
            try simp only [Act.put, List.setIfInBounds_toArray, List.set_cons_zero, List.set_cons_succ]
            refine wpAnyH_take (i := 6) (v := (.int .i64 i)) (by simp only [List.getElem?_toArray, List.getElem?_cons_succ, List.getElem?_cons_zero]; rfl) (by kernel_rfl) (by kernel_rfl) (by kernel_rfl) (fun _ _ _ h => h) (Or.inl ⟨by rfl, ?_⟩) hH ?_
            · intro wz hSw
              clear hSw
              go_simp
            try simp only [Act.put, List.setIfInBounds_toArray, List.set_cons_zero, List.set_cons_succ]
            refine wpAnyH_take (i := 7) (v := (.pointer (some ⟨ab, ao + i * 3, none⟩))) (by simp only [List.getElem?_toArray, List.getElem?_cons_succ, List.getElem?_cons_zero]; rfl) (by kernel_rfl) (by kernel_rfl) (by kernel_rfl) (fun _ _ _ h => h) (Or.inl ⟨by rfl, ?_⟩) hH ?_
            · intro wz hSw
              clear hSw
              go_simp
            try simp only [Act.put, List.setIfInBounds_toArray, List.set_cons_zero, List.set_cons_succ]
            refine wpAnyH_take (i := 8) (v := (.agg #[.int .i64 kd, .int .i64 x, .string s])) (by simp only [List.getElem?_toArray, List.getElem?_cons_succ, List.getElem?_cons_zero]; rfl) (by kernel_rfl) (by kernel_rfl) (by kernel_rfl) (fun _ _ _ h => h) (Or.inl ⟨by rfl, ?_⟩) hH ?_
            · intro wz hSw
              have s0 := hSw.2.c0
              have s1 := hSw.2.c1
              have s2 := hSw.2.c2
              clear hSw
              go_simp
            try simp only [Act.put, List.setIfInBounds_toArray, List.set_cons_zero, List.set_cons_succ]
            refine wpAnyH_ready (rs := [9, 13]) (by kernel_rfl) (by simp) ?_
            refine AllReadyH.cons (i := 9) (by simp only [List.getElem?_toArray, List.getElem?_cons_succ, List.getElem?_cons_zero]; rfl) (fun K hK => ?_) (AllReadyH.cons (i := 13) (by simp only [List.getElem?_toArray, List.getElem?_cons_succ, List.getElem?_cons_zero]; rfl) (fun K hK => ?_) AllReadyH.nil)
            · go_simp
              refine (HON.out WD HBD.out).mono ?_
              rintro e w9 ⟨A9, o', T', rfl, pi9, mv9⟩
              obtain ⟨n9, now9, was9, saved9, save9, has9, ahead9, aheadS9⟩ := o'
              rw [show OwnV.cells (⟨n9, now9, was9, saved9, save9, has9, ahead9, aheadS9⟩ : OwnV) = #[.int .i64 n9, .string now9, .string was9, .string saved9, .int .u64 save9, .bool has9, .bool ahead9, .bool aheadS9] from rfl]
              have ofb := hidx (mv9.off (r := bb) (Nat.lt_of_lt_of_le HPL.out.row.lt HBD.out.size) HA0.out.2.1)
              have ofa := hidx (mv9.off (r := ab) (Nat.lt_of_lt_of_le AR.out.lt HBD.out.size) HA0.out.2.2)
              have PIa : Hid (PI w w9 A9 m p lp ChH (setK os 0 (⟨n9, now9, was9, saved9, save9, has9, ahead9, aheadS9⟩ : OwnV)) T' (1 + 400 * (i + 1)) (2 * (i + 1))) := hidx (pi9.room (by omega) (by omega))
              refine hK.out _ _ ⟨hH.1.same ofb.out.1, hH.2.same ofa.out.1⟩ (fun hH1 => ?_)
              clear hK K hH pi9 mv9
              try simp only [Act.put, List.setIfInBounds_toArray, List.set_cons_zero, List.set_cons_succ]
              refine wpAnyH_take (i := 10) (v := (.tuple #[.agg #[.int .i64 n9, .string now9, .string was9, .string saved9, .int .u64 save9, .bool has9, .bool ahead9, .bool aheadS9], .bool true])) (by simp only [List.getElem?_toArray, List.getElem?_cons_succ, List.getElem?_cons_zero]; rfl) (by kernel_rfl) (by kernel_rfl) (by kernel_rfl) (fun _ _ _ h => h) (Or.inl ⟨by rfl, ?_⟩) hH1 ?_
              · intro wz hSw
                clear hSw
                go_simp
              try simp only [Act.put, List.setIfInBounds_toArray, List.set_cons_zero, List.set_cons_succ]
              refine wpAnyH_take (i := 11) (v := (.agg #[.int .i64 n9, .string now9, .string was9, .string saved9, .int .u64 save9, .bool has9, .bool ahead9, .bool aheadS9])) (by simp only [List.getElem?_toArray, List.getElem?_cons_succ, List.getElem?_cons_zero]; rfl) (by kernel_rfl) (by kernel_rfl) (by kernel_rfl) (fun _ _ _ h => h) (Or.inl ⟨by rfl, ?_⟩) hH1 ?_
              · intro wz hSw
                clear hSw
                go_simp
              try simp only [Act.put, List.setIfInBounds_toArray, List.set_cons_zero, List.set_cons_succ]
              refine wpAnyH_take (i := 12) (v := (.bool true)) (by simp only [List.getElem?_toArray, List.getElem?_cons_succ, List.getElem?_cons_zero]; rfl) (by kernel_rfl) (by kernel_rfl) (by kernel_rfl) (fun _ _ _ h => h) (Or.inl ⟨by rfl, ?_⟩) hH1 ?_
              · intro wz hSw
                clear hSw
                go_simp
              try simp only [Act.put, List.setIfInBounds_toArray, List.set_cons_zero, List.set_cons_succ]
              refine wpAnyH_ready (rs := [13]) (by kernel_rfl) (by simp) ?_
              refine AllReadyH.cons (i := 13) (by simp only [List.getElem?_toArray, List.getElem?_cons_succ, List.getElem?_cons_zero]; rfl) (fun K hK => ?_) AllReadyH.nil
              go_simp
              obtain ⟨WA, HWA⟩ : ∃ W, Hid (W = w9.alloc (.cells #[.int .i64 0, .string ⟨#[]⟩, .string ⟨#[]⟩, .string ⟨#[]⟩, .int .u64 0, .bool false, .bool false, .bool false] 30)) := ⟨_, rfl⟩
              rw [← HWA.out]
              have bA : Below w9.heap.size w9 WA := by rw [HWA.out]; exact (Below.refl _ _).alloc (Nat.le_refl _) _
              have zA : BlkR WA w9.heap.size #[.int .i64 0, .string ⟨#[]⟩, .string ⟨#[]⟩, .string ⟨#[]⟩, .int .u64 0, .bool false, .bool false, .bool false] 30 := by rw [HWA.out]; exact heap_alloc_new _ _
              obtain ⟨b9, Hb9⟩ : ∃ b, Hid (w9.heap.size = b) := ⟨_, rfl⟩
              have ZB : Hid (BlkR WA b9 #[.int .i64 0, .string ⟨#[]⟩, .string ⟨#[]⟩, .string ⟨#[]⟩, .int .u64 0, .bool false, .bool false, .bool false] 30) := by rw [Hb9.out] at zA; exact zA
              have hlb : bb < w9.heap.size := hH1.1.lt
              have hla : ab < w9.heap.size := hH1.2.lt
              rw [Hb9.out]
              refine hK.out _ _ ⟨hH1.1.under bA hH1.1.lt, hH1.2.under bA hH1.2.lt⟩ (fun hH2 => ?_)
              clear hK K hH1
              try simp only [Act.put, List.setIfInBounds_toArray, List.set_cons_zero, List.set_cons_succ]
              have HNA : Hid (ab ≠ b9) := by show _ ≠ _; rw [← Hb9.out]; exact fun e => by have := hla; omega
              have BA := hidx bA
              have HLB : Hid (bb ≠ b9) := by show _ ≠ _; rw [← Hb9.out]; exact fun e => by have := hlb; omega
              clear bA zA hlb hla HWA
              refine wpAnyH_ready (rs := [14]) (by kernel_rfl) (by simp) ?_
              refine AllReadyH.cons (i := 14) (by simp only [List.getElem?_toArray, List.getElem?_cons_succ, List.getElem?_cons_zero]; rfl) (fun K hK => ?_) AllReadyH.nil
              have HBK : Hid (BkOut w (WA.setRow b9 #[.int .i64 n9, .string now9, .string was9, .string saved9, .int .u64 save9, .bool has9, .bool ahead9, .bool aheadS9]) m p lp ChH bb os (1 + 400 * (i + 1)) (2 * (i + 1)) 0 b9 (⟨n9, now9, was9, saved9, save9, has9, ahead9, aheadS9⟩ : OwnV)) := bk_row (k := 0) (⟨n9, now9, was9, saved9, save9, has9, ahead9, aheadS9⟩ : OwnV) (PIa.out.below BA.out) ofb.out.2 (fun y => by have := PIa.out.lt _ y; have := Hb9.out; omega) hH2.1 ZB.out (fun e => HLB.out e.symm) HPL.out.new (by have := Hb9.out; have := PIa.out.bel.size; omega)
              refine step_storeRow (by rfl) _ _ _ (by rfl) (by rfl) b9 (by rfl) #[.int .i64 n9, .string now9, .string was9, .string saved9, .int .u64 save9, .bool has9, .bool ahead9, .bool aheadS9] #[.int .i64 0, .string ⟨#[]⟩, .string ⟨#[]⟩, .string ⟨#[]⟩, .int .u64 0, .bool false, .bool false, .bool false] (by rfl) _ ZB.out (by kernel_rfl) (by rfl) (by simp [Value.oneCell']) ?_
              refine hK.out _ _ ⟨HBK.out.row, hH2.2.same (setRow_other _ _ _ _ HNA.out)⟩ (fun hHs => ?_)
              clear hK K hH2
              try simp only [Act.put, List.setIfInBounds_toArray, List.set_cons_zero, List.set_cons_succ]
              refine wpAnyH_take (i := 15) (v := (.bool true)) (by simp only [List.getElem?_toArray, List.getElem?_cons_succ, List.getElem?_cons_zero]; rfl) (by kernel_rfl) (by kernel_rfl) (by kernel_rfl) (fun _ _ _ h => h) (Or.inl ⟨by rfl, ?_⟩) hHs ?_
              · intro wz hSw
                clear hSw
                go_simp
              try simp only [Act.put, List.setIfInBounds_toArray, List.set_cons_zero, List.set_cons_succ]
              refine wpAnyH_done (by kernel_rfl) ?_ _
              refine NoPanic.normal ?_
              obtain ⟨WR, HWR⟩ : ∃ W, Hid (W = (WA.setRow b9 #[.int .i64 n9, .string now9, .string was9, .string saved9, .int .u64 save9, .bool has9, .bool ahead9, .bool aheadS9])) := ⟨_, rfl⟩
              rw [← HWR.out] at HBK ⊢
              clear HWR hHs
              go_wp2_with fail
              go_meet
              case rel => exact ⟨b9, (⟨n9, now9, was9, saved9, save9, has9, ahead9, aheadS9⟩ : OwnV), rfl, rfl, HBK⟩
            · go_simp
              obtain ⟨WA, HWA⟩ : ∃ W, Hid (W = WD.alloc (.cells #[.int .i64 0, .string ⟨#[]⟩, .string ⟨#[]⟩, .string ⟨#[]⟩, .int .u64 0, .bool false, .bool false, .bool false] 30)) := ⟨_, rfl⟩
              rw [← HWA.out]
              have bA : Below WD.heap.size WD WA := by rw [HWA.out]; exact (Below.refl _ _).alloc (Nat.le_refl _) _
              have zA : BlkR WA WD.heap.size #[.int .i64 0, .string ⟨#[]⟩, .string ⟨#[]⟩, .string ⟨#[]⟩, .int .u64 0, .bool false, .bool false, .bool false] 30 := by rw [HWA.out]; exact heap_alloc_new _ _
              obtain ⟨b9, Hb9⟩ : ∃ b, Hid (WD.heap.size = b) := ⟨_, rfl⟩
              rw [Hb9.out] at zA
              have hlb : bb < WD.heap.size := hH.1.lt
              have hla : ab < WD.heap.size := hH.2.lt
              rw [Hb9.out]
              refine hK.out _ _ ⟨hH.1.under bA hH.1.lt, hH.2.under bA hH.2.lt⟩ (fun hH1 => ?_)
              clear hK K hH
              try simp only [Act.put, List.setIfInBounds_toArray, List.set_cons_zero, List.set_cons_succ]
              have HBA2 : Hid (Below wr.heap.size wr WA) := below_chain HBD.out bA
              have hn9 : ¬ A0 b9 := fun y => by have := HA0.out.1.lt _ y; have := HBD.out.size; have := Hb9.out; omega
              refine wpAnyH_ready (rs := [9]) (by kernel_rfl) (by simp) ?_
              refine AllReadyH.cons (i := 9) (by simp only [List.getElem?_toArray, List.getElem?_cons_succ, List.getElem?_cons_zero]; rfl) (fun K hK => ?_) AllReadyH.nil
              go_simp
              refine (HON.out WA HBA2.out).mono ?_
              rintro e w9 ⟨A9, o', T', rfl, pi9, mv9⟩
              obtain ⟨n9, now9, was9, saved9, save9, has9, ahead9, aheadS9⟩ := o'
              rw [show OwnV.cells (⟨n9, now9, was9, saved9, save9, has9, ahead9, aheadS9⟩ : OwnV) = #[.int .i64 n9, .string now9, .string was9, .string saved9, .int .u64 save9, .bool has9, .bool ahead9, .bool aheadS9] from rfl]
              have ofb := hidx (mv9.off (r := bb) hH1.1.lt HA0.out.2.1)
              have ofa := hidx (mv9.off (r := ab) hH1.2.lt HA0.out.2.2)
              have PIa : Hid (PI w w9 A9 m p lp ChH (setK os 0 (⟨n9, now9, was9, saved9, save9, has9, ahead9, aheadS9⟩ : OwnV)) T' (1 + 400 * (i + 1)) (2 * (i + 1))) := hidx (pi9.room (by omega) (by omega))
              refine hK.out _ _ ⟨hH1.1.same ofb.out.1, hH1.2.same ofa.out.1⟩ (fun hH2 => ?_)
              clear hK K hH1 pi9
              try simp only [Act.put, List.setIfInBounds_toArray, List.set_cons_zero, List.set_cons_succ]
              have of9 := hidx (mv9.off (r := b9) zA.lt hn9)
              have ZB : Hid (BlkR w9 b9 #[.int .i64 0, .string ⟨#[]⟩, .string ⟨#[]⟩, .string ⟨#[]⟩, .int .u64 0, .bool false, .bool false, .bool false] 30) := zA.same of9.out.1
              have HNA : Hid (ab ≠ b9) := by show _ ≠ _; rw [← Hb9.out]; exact fun e => by omega
              clear mv9 zA hn9 bA HWA
              refine wpAnyH_take (i := 10) (v := (.tuple #[.agg #[.int .i64 n9, .string now9, .string was9, .string saved9, .int .u64 save9, .bool has9, .bool ahead9, .bool aheadS9], .bool true])) (by simp only [List.getElem?_toArray, List.getElem?_cons_succ, List.getElem?_cons_zero]; rfl) (by kernel_rfl) (by kernel_rfl) (by kernel_rfl) (fun _ _ _ h => h) (Or.inl ⟨by rfl, ?_⟩) hH2 ?_
              · intro wz hSw
                clear hSw
                go_simp
              try simp only [Act.put, List.setIfInBounds_toArray, List.set_cons_zero, List.set_cons_succ]
              refine wpAnyH_take (i := 11) (v := (.agg #[.int .i64 n9, .string now9, .string was9, .string saved9, .int .u64 save9, .bool has9, .bool ahead9, .bool aheadS9])) (by simp only [List.getElem?_toArray, List.getElem?_cons_succ, List.getElem?_cons_zero]; rfl) (by kernel_rfl) (by kernel_rfl) (by kernel_rfl) (fun _ _ _ h => h) (Or.inl ⟨by rfl, ?_⟩) hH2 ?_
              · intro wz hSw
                clear hSw
                go_simp
              try simp only [Act.put, List.setIfInBounds_toArray, List.set_cons_zero, List.set_cons_succ]
              refine wpAnyH_take (i := 12) (v := (.bool true)) (by simp only [List.getElem?_toArray, List.getElem?_cons_succ, List.getElem?_cons_zero]; rfl) (by kernel_rfl) (by kernel_rfl) (by kernel_rfl) (fun _ _ _ h => h) (Or.inl ⟨by rfl, ?_⟩) hH2 ?_
              · intro wz hSw
                clear hSw
                go_simp
              try simp only [Act.put, List.setIfInBounds_toArray, List.set_cons_zero, List.set_cons_succ]
              refine wpAnyH_ready (rs := [14]) (by kernel_rfl) (by simp) ?_
              refine AllReadyH.cons (i := 14) (by simp only [List.getElem?_toArray, List.getElem?_cons_succ, List.getElem?_cons_zero]; rfl) (fun K hK => ?_) AllReadyH.nil
              have HBK : Hid (BkOut w (w9.setRow b9 #[.int .i64 n9, .string now9, .string was9, .string saved9, .int .u64 save9, .bool has9, .bool ahead9, .bool aheadS9]) m p lp ChH bb os (1 + 400 * (i + 1)) (2 * (i + 1)) 0 b9 (⟨n9, now9, was9, saved9, save9, has9, ahead9, aheadS9⟩ : OwnV)) := bk_row (k := 0) (⟨n9, now9, was9, saved9, save9, has9, ahead9, aheadS9⟩ : OwnV) PIa.out ofb.out.2 of9.out.2 hH2.1 ZB.out (by have := Hb9.out; omega) HPL.out.new (by have := Hb9.out; have := HPL.out.bel.size; have := HBD.out.size; omega)
              refine step_storeRow (by rfl) _ _ _ (by rfl) (by rfl) b9 (by rfl) #[.int .i64 n9, .string now9, .string was9, .string saved9, .int .u64 save9, .bool has9, .bool ahead9, .bool aheadS9] #[.int .i64 0, .string ⟨#[]⟩, .string ⟨#[]⟩, .string ⟨#[]⟩, .int .u64 0, .bool false, .bool false, .bool false] (by rfl) _ ZB.out (by kernel_rfl) (by rfl) (by simp [Value.oneCell']) ?_
              refine hK.out _ _ ⟨HBK.out.row, hH2.2.same (setRow_other _ _ _ _ HNA.out)⟩ (fun hHs => ?_)
              clear hK K hH2
              try simp only [Act.put, List.setIfInBounds_toArray, List.set_cons_zero, List.set_cons_succ]
              refine wpAnyH_take (i := 15) (v := (.bool true)) (by simp only [List.getElem?_toArray, List.getElem?_cons_succ, List.getElem?_cons_zero]; rfl) (by kernel_rfl) (by kernel_rfl) (by kernel_rfl) (fun _ _ _ h => h) (Or.inl ⟨by rfl, ?_⟩) hHs ?_
              · intro wz hSw
                clear hSw
                go_simp
              try simp only [Act.put, List.setIfInBounds_toArray, List.set_cons_zero, List.set_cons_succ]
              refine wpAnyH_done (by kernel_rfl) ?_ _
              refine NoPanic.normal ?_
              obtain ⟨WR, HWR⟩ : ∃ W, Hid (W = (w9.setRow b9 #[.int .i64 n9, .string now9, .string was9, .string saved9, .int .u64 save9, .bool has9, .bool ahead9, .bool aheadS9])) := ⟨_, rfl⟩
              rw [← HWR.out] at HBK ⊢
              clear HWR hHs
              go_wp2_with fail
              go_meet
              case rel => exact ⟨b9, (⟨n9, now9, was9, saved9, save9, has9, ahead9, aheadS9⟩ : OwnV), rfl, rfl, HBK⟩
          obtain ⟨b9, o', rfl, rfl, HBK⟩ := hcut
          clear HPL HA0 AR
          have q0 : wc.cell? ⟨b9, 0, none⟩ = some (.int .i64 o'.n) := HBK.out.box.cell 0
          have q1 : wc.cell? ⟨b9, 1, none⟩ = some (.string o'.now) := HBK.out.box.cell 1
          have q2 : wc.cell? ⟨b9, 2, none⟩ = some (.string o'.was) := HBK.out.box.cell 2
          have q3 : wc.cell? ⟨b9, 3, none⟩ = some (.string o'.saved) := HBK.out.box.cell 3
          have q4 : wc.cell? ⟨b9, 4, none⟩ = some (.int .u64 o'.save) := HBK.out.box.cell 4
          have q5 : wc.cell? ⟨b9, 5, none⟩ = some (.bool o'.has) := HBK.out.box.cell 5
          have q6 : wc.cell? ⟨b9, 6, none⟩ = some (.bool o'.ahead) := HBK.out.box.cell 6
          have q7 : wc.cell? ⟨b9, 7, none⟩ = some (.bool o'.aheadS) := HBK.out.box.cell 7
          have r0 : wc.cell? ⟨bb, 0, none⟩ = some (.int .i64 (os 0).n) := HBK.out.row.cell 0
          have r1 : wc.cell? ⟨bb, 1, none⟩ = some (.string (os 0).now) := HBK.out.row.cell 1
          have r2 : wc.cell? ⟨bb, 2, none⟩ = some (.string (os 0).was) := HBK.out.row.cell 2
          have r3 : wc.cell? ⟨bb, 3, none⟩ = some (.string (os 0).saved) := HBK.out.row.cell 3
          have r4 : wc.cell? ⟨bb, 4, none⟩ = some (.int .u64 (os 0).save) := HBK.out.row.cell 4
          have r5 : wc.cell? ⟨bb, 5, none⟩ = some (.bool (os 0).has) := HBK.out.row.cell 5
          have r6 : wc.cell? ⟨bb, 6, none⟩ = some (.bool (os 0).ahead) := HBK.out.row.cell 6
          have r7 : wc.cell? ⟨bb, 7, none⟩ = some (.bool (os 0).aheadS) := HBK.out.row.cell 7
          have t0 : wc.frozen? ⟨bb, 0, none⟩ = false := HBK.out.row.frozen 0
          have t1 : wc.frozen? ⟨bb, 1, none⟩ = false := HBK.out.row.frozen 1
          have t2 : wc.frozen? ⟨bb, 2, none⟩ = false := HBK.out.row.frozen 2
          have t3 : wc.frozen? ⟨bb, 3, none⟩ = false := HBK.out.row.frozen 3
          have t4 : wc.frozen? ⟨bb, 4, none⟩ = false := HBK.out.row.frozen 4
          have t5 : wc.frozen? ⟨bb, 5, none⟩ = false := HBK.out.row.frozen 5
          have t6 : wc.frozen? ⟨bb, 6, none⟩ = false := HBK.out.row.frozen 6
          have t7 : wc.frozen? ⟨bb, 7, none⟩ = false := HBK.out.row.frozen 7
          obtain ⟨T4, HP4'⟩ := bk_put0 HBK.out
          have HP4 := hidx HP4'
          obtain ⟨W4, HW4⟩ : ∃ W, Hid (W = ((((((((wc.setCell ⟨bb, 0, none⟩ (.int .i64 o'.n)).setCell ⟨bb, 1, none⟩ (.string o'.now)).setCell ⟨bb, 2, none⟩ (.string o'.was)).setCell ⟨bb, 3, none⟩ (.string o'.saved)).setCell ⟨bb, 4, none⟩ (.int .u64 o'.save)).setCell ⟨bb, 5, none⟩ (.bool o'.has)).setCell ⟨bb, 6, none⟩ (.bool o'.ahead)).setCell ⟨bb, 7, none⟩ (.bool o'.aheadS))) := ⟨_, rfl⟩
          rw [← HW4.out] at HP4
          clear HP4' HBK
          go_upto_region 7 with fail
          rw [← HW4.out]
          clear HW4 q0 r0 t0 q1 r1 t1 q2 r2 t2 q3 r3 t3 q4 r4 t4 q5 r5 t5 q6 r6 t6 q7 r7 t7
          obtain ⟨os4, HO4⟩ : ∃ q, Hid (setK os 0 o' = q) := ⟨_, rfl⟩
          rw [HO4.out] at HP4
          clear HO4
          go_wp2_with fail
          go_roundw
          case rel => exact ⟨i + 1, os4, T4, by go_num, by omega, by omega, HP4⟩
          case measure => simp [intOf]; omega
        · go_upto_region 10 with fail
          rw [show (((1 : Nat)) : Int) = 1 from rfl]
          clear hsk a0 a1
          go_cut [8, 9] from 49 to 67 (fun v8 v9 wx => ∃ (b9 : Nat) (o' : OwnV), v8 = .pointer (some ⟨b9, 0, none⟩) ∧ v9 = .bool true ∧ Hid (BkOut w wx m p lp ChH bb os (1 + 400 * (i + 1)) (2 * (i + 1)) 1 b9 o'))
          case first =>
            as_aux_lemma =>
            have HON : Hid (∀ wy, Below wr.heap.size wr wy → Calls Tryz.prog 7 #[.pointer (some ⟨m, 0, none⟩), .int .i64 1, .agg #[.int .i64 (os 1).n, .string (os 1).now, .string (os 1).was, .string (os 1).saved, .int .u64 (os 1).save, .bool (os 1).has, .bool (os 1).ahead, .bool (os 1).aheadS], .agg #[.int .i64 kd, .int .i64 x, .string s]] wy (OneOut w wy A0 m p lp ChH os (1 + 400 * i) (2 * i) 1)) := fun wy b => one_any (who := 1) ch_ok (HA0.out.1.below b) (by omega) (by omega) (by omega) kd x s HS.out (H8.out 1)
            refine wp_region_noPanic ?_
            refine wp_region_held_drew (S := (fun wy : World => BlkR wy bb (cells24 os) 31 ∧ ActRow wy ab (ao + i * 3) kd x s)) chmixed ⟨HPL.out.row, AR.out.same rfl⟩ (fun hH => ?_)
            obtain ⟨WD, HWD⟩ : ∃ W, Hid (W = wr.drew) := ⟨_, rfl⟩
            have HBD : Hid (Below wr.heap.size wr WD) := by show Below _ _ _; rw [HWD.out]; exact (Below.refl _ _).drew
            rw [← HWD.out] at hH ⊢
            clear HWD
            refine wpAnyH_take (i := 0) (v := (.pointer (some ⟨m, 0, none⟩))) (by simp only [List.getElem?_toArray, List.getElem?_cons_zero]; rfl) (by kernel_rfl) (by kernel_rfl) (by kernel_rfl) (fun _ _ _ h => h) (Or.inl ⟨by rfl, ?_⟩) hH ?_
            · intro wz hSw
              clear hSw
              go_simp
            try simp only [Act.put, List.setIfInBounds_toArray, List.set_cons_zero, List.set_cons_succ]
            refine wpAnyH_take (i := 1) (v := (.int .i64 1)) (by simp only [List.getElem?_toArray, List.getElem?_cons_succ, List.getElem?_cons_zero]; rfl) (by kernel_rfl) (by kernel_rfl) (by kernel_rfl) (fun _ _ _ h => h) (Or.inl ⟨by rfl, ?_⟩) hH ?_
            · intro wz hSw
              clear hSw
              go_simp
            try simp only [Act.put, List.setIfInBounds_toArray, List.set_cons_zero, List.set_cons_succ]
            refine wpAnyH_take (i := 2) (v := (.int .i64 1)) (by simp only [List.getElem?_toArray, List.getElem?_cons_succ, List.getElem?_cons_zero]; rfl) (by kernel_rfl) (by kernel_rfl) (by kernel_rfl) (fun _ _ _ h => h) (Or.inl ⟨by rfl, ?_⟩) hH ?_
            · intro wz hSw
              clear hSw
              go_simp
            try simp only [Act.put, List.setIfInBounds_toArray, List.set_cons_zero, List.set_cons_succ]
            refine wpAnyH_take (i := 3) (v := (.pointer (some ⟨bb, 8, none⟩))) (by simp only [List.getElem?_toArray, List.getElem?_cons_succ, List.getElem?_cons_zero]; rfl) (by kernel_rfl) (by kernel_rfl) (by kernel_rfl) (fun _ _ _ h => h) (Or.inl ⟨by rfl, ?_⟩) hH ?_
            · intro wz hSw
              clear hSw
              go_simp
            try simp only [Act.put, List.setIfInBounds_toArray, List.set_cons_zero, List.set_cons_succ]
            refine wpAnyH_take (i := 4) (v := (.agg #[.int .i64 (os 1).n, .string (os 1).now, .string (os 1).was, .string (os 1).saved, .int .u64 (os 1).save, .bool (os 1).has, .bool (os 1).ahead, .bool (os 1).aheadS])) (by simp only [List.getElem?_toArray, List.getElem?_cons_succ, List.getElem?_cons_zero]; rfl) (by kernel_rfl) (by kernel_rfl) (by kernel_rfl) (fun _ _ _ h => h) (Or.inl ⟨by rfl, ?_⟩) hH ?_
            · intro wz hSw
              have s0 : wz.cell? ⟨bb, 8, none⟩ = some (.int .i64 (os 1).n) := BlkR.cell hSw.1 8
              have s1 : wz.cell? ⟨bb, 9, none⟩ = some (.string (os 1).now) := BlkR.cell hSw.1 9
              have s2 : wz.cell? ⟨bb, 10, none⟩ = some (.string (os 1).was) := BlkR.cell hSw.1 10
              have s3 : wz.cell? ⟨bb, 11, none⟩ = some (.string (os 1).saved) := BlkR.cell hSw.1 11
              have s4 : wz.cell? ⟨bb, 12, none⟩ = some (.int .u64 (os 1).save) := BlkR.cell hSw.1 12
              have s5 : wz.cell? ⟨bb, 13, none⟩ = some (.bool (os 1).has) := BlkR.cell hSw.1 13
              have s6 : wz.cell? ⟨bb, 14, none⟩ = some (.bool (os 1).ahead) := BlkR.cell hSw.1 14
              have s7 : wz.cell? ⟨bb, 15, none⟩ = some (.bool (os 1).aheadS) := BlkR.cell hSw.1 15
              clear hSw
              go_simp
            try simp only [Act.put, List.setIfInBounds_toArray, List.set_cons_zero, List.set_cons_succ]
            refine wpAnyH_take (i := 5) (v := (.slice (some ⟨ab, ao, none⟩) n c)) (by simp only [List.getElem?_toArray, List.getElem?_cons_succ, List.getElem?_cons_zero]; rfl) (by kernel_rfl) (by kernel_rfl) (by kernel_rfl) (fun _ _ _ h => h) (Or.inl ⟨by rfl, ?_⟩) hH ?_
            · intro wz hSw
              clear hSw
              go_simp
            try simp only [Act.put, List.setIfInBounds_toArray, List.set_cons_zero, List.set_cons_succ]
            refine wpAnyH_take (i := 6) (v := (.int .i64 i)) (by simp only [List.getElem?_toArray, List.getElem?_cons_succ, List.getElem?_cons_zero]; rfl) (by kernel_rfl) (by kernel_rfl) (by kernel_rfl) (fun _ _ _ h => h) (Or.inl ⟨by rfl, ?_⟩) hH ?_
            · intro wz hSw
              clear hSw
              go_simp
            try simp only [Act.put, List.setIfInBounds_toArray, List.set_cons_zero, List.set_cons_succ]
            refine wpAnyH_take (i := 7) (v := (.pointer (some ⟨ab, ao + i * 3, none⟩))) (by simp only [List.getElem?_toArray, List.getElem?_cons_succ, List.getElem?_cons_zero]; rfl) (by kernel_rfl) (by kernel_rfl) (by kernel_rfl) (fun _ _ _ h => h) (Or.inl ⟨by rfl, ?_⟩) hH ?_
            · intro wz hSw
              clear hSw
              go_simp
            try simp only [Act.put, List.setIfInBounds_toArray, List.set_cons_zero, List.set_cons_succ]
            refine wpAnyH_take (i := 8) (v := (.agg #[.int .i64 kd, .int .i64 x, .string s])) (by simp only [List.getElem?_toArray, List.getElem?_cons_succ, List.getElem?_cons_zero]; rfl) (by kernel_rfl) (by kernel_rfl) (by kernel_rfl) (fun _ _ _ h => h) (Or.inl ⟨by rfl, ?_⟩) hH ?_
            · intro wz hSw
              have s0 := hSw.2.c0
              have s1 := hSw.2.c1
              have s2 := hSw.2.c2
              clear hSw
              go_simp
            try simp only [Act.put, List.setIfInBounds_toArray, List.set_cons_zero, List.set_cons_succ]
            refine wpAnyH_ready (rs := [9, 13]) (by kernel_rfl) (by simp) ?_
            refine AllReadyH.cons (i := 9) (by simp only [List.getElem?_toArray, List.getElem?_cons_succ, List.getElem?_cons_zero]; rfl) (fun K hK => ?_) (AllReadyH.cons (i := 13) (by simp only [List.getElem?_toArray, List.getElem?_cons_succ, List.getElem?_cons_zero]; rfl) (fun K hK => ?_) AllReadyH.nil)
            · go_simp
              refine (HON.out WD HBD.out).mono ?_
              rintro e w9 ⟨A9, o', T', rfl, pi9, mv9⟩
              obtain ⟨n9, now9, was9, saved9, save9, has9, ahead9, aheadS9⟩ := o'
              rw [show OwnV.cells (⟨n9, now9, was9, saved9, save9, has9, ahead9, aheadS9⟩ : OwnV) = #[.int .i64 n9, .string now9, .string was9, .string saved9, .int .u64 save9, .bool has9, .bool ahead9, .bool aheadS9] from rfl]
              have ofb := hidx (mv9.off (r := bb) (Nat.lt_of_lt_of_le HPL.out.row.lt HBD.out.size) HA0.out.2.1)
              have ofa := hidx (mv9.off (r := ab) (Nat.lt_of_lt_of_le AR.out.lt HBD.out.size) HA0.out.2.2)
              have PIa : Hid (PI w w9 A9 m p lp ChH (setK os 1 (⟨n9, now9, was9, saved9, save9, has9, ahead9, aheadS9⟩ : OwnV)) T' (1 + 400 * (i + 1)) (2 * (i + 1))) := hidx (pi9.room (by omega) (by omega))
              refine hK.out _ _ ⟨hH.1.same ofb.out.1, hH.2.same ofa.out.1⟩ (fun hH1 => ?_)
              clear hK K hH pi9 mv9
              try simp only [Act.put, List.setIfInBounds_toArray, List.set_cons_zero, List.set_cons_succ]
              refine wpAnyH_take (i := 10) (v := (.tuple #[.agg #[.int .i64 n9, .string now9, .string was9, .string saved9, .int .u64 save9, .bool has9, .bool ahead9, .bool aheadS9], .bool true])) (by simp only [List.getElem?_toArray, List.getElem?_cons_succ, List.getElem?_cons_zero]; rfl) (by kernel_rfl) (by kernel_rfl) (by kernel_rfl) (fun _ _ _ h => h) (Or.inl ⟨by rfl, ?_⟩) hH1 ?_
              · intro wz hSw
                clear hSw
                go_simp
              try simp only [Act.put, List.setIfInBounds_toArray, List.set_cons_zero, List.set_cons_succ]
              refine wpAnyH_take (i := 11) (v := (.agg #[.int .i64 n9, .string now9, .string was9, .string saved9, .int .u64 save9, .bool has9, .bool ahead9, .bool aheadS9])) (by simp only [List.getElem?_toArray, List.getElem?_cons_succ, List.getElem?_cons_zero]; rfl) (by kernel_rfl) (by kernel_rfl) (by kernel_rfl) (fun _ _ _ h => h) (Or.inl ⟨by rfl, ?_⟩) hH1 ?_
              · intro wz hSw
                clear hSw
                go_simp
              try simp only [Act.put, List.setIfInBounds_toArray, List.set_cons_zero, List.set_cons_succ]
              refine wpAnyH_take (i := 12) (v := (.bool true)) (by simp only [List.getElem?_toArray, List.getElem?_cons_succ, List.getElem?_cons_zero]; rfl) (by kernel_rfl) (by kernel_rfl) (by kernel_rfl) (fun _ _ _ h => h) (Or.inl ⟨by rfl, ?_⟩) hH1 ?_
              · intro wz hSw
                clear hSw
                go_simp
              try simp only [Act.put, List.setIfInBounds_toArray, List.set_cons_zero, List.set_cons_succ]
              refine wpAnyH_ready (rs := [13]) (by kernel_rfl) (by simp) ?_
              refine AllReadyH.cons (i := 13) (by simp only [List.getElem?_toArray, List.getElem?_cons_succ, List.getElem?_cons_zero]; rfl) (fun K hK => ?_) AllReadyH.nil
              go_simp
              obtain ⟨WA, HWA⟩ : ∃ W, Hid (W = w9.alloc (.cells #[.int .i64 0, .string ⟨#[]⟩, .string ⟨#[]⟩, .string ⟨#[]⟩, .int .u64 0, .bool false, .bool false, .bool false] 30)) := ⟨_, rfl⟩
              rw [← HWA.out]
              have bA : Below w9.heap.size w9 WA := by rw [HWA.out]; exact (Below.refl _ _).alloc (Nat.le_refl _) _
              have zA : BlkR WA w9.heap.size #[.int .i64 0, .string ⟨#[]⟩, .string ⟨#[]⟩, .string ⟨#[]⟩, .int .u64 0, .bool false, .bool false, .bool false] 30 := by rw [HWA.out]; exact heap_alloc_new _ _
              obtain ⟨b9, Hb9⟩ : ∃ b, Hid (w9.heap.size = b) := ⟨_, rfl⟩
              have ZB : Hid (BlkR WA b9 #[.int .i64 0, .string ⟨#[]⟩, .string ⟨#[]⟩, .string ⟨#[]⟩, .int .u64 0, .bool false, .bool false, .bool false] 30) := by rw [Hb9.out] at zA; exact zA
              have hlb : bb < w9.heap.size := hH1.1.lt
              have hla : ab < w9.heap.size := hH1.2.lt
              rw [Hb9.out]
              refine hK.out _ _ ⟨hH1.1.under bA hH1.1.lt, hH1.2.under bA hH1.2.lt⟩ (fun hH2 => ?_)
              clear hK K hH1
              try simp only [Act.put, List.setIfInBounds_toArray, List.set_cons_zero, List.set_cons_succ]
              have HNA : Hid (ab ≠ b9) := by show _ ≠ _; rw [← Hb9.out]; exact fun e => by have := hla; omega
              have BA := hidx bA
              have HLB : Hid (bb ≠ b9) := by show _ ≠ _; rw [← Hb9.out]; exact fun e => by have := hlb; omega
              clear bA zA hlb hla HWA
              refine wpAnyH_ready (rs := [14]) (by kernel_rfl) (by simp) ?_
              refine AllReadyH.cons (i := 14) (by simp only [List.getElem?_toArray, List.getElem?_cons_succ, List.getElem?_cons_zero]; rfl) (fun K hK => ?_) AllReadyH.nil
              have HBK : Hid (BkOut w (WA.setRow b9 #[.int .i64 n9, .string now9, .string was9, .string saved9, .int .u64 save9, .bool has9, .bool ahead9, .bool aheadS9]) m p lp ChH bb os (1 + 400 * (i + 1)) (2 * (i + 1)) 1 b9 (⟨n9, now9, was9, saved9, save9, has9, ahead9, aheadS9⟩ : OwnV)) := bk_row (k := 1) (⟨n9, now9, was9, saved9, save9, has9, ahead9, aheadS9⟩ : OwnV) (PIa.out.below BA.out) ofb.out.2 (fun y => by have := PIa.out.lt _ y; have := Hb9.out; omega) hH2.1 ZB.out (fun e => HLB.out e.symm) HPL.out.new (by have := Hb9.out; have := PIa.out.bel.size; omega)
              refine step_storeRow (by rfl) _ _ _ (by rfl) (by rfl) b9 (by rfl) #[.int .i64 n9, .string now9, .string was9, .string saved9, .int .u64 save9, .bool has9, .bool ahead9, .bool aheadS9] #[.int .i64 0, .string ⟨#[]⟩, .string ⟨#[]⟩, .string ⟨#[]⟩, .int .u64 0, .bool false, .bool false, .bool false] (by rfl) _ ZB.out (by kernel_rfl) (by rfl) (by simp [Value.oneCell']) ?_
              refine hK.out _ _ ⟨HBK.out.row, hH2.2.same (setRow_other _ _ _ _ HNA.out)⟩ (fun hHs => ?_)
              clear hK K hH2
              try simp only [Act.put, List.setIfInBounds_toArray, List.set_cons_zero, List.set_cons_succ]
              refine wpAnyH_take (i := 15) (v := (.bool true)) (by simp only [List.getElem?_toArray, List.getElem?_cons_succ, List.getElem?_cons_zero]; rfl) (by kernel_rfl) (by kernel_rfl) (by kernel_rfl) (fun _ _ _ h => h) (Or.inl ⟨by rfl, ?_⟩) hHs ?_
              · intro wz hSw
                clear hSw
                go_simp
              try simp only [Act.put, List.setIfInBounds_toArray, List.set_cons_zero, List.set_cons_succ]
              refine wpAnyH_done (by kernel_rfl) ?_ _
              refine NoPanic.normal ?_
              obtain ⟨WR, HWR⟩ : ∃ W, Hid (W = (WA.setRow b9 #[.int .i64 n9, .string now9, .string was9, .string saved9, .int .u64 save9, .bool has9, .bool ahead9, .bool aheadS9])) := ⟨_, rfl⟩
              rw [← HWR.out] at HBK ⊢
              clear HWR hHs
              go_wp2_with fail
              go_meet
              case rel => exact ⟨b9, (⟨n9, now9, was9, saved9, save9, has9, ahead9, aheadS9⟩ : OwnV), rfl, rfl, HBK⟩
            · go_simp
              obtain ⟨WA, HWA⟩ : ∃ W, Hid (W = WD.alloc (.cells #[.int .i64 0, .string ⟨#[]⟩, .string ⟨#[]⟩, .string ⟨#[]⟩, .int .u64 0, .bool false, .bool false, .bool false] 30)) := ⟨_, rfl⟩
              rw [← HWA.out]
              have bA : Below WD.heap.size WD WA := by rw [HWA.out]; exact (Below.refl _ _).alloc (Nat.le_refl _) _
              have zA : BlkR WA WD.heap.size #[.int .i64 0, .string ⟨#[]⟩, .string ⟨#[]⟩, .string ⟨#[]⟩, .int .u64 0, .bool false, .bool false, .bool false] 30 := by rw [HWA.out]; exact heap_alloc_new _ _
              obtain ⟨b9, Hb9⟩ : ∃ b, Hid (WD.heap.size = b) := ⟨_, rfl⟩
              rw [Hb9.out] at zA
              have hlb : bb < WD.heap.size := hH.1.lt
              have hla : ab < WD.heap.size := hH.2.lt
              rw [Hb9.out]
              refine hK.out _ _ ⟨hH.1.under bA hH.1.lt, hH.2.under bA hH.2.lt⟩ (fun hH1 => ?_)
              clear hK K hH
              try simp only [Act.put, List.setIfInBounds_toArray, List.set_cons_zero, List.set_cons_succ]
              have HBA2 : Hid (Below wr.heap.size wr WA) := below_chain HBD.out bA
              have hn9 : ¬ A0 b9 := fun y => by have := HA0.out.1.lt _ y; have := HBD.out.size; have := Hb9.out; omega
              refine wpAnyH_ready (rs := [9]) (by kernel_rfl) (by simp) ?_
              refine AllReadyH.cons (i := 9) (by simp only [List.getElem?_toArray, List.getElem?_cons_succ, List.getElem?_cons_zero]; rfl) (fun K hK => ?_) AllReadyH.nil
              go_simp
              refine (HON.out WA HBA2.out).mono ?_
              rintro e w9 ⟨A9, o', T', rfl, pi9, mv9⟩
              obtain ⟨n9, now9, was9, saved9, save9, has9, ahead9, aheadS9⟩ := o'
              rw [show OwnV.cells (⟨n9, now9, was9, saved9, save9, has9, ahead9, aheadS9⟩ : OwnV) = #[.int .i64 n9, .string now9, .string was9, .string saved9, .int .u64 save9, .bool has9, .bool ahead9, .bool aheadS9] from rfl]
              have ofb := hidx (mv9.off (r := bb) hH1.1.lt HA0.out.2.1)
              have ofa := hidx (mv9.off (r := ab) hH1.2.lt HA0.out.2.2)
              have PIa : Hid (PI w w9 A9 m p lp ChH (setK os 1 (⟨n9, now9, was9, saved9, save9, has9, ahead9, aheadS9⟩ : OwnV)) T' (1 + 400 * (i + 1)) (2 * (i + 1))) := hidx (pi9.room (by omega) (by omega))
              refine hK.out _ _ ⟨hH1.1.same ofb.out.1, hH1.2.same ofa.out.1⟩ (fun hH2 => ?_)
              clear hK K hH1 pi9
              try simp only [Act.put, List.setIfInBounds_toArray, List.set_cons_zero, List.set_cons_succ]
              have of9 := hidx (mv9.off (r := b9) zA.lt hn9)
              have ZB : Hid (BlkR w9 b9 #[.int .i64 0, .string ⟨#[]⟩, .string ⟨#[]⟩, .string ⟨#[]⟩, .int .u64 0, .bool false, .bool false, .bool false] 30) := zA.same of9.out.1
              have HNA : Hid (ab ≠ b9) := by show _ ≠ _; rw [← Hb9.out]; exact fun e => by omega
              clear mv9 zA hn9 bA HWA
              refine wpAnyH_take (i := 10) (v := (.tuple #[.agg #[.int .i64 n9, .string now9, .string was9, .string saved9, .int .u64 save9, .bool has9, .bool ahead9, .bool aheadS9], .bool true])) (by simp only [List.getElem?_toArray, List.getElem?_cons_succ, List.getElem?_cons_zero]; rfl) (by kernel_rfl) (by kernel_rfl) (by kernel_rfl) (fun _ _ _ h => h) (Or.inl ⟨by rfl, ?_⟩) hH2 ?_
              · intro wz hSw
                clear hSw
                go_simp
              try simp only [Act.put, List.setIfInBounds_toArray, List.set_cons_zero, List.set_cons_succ]
              refine wpAnyH_take (i := 11) (v := (.agg #[.int .i64 n9, .string now9, .string was9, .string saved9, .int .u64 save9, .bool has9, .bool ahead9, .bool aheadS9])) (by simp only [List.getElem?_toArray, List.getElem?_cons_succ, List.getElem?_cons_zero]; rfl) (by kernel_rfl) (by kernel_rfl) (by kernel_rfl) (fun _ _ _ h => h) (Or.inl ⟨by rfl, ?_⟩) hH2 ?_
              · intro wz hSw
                clear hSw
                go_simp
              try simp only [Act.put, List.setIfInBounds_toArray, List.set_cons_zero, List.set_cons_succ]
              refine wpAnyH_take (i := 12) (v := (.bool true)) (by simp only [List.getElem?_toArray, List.getElem?_cons_succ, List.getElem?_cons_zero]; rfl) (by kernel_rfl) (by kernel_rfl) (by kernel_rfl) (fun _ _ _ h => h) (Or.inl ⟨by rfl, ?_⟩) hH2 ?_
              · intro wz hSw
                clear hSw
                go_simp
              try simp only [Act.put, List.setIfInBounds_toArray, List.set_cons_zero, List.set_cons_succ]
              refine wpAnyH_ready (rs := [14]) (by kernel_rfl) (by simp) ?_
              refine AllReadyH.cons (i := 14) (by simp only [List.getElem?_toArray, List.getElem?_cons_succ, List.getElem?_cons_zero]; rfl) (fun K hK => ?_) AllReadyH.nil
              have HBK : Hid (BkOut w (w9.setRow b9 #[.int .i64 n9, .string now9, .string was9, .string saved9, .int .u64 save9, .bool has9, .bool ahead9, .bool aheadS9]) m p lp ChH bb os (1 + 400 * (i + 1)) (2 * (i + 1)) 1 b9 (⟨n9, now9, was9, saved9, save9, has9, ahead9, aheadS9⟩ : OwnV)) := bk_row (k := 1) (⟨n9, now9, was9, saved9, save9, has9, ahead9, aheadS9⟩ : OwnV) PIa.out ofb.out.2 of9.out.2 hH2.1 ZB.out (by have := Hb9.out; omega) HPL.out.new (by have := Hb9.out; have := HPL.out.bel.size; have := HBD.out.size; omega)
              refine step_storeRow (by rfl) _ _ _ (by rfl) (by rfl) b9 (by rfl) #[.int .i64 n9, .string now9, .string was9, .string saved9, .int .u64 save9, .bool has9, .bool ahead9, .bool aheadS9] #[.int .i64 0, .string ⟨#[]⟩, .string ⟨#[]⟩, .string ⟨#[]⟩, .int .u64 0, .bool false, .bool false, .bool false] (by rfl) _ ZB.out (by kernel_rfl) (by rfl) (by simp [Value.oneCell']) ?_
              refine hK.out _ _ ⟨HBK.out.row, hH2.2.same (setRow_other _ _ _ _ HNA.out)⟩ (fun hHs => ?_)
              clear hK K hH2
              try simp only [Act.put, List.setIfInBounds_toArray, List.set_cons_zero, List.set_cons_succ]
              refine wpAnyH_take (i := 15) (v := (.bool true)) (by simp only [List.getElem?_toArray, List.getElem?_cons_succ, List.getElem?_cons_zero]; rfl) (by kernel_rfl) (by kernel_rfl) (by kernel_rfl) (fun _ _ _ h => h) (Or.inl ⟨by rfl, ?_⟩) hHs ?_
              · intro wz hSw
                clear hSw
                go_simp
              try simp only [Act.put, List.setIfInBounds_toArray, List.set_cons_zero, List.set_cons_succ]
              refine wpAnyH_done (by kernel_rfl) ?_ _
              refine NoPanic.normal ?_
              obtain ⟨WR, HWR⟩ : ∃ W, Hid (W = (w9.setRow b9 #[.int .i64 n9, .string now9, .string was9, .string saved9, .int .u64 save9, .bool has9, .bool ahead9, .bool aheadS9])) := ⟨_, rfl⟩
              rw [← HWR.out] at HBK ⊢
              clear HWR hHs
              go_wp2_with fail
              go_meet
              case rel => exact ⟨b9, (⟨n9, now9, was9, saved9, save9, has9, ahead9, aheadS9⟩ : OwnV), rfl, rfl, HBK⟩
          obtain ⟨b9, o', rfl, rfl, HBK⟩ := hcut
          clear HPL HA0 AR
          have q0 : wc.cell? ⟨b9, 0, none⟩ = some (.int .i64 o'.n) := HBK.out.box.cell 0
          have q1 : wc.cell? ⟨b9, 1, none⟩ = some (.string o'.now) := HBK.out.box.cell 1
          have q2 : wc.cell? ⟨b9, 2, none⟩ = some (.string o'.was) := HBK.out.box.cell 2
          have q3 : wc.cell? ⟨b9, 3, none⟩ = some (.string o'.saved) := HBK.out.box.cell 3
          have q4 : wc.cell? ⟨b9, 4, none⟩ = some (.int .u64 o'.save) := HBK.out.box.cell 4
          have q5 : wc.cell? ⟨b9, 5, none⟩ = some (.bool o'.has) := HBK.out.box.cell 5
          have q6 : wc.cell? ⟨b9, 6, none⟩ = some (.bool o'.ahead) := HBK.out.box.cell 6
          have q7 : wc.cell? ⟨b9, 7, none⟩ = some (.bool o'.aheadS) := HBK.out.box.cell 7
          have r0 : wc.cell? ⟨bb, 8, none⟩ = some (.int .i64 (os 1).n) := HBK.out.row.cell 8
          have r1 : wc.cell? ⟨bb, 9, none⟩ = some (.string (os 1).now) := HBK.out.row.cell 9
          have r2 : wc.cell? ⟨bb, 10, none⟩ = some (.string (os 1).was) := HBK.out.row.cell 10
          have r3 : wc.cell? ⟨bb, 11, none⟩ = some (.string (os 1).saved) := HBK.out.row.cell 11
          have r4 : wc.cell? ⟨bb, 12, none⟩ = some (.int .u64 (os 1).save) := HBK.out.row.cell 12
          have r5 : wc.cell? ⟨bb, 13, none⟩ = some (.bool (os 1).has) := HBK.out.row.cell 13
          have r6 : wc.cell? ⟨bb, 14, none⟩ = some (.bool (os 1).ahead) := HBK.out.row.cell 14
          have r7 : wc.cell? ⟨bb, 15, none⟩ = some (.bool (os 1).aheadS) := HBK.out.row.cell 15
          have t0 : wc.frozen? ⟨bb, 8, none⟩ = false := HBK.out.row.frozen 8
          have t1 : wc.frozen? ⟨bb, 9, none⟩ = false := HBK.out.row.frozen 9
          have t2 : wc.frozen? ⟨bb, 10, none⟩ = false := HBK.out.row.frozen 10
          have t3 : wc.frozen? ⟨bb, 11, none⟩ = false := HBK.out.row.frozen 11
          have t4 : wc.frozen? ⟨bb, 12, none⟩ = false := HBK.out.row.frozen 12
          have t5 : wc.frozen? ⟨bb, 13, none⟩ = false := HBK.out.row.frozen 13
          have t6 : wc.frozen? ⟨bb, 14, none⟩ = false := HBK.out.row.frozen 14
          have t7 : wc.frozen? ⟨bb, 15, none⟩ = false := HBK.out.row.frozen 15
          obtain ⟨T4, HP4'⟩ := bk_put1 HBK.out
          have HP4 := hidx HP4'
          obtain ⟨W4, HW4⟩ : ∃ W, Hid (W = ((((((((wc.setCell ⟨bb, 8, none⟩ (.int .i64 o'.n)).setCell ⟨bb, 9, none⟩ (.string o'.now)).setCell ⟨bb, 10, none⟩ (.string o'.was)).setCell ⟨bb, 11, none⟩ (.string o'.saved)).setCell ⟨bb, 12, none⟩ (.int .u64 o'.save)).setCell ⟨bb, 13, none⟩ (.bool o'.has)).setCell ⟨bb, 14, none⟩ (.bool o'.ahead)).setCell ⟨bb, 15, none⟩ (.bool o'.aheadS))) := ⟨_, rfl⟩
          rw [← HW4.out] at HP4
          clear HP4' HBK
          go_upto_region 7 with fail
          rw [← HW4.out]
          clear HW4 q0 r0 t0 q1 r1 t1 q2 r2 t2 q3 r3 t3 q4 r4 t4 q5 r5 t5 q6 r6 t6 q7 r7 t7
          obtain ⟨os4, HO4⟩ : ∃ q, Hid (setK os 1 o' = q) := ⟨_, rfl⟩
          rw [HO4.out] at HP4
          clear HO4
          go_wp2_with fail
          go_roundw
          case rel => exact ⟨i + 1, os4, T4, by go_num, by omega, by omega, HP4⟩
          case measure => simp [intOf]; omega
        · go_upto_region 10 with fail
          rw [show (((2 : Nat)) : Int) = 2 from rfl]
          clear hsk a0 a1
          go_cut [8, 9] from 49 to 67 (fun v8 v9 wx => ∃ (b9 : Nat) (o' : OwnV), v8 = .pointer (some ⟨b9, 0, none⟩) ∧ v9 = .bool true ∧ Hid (BkOut w wx m p lp ChH bb os (1 + 400 * (i + 1)) (2 * (i + 1)) 2 b9 o'))
          case first =>
            as_aux_lemma =>
            have HON : Hid (∀ wy, Below wr.heap.size wr wy → Calls Tryz.prog 7 #[.pointer (some ⟨m, 0, none⟩), .int .i64 2, .agg #[.int .i64 (os 2).n, .string (os 2).now, .string (os 2).was, .string (os 2).saved, .int .u64 (os 2).save, .bool (os 2).has, .bool (os 2).ahead, .bool (os 2).aheadS], .agg #[.int .i64 kd, .int .i64 x, .string s]] wy (OneOut w wy A0 m p lp ChH os (1 + 400 * i) (2 * i) 2)) := fun wy b => one_any (who := 2) ch_ok (HA0.out.1.below b) (by omega) (by omega) (by omega) kd x s HS.out (H8.out 2)
            refine wp_region_noPanic ?_
            refine wp_region_held_drew (S := (fun wy : World => BlkR wy bb (cells24 os) 31 ∧ ActRow wy ab (ao + i * 3) kd x s)) chmixed ⟨HPL.out.row, AR.out.same rfl⟩ (fun hH => ?_)
            obtain ⟨WD, HWD⟩ : ∃ W, Hid (W = wr.drew) := ⟨_, rfl⟩
            have HBD : Hid (Below wr.heap.size wr WD) := by show Below _ _ _; rw [HWD.out]; exact (Below.refl _ _).drew
            rw [← HWD.out] at hH ⊢
            clear HWD
            refine wpAnyH_take (i := 0) (v := (.pointer (some ⟨m, 0, none⟩))) (by simp only [List.getElem?_toArray, List.getElem?_cons_zero]; rfl) (by kernel_rfl) (by kernel_rfl) (by kernel_rfl) (fun _ _ _ h => h) (Or.inl ⟨by rfl, ?_⟩) hH ?_
            · intro wz hSw
              clear hSw
              go_simp
            try simp only [Act.put, List.setIfInBounds_toArray, List.set_cons_zero, List.set_cons_succ]
            refine wpAnyH_take (i := 1) (v := (.int .i64 2)) (by simp only [List.getElem?_toArray, List.getElem?_cons_succ, List.getElem?_cons_zero]; rfl) (by kernel_rfl) (by kernel_rfl) (by kernel_rfl) (fun _ _ _ h => h) (Or.inl ⟨by rfl, ?_⟩) hH ?_
            · intro wz hSw
              clear hSw
              go_simp
            try simp only [Act.put, List.setIfInBounds_toArray, List.set_cons_zero, List.set_cons_succ]
            refine wpAnyH_take (i := 2) (v := (.int .i64 2)) (by simp only [List.getElem?_toArray, List.getElem?_cons_succ, List.getElem?_cons_zero]; rfl) (by kernel_rfl) (by kernel_rfl) (by kernel_rfl) (fun _ _ _ h => h) (Or.inl ⟨by rfl, ?_⟩) hH ?_
            · intro wz hSw
              clear hSw
              go_simp
            try simp only [Act.put, List.setIfInBounds_toArray, List.set_cons_zero, List.set_cons_succ]
            refine wpAnyH_take (i := 3) (v := (.pointer (some ⟨bb, 16, none⟩))) (by simp only [List.getElem?_toArray, List.getElem?_cons_succ, List.getElem?_cons_zero]; rfl) (by kernel_rfl) (by kernel_rfl) (by kernel_rfl) (fun _ _ _ h => h) (Or.inl ⟨by rfl, ?_⟩) hH ?_
            · intro wz hSw
              clear hSw
              go_simp
            try simp only [Act.put, List.setIfInBounds_toArray, List.set_cons_zero, List.set_cons_succ]
            refine wpAnyH_take (i := 4) (v := (.agg #[.int .i64 (os 2).n, .string (os 2).now, .string (os 2).was, .string (os 2).saved, .int .u64 (os 2).save, .bool (os 2).has, .bool (os 2).ahead, .bool (os 2).aheadS])) (by simp only [List.getElem?_toArray, List.getElem?_cons_succ, List.getElem?_cons_zero]; rfl) (by kernel_rfl) (by kernel_rfl) (by kernel_rfl) (fun _ _ _ h => h) (Or.inl ⟨by rfl, ?_⟩) hH ?_
            · intro wz hSw
              have s0 : wz.cell? ⟨bb, 16, none⟩ = some (.int .i64 (os 2).n) := BlkR.cell hSw.1 16
              have s1 : wz.cell? ⟨bb, 17, none⟩ = some (.string (os 2).now) := BlkR.cell hSw.1 17
              have s2 : wz.cell? ⟨bb, 18, none⟩ = some (.string (os 2).was) := BlkR.cell hSw.1 18
              have s3 : wz.cell? ⟨bb, 19, none⟩ = some (.string (os 2).saved) := BlkR.cell hSw.1 19
              have s4 : wz.cell? ⟨bb, 20, none⟩ = some (.int .u64 (os 2).save) := BlkR.cell hSw.1 20
              have s5 : wz.cell? ⟨bb, 21, none⟩ = some (.bool (os 2).has) := BlkR.cell hSw.1 21
              have s6 : wz.cell? ⟨bb, 22, none⟩ = some (.bool (os 2).ahead) := BlkR.cell hSw.1 22
              have s7 : wz.cell? ⟨bb, 23, none⟩ = some (.bool (os 2).aheadS) := BlkR.cell hSw.1 23
              clear hSw
              go_simp
            try simp only [Act.put, List.setIfInBounds_toArray, List.set_cons_zero, List.set_cons_succ]
            refine wpAnyH_take (i := 5) (v := (.slice (some ⟨ab, ao, none⟩) n c)) (by simp only [List.getElem?_toArray, List.getElem?_cons_succ, List.getElem?_cons_zero]; rfl) (by kernel_rfl) (by kernel_rfl) (by kernel_rfl) (fun _ _ _ h => h) (Or.inl ⟨by rfl, ?_⟩) hH ?_
            · intro wz hSw
              clear hSw
              go_simp
            try simp only [Act.put, List.setIfInBounds_toArray, List.set_cons_zero, List.set_cons_succ]
            refine wpAnyH_take (i := 6) (v := (.int .i64 i)) (by simp only [List.getElem?_toArray, List.getElem?_cons_succ, List.getElem?_cons_zero]; rfl) (by kernel_rfl) (by kernel_rfl) (by kernel_rfl) (fun _ _ _ h => h) (Or.inl ⟨by rfl, ?_⟩) hH ?_
            · intro wz hSw
              clear hSw
              go_simp
            try simp only [Act.put, List.setIfInBounds_toArray, List.set_cons_zero, List.set_cons_succ]
            refine wpAnyH_take (i := 7) (v := (.pointer (some ⟨ab, ao + i * 3, none⟩))) (by simp only [List.getElem?_toArray, List.getElem?_cons_succ, List.getElem?_cons_zero]; rfl) (by kernel_rfl) (by kernel_rfl) (by kernel_rfl) (fun _ _ _ h => h) (Or.inl ⟨by rfl, ?_⟩) hH ?_
            · intro wz hSw
              clear hSw
              go_simp
            try simp only [Act.put, List.setIfInBounds_toArray, List.set_cons_zero, List.set_cons_succ]
            refine wpAnyH_take (i := 8) (v := (.agg #[.int .i64 kd, .int .i64 x, .string s])) (by simp only [List.getElem?_toArray, List.getElem?_cons_succ, List.getElem?_cons_zero]; rfl) (by kernel_rfl) (by kernel_rfl) (by kernel_rfl) (fun _ _ _ h => h) (Or.inl ⟨by rfl, ?_⟩) hH ?_
            · intro wz hSw
              have s0 := hSw.2.c0
              have s1 := hSw.2.c1
              have s2 := hSw.2.c2
              clear hSw
              go_simp
            try simp only [Act.put, List.setIfInBounds_toArray, List.set_cons_zero, List.set_cons_succ]
            refine wpAnyH_ready (rs := [9, 13]) (by kernel_rfl) (by simp) ?_
            refine AllReadyH.cons (i := 9) (by simp only [List.getElem?_toArray, List.getElem?_cons_succ, List.getElem?_cons_zero]; rfl) (fun K hK => ?_) (AllReadyH.cons (i := 13) (by simp only [List.getElem?_toArray, List.getElem?_cons_succ, List.getElem?_cons_zero]; rfl) (fun K hK => ?_) AllReadyH.nil)
            · go_simp
              refine (HON.out WD HBD.out).mono ?_
              rintro e w9 ⟨A9, o', T', rfl, pi9, mv9⟩
              obtain ⟨n9, now9, was9, saved9, save9, has9, ahead9, aheadS9⟩ := o'
              rw [show OwnV.cells (⟨n9, now9, was9, saved9, save9, has9, ahead9, aheadS9⟩ : OwnV) = #[.int .i64 n9, .string now9, .string was9, .string saved9, .int .u64 save9, .bool has9, .bool ahead9, .bool aheadS9] from rfl]
              have ofb := hidx (mv9.off (r := bb) (Nat.lt_of_lt_of_le HPL.out.row.lt HBD.out.size) HA0.out.2.1)
              have ofa := hidx (mv9.off (r := ab) (Nat.lt_of_lt_of_le AR.out.lt HBD.out.size) HA0.out.2.2)
              have PIa : Hid (PI w w9 A9 m p lp ChH (setK os 2 (⟨n9, now9, was9, saved9, save9, has9, ahead9, aheadS9⟩ : OwnV)) T' (1 + 400 * (i + 1)) (2 * (i + 1))) := hidx (pi9.room (by omega) (by omega))
              refine hK.out _ _ ⟨hH.1.same ofb.out.1, hH.2.same ofa.out.1⟩ (fun hH1 => ?_)
              clear hK K hH pi9 mv9
              try simp only [Act.put, List.setIfInBounds_toArray, List.set_cons_zero, List.set_cons_succ]
              refine wpAnyH_take (i := 10) (v := (.tuple #[.agg #[.int .i64 n9, .string now9, .string was9, .string saved9, .int .u64 save9, .bool has9, .bool ahead9, .bool aheadS9], .bool true])) (by simp only [List.getElem?_toArray, List.getElem?_cons_succ, List.getElem?_cons_zero]; rfl) (by kernel_rfl) (by kernel_rfl) (by kernel_rfl) (fun _ _ _ h => h) (Or.inl ⟨by rfl, ?_⟩) hH1 ?_
              · intro wz hSw
                clear hSw
                go_simp
              try simp only [Act.put, List.setIfInBounds_toArray, List.set_cons_zero, List.set_cons_succ]
              refine wpAnyH_take (i := 11) (v := (.agg #[.int .i64 n9, .string now9, .string was9, .string saved9, .int .u64 save9, .bool has9, .bool ahead9, .bool aheadS9])) (by simp only [List.getElem?_toArray, List.getElem?_cons_succ, List.getElem?_cons_zero]; rfl) (by kernel_rfl) (by kernel_rfl) (by kernel_rfl) (fun _ _ _ h => h) (Or.inl ⟨by rfl, ?_⟩) hH1 ?_
              · intro wz hSw
                clear hSw
                go_simp
              try simp only [Act.put, List.setIfInBounds_toArray, List.set_cons_zero, List.set_cons_succ]
              refine wpAnyH_take (i := 12) (v := (.bool true)) (by simp only [List.getElem?_toArray, List.getElem?_cons_succ, List.getElem?_cons_zero]; rfl) (by kernel_rfl) (by kernel_rfl) (by kernel_rfl) (fun _ _ _ h => h) (Or.inl ⟨by rfl, ?_⟩) hH1 ?_
              · intro wz hSw
                clear hSw
                go_simp
              try simp only [Act.put, List.setIfInBounds_toArray, List.set_cons_zero, List.set_cons_succ]
              refine wpAnyH_ready (rs := [13]) (by kernel_rfl) (by simp) ?_
              refine AllReadyH.cons (i := 13) (by simp only [List.getElem?_toArray, List.getElem?_cons_succ, List.getElem?_cons_zero]; rfl) (fun K hK => ?_) AllReadyH.nil
              go_simp
              obtain ⟨WA, HWA⟩ : ∃ W, Hid (W = w9.alloc (.cells #[.int .i64 0, .string ⟨#[]⟩, .string ⟨#[]⟩, .string ⟨#[]⟩, .int .u64 0, .bool false, .bool false, .bool false] 30)) := ⟨_, rfl⟩
              rw [← HWA.out]
              have bA : Below w9.heap.size w9 WA := by rw [HWA.out]; exact (Below.refl _ _).alloc (Nat.le_refl _) _
              have zA : BlkR WA w9.heap.size #[.int .i64 0, .string ⟨#[]⟩, .string ⟨#[]⟩, .string ⟨#[]⟩, .int .u64 0, .bool false, .bool false, .bool false] 30 := by rw [HWA.out]; exact heap_alloc_new _ _
              obtain ⟨b9, Hb9⟩ : ∃ b, Hid (w9.heap.size = b) := ⟨_, rfl⟩
              have ZB : Hid (BlkR WA b9 #[.int .i64 0, .string ⟨#[]⟩, .string ⟨#[]⟩, .string ⟨#[]⟩, .int .u64 0, .bool false, .bool false, .bool false] 30) := by rw [Hb9.out] at zA; exact zA
              have hlb : bb < w9.heap.size := hH1.1.lt
              have hla : ab < w9.heap.size := hH1.2.lt
              rw [Hb9.out]
              refine hK.out _ _ ⟨hH1.1.under bA hH1.1.lt, hH1.2.under bA hH1.2.lt⟩ (fun hH2 => ?_)
              clear hK K hH1
              try simp only [Act.put, List.setIfInBounds_toArray, List.set_cons_zero, List.set_cons_succ]
              have HNA : Hid (ab ≠ b9) := by show _ ≠ _; rw [← Hb9.out]; exact fun e => by have := hla; omega
              have BA := hidx bA
              have HLB : Hid (bb ≠ b9) := by show _ ≠ _; rw [← Hb9.out]; exact fun e => by have := hlb; omega
              clear bA zA hlb hla HWA
              refine wpAnyH_ready (rs := [14]) (by kernel_rfl) (by simp) ?_
              refine AllReadyH.cons (i := 14) (by simp only [List.getElem?_toArray, List.getElem?_cons_succ, List.getElem?_cons_zero]; rfl) (fun K hK => ?_) AllReadyH.nil
              have HBK : Hid (BkOut w (WA.setRow b9 #[.int .i64 n9, .string now9, .string was9, .string saved9, .int .u64 save9, .bool has9, .bool ahead9, .bool aheadS9]) m p lp ChH bb os (1 + 400 * (i + 1)) (2 * (i + 1)) 2 b9 (⟨n9, now9, was9, saved9, save9, has9, ahead9, aheadS9⟩ : OwnV)) := bk_row (k := 2) (⟨n9, now9, was9, saved9, save9, has9, ahead9, aheadS9⟩ : OwnV) (PIa.out.below BA.out) ofb.out.2 (fun y => by have := PIa.out.lt _ y; have := Hb9.out; omega) hH2.1 ZB.out (fun e => HLB.out e.symm) HPL.out.new (by have := Hb9.out; have := PIa.out.bel.size; omega)
              refine step_storeRow (by rfl) _ _ _ (by rfl) (by rfl) b9 (by rfl) #[.int .i64 n9, .string now9, .string was9, .string saved9, .int .u64 save9, .bool has9, .bool ahead9, .bool aheadS9] #[.int .i64 0, .string ⟨#[]⟩, .string ⟨#[]⟩, .string ⟨#[]⟩, .int .u64 0, .bool false, .bool false, .bool false] (by rfl) _ ZB.out (by kernel_rfl) (by rfl) (by simp [Value.oneCell']) ?_
              refine hK.out _ _ ⟨HBK.out.row, hH2.2.same (setRow_other _ _ _ _ HNA.out)⟩ (fun hHs => ?_)
              clear hK K hH2
              try simp only [Act.put, List.setIfInBounds_toArray, List.set_cons_zero, List.set_cons_succ]
              refine wpAnyH_take (i := 15) (v := (.bool true)) (by simp only [List.getElem?_toArray, List.getElem?_cons_succ, List.getElem?_cons_zero]; rfl) (by kernel_rfl) (by kernel_rfl) (by kernel_rfl) (fun _ _ _ h => h) (Or.inl ⟨by rfl, ?_⟩) hHs ?_
              · intro wz hSw
                clear hSw
                go_simp
              try simp only [Act.put, List.setIfInBounds_toArray, List.set_cons_zero, List.set_cons_succ]
              refine wpAnyH_done (by kernel_rfl) ?_ _
              refine NoPanic.normal ?_
              obtain ⟨WR, HWR⟩ : ∃ W, Hid (W = (WA.setRow b9 #[.int .i64 n9, .string now9, .string was9, .string saved9, .int .u64 save9, .bool has9, .bool ahead9, .bool aheadS9])) := ⟨_, rfl⟩
              rw [← HWR.out] at HBK ⊢
              clear HWR hHs
              go_wp2_with fail
              go_meet
              case rel => exact ⟨b9, (⟨n9, now9, was9, saved9, save9, has9, ahead9, aheadS9⟩ : OwnV), rfl, rfl, HBK⟩
            · go_simp
              obtain ⟨WA, HWA⟩ : ∃ W, Hid (W = WD.alloc (.cells #[.int .i64 0, .string ⟨#[]⟩, .string ⟨#[]⟩, .string ⟨#[]⟩, .int .u64 0, .bool false, .bool false, .bool false] 30)) := ⟨_, rfl⟩
              rw [← HWA.out]
              have bA : Below WD.heap.size WD WA := by rw [HWA.out]; exact (Below.refl _ _).alloc (Nat.le_refl _) _
              have zA : BlkR WA WD.heap.size #[.int .i64 0, .string ⟨#[]⟩, .string ⟨#[]⟩, .string ⟨#[]⟩, .int .u64 0, .bool false, .bool false, .bool false] 30 := by rw [HWA.out]; exact heap_alloc_new _ _
              obtain ⟨b9, Hb9⟩ : ∃ b, Hid (WD.heap.size = b) := ⟨_, rfl⟩
              rw [Hb9.out] at zA
              have hlb : bb < WD.heap.size := hH.1.lt
              have hla : ab < WD.heap.size := hH.2.lt
              rw [Hb9.out]
              refine hK.out _ _ ⟨hH.1.under bA hH.1.lt, hH.2.under bA hH.2.lt⟩ (fun hH1 => ?_)
              clear hK K hH
              try simp only [Act.put, List.setIfInBounds_toArray, List.set_cons_zero, List.set_cons_succ]
              have HBA2 : Hid (Below wr.heap.size wr WA) := below_chain HBD.out bA
              have hn9 : ¬ A0 b9 := fun y => by have := HA0.out.1.lt _ y; have := HBD.out.size; have := Hb9.out; omega
              refine wpAnyH_ready (rs := [9]) (by kernel_rfl) (by simp) ?_
              refine AllReadyH.cons (i := 9) (by simp only [List.getElem?_toArray, List.getElem?_cons_succ, List.getElem?_cons_zero]; rfl) (fun K hK => ?_) AllReadyH.nil
              go_simp
              refine (HON.out WA HBA2.out).mono ?_
              rintro e w9 ⟨A9, o', T', rfl, pi9, mv9⟩
              obtain ⟨n9, now9, was9, saved9, save9, has9, ahead9, aheadS9⟩ := o'
              rw [show OwnV.cells (⟨n9, now9, was9, saved9, save9, has9, ahead9, aheadS9⟩ : OwnV) = #[.int .i64 n9, .string now9, .string was9, .string saved9, .int .u64 save9, .bool has9, .bool ahead9, .bool aheadS9] from rfl]
              have ofb := hidx (mv9.off (r := bb) hH1.1.lt HA0.out.2.1)
              have ofa := hidx (mv9.off (r := ab) hH1.2.lt HA0.out.2.2)
              have PIa : Hid (PI w w9 A9 m p lp ChH (setK os 2 (⟨n9, now9, was9, saved9, save9, has9, ahead9, aheadS9⟩ : OwnV)) T' (1 + 400 * (i + 1)) (2 * (i + 1))) := hidx (pi9.room (by omega) (by omega))
              refine hK.out _ _ ⟨hH1.1.same ofb.out.1, hH1.2.same ofa.out.1⟩ (fun hH2 => ?_)
              clear hK K hH1 pi9
              try simp only [Act.put, List.setIfInBounds_toArray, List.set_cons_zero, List.set_cons_succ]
              have of9 := hidx (mv9.off (r := b9) zA.lt hn9)
              have ZB : Hid (BlkR w9 b9 #[.int .i64 0, .string ⟨#[]⟩, .string ⟨#[]⟩, .string ⟨#[]⟩, .int .u64 0, .bool false, .bool false, .bool false] 30) := zA.same of9.out.1
              have HNA : Hid (ab ≠ b9) := by show _ ≠ _; rw [← Hb9.out]; exact fun e => by omega
              clear mv9 zA hn9 bA HWA
              refine wpAnyH_take (i := 10) (v := (.tuple #[.agg #[.int .i64 n9, .string now9, .string was9, .string saved9, .int .u64 save9, .bool has9, .bool ahead9, .bool aheadS9], .bool true])) (by simp only [List.getElem?_toArray, List.getElem?_cons_succ, List.getElem?_cons_zero]; rfl) (by kernel_rfl) (by kernel_rfl) (by kernel_rfl) (fun _ _ _ h => h) (Or.inl ⟨by rfl, ?_⟩) hH2 ?_
              · intro wz hSw
                clear hSw
                go_simp
              try simp only [Act.put, List.setIfInBounds_toArray, List.set_cons_zero, List.set_cons_succ]
              refine wpAnyH_take (i := 11) (v := (.agg #[.int .i64 n9, .string now9, .string was9, .string saved9, .int .u64 save9, .bool has9, .bool ahead9, .bool aheadS9])) (by simp only [List.getElem?_toArray, List.getElem?_cons_succ, List.getElem?_cons_zero]; rfl) (by kernel_rfl) (by kernel_rfl) (by kernel_rfl) (fun _ _ _ h => h) (Or.inl ⟨by rfl, ?_⟩) hH2 ?_
              · intro wz hSw
                clear hSw
                go_simp
              try simp only [Act.put, List.setIfInBounds_toArray, List.set_cons_zero, List.set_cons_succ]
              refine wpAnyH_take (i := 12) (v := (.bool true)) (by simp only [List.getElem?_toArray, List.getElem?_cons_succ, List.getElem?_cons_zero]; rfl) (by kernel_rfl) (by kernel_rfl) (by kernel_rfl) (fun _ _ _ h => h) (Or.inl ⟨by rfl, ?_⟩) hH2 ?_
              · intro wz hSw
                clear hSw
                go_simp
              try simp only [Act.put, List.setIfInBounds_toArray, List.set_cons_zero, List.set_cons_succ]
              refine wpAnyH_ready (rs := [14]) (by kernel_rfl) (by simp) ?_
              refine AllReadyH.cons (i := 14) (by simp only [List.getElem?_toArray, List.getElem?_cons_succ, List.getElem?_cons_zero]; rfl) (fun K hK => ?_) AllReadyH.nil
              have HBK : Hid (BkOut w (w9.setRow b9 #[.int .i64 n9, .string now9, .string was9, .string saved9, .int .u64 save9, .bool has9, .bool ahead9, .bool aheadS9]) m p lp ChH bb os (1 + 400 * (i + 1)) (2 * (i + 1)) 2 b9 (⟨n9, now9, was9, saved9, save9, has9, ahead9, aheadS9⟩ : OwnV)) := bk_row (k := 2) (⟨n9, now9, was9, saved9, save9, has9, ahead9, aheadS9⟩ : OwnV) PIa.out ofb.out.2 of9.out.2 hH2.1 ZB.out (by have := Hb9.out; omega) HPL.out.new (by have := Hb9.out; have := HPL.out.bel.size; have := HBD.out.size; omega)
              refine step_storeRow (by rfl) _ _ _ (by rfl) (by rfl) b9 (by rfl) #[.int .i64 n9, .string now9, .string was9, .string saved9, .int .u64 save9, .bool has9, .bool ahead9, .bool aheadS9] #[.int .i64 0, .string ⟨#[]⟩, .string ⟨#[]⟩, .string ⟨#[]⟩, .int .u64 0, .bool false, .bool false, .bool false] (by rfl) _ ZB.out (by kernel_rfl) (by rfl) (by simp [Value.oneCell']) ?_
              refine hK.out _ _ ⟨HBK.out.row, hH2.2.same (setRow_other _ _ _ _ HNA.out)⟩ (fun hHs => ?_)
              clear hK K hH2
              try simp only [Act.put, List.setIfInBounds_toArray, List.set_cons_zero, List.set_cons_succ]
              refine wpAnyH_take (i := 15) (v := (.bool true)) (by simp only [List.getElem?_toArray, List.getElem?_cons_succ, List.getElem?_cons_zero]; rfl) (by kernel_rfl) (by kernel_rfl) (by kernel_rfl) (fun _ _ _ h => h) (Or.inl ⟨by rfl, ?_⟩) hHs ?_
              · intro wz hSw
                clear hSw
                go_simp
              try simp only [Act.put, List.setIfInBounds_toArray, List.set_cons_zero, List.set_cons_succ]
              refine wpAnyH_done (by kernel_rfl) ?_ _
              refine NoPanic.normal ?_
              obtain ⟨WR, HWR⟩ : ∃ W, Hid (W = (w9.setRow b9 #[.int .i64 n9, .string now9, .string was9, .string saved9, .int .u64 save9, .bool has9, .bool ahead9, .bool aheadS9])) := ⟨_, rfl⟩
              rw [← HWR.out] at HBK ⊢
              clear HWR hHs
              go_wp2_with fail
              go_meet
              case rel => exact ⟨b9, (⟨n9, now9, was9, saved9, save9, has9, ahead9, aheadS9⟩ : OwnV), rfl, rfl, HBK⟩
          obtain ⟨b9, o', rfl, rfl, HBK⟩ := hcut
          clear HPL HA0 AR
          have q0 : wc.cell? ⟨b9, 0, none⟩ = some (.int .i64 o'.n) := HBK.out.box.cell 0
          have q1 : wc.cell? ⟨b9, 1, none⟩ = some (.string o'.now) := HBK.out.box.cell 1
          have q2 : wc.cell? ⟨b9, 2, none⟩ = some (.string o'.was) := HBK.out.box.cell 2
          have q3 : wc.cell? ⟨b9, 3, none⟩ = some (.string o'.saved) := HBK.out.box.cell 3
          have q4 : wc.cell? ⟨b9, 4, none⟩ = some (.int .u64 o'.save) := HBK.out.box.cell 4
          have q5 : wc.cell? ⟨b9, 5, none⟩ = some (.bool o'.has) := HBK.out.box.cell 5
          have q6 : wc.cell? ⟨b9, 6, none⟩ = some (.bool o'.ahead) := HBK.out.box.cell 6
          have q7 : wc.cell? ⟨b9, 7, none⟩ = some (.bool o'.aheadS) := HBK.out.box.cell 7
          have r0 : wc.cell? ⟨bb, 16, none⟩ = some (.int .i64 (os 2).n) := HBK.out.row.cell 16
          have r1 : wc.cell? ⟨bb, 17, none⟩ = some (.string (os 2).now) := HBK.out.row.cell 17
          have r2 : wc.cell? ⟨bb, 18, none⟩ = some (.string (os 2).was) := HBK.out.row.cell 18
          have r3 : wc.cell? ⟨bb, 19, none⟩ = some (.string (os 2).saved) := HBK.out.row.cell 19
          have r4 : wc.cell? ⟨bb, 20, none⟩ = some (.int .u64 (os 2).save) := HBK.out.row.cell 20
          have r5 : wc.cell? ⟨bb, 21, none⟩ = some (.bool (os 2).has) := HBK.out.row.cell 21
          have r6 : wc.cell? ⟨bb, 22, none⟩ = some (.bool (os 2).ahead) := HBK.out.row.cell 22
          have r7 : wc.cell? ⟨bb, 23, none⟩ = some (.bool (os 2).aheadS) := HBK.out.row.cell 23
          have t0 : wc.frozen? ⟨bb, 16, none⟩ = false := HBK.out.row.frozen 16
          have t1 : wc.frozen? ⟨bb, 17, none⟩ = false := HBK.out.row.frozen 17
          have t2 : wc.frozen? ⟨bb, 18, none⟩ = false := HBK.out.row.frozen 18
          have t3 : wc.frozen? ⟨bb, 19, none⟩ = false := HBK.out.row.frozen 19
          have t4 : wc.frozen? ⟨bb, 20, none⟩ = false := HBK.out.row.frozen 20
          have t5 : wc.frozen? ⟨bb, 21, none⟩ = false := HBK.out.row.frozen 21
          have t6 : wc.frozen? ⟨bb, 22, none⟩ = false := HBK.out.row.frozen 22
          have t7 : wc.frozen? ⟨bb, 23, none⟩ = false := HBK.out.row.frozen 23
          obtain ⟨T4, HP4'⟩ := bk_put2 HBK.out
          have HP4 := hidx HP4'
          obtain ⟨W4, HW4⟩ : ∃ W, Hid (W = ((((((((wc.setCell ⟨bb, 16, none⟩ (.int .i64 o'.n)).setCell ⟨bb, 17, none⟩ (.string o'.now)).setCell ⟨bb, 18, none⟩ (.string o'.was)).setCell ⟨bb, 19, none⟩ (.string o'.saved)).setCell ⟨bb, 20, none⟩ (.int .u64 o'.save)).setCell ⟨bb, 21, none⟩ (.bool o'.has)).setCell ⟨bb, 22, none⟩ (.bool o'.ahead)).setCell ⟨bb, 23, none⟩ (.bool o'.aheadS))) := ⟨_, rfl⟩
          rw [← HW4.out] at HP4
          clear HP4' HBK
          go_upto_region 7 with fail
          rw [← HW4.out]
          clear HW4 q0 r0 t0 q1 r1 t1 q2 r2 t2 q3 r3 t3 q4 r4 t4 q5 r5 t5 q6 r6 t6 q7 r7 t7
          obtain ⟨os4, HO4⟩ : ∃ q, Hid (setK os 2 o' = q) := ⟨_, rfl⟩
          rw [HO4.out] at HP4
          clear HO4
          go_wp2_with fail
          go_roundw
          case rel => exact ⟨i + 1, os4, T4, by go_num, by omega, by omega, HP4⟩
          case measure => simp [intOf]; omega
    · go_upto_region 6 with fail
      go_cut [38] from 31 to 37 (fun v38 wx => v38 = .bool false ∧ wx = wr)
      case first =>
        by_cases h : i < n
        · have h20 : ¬ i < 60 := by omega
          have d1 : decide ((i : Int) < (n : Int)) = true := by simp; omega
          have d1' : decide (i < n) = true := by simp; omega
          have d2 : decide ((i : Int) < 60) = false := by simp; omega
          have d2' : decide (i < 60) = false := by simp; omega
          go_wp2_with fail
          go_meet
          case rel => exact ⟨rfl, rfl⟩
        · have d1 : decide ((i : Int) < (n : Int)) = false := by simp; omega
          have d1' : decide (i < n) = false := by simp; omega
          go_wp2_with fail
          go_meet
          case rel => exact ⟨rfl, rfl⟩
      obtain ⟨rfl, hw4⟩ := hcut
      obtain rfl := hw4.symm
      clear hw4 hlt
      obtain ⟨A5, hp5, hn5⟩ := HPL.out.ex
      obtain ⟨P, l, rs, R, hCL⟩ := hp5.chain (by omega)
      obtain ⟨X5, d5, M5, hM5⟩ := hCL.sys
      have h5lt := hM5.lt
      obtain ⟨tb, c0, c1, c2, c3, c4⟩ := hM5.reads
      have HPO := hidx (mpool_any hM5)
      have RD0 := hidx (rd_start hCL HPL.out.bel h5lt)
      have HLEN : Hid (l.bytes.length + 1 = placeOf rs rs.length ∧ l.bytes.length ≤ 4194304) := hidx ⟨hCL.recs.long, hCL.len⟩
      clear hp5 hn5 HPL hCL hM5 h5lt HAA
      have hz1 : (wr.alloc (.map #[] 0)).heap.size = wr.heap.size + 1 := by simp
      have hmm := @run_makeMap Tryz.prog
      rw [hz1] at RD0
      clear c0 c1 c2 c3 c4 HPO hz1
      go_upto_region 16 with fail
      clear hmm
      obtain ⟨W2, HW2⟩ : ∃ W, Hid (W = (wr.alloc (.map #[] 0)).alloc (.map #[] 0)) := ⟨_, rfl⟩
      rw [← HW2.out] at RD0 ⊢
      obtain ⟨bl, Hbl⟩ : ∃ q, Hid (wr.heap.size = q) := ⟨_, rfl⟩
      rw [Hbl.out] at RD0 ⊢
      obtain ⟨bu, Hbu⟩ : ∃ q, Hid (bl + 1 = q) := ⟨_, rfl⟩
      rw [Hbu.out] at RD0 ⊢
      clear HW2 Hbl Hbu
      obtain ⟨X6, d6, M6, hM6⟩ := RD0.out.log.sys
      have HPO := hidx (mpool_any hM6)
      obtain ⟨tb, c0, c1, c2, c3, c4⟩ := hM6.reads
      have HPG := hidx (plog_any c3)
      clear c0 c1 c2 c3 c4 hM6
      go_wp2_with fail
      refine HPO.out.mono ?_
      rintro e v1 ⟨rfl, rfl⟩
      go_wp2_with fail
      refine HPG.out.mono ?_
      rintro e v1 ⟨rfl, rfl⟩
      clear HPO HPG
      go_wp2_with fail
      go_loopw [13] (fun v13 wx => ∃ i : Nat, v13 = .int .u64 ((placeOf rs i : Nat) : Int) ∧ i ≤ rs.length ∧ Hid (RdAt w wx m p A5 P l rs R bl bu (chAt rs R i).last (chAt rs R i).und (2 * i))) (fun v _ => 4194306 - (intOf v).toNat)
      case atStart => exact ⟨0, rfl, Nat.zero_le _, RD0⟩
      case round =>
        obtain ⟨i, rfl, hi, HRD⟩ := hrel
        clear RD0
        obtain ⟨X6, d6, M6, hM6⟩ := HRD.out.log.sys
        obtain ⟨Lg, hLg, _, _⟩ := hM6.log
        have HEN := hidx (end_out hLg HLEN.out.2)
        clear hM6 hLg
        have hmo := placeOf_mono rs hi
        have hm0 := placeOf_mono rs (Nat.zero_le i)
        have hm1 := placeOf_mono rs (Nat.le_succ i)
        have hle := HLEN.out
        obtain ⟨q, Hq⟩ : ∃ q, Hid (placeOf rs i = q) := ⟨_, rfl⟩
        obtain ⟨q2, Hq2⟩ : ∃ q, Hid (placeOf rs (i + 1) = q) := ⟨_, rfl⟩
        obtain ⟨qe, Hqe⟩ : ∃ q, Hid (placeOf rs rs.length = q) := ⟨_, rfl⟩
        obtain ⟨lb, Hlb⟩ : ∃ q, Hid (l.bytes.length = q) := ⟨_, rfl⟩
        rw [Hq.out] at hmo hm0 hm1 ⊢
        rw [show i.succ = i + 1 from rfl, Hq2.out] at hm1
        rw [Hqe.out] at hmo hle
        rw [Hlb.out] at hle HEN
        by_cases hlt : i < rs.length
        · have dq : decide ((q : Int) < ((lb + 1 : Nat) : Int)) = true := by simp; omega
          have dq' : decide (q < lb + 1) = true := by simp; omega
          have dq2 : decide ((q : Int) < (lb : Int) + 1) = true := by simp; omega
          have HGE := hidx (HRD.out.log.get i hlt)
          have HDE := hidx (HRD.out.log.dec i hlt)
          obtain ⟨hr1, ⟨nn, hok⟩, hp1, hp2⟩ := HRD.out.log.rec' i hlt
          obtain ⟨st, Hst⟩ : ∃ st, Hid (chAt rs R i = st) := ⟨_, rfl⟩
          obtain ⟨s, Hs⟩ : ∃ s, Hid (rs.getD i ⟨#[]⟩ = s) := ⟨_, rfl⟩
          have HNX : Hid (chAt rs R (i + 1) = st.after q (R i)) := by show (chAt rs R i).after (placeOf rs i) (R i) = _; rw [Hst.out, Hq.out]
          rw [Hst.out] at HRD hp1 hp2
          rw [Hs.out] at HGE HDE
          obtain ⟨r, Hr⟩ : ∃ r, Hid (R i = r) := ⟨_, rfl⟩
          rw [Hr.out] at HNX HDE hp1 hp2 hok
          rw [Hq.out, Hq2.out] at HGE
          have hbd : (1 ≤ r.kind ∧ r.kind ≤ 8) ∧ (0 ≤ r.tx ∧ r.tx ≤ 2147483647) := by
            have := hok.may
            unfold mayR at this
            simp only [Bool.and_eq_true, decide_eq_true_eq] at this
            exact ⟨this.1, this.2.1⟩
          have hnx := hok.next
          have hpv := hok.prev
          have HFA : Hid ((-9223372036854775808 ≤ r.tx ∧ r.tx ≤ 9223372036854775807) ∧ r.next < 18446744073709551616 ∧ r.prev < 18446744073709551616 ∧ 2 * i ≤ 900000 ∧ q2 + 12 * (rs.length - (i + 1)) = q2 + 12 * (rs.length - (i + 1)) ∧ q < q2 ∧ q ≤ 4194304) := hidx ⟨⟨by omega, by omega⟩, hnx, hpv, by omega, rfl, by omega, by omega⟩
          have HP := hidx hp1
          have HU := hidx hp2
          have HI := hidx hlt
          clear hbd hnx hpv hp1 hp2 hok hr1 hmo hm0 hm1 hle hlt hi Hs Hst Hr Hqe Hlb HLEN
          go_wp2_with fail
          refine HEN.out.mono ?_
          rintro e v1 ⟨rfl, rfl⟩
          clear HEN
          go_wp2_with fail
          refine HGE.out.mono ?_
          rintro e v2 ⟨rfl, b2⟩
          have RD2 := hidx (HRD.out.below b2)
          clear HGE HRD b2 dq dq' dq2
          go_wp2_with fail
          refine (HDE.out v2).mono ?_
          rintro e v3 ⟨ta, da, tc, dc, rfl, b3⟩
          have HRC : Hid (r.cells ta da tc dc = #[.int .i64 r.kind, .int .i64 r.tx, .int .u64 r.prev, .int .u64 r.next, .int .u32 r.page, .int .i64 r.op.kind, .int .i64 r.op.at', .string r.op.S, .string r.op.old, .int .i64 r.undo, .int .i64 r.index, .string r.key, .int .u32 r.rpage, .int .i64 r.rslot, .bool r.live, .slice ta r.txs.length tc, .slice da r.dirty.length dc]) := rfl
          obtain ⟨W4, HW4⟩ : ∃ W', Hid (W' = v3.alloc (.cells (r.cells ta da tc dc) 56)) := ⟨_, rfl⟩
          have b4 : Below v3.heap.size v3 W4 := by rw [HW4.out]; exact (Below.refl _ _).alloc (Nat.le_refl _) _
          have x4 : BlkR W4 v3.heap.size (r.cells ta da tc dc) 56 := by rw [HW4.out]; exact Blk.made _ _ _
          have RD4 := hidx ((RD2.out.below b3).below b4)
          have RB4 := hidx (RecBox.of x4)
          have hno : bl < v3.heap.size ∧ bu < v3.heap.size := (RD2.out.below b3).maps.lt
          rw [HRC.out]
          clear RD2 HDE b3 b4 x4
          go_upto_region 21 with fail
          rw [← HRC.out, ← HW4.out]
          clear HW4 HRC
          obtain ⟨b17, Hb17⟩ : ∃ b, Hid (v3.heap.size = b) := ⟨_, rfl⟩
          rw [Hb17.out] at RB4 hno ⊢
          have HNO : Hid (b17 ≠ bl ∧ b17 ≠ bu) := hidx ⟨by omega, by omega⟩
          clear Hb17 hno
          obtain ⟨kd, Hkd⟩ : ∃ b, Hid (r.kind = b) := ⟨_, rfl⟩
          obtain ⟨tx, Htx⟩ : ∃ b, Hid (r.tx = b) := ⟨_, rfl⟩
          obtain ⟨pv, Hpv⟩ : ∃ b, Hid (r.prev = b) := ⟨_, rfl⟩
          obtain ⟨nx, Hnx⟩ : ∃ b, Hid (r.next = b) := ⟨_, rfl⟩
          rw [Htx.out, Hpv.out, Hnx.out] at HFA
          rw [Htx.out, Hpv.out] at HP
          rw [Htx.out, Hnx.out, Hkd.out] at HU
          have k0 : W4.cell? ⟨b17, 0, none⟩ = some (.int .i64 kd) := by rw [← Hkd.out]; exact RB4.out.k0
          have k1 : W4.cell? ⟨b17, 1, none⟩ = some (.int .i64 tx) := by rw [← Htx.out]; exact RB4.out.k1
          have k2 : W4.cell? ⟨b17, 2, none⟩ = some (.int .u64 (pv : Nat)) := by rw [← Hpv.out]; exact RB4.out.k2
          have k3 : W4.cell? ⟨b17, 3, none⟩ = some (.int .u64 (nx : Nat)) := by rw [← Hnx.out]; exact RB4.out.k3
          have hl4 := RD4.out.last tx HFA.out.1.1 HFA.out.1.2
          rw [← HP.out] at hl4
          go_upto_region 23 with fail
          clear hl4 k2 k3 k1
          by_cases hk2 : kd = 2
          · obtain rfl := hk2
            have HFN : Hid (chAt rs R (i + 1) = ⟨fun k => if k = tx then q else st.last k, fun k p => if k = tx ∧ p = nx then true else st.und k p⟩) := by
              show _ = _
              rw [HNX.out]
              have e1 := after_last st q r
              have e2 := after_und2 st q Hkd.out
              rw [Htx.out] at e1
              rw [Htx.out, Hnx.out] at e2
              exact ChS.mk.injEq .. |>.mpr ⟨e1, e2⟩
            obtain ⟨W5, HW5⟩ : ∃ W', Hid (W' = W4.alloc (.cells #[.int .i64 tx, .int .u64 (nx : Nat)] 61)) := ⟨_, rfl⟩
            have b5 : Below W4.heap.size W4 W5 := by rw [HW5.out]; exact (Below.refl _ _).alloc (Nat.le_refl _) _
            have x5 : BlkR W5 W4.heap.size #[.int .i64 tx, .int .u64 (nx : Nat)] 61 := by rw [HW5.out]; exact Blk.made _ _ _
            have k1 : W4.cell? ⟨b17, 1, none⟩ = some (.int .i64 tx) := by rw [← Htx.out]; exact RB4.out.k1
            have k3 : W4.cell? ⟨b17, 3, none⟩ = some (.int .u64 (nx : Nat)) := by rw [← Hnx.out]; exact RB4.out.k3
            have RD5 := hidx (RD4.out.below b5)
            have RB5 := hidx (RB4.out.same (b5.block b17 (World.block_lt_of_cell? _ _ k1)))
            have hb19 : bl < W4.heap.size ∧ bu < W4.heap.size := RD4.out.maps.lt
            go_upto_region 25 with fail
            rw [← HW5.out]
            clear HW5 k0 k1 k3 b5
            obtain ⟨b19, Hb19⟩ : ∃ b, Hid (W4.heap.size = b) := ⟨_, rfl⟩
            rw [Hb19.out] at x5 hb19 ⊢
            have X5 := hidx x5
            have HN9 : Hid (b19 ≠ bl ∧ b19 ≠ bu) := hidx ⟨by omega, by omega⟩
            have y0 : W5.cell? ⟨b19, 0, none⟩ = some (.int .i64 tx) := X5.out.cell 0
            have y1 : W5.cell? ⟨b19, 1, none⟩ = some (.int .u64 (nx : Nat)) := X5.out.cell 1
            have hu5 := RD5.out.und tx nx HFA.out.1.1 HFA.out.1.2 HFA.out.2.1
            rw [HU.out rfl] at hu5
            clear Hb19 hb19 x5
            go_upto_region 27 with fail
            clear hu5
            obtain ⟨W6, hr6, RD6', ho6⟩ := RD5.out.stepU tx nx true HFA.out.1.1 HFA.out.1.2 HFA.out.2.1 (by have := HFA.out.2.2.2.1; omega)
            have RD6 := hidx RD6'
            have RB6 := hidx (RB5.out.same (ho6 b17 (World.block_lt_of_cell? _ _ RB5.out.k0) HNO.out.1 HNO.out.2))
            clear RD6' ho6
            go_upto_region 28 with fail
            clear hr6 y0 y1
            have k0 : W6.cell? ⟨b17, 0, none⟩ = some (.int .i64 2) := by rw [← Hkd.out]; exact RB6.out.k0
            have k1 : W6.cell? ⟨b17, 1, none⟩ = some (.int .i64 tx) := by rw [← Htx.out]; exact RB6.out.k1
            obtain ⟨W7, hr7, RD7', ho7⟩ := RD6.out.stepL tx q HFA.out.1.1 HFA.out.1.2 (by have := HFA.out.2.2.2.1; omega)
            have RD7 := hidx RD7'
            clear RD7' ho7 RD5 RD6 RB5 RB6 X5 RD4 RB4
            go_upto_region 31 with fail
            clear hr7 k0 k1
            go_wp2_with fail
            go_roundw
            case rel => exact ⟨i + 1, by rw [Hq2.out], HI.out, by rw [HFN.out]; exact RD7⟩
            case measure => simp [intOf]; have := HFA.out.2.2.2.2.2; omega
          · have hq : ∃ W6, True := ⟨W4, trivial⟩
            clear hq
            by_cases hk1 : kd = 1
            · obtain rfl := hk1
              have HFN : Hid (chAt rs R (i + 1) = ⟨fun k => if k = tx then q else st.last k, fun k p => if k = tx ∧ p = pv then false else st.und k p⟩) := by
                show _ = _
                rw [HNX.out]
                have e1 := after_last st q r
                have e2 := after_und1 st q Hkd.out
                rw [Htx.out] at e1
                rw [Htx.out, Hpv.out] at e2
                exact ChS.mk.injEq .. |>.mpr ⟨e1, e2⟩
              obtain ⟨W6, hr6, RD6', ho6⟩ := RD4.out.stepU tx pv false HFA.out.1.1 HFA.out.1.2 HFA.out.2.2.1 (by have := HFA.out.2.2.2.1; omega)
              have RD6 := hidx RD6'
              have RB6 := hidx (RB4.out.same (ho6 b17 (World.block_lt_of_cell? _ _ RB4.out.k0) HNO.out.1 HNO.out.2))
              clear RD6' ho6
              have k1 : W4.cell? ⟨b17, 1, none⟩ = some (.int .i64 tx) := by rw [← Htx.out]; exact RB4.out.k1
              have k2 : W4.cell? ⟨b17, 2, none⟩ = some (.int .u64 (pv : Nat)) := by rw [← Hpv.out]; exact RB4.out.k2
              clear hk2
              go_upto_region 30 with fail
              clear hr6 k0 k1 k2
              have k1 : W6.cell? ⟨b17, 1, none⟩ = some (.int .i64 tx) := by rw [← Htx.out]; exact RB6.out.k1
              obtain ⟨W7, hr7, RD7', ho7⟩ := RD6.out.stepL tx q HFA.out.1.1 HFA.out.1.2 (by have := HFA.out.2.2.2.1; omega)
              have RD7 := hidx RD7'
              clear RD7' ho7 RD6 RB6 RD4 RB4
              go_upto_region 31 with fail
              clear hr7 k1
              go_wp2_with fail
              go_roundw
              case rel => exact ⟨i + 1, by rw [Hq2.out], HI.out, by rw [HFN.out]; exact RD7⟩
              case measure => simp [intOf]; have := HFA.out.2.2.2.2.2; omega
            · have HFN : Hid (chAt rs R (i + 1) = ⟨fun k => if k = tx then q else st.last k, st.und⟩) := by
                show _ = _
                rw [HNX.out]
                have e1 := after_last st q r
                have e2 := after_und0 st q (r := r) (by rw [Hkd.out]; exact hk1) (by rw [Hkd.out]; exact hk2)
                rw [Htx.out] at e1
                exact ChS.mk.injEq .. |>.mpr ⟨e1, e2⟩
              have k1 : W4.cell? ⟨b17, 1, none⟩ = some (.int .i64 tx) := by rw [← Htx.out]; exact RB4.out.k1
              obtain ⟨W7, hr7, RD7', ho7⟩ := RD4.out.stepL tx q HFA.out.1.1 HFA.out.1.2 (by have := HFA.out.2.2.2.1; omega)
              have RD7 := hidx (RD7'.room (show 2 * i + 1 ≤ 2 * (i + 1) by omega))
              clear RD7' ho7 RD4 RB4
              go_upto_region 31 with fail
              clear hr7 k0 k1
              go_wp2_with fail
              go_roundw
              case rel => exact ⟨i + 1, by rw [Hq2.out], HI.out, by rw [HFN.out]; exact RD7⟩
              case measure => simp [intOf]; have := HFA.out.2.2.2.2.2; omega
        · obtain rfl : i = rs.length := by omega
          have dq : decide ((q : Int) < ((lb + 1 : Nat) : Int)) = false := by have := Hq.out; have := Hqe.out; simp; omega
          have dq' : decide (q < lb + 1) = false := by have := Hq.out; have := Hqe.out; simp; omega
          have dq2 : decide ((q : Int) < (lb : Int) + 1) = false := by have := Hq.out; have := Hqe.out; simp; omega
          clear hmo hm0 hm1 hle hlt hi
          go_wp2_with fail
          refine HEN.out.mono ?_
          rintro e v1 ⟨rfl, rfl⟩
          clear HEN
          go_wp2
          go_ret
          exact ⟨rfl, HRD.out.bel⟩

end Go.Proofs.YtjemeopafkafgaaGreat

namespace Go.Proofs.YtjemeopafkafgaaGreat.LawTxnChains
open Go.ChangeShapes Go.WideShapes Go.ChangeAt Go.RowKit Go.Deep
set_option linter.unusedVariables false

theorem own : ownKnob Tryz.prog.godebug = none := by kernel_rfl
theorem laidOut : laidOutB Tryz.prog = true := by kernel_rfl

/-- An act, as plain data. -/
structure PAct where
  kind : Int
  who : Int
  S : ByteArray

structure PActAt (w : World) (b o : Nat) (i : Nat) (v : PAct) : Prop where
  c0 : w.cell? ⟨b, o + i * 3, none⟩ = some (.int .i64 v.kind)
  c1 : w.cell? ⟨b, o + i * 3 + 1, none⟩ = some (.int .i64 v.who)
  c2 : w.cell? ⟨b, o + i * 3 + 2, none⟩ = some (.string v.S)
  hS : v.S.size ≤ maxLen

theorem cellsA : Tryz.prog.cellsOf 33 = 3 := by kernel_rfl
theorem cellsN : Tryz.prog.cellsOf 3 = 1 := by kernel_rfl
theorem cellsS : Tryz.prog.cellsOf 9 = 1 := by kernel_rfl

theorem add_off (b o i : Nat) : (⟨b, o, none⟩ : Addr).add i = ⟨b, o + i, none⟩ := by
  by_cases h0 : i = 0
  · subst h0; simp [Addr.add]
  · simp [Addr.add, h0]

theorem list3 {α : Type} {cs : List α} (h : cs.length = 3) : ∃ c0 c1 c2, cs = [c0, c1, c2] := by
  match cs, h with
  | [c0, c1, c2], _ => exact ⟨c0, c1, c2, rfl⟩

set_option maxHeartbeats 800000 in
set_option maxRecDepth 60000 in
theorem open_act {H : Type} {enc : TypeId × Value → H} {w : World} {base : Nat} {spare : Nat → Bool} {held : Bool} {fuel i b o : Nat} {cs : List Value} {D : DataW H} {Pl : List MemPlace}
    (h1 : w.cells? base ((⟨b, o, none⟩ : Addr).add (i * 3)) 3 = some cs) (h2 : DataW.trod enc Tryz.prog w base spare held fuel 33 cs = some (D, Pl)) :
    ∃ v : PAct, b < w.heap.size ∧ PActAt w b o i v := by
  obtain ⟨_, hlen, hcell⟩ := World.cells?_some h1
  obtain ⟨y0, y1, y2, n, hx, _, g0, g1, g2⟩ := trod_struct3 Tryz.underlying33 h2
  obtain ⟨v0, v1, v2, rfl⟩ := list3 hlen
  simp only [cellsN, cellsS] at g0 g1 g2
  obtain ⟨a0, e0, rfl, _⟩ := DataW.trod_int Tryz.underlying3 g0
  obtain ⟨a1, e1, rfl, w1⟩ := DataW.trod_int Tryz.underlying3 g1
  obtain ⟨a2, e2, rfl, w2⟩ := DataW.trod_string Tryz.underlying9 g2
  simp at e0 e1 e2
  subst e0 e1 e2
  have k0 := hcell 0 (by omega)
  have k1 := hcell 1 (by omega)
  have k2 := hcell 2 (by omega)
  simp only [add_off, List.getElem?_cons_zero, List.getElem?_cons_succ] at k0 k1 k2
  exact ⟨⟨a0, a1, a2⟩, World.block_lt_of_cell? _ _ k0, ⟨k0, k1, k2, w2⟩⟩

theorem open_acts {H : Type} {enc : TypeId × Value → H} {w : World} {base : Nat} {spare : Nat → Bool} {held : Bool} {a : Option Addr} {len cap : Nat} {d : DataW H} {pl : List MemPlace}
    (h : DataW.Trod enc Tryz.prog w base spare held 22 (.slice a len cap) d pl) :
    ∃ K W : Nat → Int, ∃ S : Nat → ByteArray, ActArg w a len K W S ∧ len ≤ 9223372036854775807 := by
  obtain ⟨fuel, hf⟩ := h
  rcases open_slice Tryz.underlying22 hf with ⟨hcs, hx⟩ | ⟨a', len', cap', m, n, D, Pl, hcs, _, hl, hm, hmm, hx, hel⟩
  · simp [Value.cells] at hcs
    obtain ⟨rfl, rfl, rfl⟩ := hcs
    exact ⟨fun _ => 0, fun _ => 0, fun _ => ⟨#[]⟩, .inl rfl, by omega⟩
  · simp [Value.cells] at hcs
    obtain ⟨rfl, rfl, rfl⟩ := hcs
    have hlm : len ≤ m := by rw [hmm]; split <;> omega
    have hlen : len ≤ 9223372036854775807 := by unfold maxLen at hm; omega
    rw [cellsA] at hel
    by_cases h0 : len = 0
    · subst h0
      exact ⟨fun _ => 0, fun _ => 0, fun _ => ⟨#[]⟩, .inl rfl, by omega⟩
    · obtain ⟨cs0, q0, _⟩ := hel 0 (by omega)
      obtain ⟨_, hlen0, hc0⟩ := World.cells?_some q0
      have hc00 := hc0 0 (by omega)
      obtain ⟨v0, v1, v2, rfl⟩ := list3 hlen0
      have hsp : a'.spot = none := by
        have := World.cell?_spot (show w.cell? a' = some v0 by simpa [Addr.add] using hc00)
        exact this
      obtain ⟨b, o, sp⟩ := a'
      simp only at hsp
      subst hsp
      obtain ⟨A, hA⟩ := @choose_lt PAct ⟨⟨0, 0, ⟨#[]⟩⟩⟩ len (fun i v => b < w.heap.size ∧ PActAt w b o i v) (fun i hi => by
        obtain ⟨cs, q1, q2⟩ := hel i (by omega)
        exact open_act q1 q2)
      exact ⟨fun i => (A i).kind, fun i => (A i).who, fun i => (A i).S, .inr ⟨b, o, rfl, (hA 0 (by omega)).1, fun i hi => ⟨(hA i hi).2.c0, (hA i hi).2.c1, (hA i hi).2.c2, (hA i hi).2.hS⟩⟩, hlen⟩

set_option maxRecDepth 100000 in
theorem lifted (os : Os) (started : os.Started) (H : Type) (enc : TypeId × Value → H) :
    ReturnsInHanded {} Tryz.checked os 3 .any (Rows.txnChainsSpec.pre6 enc Tryz.prog Tryz.f3 Rows.txnChainsRow.domain false) (Rows.txnChainsSpec.post enc Tryz.prog Tryz.f3 false true false false) := by
  refine returnsInHanded_of_change_sized (C := Tryz.checked) own started (by kernel_rfl) Tryz.func3
    (ChangeSpec.witness6 (enc := enc) (C := Tryz.checked) false ⟨#[], #[.slice none 0 0], []⟩ 8 (by kernel_rfl) (by kernel_rfl) (by kernel_rfl) (by kernel_rfl)) ?_
  intro W base args ds gs before hval0 hW hcnd hsz0 _
  have hval : ∀ (j : Nat) t v, Tryz.f3.params[j]? = some t → args[j]? = some v → Value.okWide Tryz.prog W .any base t v := hval0
  have hW' := hW
  obtain ⟨p, q, hA0, hV, rfl, hfz, hnd⟩ := hW
  have hA : DataW.TrodAll enc Tryz.prog W 0 (fun _ => true) true Tryz.f3.params.toList args.toList ds p := hA0
  rw [Tryz.params3] at hA hval
  obtain ⟨v0, d0, rfl, rfl, h0⟩ := trodAll_one hA
  obtain ⟨rfl, rfl⟩ := trodVars_none hV
  obtain ⟨a0, len0, cap0, rfl⟩ := okWide_slice Tryz.underlying22 (hval 0 22 v0 rfl rfl)
  have k0 := h0
  have lt0 : ∀ x ∈ p, x.block < W.heap.size := by obtain ⟨m, hm⟩ := k0; exact DataW.trod_lt m _ _ _ hm
  obtain ⟨K, Wh, S, hs0, hl0⟩ := open_acts h0
  clear hA0 hval0 hsz0
  refine (chains_walk a0 len0 cap0 K Wh S W hs0 hl0).mono fun e W' ⟨he, bel⟩ => ?_
  subst he
  exact ⟨_, rfl, _, _, _, [], _, [], hW', trodAll_mk1 (shut_bool Tryz.underlying4 _), trodAll_mk1 (Below.trod laidOut (by kernel_rfl) (of_decide_eq_true (by kernel_rfl)) k0 bel lt0), rfl, bel.frame _, fun h => by cases h⟩

theorem over : Rows.txnChainsRow.holds Tryz.pinned (OpenSpec.ofChange Rows.txnChainsSpec) :=
  OpenClaim.holds_of_wide 3 Tryz.f3 rfl rfl rfl rfl rfl rfl rfl ⟨rfl, rfl, rfl, rfl, rfl⟩ rfl rfl rfl rfl rfl (by kernel_rfl) Tryz.func3 (by kernel_rfl)
    (of_decide_eq_true (by kernel_rfl)) (by unfold Func.isWrapper; first | (rw [if_pos (by decide +kernel)]; kernel_rfl) | (rw [if_neg (by decide +kernel)]; exact ⟨rfl, rfl⟩))
    (fun os started H enc _ => lifted os started H enc)

end Go.Proofs.YtjemeopafkafgaaGreat.LawTxnChains

namespace Go.Proofs.YtjemeopafkafgaaGreat
theorem txnChains_holds : Rows.TxnChainsSaid := LawTxnChains.over
#print axioms txnChains_holds
end Go.Proofs.YtjemeopafkafgaaGreat
