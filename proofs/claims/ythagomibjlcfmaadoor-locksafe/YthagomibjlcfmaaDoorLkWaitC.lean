/-
  The walk of queue.waiting; queue.with in all its cases.
-/
import Derived.Test.YthagomibjlcfmaaDoorLkTabC
import Derived.Test.YthagomibjlcfmaaDoorLkDelC
namespace Go.Proofs.YthagomibjlcfmaaDoor
open Go.RowKit
set_option linter.unusedVariables false
set_option linter.unusedSimpArgs false

/-- Those that wait, in a row from block B on. -/
def PlsAt (B : Nat) (w : World) (v : Value) (L : List Pl) : Prop := w.ownsRow B 64 4 v L.length (L.flatMap pcells)

theorem PlsAt.q {B : Nat} {w : World} {v : Value} {L : List Pl} (h : PlsAt B w v L) : QAt w v L := by
  refine ⟨h.1, ?_⟩
  rcases h.2 with ⟨rfl, h1⟩ | ⟨g', cap, cur, rfl, h0, hb, hr⟩
  · exact .inl ⟨rfl, h1⟩
  · exact .inr ⟨g', cap, cur, rfl, Nat.zero_le _, hb, hr⟩
theorem PlsAt.nil (B : Nat) (w : World) : PlsAt B w (.slice none 0 0) [] := ⟨rfl, .inl ⟨rfl, rfl⟩⟩
theorem PlsAt.same {B : Nat} {w w' : World} {v : Value} {L : List Pl} (h : PlsAt B w v L) (k : ∀ g, v.ownBlock = some g → w'.heap[g]? = w.heap[g]?) : PlsAt B w' v L := by
  refine ⟨h.1, ?_⟩
  rcases h.2 with ⟨rfl, h1⟩ | ⟨g', cap, cur, rfl, h0, hb, hr⟩
  · exact .inl ⟨rfl, h1⟩
  · exact .inr ⟨g', cap, cur, rfl, h0, (k g' rfl).trans hb, hr⟩
theorem PlsAt.lt {B : Nat} {w : World} {v : Value} {L : List Pl} (h : PlsAt B w v L) : ∀ g, v.ownBlock = some g → B ≤ g ∧ g < w.heap.size := fun g hg => World.ownsRow.lt h g hg
theorem PlsAt.below {B : Nat} {w w' : World} {v : Value} {L : List Pl} (h : PlsAt B w v L) (k : Below w.heap.size w w') : PlsAt B w' v L := h.same fun g hg => k.block g (h.lt g hg).2

/-- Those that wait. -/
def waitF (L : List Pl) : List Pl := L.filter fun p => !decide (p.2.2.1 = 0)

theorem waitF_snoc (L : List Pl) (k : Nat) (hk : k < L.length) : waitF (L.take (k + 1)) = waitF (L.take k) ++ (if L[k].2.2.1 = 0 then [] else [L[k]]) := by
  unfold waitF
  rw [List.take_succ_eq_append_getElem hk, List.filter_append]
  congr 1
  by_cases h : L[k].2.2.1 = 0
  · simp [h]
  · simp [h]

theorem waitF_len (L : List Pl) : (waitF L).length ≤ L.length := List.length_filter_le _ _

set_option maxHeartbeats 3200000 in
set_option maxRecDepth 20000 in
theorem waiting_any {w : World} {v : Value} {L : List Pl} (h : QAt w v L) (hL : L.length ≤ 1000000) :
    Calls Tryd.prog 49 #[v] w fun e w' => ∃ v', e = .returned v' ∧ PlsAt w.heap.size w' v' (waitF L) ∧ Below w.heap.size w w' := by
  obtain ⟨i0, hi, hzz⟩ := Option.map_eq_some_iff.1 infoPlace
  simp only [Prod.mk.injEq] at hzz
  obtain ⟨hz0, hz1, hz2⟩ := hzz
  have HQ := h.open
  obtain ⟨va, vc, rfl⟩ : ∃ va vc, v = .slice va L.length vc := by
    rcases HQ with ⟨rfl, rfl⟩ | ⟨g, cap, rfl, _⟩
    · exact ⟨_, _, rfl⟩
    · exact ⟨_, _, rfl⟩
  have HP : Hid (∀ i (hi : i < L.length), ∃ g, va = some ⟨g, 0, none⟩ ∧ g < w.heap.size ∧ PlAt w g (i * 4) L[i]) := fun i hi => by
    rcases HQ with ⟨e1, rfl⟩ | ⟨g, cap, e1, hg, _, _, hp⟩
    · simp at hi
    · cases e1
      exact ⟨g, rfl, hg, hp i hi⟩
  clear HQ h
  go_enter Tryd.func49, Tryd.ntmps49
  go_wp2_with fail
  go_loopw [8, 3] (fun i t wr => ∃ k : Nat, k ≤ L.length ∧ i = .int .i64 k ∧ Hid (PlsAt w.heap.size wr t (waitF (L.take k)) ∧ Below w.heap.size w wr)) (fun i _ _ => L.length - (intOf i).toNat)
  case atStart => exact ⟨0, by omega, rfl, PlsAt.nil _ _, Below.refl _ _⟩
  case round =>
    obtain ⟨k, hk, rfl, HA⟩ := hrel
    by_cases hlt : k < L.length
    · obtain ⟨g, rfl, hg, hP0⟩ := HP.out k hlt
      have hP := hP0.same (HA.out.2.block g hg)
      clear hP0
      have HB : Hid (waitF (L.take (k + 1)) = waitF (L.take k) ++ (if L[k].2.2.1 = 0 then [] else [L[k]])) := waitF_snoc L k hlt
      have HLN : Hid ((waitF (L.take k)).length ≤ k) := Nat.le_trans (waitF_len _) (by simp; omega)
      have hi0 : (0 : Int) ≤ k := by omega
      have hi1 : (k : Int) < L.length := by omega
      clear HP
      obtain ⟨Z, HZ0⟩ : ∃ Z, Hid (waitF (L.take k) = Z) := ⟨_, rfl⟩
      rw [HZ0.out] at HA HB HLN
      clear HZ0
      generalize L[k] = t at *
      generalize L.length = N at *
      obtain ⟨t0, t1, t2, t3⟩ := t
      simp only at HB
      obtain ⟨c0, c1, c2, c3⟩ := hP
      simp only at c0 c1 c2 c3
      have bel := HA.out.2
      have hsz := bel.size
      have W1 : Below wr.heap.size wr (wr.alloc (.cells #[.int .i64 t0, .int .i64 t1, .int .i64 t2, .bool t3] 64)) := (Below.refl _ _).alloc (Nat.le_refl _) _
      by_cases e2 : t2 = 0
      · have e2' : (t2 != 0) = false := by simpa using e2
        have HZ : Hid (waitF (L.take (k + 1)) = Z) := by show _ = _; rw [HB.out]; simp [e2]
        clear e2
        have HA2 : Hid (PlsAt w.heap.size (wr.alloc (.cells #[.int .i64 t0, .int .i64 t1, .int .i64 t2, .bool t3] 64)) u3 Z ∧ Below w.heap.size w (wr.alloc (.cells #[.int .i64 t0, .int .i64 t1, .int .i64 t2, .bool t3] 64))) := ⟨HA.out.1.below W1, bel.trans (W1.mono bel.size)⟩
        go_wp2
        go_roundw
        case rel => exact ⟨k + 1, by omega, by go_num, by rw [HZ.out]; exact HA2⟩
        case measure => simp [intOf]; omega
      · have e2' : (t2 != 0) = true := by simpa using e2
        have HZ : Hid (waitF (L.take (k + 1)) = Z ++ [(t0, t1, t2, t3)]) := by show _ = _; rw [HB.out]; simp [e2]
        have bel3 : Below w.heap.size w ((wr.alloc (.cells #[.int .i64 t0, .int .i64 t1, .int .i64 t2, .bool t3] 64)).alloc (.cells #[.int .i64 t0, .int .i64 t1, .int .i64 t2, .bool t3] 64)) := (bel.trans (W1.mono bel.size)).alloc (by simp; omega) _
        have hown : ((wr.alloc (.cells #[.int .i64 t0, .int .i64 t1, .int .i64 t2, .bool t3] 64)).alloc (.cells #[.int .i64 t0, .int .i64 t1, .int .i64 t2, .bool t3] 64)).ownsRow w.heap.size 64 4 u3 Z.length (Z.flatMap pcells) := (HA.out.1.below W1).below ((Below.refl _ _).alloc (Nat.le_refl _) _)
        have hbase := HA.out.1.lt
        clear HA
        go_wp2_with (at_builtin; refine wpList_append_own_at _ rfl _ _ 60 rfl w.heap.size 64 i0 _ 4 32 Tryd.underlying60 hi hz0 hz1 hz2 rfl (by decide) u3 Z.length (Z.flatMap pcells) rfl hown ⟨wr.heap.size + 1, 0, none⟩ 1 1 [.int .i64 t0, .int .i64 t1, .int .i64 t2, .bool t3] rfl rfl (by intro j u hj; match j, hj with | 0, hj => (simp at hj; subst hj; simp [Addr.add]) | 1, hj => (simp at hj; subst hj; simp [Addr.add]) | 2, hj => (simp at hj; subst hj; simp [Addr.add]) | 3, hj => (simp at hj; subst hj; simp [Addr.add])) (by intro u hu; simp at hu; rcases hu with rfl | rfl | rfl | rfl <;> rfl) (by unfold maxLen; have := HLN.out; omega) (by have := HLN.out; omega) (by simp; omega) ?_; intro v' w4 hown4 hgrow4 hnil4 hloc4)
        have HA4 : Hid (PlsAt w.heap.size w4 v' (Z ++ [(t0, t1, t2, t3)]) ∧ Below w.heap.size w w4) := by
          refine ⟨?_, bel3.grown hgrow4 bel3.size fun k hk => (hbase k hk).1⟩
          unfold PlsAt
          rw [List.length_append, List.flatMap_append]
          exact hown4
        clear hown4 hgrow4 hnil4 hloc4 hown bel3
        go_wp2
        go_roundw
        case rel => exact ⟨k + 1, by omega, by go_num, by rw [HZ.out]; exact HA4⟩
        case measure => simp [intOf]; omega
    · obtain rfl : k = L.length := by omega
      go_wp2
      go_ret
      have := HA.out
      rw [List.take_length] at this
      exact ⟨u3, rfl, this⟩

/-- queue.with, whatever is told. -/
theorem with_any {w : World} {v : Value} {L : List Pl} (h : QAt w v L) (p : Pl) (hL : L.length ≤ 1000000) :
    Calls Tryd.prog 20 #[v, pval p] w fun e w' => ∃ v', e = .returned v' ∧ QAt w' v' (withF L p) ∧ Steps w w' v v' := by
  have hle := ofF_le L p.1
  by_cases hc : p.2.1 = 0 ∧ p.2.2.1 = 0
  · by_cases hat : ofF L p.1 = L.length
    · exact with_none h p hc.1 hc.2 hat hL
    · exact with_del h p hc.1 hc.2 (by omega) hL
  · by_cases hat : ofF L p.1 = L.length
    · exact with_push h p hc hat hL
    · refine (with_set h p hc (by omega) hL).mono ?_
      rintro e w2 ⟨rfl, h2, hg⟩
      exact ⟨_, rfl, h2, ⟨hg, .inl rfl⟩⟩

theorem withF_len (L : List Pl) (p : Pl) : (withF L p).length ≤ L.length + 1 := by
  unfold withF
  split
  · have := List.length_eraseIdx_le L (ofF L p.1); omega
  · split
    · simp
    · simp

end Go.Proofs.YthagomibjlcfmaaDoor
