/-
  The walks of girderref19.state and girderref19.without.
-/
import Derived.Test.YtlphebebnjcidaaGreatAnDecJ
import Derived.BigRegion
import Derived.Deep.RegionWith
set_option linter.unusedVariables false
set_option linter.unusedSimpArgs false
namespace Go.Proofs.YtlphebebnjcidaaGreat
open Go.RowKit Go.Sort Go.Shelf Go.Lib

theorem idxL_some {α : Type} {key : α → Int} {n : Int} : ∀ (l : List α) (k : Nat) (hk : k < l.length), (∀ j (hj : j < l.length), j < k → key l[j] ≠ n) → key l[k] = n → idxL key n l = some k
  | [], k, hk, _, _ => absurd hk (Nat.not_lt_zero _)
  | x :: l, 0, _, _, h => by
    have h' : key x = n := h
    unfold idxL
    rw [if_pos h']
  | x :: l, k + 1, hk, h1, h2 => by
    have h0 : key x ≠ n := h1 0 (by simp) (by omega)
    have ih := idxL_some l k (by simpa using hk) (fun j hj hjk => h1 (j + 1) (by simpa using hj) (by omega)) h2
    unfold idxL
    rw [if_neg h0, ih]
    rfl
theorem idxL_none {α : Type} {key : α → Int} {n : Int} : ∀ (l : List α), (∀ j (hj : j < l.length), key l[j] ≠ n) → idxL key n l = none
  | [], _ => rfl
  | x :: l, h => by
    have h0 : key x ≠ n := h 0 (by simp)
    unfold idxL
    rw [if_neg h0, idxL_none l fun j hj => h (j + 1) (by simpa using hj)]
    rfl

def idxI (o : Option Nat) : Int := match o with
  | some i => i
  | none => -1

set_option maxHeartbeats 3200000 in
set_option maxRecDepth 20000 in
theorem rstate_any (L : List TxV) (a : Option Addr) (c : Nat) (tx : Int) (w : World) (h : TxsAt w a L) (hl : L.length ≤ 1000000) :
    Calls Tryz.prog 23 #[.slice a L.length c, .int .i64 tx] w fun e w' => e = .returned (.int .i64 (idxI (idxL keyT tx L))) ∧ w' = w := by
  have HL := hida h
  have hll := hl
  clear h
  go_enter Tryz.func23, Tryz.ntmps23
  go_wp2_with fail
  go_loopw [5] (fun x wr => ∃ k : Nat, x = .int .i64 k ∧ k ≤ L.length ∧ Hid (∀ j (hj : j < L.length), j < k → keyT L[j] ≠ tx) ∧ wr = w) (fun x _ => L.length - (intOf x).toNat)
  case atStart => exact ⟨0, rfl, Nat.zero_le _, fun j hj hk => absurd hk (Nat.not_lt_zero _), rfl⟩
  case round =>
    obtain ⟨k, rfl, hk, HN, rfl⟩ := hrel
    by_cases hlt : k < L.length
    · have e1 : decide ((k : Int) < (L.length : Int)) = true := decide_eq_true (by omega)
      have e2 : (0 : Int) ≤ (k : Int) := by omega
      have e3 : (k : Int) < (L.length : Int) := by omega
      obtain ⟨tb, t9, rfl, g0⟩ : ∃ b1 o1, a = some ⟨b1, o1, none⟩ ∧ wr.cell? ⟨b1, o1 + k * 4, none⟩ = some (.int .i64 (keyT L[k])) := by
        rcases HL.out with h | ⟨b1, o1, e, hb, h⟩
        · rw [h] at hlt; simp at hlt
        · exact ⟨b1, o1, e, (h k hlt).c0⟩
      by_cases heq : keyT L[k] = tx
      · have HR := hida (idxL_some L k hlt HN.out heq)
        have e4 : (keyT L[k] == tx) = true := by simp [heq]
        clear HN
        rw [heq] at g0
        go_wp2_with fail
        go_ret
        exact ⟨by rw [HR.out]; rfl, rfl⟩
      · have e4 : (keyT L[k] == tx) = false := beq_eq_false_iff_ne.2 heq
        have HN2 : Hid (∀ j (hj : j < L.length), j < k + 1 → keyT L[j] ≠ tx) := fun j hj hjk => by
          by_cases h : j < k
          · exact HN.out j hj h
          · obtain rfl : j = k := by omega
            exact heq
        clear HN
        generalize keyT L[k] = y at *
        go_wp2_with fail
        go_roundw
        case rel => exact ⟨k + 1, by go_num, by omega, HN2, by trivial⟩
        case measure => simp [intOf]; omega
    · have e1 : decide ((k : Int) < (L.length : Int)) = false := decide_eq_false (by omega)
      have HR := hida (idxL_none (key := keyT) (n := tx) L fun j hj => HN.out j hj (by omega))
      clear HN
      go_wp2_with fail
      go_ret
      exact ⟨by rw [HR.out]; rfl, rfl⟩

set_option maxHeartbeats 3200000 in
set_option maxRecDepth 20000 in
theorem rwithout_any (L : List TxV) (a : Option Addr) (c : Nat) (tx : Int) (w : World) (h : TxsAt w a L) (hl : L.length ≤ 1000000) :
    Calls Tryz.prog 72 #[.slice a L.length c, .int .i64 tx] w fun e w' => ∃ v, e = .returned v ∧ rsAt w.heap.size w' v (L.filter fun x => decide (keyT x ≠ tx)) ∧ Below w.heap.size w w' := by
  obtain ⟨i1, hi1, hz1⟩ := Option.map_eq_some_iff.1 infoStL
  simp only [Prod.mk.injEq] at hz1
  obtain ⟨hz10, hz11, hz12⟩ := hz1
  have HL := hida h
  have HLN := hida hl
  have hll := hl
  clear h hl
  obtain ⟨W0, HW0⟩ : ∃ W0, Hid (W0 = w.alloc (.cells #[] 46)) := ⟨_, rfl⟩
  have H0 : Hid (Below w.heap.size w W0 ∧ rsAt w.heap.size W0 (.slice (some ⟨w.heap.size, 0, none⟩) 0 0) ((L.take 0).filter fun x => decide (keyT x ≠ tx))) := by
    rw [HW0.out]
    exact ⟨(Below.refl _ _).alloc (Nat.le_refl _) _, rfl, .inr ⟨w.heap.size, 0, #[], rfl, Nat.le_refl _, heap_alloc_new _ _, Nat.le_refl _, Nat.zero_le _, rfl, rfl⟩⟩
  go_enter Tryz.func72, Tryz.ntmps72
  go_upto_region 2 with fail
  rw [← HW0.out]
  clear HW0
  go_wp2_with fail
  go_loopw [5, 6] (fun v x wr => ∃ (k : Nat) (u : Value), x = .int .i64 k ∧ v = u ∧ k ≤ L.length ∧ Hid (Below w.heap.size w wr ∧ rsAt w.heap.size wr u ((L.take k).filter fun x => decide (keyT x ≠ tx)))) (fun _ x _ => L.length - (intOf x).toNat)
  case atStart => exact ⟨0, _, rfl, rfl, Nat.zero_le _, H0⟩
  case round =>
    obtain ⟨k, u, rfl, rfl, hk, HB⟩ := hrel
    clear H0
    by_cases hlt : k < L.length
    · have e1 : decide ((k : Int) < (L.length : Int)) = true := decide_eq_true (by omega)
      have e2 : (0 : Int) ≤ (k : Int) := by omega
      have e3 : (k : Int) < (L.length : Int) := by omega
      obtain ⟨tb, t9, rfl, g1⟩ : ∃ b1 o1, a = some ⟨b1, o1, none⟩ ∧ TxAt wr b1 (o1 + k * 4) L[k] := by
        rcases HL.out.below HB.out.1 with h | ⟨b1, o1, e, hb, h⟩
        · rw [h] at hlt; simp at hlt
        · exact ⟨b1, o1, e, h k hlt⟩
      have HT1 : Hid ((L.take (k + 1)).filter (fun x => decide (keyT x ≠ tx)) = (L.take k).filter (fun x => decide (keyT x ≠ tx)) ++ if L[k].1 = tx then [] else [L[k]]) := by
        show _ = _
        rw [List.take_succ_eq_append_getElem hlt, List.filter_append]
        congr 1
        by_cases hq : L[k].1 = tx
        · rw [if_pos hq]; simp [keyT, hq]
        · rw [if_neg hq]; simp [keyT, hq]
      obtain ⟨t, ht⟩ : ∃ t, L[k] = t := ⟨_, rfl⟩
      rw [ht] at g1 HT1
      clear ht
      obtain ⟨x1, x2, x3, x4⟩ := t
      obtain ⟨g0, g1, g2, g3⟩ := g1
      simp only at g0 g1 g2 g3 HT1
      by_cases heq : x1 = tx
      · rw [if_pos heq, List.append_nil] at HT1
        have e4 : (x1 == tx) = true := by simp [heq]
        have e5 : (x1 != tx) = false := by simp [bne, e4]
        have HB2 : Hid (Below w.heap.size w wr ∧ rsAt w.heap.size wr u5 ((L.take (k + 1)).filter fun x => decide (keyT x ≠ tx))) := by
          rw [HT1.out]; exact HB.out
        clear HB HT1
        go_wp2_with fail
        go_roundw
        case rel => exact ⟨k + 1, _, by go_num, rfl, by omega, HB2⟩
        case measure => simp [intOf]; omega
      · rw [if_neg heq] at HT1
        have e4 : (x1 == tx) = false := beq_eq_false_iff_ne.2 heq
        have e5 : (x1 != tx) = true := by simp [bne, e4]
        obtain ⟨M, HM⟩ : ∃ M, Hid ((L.take k).filter (fun x => decide (keyT x ≠ tx)) = M) := ⟨_, rfl⟩
        rw [HM.out] at HT1 HB
        have hMl : M.length ≤ 1000000 := by
          rw [← HM.out]
          refine Nat.le_trans (List.length_filter_le _ _) ?_
          rw [List.length_take]
          have := HLN.out
          omega
        obtain ⟨V, HV⟩ : ∃ V, Hid (V = wr.alloc (.cells #[.int .i64 x1, .int .i64 x2, .int .u64 x3, .int .u64 x4] 46)) := ⟨_, rfl⟩
        have bV : Below wr.heap.size wr V := by rw [HV.out]; exact (Below.refl _ _).alloc (Nat.le_refl _) _
        have hnews : Hid (∀ j u, [Value.int .i64 x1, Value.int .i64 x2, Value.int .u64 x3, Value.int .u64 x4][j]? = some u → V.cell? ((⟨wr.heap.size, 0, none⟩ : Addr).add j) = some u) := by
          show ∀ j u, _
          rw [HV.out]
          exact World.news_of_block (heap_alloc_new _ _)
        have HOW : Hid (V.ownsRow w.heap.size 46 4 u5 M.length (M.flatMap atcells)) := owns_same7 HB.out.2 fun g hg => bV.block g (HB.out.2.lt g hg).2
        have HBV := hida (below_chain HB.out.1 bV)
        have HPU : Hid (∀ (g2 cap2 : Nat) w2, w2.ownsRow w.heap.size 46 4 (.slice (some ⟨g2, 0, none⟩) (M.length + 1 : Nat) cap2) (M.length + 1) (M.flatMap atcells ++ [.int .i64 x1, .int .i64 x2, .int .u64 x3, .int .u64 x4]) → V.grownBy w2 u5.ownBlock → Below w.heap.size w w2 ∧ rsAt w.heap.size w2 (.slice (some ⟨g2, 0, none⟩) (M.length + 1 : Nat) cap2) ((L.take (k + 1)).filter fun x => decide (keyT x ≠ tx))) := by
          intro g2 cap2 w2 own2 grow2
          refine ⟨HBV.out.grown grow2 HBV.out.size fun z hz => (World.ownsRow.lt HOW.out z hz).1, ?_⟩
          rw [HT1.out]
          unfold rsAt
          rw [List.length_append, List.flatMap_append]
          simp only [List.length_singleton, List.flatMap_cons, List.flatMap_nil, List.append_nil]
          exact own2
        have HOK : Hid (w.heap.size ≤ V.heap.size) := HBV.out.size
        clear HB HM HT1 bV HBV
        rw [HV.out] at hnews HOW HPU HOK
        clear HV
        go_wp2_with (at_builtin; refine wpList_append_lies _ rfl _ _ 37 rfl w.heap.size 46 i1 _ 4 32 Tryz.underlying37 hi1 hz10 hz11 hz12 rfl (by decide) u5 M.length (M.flatMap atcells) rfl HOW.out ⟨wr.heap.size, 0, none⟩ 1 1 [.int .i64 x1, .int .i64 x2, .int .u64 x3, .int .u64 x4] rfl rfl hnews.out (by intro u' hu'; simp at hu'; rcases hu' with rfl | rfl | rfl | rfl <;> rfl) (by decide) (by unfold maxLen; omega) (by omega) HOK.out _ rfl ?_; intro g2 cap2 w2 own2 grow2 loc2 lt2; have HN := hida (HPU.out g2 cap2 w2 own2 grow2); clear own2 grow2 loc2 lt2)
        go_roundw
        case rel => exact ⟨k + 1, _, by go_num, rfl, by omega, HN⟩
        case measure => simp [intOf]; omega
    · have e1 : decide ((k : Int) < (L.length : Int)) = false := decide_eq_false (by omega)
      obtain rfl : k = L.length := by omega
      rw [List.take_length] at HB
      go_wp2_with fail
      go_ret
      exact ⟨_, rfl, HB.out.2, HB.out.1⟩

end Go.Proofs.YtlphebebnjcidaaGreat

namespace Go.Proofs.YtlphebebnjcidaaGreat
open Go.RowKit Go.Sort Go.Shelf Go.Lib

section
variable {α : Type} {key : α → Int}

def putS (key : α → Int) (t : α) (s : List α × Bool) (x : α) : List α × Bool :=
  if key x = key t then s else if s.2 = false ∧ key t < key x then (s.1 ++ [t] ++ [x], true) else (s.1 ++ [x], s.2)

def putTo (key : α → Int) (t : α) (L : List α) (k : Nat) : List α × Bool := (L.take k).foldl (putS key t) ([], false)

def putEnd (t : α) (s : List α × Bool) : List α := if s.2 = true then s.1 else s.1 ++ [t]

theorem putTo_succ (t : α) {L : List α} {k : Nat} (hk : k < L.length) : putTo key t L (k + 1) = putS key t (putTo key t L k) L[k] := by
  unfold putTo
  rw [List.take_succ_eq_append_getElem hk, List.foldl_append]
  rfl

theorem putTo_len (t : α) (L : List α) : ∀ k, k ≤ L.length → (putTo key t L k).1.length ≤ k + 1 ∧ ((putTo key t L k).2 = false → (putTo key t L k).1.length ≤ k)
  | 0, _ => ⟨Nat.zero_le _, fun _ => Nat.le_refl _⟩
  | k + 1, hk => by
    obtain ⟨h1, h2⟩ := putTo_len t L k (by omega)
    rw [putTo_succ t (by omega)]
    unfold putS
    split
    · exact ⟨by omega, fun h => by have := h2 h; omega⟩
    · split
      · rename_i h
        have := h2 h.1
        refine ⟨by simp only [List.length_append, List.length_singleton]; omega, fun h => by cases h⟩
      · refine ⟨?_, fun h => ?_⟩
        · simp only [List.length_append, List.length_singleton]
          omega
        · have := h2 h
          simp only [List.length_append, List.length_singleton]
          omega

theorem put_done (t : α) : ∀ (L acc : List α), (∀ x ∈ L, key t < key x) → L.foldl (putS key t) (acc, true) = (acc ++ L, true)
  | [], acc, _ => by simp
  | x :: L, acc, h => by
    have hx := h x (List.mem_cons_self ..)
    rw [List.foldl_cons]
    have e : putS key t (acc, true) x = (acc ++ [x], true) := by
      unfold putS
      rw [if_neg (by omega), if_neg (by simp)]
    rw [e, put_done t L _ fun y hy => h y (List.mem_cons_of_mem _ hy)]
    simp

theorem put_gt (t : α) : ∀ (L acc : List α), (∀ x ∈ L, key t < key x) → putEnd t (L.foldl (putS key t) (acc, false)) = acc ++ t :: L
  | [], acc, _ => by simp [putEnd]
  | x :: L, acc, h => by
    have hx := h x (List.mem_cons_self ..)
    have e : putS key t (acc, false) x = (acc ++ [t] ++ [x], true) := by
      unfold putS
      rw [if_neg (by omega), if_pos ⟨rfl, hx⟩]
    rw [List.foldl_cons, e, put_done t L _ fun y hy => h y (List.mem_cons_of_mem _ hy)]
    simp [putEnd]

theorem put_go (t : α) : ∀ (L acc : List α), (L.Pairwise fun a b => key a < key b) → putEnd t (L.foldl (putS key t) (acc, false)) = acc ++ insL key L t
  | [], acc, _ => by simp [putEnd, insL]
  | x :: L, acc, h => by
    rw [List.pairwise_cons] at h
    unfold insL
    by_cases h1 : key x < key t
    · have e : putS key t (acc, false) x = (acc ++ [x], false) := by
        unfold putS
        rw [if_neg (by omega), if_neg (fun q => by have := q.2; omega)]
      rw [if_pos h1, List.foldl_cons, e, put_go t L _ h.2]
      simp
    · by_cases h2 : key x = key t
      · have e : putS key t (acc, false) x = (acc, false) := by
          unfold putS
          rw [if_pos h2]
        rw [if_neg h1, if_pos h2, List.foldl_cons, e]
        exact put_gt t L acc fun y hy => by have := h.1 y hy; omega
      · rw [if_neg h1, if_neg h2]
        exact put_gt t (x :: L) acc fun y hy => by
          rcases List.mem_cons.1 hy with e | e
          · rw [e]; omega
          · have := h.1 y e; omega

theorem put_all (t : α) {L : List α} (h : L.Pairwise fun a b => key a < key b) : putEnd t (putTo key t L L.length) = insL key L t := by
  unfold putTo
  rw [List.take_length]
  exact put_go t L [] h

end

end Go.Proofs.YtlphebebnjcidaaGreat

namespace Go.Proofs.YtlphebebnjcidaaGreat
open Go.RowKit Go.Sort Go.Shelf Go.Lib

def dirS (d : DiV) (s : List DiV × Bool) (x : DiV) : List DiV × Bool :=
  if x.1 = d.1 then (s.1 ++ [if d.2 < x.2 then d else x], true) else if s.2 = false ∧ d.1 < x.1 then (s.1 ++ [d] ++ [x], true) else (s.1 ++ [x], s.2)

def dirTo (d : DiV) (L : List DiV) (k : Nat) : List DiV × Bool := (L.take k).foldl (dirS d) ([], false)

theorem dirTo_succ (d : DiV) {L : List DiV} {k : Nat} (hk : k < L.length) : dirTo d L (k + 1) = dirS d (dirTo d L k) L[k] := by
  unfold dirTo
  rw [List.take_succ_eq_append_getElem hk, List.foldl_append]
  rfl

theorem dirTo_len (d : DiV) (L : List DiV) : ∀ k, k ≤ L.length → (dirTo d L k).1.length ≤ k + 1 ∧ ((dirTo d L k).2 = false → (dirTo d L k).1.length ≤ k)
  | 0, _ => ⟨Nat.zero_le _, fun _ => Nat.le_refl _⟩
  | k + 1, hk => by
    obtain ⟨h1, h2⟩ := dirTo_len d L k (by omega)
    rw [dirTo_succ d (by omega)]
    unfold dirS
    split
    · exact ⟨by simp only [List.length_append, List.length_singleton]; omega, fun h => by cases h⟩
    · split
      · rename_i h
        have := h2 h.1
        refine ⟨by simp only [List.length_append, List.length_singleton]; omega, fun h => by cases h⟩
      · refine ⟨?_, fun h => ?_⟩
        · simp only [List.length_append, List.length_singleton]
          omega
        · have := h2 h
          simp only [List.length_append, List.length_singleton]
          omega

def dirL (d : DiV) : List DiV → List DiV
  | [] => [d]
  | x :: l => if x.1 < d.1 then x :: dirL d l else if x.1 = d.1 then (if d.2 < x.2 then d else x) :: l else d :: x :: l

theorem dir_done (d : DiV) : ∀ (L acc : List DiV), (∀ x ∈ L, d.1 < x.1) → L.foldl (dirS d) (acc, true) = (acc ++ L, true)
  | [], acc, _ => by simp
  | x :: L, acc, h => by
    have hx := h x (List.mem_cons_self ..)
    have e : dirS d (acc, true) x = (acc ++ [x], true) := by
      unfold dirS
      rw [if_neg (by omega), if_neg (by simp)]
    rw [List.foldl_cons, e, dir_done d L _ fun y hy => h y (List.mem_cons_of_mem _ hy)]
    simp

theorem dir_go (d : DiV) : ∀ (L acc : List DiV), (L.Pairwise fun a b => a.1 < b.1) → putEnd d (L.foldl (dirS d) (acc, false)) = acc ++ dirL d L
  | [], acc, _ => by simp [putEnd, dirL]
  | x :: L, acc, h => by
    rw [List.pairwise_cons] at h
    unfold dirL
    by_cases h1 : x.1 < d.1
    · have e : dirS d (acc, false) x = (acc ++ [x], false) := by
        unfold dirS
        rw [if_neg (by omega), if_neg (fun q => by have := q.2; omega)]
      rw [if_pos h1, List.foldl_cons, e, dir_go d L _ h.2]
      simp
    · by_cases h2 : x.1 = d.1
      · have e : dirS d (acc, false) x = (acc ++ [if d.2 < x.2 then d else x], true) := by
          unfold dirS
          rw [if_pos h2]
        rw [if_neg h1, if_pos h2, List.foldl_cons, e, dir_done d L _ fun y hy => by have := h.1 y hy; omega]
        simp [putEnd]
      · have e : dirS d (acc, false) x = (acc ++ [d] ++ [x], true) := by
          unfold dirS
          rw [if_neg h2, if_pos ⟨rfl, by omega⟩]
        rw [if_neg h1, if_neg h2, List.foldl_cons, e, dir_done d L _ fun y hy => by have := h.1 y hy; omega]
        simp [putEnd]

theorem dir_all (d : DiV) {L : List DiV} (h : L.Pairwise fun a b => a.1 < b.1) : putEnd d (dirTo d L L.length) = dirL d L := by
  unfold dirTo
  rw [List.take_length]
  exact dir_go d L [] h

theorem dirL_mem (d : DiV) : ∀ (L : List DiV), (L.Pairwise fun a b => a.1 < b.1) → dirL d L = match L.find? (fun x => x.1 == d.1) with
    | some x => if d.2 < x.2 then insL keyD L d else L
    | none => insL keyD L d
  | [], _ => rfl
  | x :: L, h => by
    rw [List.pairwise_cons] at h
    unfold dirL insL
    have ih := dirL_mem d L h.2
    by_cases h1 : x.1 < d.1
    · have e1 : (x.1 == d.1) = false := beq_eq_false_iff_ne.2 (by omega)
      have e2 : keyD x < keyD d := by show (x.1 : Int) < d.1; omega
      rw [if_pos h1, List.find?_cons, e1, ih, if_pos e2]
      dsimp only
      cases L.find? (fun x => x.1 == d.1) with
      | none => rfl
      | some y =>
        dsimp only
        split <;> rfl
    · have e2 : ¬ keyD x < keyD d := by show ¬ (x.1 : Int) < d.1; omega
      by_cases h2 : x.1 = d.1
      · have e1 : (x.1 == d.1) = true := by simp [h2]
        have e3 : keyD x = keyD d := by show (x.1 : Int) = d.1; omega
        rw [if_neg h1, if_pos h2, List.find?_cons, e1, if_neg e2, if_pos e3]
        dsimp only
        split <;> rfl
      · have e3 : ¬ keyD x = keyD d := by show ¬ (x.1 : Int) = d.1; omega
        have e1 : (x.1 == d.1) = false := beq_eq_false_iff_ne.2 h2
        have e4 : L.find? (fun x => x.1 == d.1) = none := List.find?_eq_none.2 fun y hy => by have := h.1 y hy; simp; omega
        rw [if_neg h1, if_neg h2, List.find?_cons, e1, e4, if_neg e2, if_neg e3]

end Go.Proofs.YtlphebebnjcidaaGreat
