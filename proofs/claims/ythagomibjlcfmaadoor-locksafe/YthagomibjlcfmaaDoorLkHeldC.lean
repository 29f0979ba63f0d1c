/-
  The walks of Held, Len.
-/
import Derived.Test.YthagomibjlcfmaaDoorLkNamesC
import Derived.Test.YthagomibjlcfmaaDoorLkHasC
namespace Go.Proofs.YthagomibjlcfmaaDoor
open Go.RowKit
set_option linter.unusedVariables false
set_option linter.unusedSimpArgs false

set_option maxHeartbeats 800000 in
set_option maxRecDepth 60000 in
theorem len_any {S : Nat → Prop} {w : World} {b : Nat} {T : Tab} (h : IsTab S w b T) :
    Calls Tryd.prog 37 #[ptr b] w fun e w' => e = .returned (.int .i64 T.z) ∧ w' = w := by
  obtain ⟨bq, bw, DQ, DW, h⟩ := h
  have c0 := h.c0
  have hmq := h.mq.1
  have hmqs : Hid (Maps.size DQ = T.z) := by first | exact h.mq.2 | exact h.mq.2.symm
  have hlt := h.lt b h.sb
  clear h
  unfold ptr
  go_enter Tryd.func37, Tryd.ntmps37
  go_wp2_with (at_len; refine wpList_len_own _ rfl _ 52 rfl 33 61 Tryd.underlying52 _ bq T.z DQ rfl hmq ?_)
  go_ret
  refine ⟨?_, rfl⟩
  show Ending.returned (.int .i64 (Maps.size DQ)) = _
  rw [hmqs.out]

def hcells (p : NameV × Int) : List Value := [.int .i64 p.1.1, .int .i64 p.1.2.1, .int .u32 p.1.2.2.1, .int .i64 p.1.2.2.2, .int .i64 p.2]

/-- The value v is a list of what is held, a row of its own from block B on. -/
def HeldAt (B : Nat) (w : World) (v : Value) (HL : List (NameV × Int)) : Prop := w.ownsRow B 93 5 v HL.length (HL.flatMap hcells)

theorem HeldAt.nil (B : Nat) (w : World) : HeldAt B w (.slice none 0 0) [] := ⟨rfl, .inl ⟨rfl, rfl⟩⟩
theorem HeldAt.same {B : Nat} {w w' : World} {v : Value} {L : List (NameV × Int)} (h : HeldAt B w v L) (k : ∀ g, v.ownBlock = some g → w'.heap[g]? = w.heap[g]?) : HeldAt B w' v L := by
  refine ⟨h.1, ?_⟩
  rcases h.2 with ⟨rfl, h1⟩ | ⟨g', cap, cur, rfl, h0, hb, hr⟩
  · exact .inl ⟨rfl, h1⟩
  · exact .inr ⟨g', cap, cur, rfl, h0, (k g' rfl).trans hb, hr⟩
theorem HeldAt.lt {B : Nat} {w : World} {v : Value} {L : List (NameV × Int)} (h : HeldAt B w v L) : ∀ g, v.ownBlock = some g → B ≤ g ∧ g < w.heap.size := fun g hg => World.ownsRow.lt h g hg
theorem HeldAt.below {B : Nat} {w w' : World} {v : Value} {L : List (NameV × Int)} (h : HeldAt B w v L) (k : Below w.heap.size w w') : HeldAt B w' v L := h.same fun g hg => k.block g (h.lt g hg).2
theorem HeldAt.val {B : Nat} {w : World} {v : Value} {L : List (NameV × Int)} (h : HeldAt B w v L) : ∃ a c, v = .slice a L.length c := by
  rcases h.2 with ⟨rfl, h1⟩ | ⟨g', cap, cur, rfl, h0, hb, hr⟩
  · exact ⟨_, _, by rw [h1]⟩
  · exact ⟨_, _, rfl⟩

theorem hflat_get (L : List (NameV × Int)) (i j : Nat) (hi : i < L.length) (hj : j < 5) : (L.flatMap hcells)[i * 5 + j]? = (hcells L[i])[j]? := by
  induction L generalizing i with
  | nil => simp at hi
  | cons p L ih =>
    rw [List.flatMap_cons]
    have h4 : (hcells p).length = 5 := rfl
    match i, hi with
    | 0, _ =>
      rw [List.getElem?_append_left (by omega)]
      simp
    | i + 1, hi =>
      rw [List.getElem?_append_right (by omega)]
      have : (i + 1) * 5 + j - (hcells p).length = i * 5 + j := by rw [h4]; omega
      rw [this]
      exact ih i (by simpa using hi)

structure HdAt (w : World) (b o : Nat) (t : NameV × Int) : Prop where
  nm : NmAt w b o t.1
  c4 : w.cell? ⟨b, o + 4, none⟩ = some (.int .i64 t.2)

theorem HdAt.same {w w' : World} {b o : Nat} {t : NameV × Int} (h : HdAt w b o t) (e : w'.heap[b]? = w.heap[b]?) : HdAt w' b o t :=
  ⟨h.nm.same e, (World.cell?_of_block (w := w) (a := ⟨b, o + 4, none⟩) e).trans h.c4⟩

theorem HeldAt.open {B : Nat} {w : World} {v : Value} {L : List (NameV × Int)} (h : HeldAt B w v L) (k : Nat) (hk : k < L.length) : ∃ g cap, v = .slice (some ⟨g, 0, none⟩) L.length cap ∧ B ≤ g ∧ g < w.heap.size ∧ HdAt w g (k * 5) L[k] := by
  have h0 := h
  unfold HeldAt at h0
  rcases h0.2 with ⟨e, hn⟩ | ⟨g, cap, cur, rfl, hB, hb, hn, hm, hs, ht⟩
  · omega
  · have cel : ∀ j u, (L.flatMap hcells)[j]? = some u → w.cell? ⟨g, j, none⟩ = some u := fun j u hj => by
      have hl : j < (L.flatMap hcells).length := (List.getElem?_eq_some_iff.1 hj).1
      rw [h0.1] at hl
      have : cur.toList[j]? = some u := by
        rw [← ht, List.getElem?_take] at hj
        rw [if_pos hl] at hj
        exact hj
      simp only [World.cell?, hb]
      simpa using this
    refine ⟨g, cap, rfl, hB, (Array.getElem?_eq_some_iff.1 hb).1, ⟨⟨?_, ?_, ?_, ?_⟩, ?_⟩⟩
    · exact cel _ _ ((hflat_get L k 0 hk (by omega)).trans rfl)
    · exact cel _ _ ((hflat_get L k 1 hk (by omega)).trans rfl)
    · exact cel _ _ ((hflat_get L k 2 hk (by omega)).trans rfl)
    · exact cel _ _ ((hflat_get L k 3 hk (by omega)).trans rfl)
    · exact cel _ _ ((hflat_get L k 4 hk (by omega)).trans rfl)

theorem infoHeld : (Tryd.prog.info? 93).map (fun i => (i.zero, i.size, i.bytes)) = some (some (.agg #[.int .i64 0, .int .i64 0, .int .u32 0, .int .i64 0, .int .i64 0]), 5, 40) := by kernel_rfl

theorem nm_ne_held {B B' : Nat} {w : World} {v v' : Value} {L : List NameV} {HL : List (NameV × Int)} (h : NamesAt B w v L) (h' : HeldAt B' w v' HL) : ∀ g, v.ownBlock = some g → v'.ownBlock ≠ some g := by
  intro g h1 h2
  rcases h.2 with ⟨rfl, _⟩ | ⟨g1, cap, cur, rfl, _, hb, _⟩
  · cases h1
  rcases h'.2 with ⟨rfl, _⟩ | ⟨g2, cap', cur', rfl, _, hb', _⟩
  · cases h2
  obtain rfl : g1 = g := Option.some.inj h1
  obtain rfl : g2 = g1 := Option.some.inj h2
  rw [hb] at hb'
  cases hb'

/-- What is told of a list of what a transaction has. -/
def HeldOk (T : Tab) (tx : Int) (HL : List (NameV × Int)) : Prop := ∀ p ∈ HL, (∃ l, NKey p.1 l) ∧ p.2 = (oneF (T.Q p.1) tx).2.1 ∧ p.2 ≠ 0

/-- Where Held's loop stands. -/
structure HeAt (w wr : World) (T : Tab) (tx : Int) (v5 v13 : Value) (NL : List NameV) (HL : List (NameV × Int)) (j : Nat) : Prop where
  bel : Below w.heap.size w wr
  nms : NamesAt (w.heap.size + 1) wr v13 NL
  own : HeldAt (w.heap.size + 1) wr v5 HL
  ok : HeldOk T tx HL
  len : HL.length ≤ j

set_option maxHeartbeats 3200000 in
set_option maxRecDepth 20000 in
theorem held_any {S : Nat → Prop} {w : World} {b : Nat} {T : Tab} (h : IsTab S w b T) (tx : Int) (hz : T.z ≤ 1000000) (hL : ∀ n, (T.Q n).length ≤ 1000000) (hS : NSorts T.z) :
    Calls Tryd.prog 41 #[ptr b, .int .i64 tx] w fun e w' => ∃ v HL, e = .returned v ∧ HeldAt (w.heap.size + 1) w' v HL ∧ HeldOk T tx HL ∧ HL.length ≤ T.z ∧ Below w.heap.size w w' := by
  obtain ⟨i0, hi, hzz⟩ := Option.map_eq_some_iff.1 infoHeld
  simp only [Prod.mk.injEq] at hzz
  obtain ⟨hz0, hz1, hz2⟩ := hzz
  have HN := names_any h tx hz hL hS
  have HH : Hid (∀ n l, NKey n l → ∀ wx, Below w.heap.size w wx → Calls Tryd.prog 14 #[.pointer (some ⟨b, 0, none⟩), .int .i64 tx, nval n] wx fun e w' => e = .returned (.int .i64 (oneF (T.Q n) tx).2.1) ∧ Below wx.heap.size wx w') := fun n l hn wx k => has_any (h.below k) tx n l hn
  clear h hS hL
  unfold ptr at HN ⊢
  go_enter Tryd.func41, Tryd.ntmps41
  go_wp2_with fail
  refine HN.mono ?_
  rintro e w1 ⟨v13, NL, rfl, hnm, hno, hnl, b1⟩
  have HNK : Hid (∀ n ∈ NL, ∃ l, NKey n l) := hno.key
  have HA0 : Hid (HeAt w w1 T tx (.slice none 0 0) v13 NL [] 0) := ⟨b1, hnm, HeldAt.nil _ _, fun p hp => (by cases hp), Nat.le_refl _⟩
  obtain ⟨a13, c13, rfl⟩ := hnm.val
  clear hno hnm b1 HN
  go_wp2_with fail
  go_loopw [15, 5] (fun i t5 wr => ∃ (j : Nat) (HL : List (NameV × Int)), j ≤ NL.length ∧ i = .int .i64 j ∧ Hid (HeAt w wr T tx t5 (.slice a13 NL.length c13) NL HL j)) (fun i _ _ => NL.length - (intOf i).toNat)
  case atStart => exact ⟨0, [], by omega, rfl, HA0⟩
  case round =>
    obtain ⟨j, HL, hj, rfl, HA⟩ := hrel
    clear HA0
    by_cases hlt : j < NL.length
    · obtain ⟨g, cap, e5, hgB, hg, hnm⟩ := HA.out.nms.open j hlt
      cases e5
      obtain ⟨l, hn⟩ := HNK.out NL[j] (List.getElem_mem hlt)
      have hi0 : (0 : Int) ≤ j := by omega
      have hi1 : (j : Int) < NL.length := by omega
      have belr := HA.out.bel
      have ownr := HA.out.own
      have hHLl : HL.length ≤ 1000000 := by have := HA.out.len; omega
      generalize NL[j] = nm at *
      have HM0 := HH.out nm l hn
      obtain ⟨m, Hm⟩ : ∃ m, Hid ((oneF (T.Q nm) tx).2.1 = m) := ⟨_, rfl⟩
      rw [Hm.out] at HM0
      have HNX : Hid (∀ wx v', Below w.heap.size w wx → NamesAt (w.heap.size + 1) wx (.slice (some ⟨g, 0, none⟩) NL.length c13) NL → HeldAt (w.heap.size + 1) wx v' (HL ++ [(nm, m)]) → m ≠ 0 → HeAt w wx T tx v' (.slice (some ⟨g, 0, none⟩) NL.length c13) NL (HL ++ [(nm, m)]) (j + 1)) := fun wx v' q1 q2 q3 q4 => ⟨q1, q2, q3, fun p hp => by
        rcases List.mem_append.1 hp with x | x
        · exact HA.out.ok p x
        · obtain rfl : p = (nm, m) := by simpa using x
          exact ⟨⟨l, hn⟩, Hm.out.symm, q4⟩, by rw [List.length_append]; have := HA.out.len; simp; omega⟩
      have HSK : Hid (∀ wx, Below wr.heap.size wr wx → HeAt w wx T tx u5 (.slice (some ⟨g, 0, none⟩) NL.length c13) NL HL (j + 1)) := fun wx q => ⟨belr.trans (q.mono belr.size), HA.out.nms.below q, HA.out.own.below q, HA.out.ok, by have := HA.out.len; omega⟩
      have HNM : Hid (NamesAt (w.heap.size + 1) wr (.slice (some ⟨g, 0, none⟩) NL.length c13) NL) := HA.out.nms
      clear HA HH Hm HNK
      obtain ⟨n0, n1, n2, n3⟩ := nm
      obtain ⟨z0, z1, z2, z3⟩ := hnm
      unfold nval at HM0
      simp only at z0 z1 z2 z3 HM0
      have W1 : Below wr.heap.size wr (wr.alloc (.cells #[.int .i64 n0, .int .i64 n1, .int .u32 n2, .int .i64 n3] 33)) := (Below.refl _ _).alloc (Nat.le_refl _) _
      go_wp2_with fail
      refine (HM0 _ (belr.trans (W1.mono belr.size))).mono ?_
      rintro e w2 ⟨rfl, b2⟩
      have b12 : Below wr.heap.size wr w2 := W1.trans (b2.mono (by simp))
      have d0 := fun i => (World.cell?_of_block (w := wr.alloc (.cells #[.int .i64 n0, .int .i64 n1, .int .u32 n2, .int .i64 n3] 33)) (w' := w2) (a := ⟨wr.heap.size, i, none⟩) (b2.block wr.heap.size (by simp)))
      have x0 := (d0 0).trans (by rfl)
      have x1 := (d0 1).trans (by rfl)
      have x2 := (d0 2).trans (by rfl)
      have x3 := (d0 3).trans (by rfl)
      simp at x0 x1 x2 x3
      have hlt2 : wr.heap.size < w2.heap.size := Nat.lt_of_lt_of_le (by simp) b2.size
      have belx := belr.trans (b12.mono belr.size)
      have own2 := ownr.below b12
      have nms2 := HNM.out.below b12
      clear d0 W1 b2 HM0 z0 z1 z2 z3
      by_cases hm0 : m = 0
      · have HA4 : Hid (HeAt w w2 T tx u5 (.slice (some ⟨g, 0, none⟩) NL.length c13) NL HL (j + 1)) := HSK.out w2 b12
        clear HSK HNX own2 nms2 HNM
        subst hm0
        go_wp2
        go_roundw
        case rel => exact ⟨j + 1, HL, by omega, by go_num, HA4⟩
        case measure => simp [intOf]; omega
      · have hown : (w2.alloc (.cells #[.int .i64 n0, .int .i64 n1, .int .u32 n2, .int .i64 n3, .int .i64 m] 93)).ownsRow (w.heap.size + 1) 93 5 u5 HL.length (HL.flatMap hcells) := own2.below ((Below.refl _ _).alloc (Nat.le_refl _) _)
        have nms3 := nms2.below ((Below.refl _ _).alloc (Nat.le_refl _) (.cells #[.int .i64 n0, .int .i64 n1, .int .u32 n2, .int .i64 n3, .int .i64 m] 93))
        have bel3 := belx.alloc belx.size (.cells #[.int .i64 n0, .int .i64 n1, .int .u32 n2, .int .i64 n3, .int .i64 m] 93)
        have hwl : w.heap.size ≤ wr.heap.size := belr.size
        go_wp2_with (at_builtin; refine wpList_append_own_at _ rfl _ _ 86 rfl (w.heap.size + 1) 93 i0 _ 5 40 Tryd.underlying86 hi hz0 hz1 hz2 rfl (by decide) u5 HL.length (HL.flatMap hcells) rfl hown ⟨w2.heap.size, 0, none⟩ 1 1 [.int .i64 n0, .int .i64 n1, .int .u32 n2, .int .i64 n3, .int .i64 m] rfl rfl (by intro j u hj; match j, hj with | 0, hj => (simp at hj; subst hj; simp [Addr.add]) | 1, hj => (simp at hj; subst hj; simp [Addr.add]) | 2, hj => (simp at hj; subst hj; simp [Addr.add]) | 3, hj => (simp at hj; subst hj; simp [Addr.add]) | 4, hj => (simp at hj; subst hj; simp [Addr.add])) (by intro u hu; simp at hu; rcases hu with rfl | rfl | rfl | rfl | rfl <;> rfl) (by unfold maxLen; omega) (by omega) (by simp; omega) ?_; intro v' w4 hown4 hgrow4 hnil4 hloc4)
        have hbase : ∀ k, u5.ownBlock = some k → w.heap.size + 1 ≤ k := fun k hk => (own2.lt k hk).1
        have bel4 := bel3.grown hgrow4 bel3.size (fun k hk => by have := hbase k hk; omega)
        have own4 : HeldAt (w.heap.size + 1) w4 v' (HL ++ [((n0, n1, n2, n3), m)]) := by
          unfold HeldAt
          rw [List.length_append, List.flatMap_append]
          exact hown4
        have nms4 : NamesAt (w.heap.size + 1) w4 (.slice (some ⟨g, 0, none⟩) NL.length c13) NL := nms3.same fun g' hg' => hgrow4.block g' (nms3.lt g' hg').2 fun e => nm_ne_held nms2 own2 g' hg' e.symm
        have HA4 : Hid (HeAt w w4 T tx v' (.slice (some ⟨g, 0, none⟩) NL.length c13) NL (HL ++ [((n0, n1, n2, n3), m)]) (j + 1)) := HNX.out w4 v' bel4 nms4 own4 hm0
        clear hown4 hgrow4 hnil4 hloc4 hown bel3 own4 nms4 nms3 own2 nms2 HNX HSK HNM
        go_wp2
        go_roundw
        case rel => exact ⟨j + 1, _, by omega, by go_num, HA4⟩
        case measure => simp [intOf]; omega
    · obtain rfl : j = NL.length := by omega
      have HF : Hid (HeldAt (w.heap.size + 1) wr u5 HL ∧ HeldOk T tx HL ∧ HL.length ≤ T.z ∧ Below w.heap.size w wr) := ⟨HA.out.own, HA.out.ok, by have := HA.out.len; omega, HA.out.bel⟩
      clear HA
      go_wp2
      go_ret
      exact ⟨u5, HL, rfl, HF.out⟩

end Go.Proofs.YthagomibjlcfmaaDoor
