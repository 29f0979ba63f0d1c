/-
  slices.Delete of one place of a queue; the walk of queue.with where one is taken out.
-/
import Derived.Test.YthagomibjlcfmaaDoorLkWithC
import Derived.Lib.SliceRun
import Derived.Deep.RegionLaw
namespace Go.Proofs.YthagomibjlcfmaaDoor
open Go.RowKit
set_option linter.unusedVariables false
set_option linter.unusedSimpArgs false

theorem owns_setCells {B : Nat} {e : TypeId} {z n g cap : Nat} : ∀ (vs : List Value) (o : Nat) (w : World) (xs : List Value), w.ownsRow B e z (.slice (some ⟨g, 0, none⟩) n cap) n xs → o + vs.length ≤ n * z →
    (w.setCells g o vs).ownsRow B e z (.slice (some ⟨g, 0, none⟩) n cap) n (xs.take o ++ vs ++ xs.drop (o + vs.length))
  | [], o, w, xs, h, _ => by simpa [World.setCells] using h
  | v :: vs, o, w, xs, h, hl => by
    have hl' : o + (vs.length + 1) ≤ n * z := by simpa using hl
    have h1 := owns_set h o (by omega) v
    have h2 := owns_setCells vs (o + 1) _ _ h1 (by omega)
    have hx : o < xs.length := by rw [h.1]; omega
    have e1 : (xs.set o v).take (o + 1) ++ vs ++ (xs.set o v).drop (o + 1 + vs.length) = xs.take o ++ (v :: vs) ++ xs.drop (o + (vs.length + 1)) := by
      have hA : (xs.take o ++ [v]).length = o + 1 := by simp; omega
      have hs : xs.set o v = (xs.take o ++ [v]) ++ xs.drop (o + 1) := by rw [List.set_eq_take_append_cons_drop, if_pos hx]; simp
      rw [hs, ← hA, List.take_left, List.drop_length_add_append, List.drop_drop]
      simp [Nat.add_comm, Nat.add_left_comm]
      omega
    rw [e1] at h2
    exact h2

theorem owns_shrink {w : World} {B : Nat} {e : TypeId} {z n m g cap : Nat} {xs : List Value} (h : w.ownsRow B e z (.slice (some ⟨g, 0, none⟩) n cap) n xs) (hm : m ≤ n) :
    w.ownsRow B e z (.slice (some ⟨g, 0, none⟩) m cap) m (xs.take (m * z)) := by
  have hmz : m * z ≤ n * z := Nat.mul_le_mul_right _ hm
  refine ⟨by rw [List.length_take, h.1]; omega, ?_⟩
  rcases h.2 with ⟨e1, _⟩ | ⟨g', cap', cur, e1, h0, hb, hn, hc, hs, ht⟩
  · cases e1
  · cases e1
    refine .inr ⟨g, cap, cur, rfl, h0, hb, by omega, hc, hs, ?_⟩
    rw [← ht, List.take_take]
    congr 1
    omega

theorem grown_setCells {w u : World} {g : Nat} (h : w.grownBy u (some g)) : ∀ (vs : List Value) (o : Nat), w.grownBy (u.setCells g o vs) (some g) := by
  intro vs
  induction vs generalizing u with
  | nil => intro o; exact h
  | cons v vs ih =>
    intro o
    refine ih ?_ (o + 1)
    exact ⟨h.os, h.tape, h.output, by simpa using h.size, fun k hk hne => (Below.heap_setCell _ _ _ _ (by intro e; exact hne (by rw [show k = g from e]))).trans (h.block k hk hne)⟩

theorem flat_take (L : List Pl) (k : Nat) : (L.flatMap pcells).take (k * 4) = (L.take k).flatMap pcells := by
  induction L generalizing k with
  | nil => simp
  | cons p L ih =>
    match k with
    | 0 => simp
    | k + 1 =>
      rw [List.flatMap_cons, List.take_succ_cons, List.flatMap_cons, ← ih k]
      have e : (k + 1) * 4 = 4 + k * 4 := by omega
      rw [e]
      have h4 : (pcells p).length = 4 := rfl
      rw [← h4, List.take_length_add_append]

theorem flat_drop (L : List Pl) (k : Nat) : (L.flatMap pcells).drop (k * 4) = (L.drop k).flatMap pcells := by
  induction L generalizing k with
  | nil => simp
  | cons p L ih =>
    match k with
    | 0 => simp
    | k + 1 =>
      rw [List.flatMap_cons, List.drop_succ_cons, ← ih k]
      have e : (k + 1) * 4 = 4 + k * 4 := by omega
      rw [e]
      have h4 : (pcells p).length = 4 := rfl
      rw [← h4, List.drop_length_add_append]

theorem zeroPlace (w : World) : (zeroValue 64).run Tryd.prog w = .ok (.agg #[.int .i64 0, .int .i64 0, .int .i64 0, .bool false]) w := by kernel_rfl

theorem clear_one (w : World) (ty : TypeId) (g o c : Nat) (hc : ∀ j, j < 4 → (w.cell? ⟨g, o + j, none⟩).isSome = true) (hf : ∀ j, j < 4 → w.frozen? ⟨g, o + j, none⟩ = false) :
    (Builtin.clear_ #[61] ty #[.slice (some ⟨g, o, none⟩) 1 c]).run Tryd.prog w = .ok (.tuple #[]) (w.setCells g o [.int .i64 0, .int .i64 0, .int .i64 0, .bool false]) := by
  have hst := run_storeCells_cells (P := Tryd.prog) g o [.int .i64 0, .int .i64 0, .int .i64 0, .bool false] 0 w (by simpa using hc) (by simpa using hf) (by intro v hv; simp at hv; rcases hv with rfl | rfl | rfl <;> rfl)
  simp only [Nat.add_zero] at hst
  have hzc : (Builtin.zeroCells (Value.agg #[.int .i64 0, .int .i64 0, .int .i64 0, .bool false]).cells 1).toList = [.int .i64 0, .int .i64 0, .int .i64 0, .bool false] := by kernel_rfl
  simp [Builtin.clear_, run_underlying Tryd.underlying61, zeroPlace, hzc, hst]

/-- A queue from which one was taken. -/
theorem erase_flat (L : List Pl) (i : Nat) (hi : i < L.length) : ((((L.flatMap pcells).take (i * 4) ++ (L.drop (i + 1)).flatMap pcells ++ (L.flatMap pcells).drop (i * 4 + ((L.drop (i + 1)).flatMap pcells).length))).take ((L.length - 1) * 4)) = (L.eraseIdx i).flatMap pcells := by
  rw [flat_take, ← List.flatMap_append, ← List.eraseIdx_eq_take_drop_succ]
  have hl : ((L.eraseIdx i).flatMap pcells).length = (L.length - 1) * 4 := by rw [flat_len, List.length_eraseIdx_of_lt hi]
  rw [← hl, List.take_left]

set_option maxHeartbeats 1600000 in
set_option maxRecDepth 60000 in
theorem delete_any {w : World} {L : List Pl} {g cap : Nat} (h : QAt w (.slice (some ⟨g, 0, none⟩) L.length cap) L) (i : Nat) (hi : i < L.length) (hL : L.length ≤ 1000000) :
    Calls Tryd.prog 48 #[.slice (some ⟨g, 0, none⟩) L.length cap, .int .i64 i, .int .i64 ((i : Int) + 1)] w fun e w' => e = .returned (.slice (some ⟨g, 0, none⟩) (L.length - 1) cap) ∧ QAt w' (.slice (some ⟨g, 0, none⟩) (L.length - 1) cap) (L.eraseIdx i) ∧ w.grownBy w' (some g) := by
  obtain ⟨i0, hinf, hzz⟩ := Option.map_eq_some_iff.1 infoPlace
  simp only [Prod.mk.injEq] at hzz
  obtain ⟨hz0, hz1, hz2⟩ := hzz
  rcases h.open with ⟨e, _⟩ | ⟨g', cap', e, hg, hn, hm, hp⟩
  · cases e
  cases e
  unfold maxLen at hm
  obtain ⟨news, HNW⟩ : ∃ news, Hid ((L.drop (i + 1)).flatMap pcells = news) := ⟨_, rfl⟩
  have hlen : news.length = (L.length - (i + 1)) * 4 := by rw [← HNW.out, flat_len, List.length_drop]
  have hf := h.frozen
  have hown := h
  unfold QAt at hown
  have hcell : ∀ k, k < L.length * 4 → (w.cell? ⟨g, k, none⟩).isSome = true := fun k hk => by
    have hk' : k < (L.flatMap pcells).length := by rw [flat_len]; exact hk
    rw [owns_cells4 hown k _ (List.getElem?_eq_getElem hk')]
    rfl
  obtain ⟨A, hA, hsrc⟩ : ∃ A : Addr, (if cap = i + 1 then some (⟨g, 0, none⟩ : Addr) else some ⟨g, (i + 1) * 4, none⟩) = some A ∧ Hid (∀ t u, news[t]? = some u → w.drew.cell? (A.add t) = some u) := by
    by_cases hc : cap = i + 1
    · refine ⟨⟨g, 0, none⟩, by simp [hc], fun t u hu => ?_⟩
      have h0 : news.length = 0 := by rw [hlen]; omega
      rw [List.length_eq_zero_iff.1 h0] at hu
      simp at hu
    · refine ⟨⟨g, (i + 1) * 4, none⟩, by simp [hc], fun t u hu => ?_⟩
      rw [Addr.add_lit]
      refine owns_cells4 hown _ u ?_
      rw [← HNW.out, ← flat_drop, List.getElem?_drop] at hu
      exact hu
  have s1 : Hid (news.length = (L.length - (i + 1)) * 4) := hlen
  have s2 : Hid (∀ u ∈ news, u.oneCell' = true) := by
    intro u hu
    rw [← HNW.out] at hu
    obtain ⟨q, _, hq⟩ := List.mem_flatMap.1 hu
    simp [pcells] at hq
    rcases hq with rfl | rfl | rfl | rfl <;> rfl
  have s3 : Hid (∀ t, t < news.length → (w.drew.cell? ⟨g, 0 + i * 4 + t, none⟩).isSome = true ∧ w.drew.frozen? ⟨g, 0 + i * 4 + t, none⟩ = false) := by
    intro t ht
    rw [hlen] at ht
    exact ⟨hcell _ (by omega), hf _⟩
  obtain ⟨W1, hW1⟩ : ∃ W1, W1 = w.drew.setCells g (0 + i * 4) news := ⟨_, rfl⟩
  have hd : w.drew.ownsRow 0 64 4 (.slice (some ⟨g, 0, none⟩) L.length cap) L.length (L.flatMap pcells) := hown
  have ho1 : W1.ownsRow 0 64 4 (.slice (some ⟨g, 0, none⟩) L.length cap) L.length ((L.flatMap pcells).take (i * 4) ++ news ++ (L.flatMap pcells).drop (i * 4 + news.length)) := by
    rw [hW1, Nat.zero_add]
    exact owns_setCells news (i * 4) _ _ hd (by rw [hlen]; omega)
  have hq1 : ∀ k, k < L.length * 4 → (W1.cell? ⟨g, k, none⟩).isSome = true := fun k hk => by
    have hk' : k < ((L.flatMap pcells).take (i * 4) ++ news ++ (L.flatMap pcells).drop (i * 4 + news.length)).length := by rw [ho1.1]; exact hk
    rw [owns_cells4 ho1 k _ (List.getElem?_eq_getElem hk')]
    rfl
  have hq2 : ∀ k, W1.frozen? ⟨g, k, none⟩ = false := fun k => by rw [hW1, World.frozen?_setCells]; exact hf k
  have hcl : ∀ ty, (Builtin.clear_ #[61] ty #[.slice (some ⟨g, (i + (L.length - (i + 1))) * 4, none⟩) (L.length - (i + (L.length - (i + 1)))) (cap - (i + (L.length - (i + 1))))]).run Tryd.prog W1 = .ok (.tuple #[]) (W1.setCells g ((i + (L.length - (i + 1))) * 4) [.int .i64 0, .int .i64 0, .int .i64 0, .bool false]) := fun ty => by
    rw [show L.length - (i + (L.length - (i + 1))) = 1 from by omega]
    exact clear_one W1 ty g _ _ (fun j hj => hq1 _ (by omega)) (fun j hj => hq2 _)
  have HFIN : Hid (QAt (W1.setCells g ((i + (L.length - (i + 1))) * 4) [.int .i64 0, .int .i64 0, .int .i64 0, .bool false]) (.slice (some ⟨g, 0, none⟩) (L.length - 1) cap) (L.eraseIdx i) ∧ w.grownBy (W1.setCells g ((i + (L.length - (i + 1))) * 4) [.int .i64 0, .int .i64 0, .int .i64 0, .bool false]) (some g)) := by
    have e1 : i + (L.length - (i + 1)) = L.length - 1 := by omega
    rw [e1]
    have o2 := owns_setCells [.int .i64 0, .int .i64 0, .int .i64 0, .bool false] ((L.length - 1) * 4) _ _ ho1 (by simp; omega)
    have o3 := owns_shrink o2 (show L.length - 1 ≤ L.length by omega)
    refine ⟨?_, ?_⟩
    · unfold QAt
      rw [List.length_eraseIdx_of_lt hi]
      have e2 : (((L.flatMap pcells).take (i * 4) ++ news ++ (L.flatMap pcells).drop (i * 4 + news.length)).take ((L.length - 1) * 4)) = (L.eraseIdx i).flatMap pcells := by rw [← HNW.out]; exact erase_flat L i hi
      have e3 : ((((L.flatMap pcells).take (i * 4) ++ news ++ (L.flatMap pcells).drop (i * 4 + news.length)).take ((L.length - 1) * 4) ++ [Value.int .i64 0, .int .i64 0, .int .i64 0, .bool false] ++ ((L.flatMap pcells).take (i * 4) ++ news ++ (L.flatMap pcells).drop (i * 4 + news.length)).drop ((L.length - 1) * 4 + [Value.int .i64 0, .int .i64 0, .int .i64 0, .bool false].length)).take ((L.length - 1) * 4)) = (L.eraseIdx i).flatMap pcells := by
        rw [e2, List.append_assoc]
        have hl : ((L.eraseIdx i).flatMap pcells).length = (L.length - 1) * 4 := by rw [flat_len, List.length_eraseIdx_of_lt hi]
        rw [← hl, List.take_left]
      rw [e3] at o3
      exact o3
    · refine grown_setCells ?_ _ _
      rw [hW1]
      exact grown_setCells (w := w) (u := w.drew) ⟨rfl, rfl, rfl, Nat.le_refl _, fun _ _ _ => rfl⟩ _ _
  have hW : Hid (W1 = w.drew.setCells g (0 + i * 4) news) := hW1
  have hic : i ≤ cap := by omega
  have hjc : i + 1 ≤ cap := by omega
  have hb1 : (0 : Int) ≤ i := by omega
  have hb2 : (i : Int) ≤ (i : Int) + 1 := by omega
  have hb0 : (0 : Int) ≤ (i : Int) + 1 := by omega
  have hb3 : (i : Int) + 1 ≤ L.length := by omega
  have hb4 : ((i : Int) == (i : Int) + 1) = false := by rw [beq_eq_false_iff_ne]; omega
  clear hW1 ho1 hq1 hq2 hd hcell hf h hown hp hlen HNW
  generalize L.length = N at *
  go_enter Tryd.func48, Tryd.ntmps48
  go_wp2_with fail
  go_region_law (refine step_append_room rfl (.tmp 22) (.tmp 25) 61 rfl 64 i0 4 Tryd.underlying61 hinf hz1 g 0 i cap (by simp [Act.eval, Act.put]) A (N - (i + 1)) (cap - (i + 1)) news (by simp [Act.eval, Act.put]) s1.out hsrc.out s2.out (by omega) s3.out ?_; rw [← hW.out])
  go_wp2
  go_ret
  refine ⟨?_, HFIN.out⟩
  rw [show i + (N - (i + 1)) = N - 1 from by omega]
  rfl

set_option maxHeartbeats 1600000 in
set_option maxRecDepth 60000 in
theorem with_del {w : World} {v : Value} {L : List Pl} (h : QAt w v L) (p : Pl) (h1 : p.2.1 = 0) (h2 : p.2.2.1 = 0) (hat : ofF L p.1 < L.length) (hL : L.length ≤ 1000000) :
    Calls Tryd.prog 20 #[v, pval p] w fun e w' => ∃ v', e = .returned v' ∧ QAt w' v' (withF L p) ∧ Steps w w' v v' := by
  have HO : Hid (∀ wx, Below w.heap.size w wx → Calls Tryd.prog 45 #[v, .int .i64 p.1] wx fun e w' => e = .returned (.int .i64 (ofF L p.1)) ∧ Below wx.heap.size wx w') := fun wx k => of_any (h.below k) p.1
  have HL : Hid (withF L p = L.eraseIdx (ofF L p.1)) := by
    show withF L p = _
    unfold withF; rw [if_pos ⟨h1, h2⟩]
  rw [HL.out]
  clear HL
  rcases h.open with ⟨rfl, rfl⟩ | ⟨g, cap, rfl, hg, hn, hm, _⟩
  · simp at hat
  have HD : Hid (∀ wx, Below w.heap.size w wx → Calls Tryd.prog 48 #[.slice (some ⟨g, 0, none⟩) L.length cap, .int .i64 (ofF L p.1), .int .i64 ((ofF L p.1 : Int) + 1)] wx fun e w' => e = .returned (.slice (some ⟨g, 0, none⟩) (L.length - 1) cap) ∧ QAt w' (.slice (some ⟨g, 0, none⟩) (L.length - 1) cap) (L.eraseIdx (ofF L p.1)) ∧ wx.grownBy w' (some g)) := fun wx k => delete_any (h.below k) _ hat hL
  clear h
  unfold maxLen at hm
  generalize ofF L p.1 = k at *
  obtain ⟨p0, p1, p2, p3⟩ := p
  simp only at h1 h2 HO
  subst h1; subst h2
  unfold pval
  simp only
  have W1 : Below w.heap.size w (w.alloc (.cells #[.int .i64 p0, .int .i64 0, .int .i64 0, .bool p3] 64)) := (Below.refl _ _).alloc (Nat.le_refl _) _
  have hk0 : (0 : Int) ≤ k := by omega
  have hk1 : (k : Int) < L.length := by omega
  have hmin : min ((k : Int) + 1) (L.length : Int) = (k : Int) + 1 := by omega
  go_enter Tryd.func20, Tryd.ntmps20
  go_wp2_with fail
  refine (HO.out _ W1).mono ?_
  rintro e w1 ⟨rfl, b1⟩
  have b2 := W1.trans (b1.mono (by simp))
  have c1 : w1.cell? ⟨w.heap.size, 1, none⟩ = some (.int .i64 0) := (World.cell?_of_block (w := w.alloc (.cells #[.int .i64 p0, .int .i64 0, .int .i64 0, .bool p3] 64)) (w' := w1) (a := ⟨w.heap.size, 1, none⟩) (b1.block w.heap.size (by simp))).trans (by simp)
  have c2 : w1.cell? ⟨w.heap.size, 2, none⟩ = some (.int .i64 0) := (World.cell?_of_block (w := w.alloc (.cells #[.int .i64 p0, .int .i64 0, .int .i64 0, .bool p3] 64)) (w' := w1) (a := ⟨w.heap.size, 2, none⟩) (b1.block w.heap.size (by simp))).trans (by simp)
  have HD1 := HD.out w1 b2
  clear HD HO
  go_wp2_with fail
  refine HD1.mono ?_
  rintro e w2 ⟨rfl, hq, hgr⟩
  go_wp2
  go_ret
  exact ⟨_, rfl, hq, ⟨(grown_of_below b2 _).trans hgr, .inl rfl⟩⟩

end Go.Proofs.YthagomibjlcfmaaDoor
