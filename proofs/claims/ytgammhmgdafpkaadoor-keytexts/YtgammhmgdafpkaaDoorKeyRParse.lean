/-
  The walk of girderref11.Parse.
-/
import Derived.Test.YtgammhmgdafpkaaDoorKeyDig
namespace Go.Proofs.YtgammhmgdafpkaaDoor
open Go.RowKit Go.Sort
set_option linter.unusedVariables false
set_option linter.unusedSimpArgs false

/-- What of a text is still to be read at i, and the number read so far. -/
def readsOn (s : List UInt8) (i : Nat) (n : Int) : Prop :=
  (i = 0 ∧ n = 0) ∨ (1 ≤ i ∧ refN (negS s) (bigS s) n (s.drop i) = refN (negS s) (bigS s) 0 (bodyS s))

theorem readsOn_minus {s : List UInt8} {c : UInt8} {r : List UInt8} (e : s = c :: r) (hc : c = 45) : readsOn s 1 0 := by
  subst e hc
  refine Or.inr ⟨Nat.le_refl _, ?_⟩
  have hn : negS (45 :: r) = true := by unfold negS; exact decide_eq_true rfl
  rw [bodyS, hn, if_pos rfl]
  rfl

theorem readsOn_at {s : List UInt8} {k : Nat} {n : Int} (h : readsOn s k n) (hm : ¬ (k = 0 ∧ s.head? = some 45)) : refN (negS s) (bigS s) n (s.drop k) = refN (negS s) (bigS s) 0 (bodyS s) := by
  rcases h with ⟨rfl, rfl⟩ | ⟨_, h⟩
  · have hn : negS s = false := by unfold negS; exact decide_eq_false (fun q => hm ⟨rfl, q⟩)
    rw [bodyS, hn, if_neg (by decide)]
    rfl
  · exact h

theorem readsOn_step {s : List UInt8} {k : Nat} {n : Int} {c : UInt8} (h : readsOn s k n) (hm : ¬ (k = 0 ∧ s.head? = some 45)) (hd : s.drop k = c :: s.drop (k + 1)) (h0 : ¬ c.toNat < 48) (h1 : ¬ 57 < c.toNat) (h2 : ¬ 20 < s.length) : readsOn s (k + 1) (nextD (negS s) n c) := by
  refine Or.inr ⟨by omega, ?_⟩
  have := readsOn_at h hm
  have hb : bigS s = false := by unfold bigS; exact decide_eq_false h2
  rw [hd, refN, if_neg (fun q => by
    rcases q with q | q | q
    · rw [hb] at q; cases q
    · exact h0 q
    · exact h1 q)] at this
  exact this

theorem readsOn_bad {s : List UInt8} {k : Nat} {n : Int} {c : UInt8} (h : readsOn s k n) (hm : ¬ (k = 0 ∧ s.head? = some 45)) (hd : s.drop k = c :: s.drop (k + 1)) (hb : c.toNat < 48 ∨ 57 < c.toNat ∨ 20 < s.length) : refN (negS s) (bigS s) 0 (bodyS s) = none := by
  have := readsOn_at h hm
  rw [hd, refN, if_pos (by
    rcases hb with q | q | q
    · exact Or.inr (Or.inl q)
    · exact Or.inr (Or.inr q)
    · exact Or.inl (decide_eq_true q))] at this
  exact this.symm

theorem readsOn_end {s : List UInt8} {n : Int} (h : readsOn s s.length n) : refN (negS s) (bigS s) 0 (bodyS s) = some n := by
  have := readsOn_at h (fun q => by
    have : s = [] := List.eq_nil_of_length_eq_zero q.1
    rw [this] at q
    cases q.2)
  rw [List.drop_length] at this
  exact this.symm

theorem nextD_minus (n : Int) (c : UInt8) : nextD true n c = wrap64 (wrap64 (n * 10) + -((c.toNat : Int) - 48)) := by
  unfold nextD; rw [IntWalk.i64_left, IntWalk.i64_left]; rfl
theorem nextD_plus (n : Int) (c : UInt8) : nextD false n c = wrap64 (wrap64 (n * 10) + ((c.toNat : Int) - 48)) := by
  unfold nextD; rw [IntWalk.i64_left, IntWalk.i64_left]; rfl

theorem rparse_ret (v : ValV × Int) {a b c d : Value} (h : #[a, b, c] = #[.int .i64 v.1.kind, .int .i64 v.1.n, .string v.1.S]) (h2 : d = .int .i64 v.2) :
    Ending.returned (.tuple #[.agg #[a, b, c], d]) = .returned (.tuple #[.agg #[.int .i64 v.1.kind, .int .i64 v.1.n, .string v.1.S], .int .i64 v.2]) := by rw [h, h2]

set_option maxRecDepth 20000 in
set_option maxHeartbeats 3200000 in
theorem rparse_any (s : ByteArray) (w : World) (hS : s.size ≤ 281474976710655) :
    Calls Tryd.prog 13 #[.string s] w fun e w' =>
      e = .returned (.tuple #[.agg #[.int .i64 (parseV s).1.kind, .int .i64 (parseV s).1.n, .string (parseV s).1.S], .int .i64 (parseV s).2]) ∧ Below w.heap.size w w' := by
  have HD : Hid (∀ n w1, In64 n → Calls Tryd.prog 41 #[.int .i64 n] w1 fun e w' => e = .returned (.string ⟨(Lib.itoa n).toArray⟩) ∧ Below w1.heap.size w1 w') := fun n w1 h => digits_any n h w1
  have bel : Below w.heap.size w (w.alloc (.cells #[.int .i64 0, .int .i64 0, .string ⟨#[]⟩] 38)) := (Below.refl _ _).alloc (Nat.le_refl _) _
  by_cases h45 : s.data.toList = [45]
  · have hs : s = ⟨#[45]⟩ := by apply ByteArray.ext; apply Array.toList_inj.1; rw [h45]
    have HP : Hid (parseV s = (val0, 0)) := by show _ = _; rw [parseV, if_pos h45]
    clear h45
    have hq : (s.toList == (⟨#[45]⟩ : ByteArray).toList) = true := kstr_eq hs
    go_enter Tryd.func13, Tryd.ntmps13
    go_wp2
    refine bodyPost_ret (v := .tuple #[.agg #[.int .i64 0, .int .i64 0, .string ByteArray.empty], .int .i64 0]) (by simp [results, Tryd.results13, go_sem]; rfl) rfl ⟨?_, ?_⟩
    · rw [HP.out]; rfl
    · exact (Below.refl _ _).alloc (Nat.le_refl _) _
  have hne : (s.toList == [45]) = false := by
    have := kstr_ne (a := s) (b := ⟨#[45]⟩) (fun e => h45 (by rw [e]))
    rw [show (⟨#[45]⟩ : ByteArray).toList = [45] by rw [ByteArray.toList_eq]] at this
    exact this
  by_cases h39 : s.data.toList.head? = some 39
  · have hpos : 0 < s.size := by
      rcases Nat.eq_zero_or_pos s.size with h | h
      · rw [ksize0 h] at h39; cases h39
      · exact h
    have hsl : s.data.toList.length = s.size := by simp
    have hc : s[0] = 39 := by
      rw [List.head?_eq_getElem?, List.getElem?_eq_getElem (by omega)] at h39
      exact Option.some.inj h39
    have hc' : ((s[0].toNat : Int) == 39) = true := by rw [hc]; rfl
    have hi : (0 : Int) < (s.size : Int) := by omega
    have HT : Hid ((⟨s.data.toList.tail.toArray⟩ : ByteArray) = s.extract 1 s.size) := by
      show _ = _
      apply ByteArray.ext
      apply Array.toList_inj.1
      simp
      rw [List.take_of_length_le (by simp)]
    by_cases h21 : s.size ≤ 21
    · have HP : Hid (parseV s = (⟨2, 0, s.extract 1 s.size⟩, 0)) := by show _ = _; rw [parseV, if_neg h45, if_pos h39, if_pos h21, HT.out]
      have h21' : ¬ (21 : Int) < (s.size : Int) := by omega
      clear h45 h39 hc HT hsl
      go_enter Tryd.func13, Tryd.ntmps13
      go_wp2
      refine bodyPost_ret (v := .tuple #[.agg #[.int .i64 2, .int .i64 0, .string (s.extract 1 s.size)], .int .i64 0]) (by simp [results, Tryd.results13, go_sem]) rfl ⟨?_, ?_⟩
      · rw [HP.out]
      · exact (Below.refl _ _).alloc (Nat.le_refl _) _
    · have HP : Hid (parseV s = (val0, 110)) := by show _ = _; rw [parseV, if_neg h45, if_pos h39, if_neg h21]
      have h21' : (21 : Int) < (s.size : Int) := by omega
      clear h45 h39 hc HT hsl
      go_enter Tryd.func13, Tryd.ntmps13
      go_wp2
      refine bodyPost_ret (v := .tuple #[.agg #[.int .i64 0, .int .i64 0, .string ByteArray.empty], .int .i64 110]) (by simp [results, Tryd.results13, go_sem]; rfl) rfl ⟨?_, ?_⟩
      · rw [HP.out]; rfl
      · exact (Below.refl _ _).alloc (Nat.le_refl _) _
  · have HP : Hid (parseV s = pRef s.data.toList (refN (negS s.data.toList) (bigS s.data.toList) 0 (bodyS s.data.toList))) := by show _ = _; rw [parseV, if_neg h45, if_neg h39, pNum_ref]
    have hsl : s.data.toList.length = s.size := by simp
    have HH : Hid (∀ h : 0 < s.size, s[0] ≠ 39) := fun h e => h39 (by
      rw [List.head?_eq_getElem?, List.getElem?_eq_getElem (by omega)]
      exact congrArg some e)
    have HNg : Hid (∀ h : 0 < s.size, negS s.data.toList = decide (s[0] = 45)) := fun h => by
      unfold negS
      rw [List.head?_eq_getElem?, List.getElem?_eq_getElem (by omega)]
      simp only [Option.some.injEq]
      rfl
    have Hgk : Hid (∀ k (h : k < s.size), s.data.toList.drop k = s[k] :: s.data.toList.drop (k + 1)) := fun k h => List.drop_eq_getElem_cons (by omega)
    clear h45 h39
    obtain ⟨W1, HW1⟩ : ∃ W1, Hid (W1 = w.alloc (.cells #[.int .i64 0, .int .i64 0, .string ⟨#[]⟩] 38)) := ⟨_, rfl⟩
    rw [← HW1.out] at bel
    go_enter Tryd.func13, Tryd.ntmps13
    by_cases h0 : s.size = 0
    · have hi : ¬ (0 : Int) < (s.size : Int) := by omega
      have HE : Hid (parseV s = (val0, 110)) := by
        show _ = _
        have hs := ksize0 h0
        subst hs
        rw [HP.out]
        show pRef [] (some 0) = _
        rw [pRef, if_neg (show ¬ Lib.itoa 0 = [] from decDigits_ne 0)]
      obtain ⟨T, HT⟩ : ∃ T : ByteArray, Hid ((⟨(Lib.itoa 0).toArray⟩ : ByteArray) = T) := ⟨_, rfl⟩
      have HDn : Hid (∀ w1, Calls Tryd.prog 41 #[.int .i64 0] w1 fun e w' => e = .returned (.string T) ∧ Below w1.heap.size w1 w') := fun w1 => by rw [← HT.out]; exact HD.out 0 w1 ⟨by omega, by omega⟩
      have hq' : (T.toList == s.toList) = false := kstr_ne (fun e => by
        rw [← HT.out] at e
        have := congrArg ByteArray.size e
        rw [h0, bytes_size] at this
        exact decDigits_ne 0 (List.eq_nil_of_length_eq_zero this))
      clear HP h0
      go_wp2_with fail
      rw [← HW1.out]
      have hlt1 : w.heap.size < W1.heap.size := by rw [HW1.out]; simp
      have HX0 : Hid (W1.heap[w.heap.size]? = some (.cells #[.int .i64 0, .int .i64 0, .string ⟨#[]⟩] 38 (0, 0))) := by show _ = _; rw [HW1.out]; exact heap_alloc_new _ _
      clear HW1
      go_loopw [4, 5] (fun x4 x5 wr => x4 = .int .i64 0 ∧ x5 = .int .i64 0 ∧ wr = W1) (fun _ x5 _ => 0)
      case atStart => exact ⟨rfl, rfl, rfl⟩
      case round =>
        obtain ⟨rfl, rfl, rfl⟩ := hrel
        go_wp2_with fail
        refine (HDn.out _).mono ?_
        rintro e w2 ⟨rfl, b2⟩
        have HX2 := hidk ((b2.block _ hlt1).trans HX0.out)
        have z0 : w2.cell? ⟨w.heap.size, 0, none⟩ = some (.int .i64 0) := by unfold World.cell?; simp [HX2.out]
        have z1 : w2.cell? ⟨w.heap.size, 1, none⟩ = some (.int .i64 0) := by unfold World.cell?; simp [HX2.out]
        have z2 : w2.cell? ⟨w.heap.size, 2, none⟩ = some (.string ⟨#[]⟩) := by unfold World.cell?; simp [HX2.out]
        have g0 : w2.frozen? ⟨w.heap.size, 0, none⟩ = false := by unfold World.frozen?; simp [HX2.out]
        have g1 : w2.frozen? ⟨w.heap.size, 1, none⟩ = false := by unfold World.frozen?; simp [HX2.out]
        have g2 : w2.frozen? ⟨w.heap.size, 2, none⟩ = false := by unfold World.frozen?; simp [HX2.out]
        have HB2 := hidk (below_chain bel b2)
        go_wp2
        refine bodyPost_ret (v := .tuple #[.agg #[.int .i64 0, .int .i64 0, .string ⟨#[]⟩], .int .i64 110]) (by simp [results, Tryd.results13, go_sem, z0, z1, z2]) rfl ⟨?_, ?_⟩
        · rw [HE.out]; rfl
        · exact ((HB2.out.setCell (by exact Nat.le_refl _) _).setCell (by exact Nat.le_refl _) _).setCell (by exact Nat.le_refl _) _
    · have hpos : 0 < s.size := by omega
      have hi : (0 : Int) < (s.size : Int) := by omega
      have h39 := HH.out hpos
      have hc' : ((s[0].toNat : Int) == 39) = false := by
        rw [beq_eq_false_iff_ne]; intro q; apply h39; apply UInt8.toNat_inj.1; have : s[0].toNat = 39 := by omega
        rw [this]; rfl
      clear h39
      go_wp2_with fail
      rw [← HW1.out]
      go_loopw [4, 5] (fun x4 x5 wr => ∃ (k : Nat) (n : Int), k ≤ s.size ∧ x4 = .int .i64 n ∧ x5 = .int .i64 k ∧ Hid (In64 n) ∧ Hid (readsOn s.data.toList k n) ∧ wr = W1) (fun _ x5 _ => s.size - (intOf x5).toNat)
      case atStart => exact ⟨0, 0, by omega, rfl, rfl, ⟨by omega, by omega⟩, Or.inl ⟨rfl, rfl⟩, rfl⟩
      case round =>
        obtain ⟨k, n, hk, rfl, rfl, Hn, HR, rfl⟩ := hrel
        by_cases hlt : k < s.size
        · have hi0 : (0 : Int) ≤ (k : Int) := by omega
          have hi1 : (k : Int) < (s.size : Int) := by omega
          have Hd := hidk (Hgk.out k hlt)
          by_cases hm : k = 0 ∧ s.data.toList.head? = some 45
          · have hk0 : ((k : Int) == 0) = true := by rw [hm.1]; rfl
            have hsk : s[k] = 45 := by
              have := hm.2
              obtain rfl := hm.1
              rw [List.head?_eq_getElem?, List.getElem?_eq_getElem (by omega)] at this
              exact Option.some.inj this
            have hsk' : ((s[k].toNat : Int) == 45) = true := by rw [hsk]; rfl
            have HN : Hid (readsOn s.data.toList (k + 1) n) := by
              show readsOn _ _ _
              have hn0 : n = 0 := by
                rcases HR.out with ⟨_, h⟩ | ⟨h, _⟩
                · exact h
                · omega
              have h1 := Hd.out
              obtain rfl := hm.1
              subst hn0
              exact readsOn_minus h1 hsk
            clear hsk hm
            go_wp2_with fail
            go_roundw
            case rel => exact ⟨k + 1, n, by omega, by trivial, by go_num, Hn, HN, by trivial⟩
            case measure => simp [intOf]; omega
          · have hg : ((k : Int) == 0) = false ∨ (((k : Int) == 0) = true ∧ ((s[k].toNat : Int) == 45) = false) := by
              by_cases hk0 : k = 0
              · right
                refine ⟨by rw [hk0]; rfl, ?_⟩
                rw [beq_eq_false_iff_ne]
                intro q
                apply hm
                refine ⟨hk0, ?_⟩
                subst hk0
                rw [List.head?_eq_getElem?, List.getElem?_eq_getElem (by omega)]
                apply congrArg some
                apply UInt8.toNat_inj.1
                have : s[0].toNat = 45 := by omega
                exact this
              · left
                rw [beq_eq_false_iff_ne]; omega
            have Hbad : Hid (s[k].toNat < 48 ∨ 57 < s[k].toNat ∨ 20 < s.data.toList.length → parseV s = (val0, 110)) := fun q => by
              rw [HP.out, readsOn_bad HR.out hm Hd.out q]; rfl
            have Hst : Hid (¬ s[k].toNat < 48 → ¬ 57 < s[k].toNat → ¬ 20 < s.data.toList.length → readsOn s.data.toList (k + 1) (nextD (negS s.data.toList) n s[k])) := fun q0 q1 q2 => readsOn_step HR.out hm Hd.out q0 q1 q2
            have Hin : Hid (In64 (nextD (negS s.data.toList) n s[k])) := wrap64_in _
            clear hm
            by_cases c0 : s[k].toNat < 48
            · have c0' : (s[k].toNat : Int) < 48 := by omega
              have HBd := hidk (Hbad.out (Or.inl c0))
              rcases hg with hg | ⟨hg, hg2⟩
              all_goals
                rw [HW1.out]
                go_wp2
                refine bodyPost_ret (v := .tuple #[.agg #[.int .i64 0, .int .i64 0, .string ByteArray.empty], .int .i64 110]) (by simp [results, Tryd.results13, go_sem]; rfl) rfl ⟨?_, ?_⟩
                · rw [HBd.out]; rfl
                · exact (Below.refl _ _).alloc (Nat.le_refl _) _
            · have c0' : ¬ (s[k].toNat : Int) < 48 := by omega
              by_cases c1 : 57 < s[k].toNat
              · have c1' : (57 : Int) < (s[k].toNat : Int) := by omega
                have HBd := hidk (Hbad.out (Or.inr (Or.inl c1)))
                rcases hg with hg | ⟨hg, hg2⟩
                all_goals
                  rw [HW1.out]
                  go_wp2
                  refine bodyPost_ret (v := .tuple #[.agg #[.int .i64 0, .int .i64 0, .string ByteArray.empty], .int .i64 110]) (by simp [results, Tryd.results13, go_sem]; rfl) rfl ⟨?_, ?_⟩
                  · rw [HBd.out]; rfl
                  · exact (Below.refl _ _).alloc (Nat.le_refl _) _
              · have c1' : ¬ (57 : Int) < (s[k].toNat : Int) := by omega
                by_cases c2 : 20 < s.size
                · have c2' : (20 : Int) < (s.size : Int) := by omega
                  have HBd := hidk (Hbad.out (Or.inr (Or.inr (by omega))))
                  rcases hg with hg | ⟨hg, hg2⟩
                  all_goals
                    rw [HW1.out]
                    go_wp2
                    refine bodyPost_ret (v := .tuple #[.agg #[.int .i64 0, .int .i64 0, .string ByteArray.empty], .int .i64 110]) (by simp [results, Tryd.results13, go_sem]; rfl) rfl ⟨?_, ?_⟩
                    · rw [HBd.out]; rfl
                    · exact (Below.refl _ _).alloc (Nat.le_refl _) _
                · have c2' : ¬ (20 : Int) < (s.size : Int) := by omega
                  have Hst := hidk (Hst.out c0 c1 (by omega))
                  clear Hbad
                  have hng := HNg.out hpos
                  by_cases h45 : s[0] = 45
                  · have h45' : ((s[0].toNat : Int) == 45) = true := by rw [h45]; rfl
                    rw [decide_eq_true h45] at hng
                    rw [hng] at Hst Hin
                    clear h45
                    rcases hg with hg | ⟨hg, hg2⟩
                    all_goals
                      go_wp2_with fail
                      go_roundw
                      case rel => exact ⟨k + 1, _, by omega, by rw [nextD_minus], by go_num, Hin, Hst, by trivial⟩
                      case measure => simp [intOf]; omega
                  · have h45' : ((s[0].toNat : Int) == 45) = false := by
                      rw [beq_eq_false_iff_ne]; intro q; apply h45; apply UInt8.toNat_inj.1; have : s[0].toNat = 45 := by omega
                      exact this
                    rw [decide_eq_false h45] at hng
                    rw [hng] at Hst Hin
                    clear h45
                    rcases hg with hg | ⟨hg, hg2⟩
                    all_goals
                      go_wp2_with fail
                      go_roundw
                      case rel => exact ⟨k + 1, _, by omega, by rw [nextD_plus], by go_num, Hin, Hst, by trivial⟩
                      case measure => simp [intOf]; omega
        · have hi1 : ¬ (k : Int) < (s.size : Int) := by omega
          have HE : Hid (parseV s = if Lib.itoa n = s.data.toList then (⟨1, n, ByteArray.empty⟩, 0) else (val0, 110)) := by
            show _ = _
            obtain rfl : k = s.data.toList.length := by omega
            rw [HP.out, readsOn_end HR.out]; rfl
          have hlt1 : w.heap.size < wr.heap.size := by rw [HW1.out]; simp
          have HX0 : Hid (wr.heap[w.heap.size]? = some (.cells #[.int .i64 0, .int .i64 0, .string ⟨#[]⟩] 38 (0, 0))) := by show _ = _; rw [HW1.out]; exact heap_alloc_new _ _
          obtain ⟨T, HT⟩ : ∃ T : ByteArray, Hid ((⟨(Lib.itoa n).toArray⟩ : ByteArray) = T) := ⟨_, rfl⟩
          have HDn : Hid (∀ w1, Calls Tryd.prog 41 #[.int .i64 n] w1 fun e w' => e = .returned (.string T) ∧ Below w1.heap.size w1 w') := fun w1 => by rw [← HT.out]; exact HD.out n w1 Hn.out
          clear HP HR HW1
          by_cases hq : Lib.itoa n = s.data.toList
          · rw [if_pos hq] at HE
            have hq' : (T.toList == s.toList) = true := kstr_eq (by rw [← HT.out, hq])
            clear hq
            go_wp2_with fail
            refine (HDn.out _).mono ?_
            rintro e w2 ⟨rfl, b2⟩
            have HX2 := hidk ((b2.block _ hlt1).trans HX0.out)
            have z0 : w2.cell? ⟨w.heap.size, 0, none⟩ = some (.int .i64 0) := by unfold World.cell?; simp [HX2.out]
            have z1 : w2.cell? ⟨w.heap.size, 1, none⟩ = some (.int .i64 0) := by unfold World.cell?; simp [HX2.out]
            have z2 : w2.cell? ⟨w.heap.size, 2, none⟩ = some (.string ⟨#[]⟩) := by unfold World.cell?; simp [HX2.out]
            have g0 : w2.frozen? ⟨w.heap.size, 0, none⟩ = false := by unfold World.frozen?; simp [HX2.out]
            have g1 : w2.frozen? ⟨w.heap.size, 1, none⟩ = false := by unfold World.frozen?; simp [HX2.out]
            have g2 : w2.frozen? ⟨w.heap.size, 2, none⟩ = false := by unfold World.frozen?; simp [HX2.out]
            have HB2 := hidk (below_chain bel b2)
            go_wp2
            refine bodyPost_ret (v := .tuple #[.agg #[.int .i64 1, .int .i64 n, .string ⟨#[]⟩], .int .i64 0]) (by simp [results, Tryd.results13, go_sem, z0, z1, z2]) rfl ⟨?_, ?_⟩
            · rw [HE.out]; rfl
            · exact ((HB2.out.setCell (by exact Nat.le_refl _) _).setCell (by exact Nat.le_refl _) _).setCell (by exact Nat.le_refl _) _
          · rw [if_neg hq] at HE
            have hq' : (T.toList == s.toList) = false := kstr_ne (fun e => hq (by rw [← e, ← HT.out]))
            clear hq
            go_wp2_with fail
            refine (HDn.out _).mono ?_
            rintro e w2 ⟨rfl, b2⟩
            have HX2 := hidk ((b2.block _ hlt1).trans HX0.out)
            have z0 : w2.cell? ⟨w.heap.size, 0, none⟩ = some (.int .i64 0) := by unfold World.cell?; simp [HX2.out]
            have z1 : w2.cell? ⟨w.heap.size, 1, none⟩ = some (.int .i64 0) := by unfold World.cell?; simp [HX2.out]
            have z2 : w2.cell? ⟨w.heap.size, 2, none⟩ = some (.string ⟨#[]⟩) := by unfold World.cell?; simp [HX2.out]
            have g0 : w2.frozen? ⟨w.heap.size, 0, none⟩ = false := by unfold World.frozen?; simp [HX2.out]
            have g1 : w2.frozen? ⟨w.heap.size, 1, none⟩ = false := by unfold World.frozen?; simp [HX2.out]
            have g2 : w2.frozen? ⟨w.heap.size, 2, none⟩ = false := by unfold World.frozen?; simp [HX2.out]
            have HB2 := hidk (below_chain bel b2)
            go_wp2
            refine bodyPost_ret (v := .tuple #[.agg #[.int .i64 0, .int .i64 0, .string ⟨#[]⟩], .int .i64 110]) (by simp [results, Tryd.results13, go_sem, z0, z1, z2]) rfl ⟨?_, ?_⟩
            · rw [HE.out]; rfl
            · exact ((HB2.out.setCell (by exact Nat.le_refl _) _).setCell (by exact Nat.le_refl _) _).setCell (by exact Nat.le_refl _) _

end Go.Proofs.YtgammhmgdafpkaaDoor
