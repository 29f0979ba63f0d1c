/-
  Values in memory; the walks of key.named, key.Check, girderref11.May.
-/
import Derived.Test.YtgammhmgdafpkaaDoorKeyM
import Derived.Test.YtgammhmgdafpkaaDoorWriterWalks
import Derived.Test.YtgammhmgdafpkaaDoorReaderMore
import Derived.Lib.QuietBelow
import Derived.BigQuiet
import Derived.Deep.QuietTactic
namespace Go.Proofs.YtgammhmgdafpkaaDoor
open Go.RowKit Go.Sort
set_option linter.unusedVariables false
set_option linter.unusedSimpArgs false

theorem hidk {p : Prop} (h : p) : Hid p := h
theorem kstr_ne {a b : ByteArray} (h : a ≠ b) : (a.toList == b.toList) = false := by
  rw [beq_eq_false_iff_ne, ByteArray.toList_eq, ByteArray.toList_eq]
  exact fun e => h (Go.WideShapes.bytes_inj e)
theorem kstr_eq {a b : ByteArray} (h : a = b) : (a.toList == b.toList) = true := by rw [h]; simp
theorem kret_bool {a b : Bool} (h : a = b) : Ending.returned (.bool a) = .returned (.bool b) := by rw [h]
theorem kret_int {k : IntKind} {a b : Int} (h : a = b) : Ending.returned (.int k a) = .returned (.int k b) := by rw [h]
theorem ksize0 {s : ByteArray} (h : s.size = 0) : s = ByteArray.empty := by
  apply ByteArray.ext
  apply Array.eq_empty_of_size_eq_zero
  exact h
theorem kmixed : Tryd.prog.follows .mixedOrders = true := by kernel_rfl

theorem kempty_size (s : ByteArray) : s.toList.isEmpty = decide (s.size = 0) := by
  rw [ByteArray.toList_eq]
  have h : s.data.toList.length = s.size := by simp
  cases hl : s.data.toList with
  | nil => rw [hl] at h; simp [← h]
  | cons a l => rw [hl] at h; simp [← h]

/-- A value in memory. -/
structure VlAt (w : World) (b o : Nat) (v : ValV) : Prop where
  c0 : w.cell? ⟨b, o, none⟩ = some (.int .i64 v.kind)
  c1 : w.cell? ⟨b, o + 1, none⟩ = some (.int .i64 v.n)
  c2 : w.cell? ⟨b, o + 2, none⟩ = some (.string v.S)

/-- The values L lie one behind the other from a on. -/
def ValsAt (w : World) (a : Option Addr) (L : List ValV) : Prop :=
  L = [] ∨ ∃ b o, a = some ⟨b, o, none⟩ ∧ b < w.heap.size ∧ ∀ i (hi : i < L.length), VlAt w b (o + i * 3) L[i]

theorem VlAt.same {w w' : World} {b o : Nat} {t : ValV} (h : VlAt w b o t) (e : w'.heap[b]? = w.heap[b]?) : VlAt w' b o t :=
  ⟨(World.cell?_of_block (w := w) (a := ⟨b, o, none⟩) e).trans h.c0, (World.cell?_of_block (w := w) (a := ⟨b, o + 1, none⟩) e).trans h.c1, (World.cell?_of_block (w := w) (a := ⟨b, o + 2, none⟩) e).trans h.c2⟩

theorem ValsAt.below {w w' : World} {a : Option Addr} {L : List ValV} (h : ValsAt w a L) (k : Below w.heap.size w w') : ValsAt w' a L := by
  rcases h with h | ⟨b, o, e, hb, hc⟩
  · exact .inl h
  · exact .inr ⟨b, o, e, Nat.lt_of_lt_of_le hb k.size, fun i hi => (hc i hi).same (k.block b hb)⟩

/-- A value with the fields that its Kind names. -/
def ValV.named (v : ValV) : ValV := if v.kind = 1 then ⟨1, v.n, ByteArray.empty⟩ else if v.kind = 2 then ⟨2, 0, v.S⟩ else ⟨0, 0, ByteArray.empty⟩

set_option maxHeartbeats 800000 in
theorem named_any (v : ValV) (w : World) :
    Calls Tryd.prog 43 #[.agg #[.int .i64 v.kind, .int .i64 v.n, .string v.S]] w fun e w' =>
      e = .returned (.agg #[.int .i64 v.named.kind, .int .i64 v.named.n, .string v.named.S]) ∧ Below w.heap.size w w' := by
  obtain ⟨k, n, S⟩ := v
  simp only
  by_cases h1 : k = 1
  · subst h1
    simp only [ValV.named, if_pos]
    go_enter Tryd.func43, Tryd.ntmps43
    go_wp2
    refine bodyPost_ret (v := .agg #[.int .i64 1, .int .i64 n, .string ByteArray.empty]) (by simp [results, Tryd.results43, go_sem]; rfl) rfl ⟨rfl, ?_⟩
    exact ((Below.refl _ _).alloc (Nat.le_refl _) _).alloc (by simp) _
  · by_cases h2 : k = 2
    · subst h2
      simp only [ValV.named, if_neg (show ¬ (2 : Int) = 1 by omega), if_pos]
      go_enter Tryd.func43, Tryd.ntmps43
      go_wp2
      refine bodyPost_ret (v := .agg #[.int .i64 2, .int .i64 0, .string S]) (by simp [results, Tryd.results43, go_sem]) rfl ⟨rfl, ?_⟩
      exact ((Below.refl _ _).alloc (Nat.le_refl _) _).alloc (by simp) _
    · simp only [ValV.named, if_neg h1, if_neg h2]
      have e1 : (k == 1) = false := by rw [beq_eq_false_iff_ne]; exact h1
      have e2 : (k == 2) = false := by rw [beq_eq_false_iff_ne]; exact h2
      go_enter Tryd.func43, Tryd.ntmps43
      go_wp2
      refine bodyPost_ret (v := .agg #[.int .i64 0, .int .i64 0, .string ByteArray.empty]) (by simp [results, Tryd.results43, go_sem]; rfl) rfl ⟨rfl, ?_⟩
      exact ((Below.refl _ _).alloc (Nat.le_refl _) _).alloc (by simp) _

/-- The error of Check. -/
def ValV.chk (v : ValV) : Int := if v.may then 0 else 110

theorem chk_ok {v : ValV} (h : v.may = true) : v.chk = 0 := by unfold ValV.chk; rw [if_pos h]
theorem chk_no {v : ValV} (h : v.may = false) : v.chk = 110 := by unfold ValV.chk; rw [h]; rfl

set_option maxHeartbeats 1600000 in
theorem check_any (v : ValV) (w : World) (hS : v.S.size ≤ 9223372036854775807) :
    Calls Tryd.prog 18 #[.agg #[.int .i64 v.kind, .int .i64 v.n, .string v.S]] w fun e w' =>
      e = .returned (.int .i64 v.chk) ∧ Below w.heap.size w w' := by
  obtain ⟨k, n, S⟩ := v
  simp only at hS ⊢
  obtain ⟨W, HW⟩ : ∃ W, Hid (W = w.alloc (.cells #[.int .i64 k, .int .i64 n, .string S] 35)) := ⟨_, rfl⟩
  have x0 : W.cell? ⟨w.heap.size, 0, none⟩ = some (.int .i64 k) := by rw [HW.out]; simp
  have x1 : W.cell? ⟨w.heap.size, 1, none⟩ = some (.int .i64 n) := by rw [HW.out]; simp
  have x2 : W.cell? ⟨w.heap.size, 2, none⟩ = some (.string S) := by rw [HW.out]; simp
  have bel : Below w.heap.size w W := by rw [HW.out]; exact (Below.refl _ _).alloc (Nat.le_refl _) _
  obtain ⟨E, HE⟩ : ∃ E, Hid ((ValV.mk k n S).chk = E) := ⟨_, rfl⟩
  rw [HE.out]
  obtain ⟨⟨k', n', S'⟩, HN⟩ : ∃ X, Hid ((ValV.mk k n S).named = X) := ⟨_, rfl⟩
  have cN : ∀ dd os, Calls Tryd.prog 43 #[.agg #[.int .i64 k, .int .i64 n, .string S]] (grow (redrawn W dd) os) fun e w'' => e = .returned (.agg #[.int .i64 k', .int .i64 n', .string S']) ∧ ∃ p : Regrown, w'' = grow (redrawn W p.d) p.os := fun dd os => Calls.regrown_of (by have := named_any ⟨k, n, S⟩ (grow (redrawn W dd) os); rw [HN.out] at this; exact this)
  have gx0 := cell_regrown x0
  have gx1 := cell_regrown x1
  have gx2 := cell_regrown x2
  have hS0 : S.size = 0 → S = ByteArray.empty := ksize0
  -- (which fields differ)
  have hcase : ((k == k') = true ∧ (n == n') = true ∧ (S.toList == S'.toList) = true ∧ (((S.size : Int) > 20 ∧ E = 110) ∨ (¬ (S.size : Int) > 20 ∧ E = 0)))
      ∨ (E = 110 ∧ ((k == k') = false ∨ ((k == k') = true ∧ ((n == n') = false ∨ ((n == n') = true ∧ (S.toList == S'.toList) = false))))) := by
    have hE := HE.out
    have hN := HN.out
    clear cN gx0 gx1 gx2 x0 x1 x2 HE HN HW bel W
    unfold ValV.named at hN
    unfold ValV.chk at hE
    by_cases h1 : k = 1
    · subst h1
      simp only [if_pos] at hN
      obtain ⟨rfl, rfl, rfl⟩ := ValV.mk.inj hN
      by_cases hs : S.size = 0
      · obtain rfl := hS0 hs
        left
        refine ⟨by simp, by simp, by simp, Or.inr ⟨by simp, ?_⟩⟩
        rw [← hE, if_pos ((ValV.may_iff _).2 (Or.inr (Or.inl ⟨rfl, rfl⟩)))]
      · right
        refine ⟨?_, Or.inr ⟨by simp, Or.inr ⟨by simp, kstr_ne (fun e => hs (by rw [e]; rfl))⟩⟩⟩
        rw [← hE, if_neg (fun q => by rcases (ValV.may_iff _).1 q with c | c | c <;> simp only at c <;> omega)]
    · by_cases h2 : k = 2
      · subst h2
        simp only [if_neg (show ¬ (2 : Int) = 1 by omega), if_pos] at hN
        obtain ⟨rfl, rfl, rfl⟩ := ValV.mk.inj hN
        by_cases hn : n = 0
        · subst hn
          left
          refine ⟨by simp, by simp, by simp, ?_⟩
          by_cases hs : S.size ≤ 20
          · right
            refine ⟨by omega, ?_⟩
            rw [← hE, if_pos ((ValV.may_iff _).2 (Or.inr (Or.inr ⟨rfl, rfl, hs⟩)))]
          · left
            refine ⟨by omega, ?_⟩
            rw [← hE, if_neg (fun q => by rcases (ValV.may_iff _).1 q with c | c | c <;> simp only at c <;> omega)]
        · right
          refine ⟨?_, Or.inr ⟨by simp, Or.inl (by rw [beq_eq_false_iff_ne]; exact hn)⟩⟩
          rw [← hE, if_neg (fun q => by rcases (ValV.may_iff _).1 q with c | c | c <;> simp only at c <;> omega)]
      · simp only [if_neg h1, if_neg h2] at hN
        obtain ⟨rfl, rfl, rfl⟩ := ValV.mk.inj hN
        by_cases hk : k = 0
        · subst hk
          by_cases hn : n = 0
          · subst hn
            by_cases hs : S.size = 0
            · obtain rfl := hS0 hs
              left
              refine ⟨by simp, by simp, by simp, Or.inr ⟨by simp, ?_⟩⟩
              rw [← hE, if_pos ((ValV.may_iff _).2 (Or.inl ⟨rfl, rfl, rfl⟩))]
            · right
              refine ⟨?_, Or.inr ⟨by simp, Or.inr ⟨by simp, kstr_ne (fun e => hs (by rw [e]; rfl))⟩⟩⟩
              rw [← hE, if_neg (fun q => by rcases (ValV.may_iff _).1 q with c | c | c <;> simp only at c <;> omega)]
          · right
            refine ⟨?_, Or.inr ⟨by simp, Or.inl (by rw [beq_eq_false_iff_ne]; exact hn)⟩⟩
            rw [← hE, if_neg (fun q => by rcases (ValV.may_iff _).1 q with c | c | c <;> simp only at c <;> omega)]
        · right
          refine ⟨?_, Or.inl (by rw [beq_eq_false_iff_ne]; exact hk)⟩
          rw [← hE, if_neg (fun q => by rcases (ValV.may_iff _).1 q with c | c | c <;> simp only at c <;> omega)]
  clear hS0 HN HE
  go_enter Tryd.func18, Tryd.ntmps18
  go_wp2_with fail
  rw [← HW.out]
  clear HW x0 x1 x2
  rcases hcase with ⟨d0, d1, d2, ⟨d3, rfl⟩ | ⟨d3, rfl⟩⟩ | ⟨rfl, d0 | ⟨d0, d1 | ⟨d1, d2⟩⟩⟩
  all_goals
    refine wp_region_quiet_below kmixed (by kernel_rfl) ?_
    iterate 10 (first | go_big_quiet_step ((go_at_call 43; exact cN _ _)) | quiet_step ((go_at_call 43; exact cN _ _)))
    refine wpQuiet_nil ?_
    intro _ hw'
    obtain ⟨⟨dq, osq⟩, hw''⟩ := hw'
    subst hw''
    go_wp2
    go_ret
    exact ⟨rfl, below_chain bel (below_regrown W dq osq)⟩

set_option maxHeartbeats 1600000 in
theorem rmay_any (v : ValV) (w : World) (hS : v.S.size ≤ 9223372036854775807) :
    Calls Tryd.prog 15 #[.agg #[.int .i64 v.kind, .int .i64 v.n, .string v.S]] w fun e w' =>
      e = .returned (.bool v.may) ∧ Below w.heap.size w w' := by
  obtain ⟨k, n, S⟩ := v
  simp only at hS ⊢
  obtain ⟨R, HR⟩ : ∃ R, Hid ((ValV.mk k n S).may = R) := ⟨_, rfl⟩
  rw [HR.out]
  have hs : (S.toList.isEmpty = true ∧ S.size = 0) ∨ (S.toList.isEmpty = false ∧ S.size ≠ 0) := by
    rw [kempty_size]
    by_cases h : S.size = 0
    · exact Or.inl ⟨decide_eq_true h, h⟩
    · exact Or.inr ⟨decide_eq_false h, h⟩
  have bel : Below w.heap.size w (w.alloc (.cells #[.int .i64 k, .int .i64 n, .string S] 38)) := (Below.refl _ _).alloc (Nat.le_refl _) _
  have hyes : (k = 0 ∧ n = 0 ∧ S.size = 0) ∨ (k = 1 ∧ S.size = 0) ∨ (k = 2 ∧ n = 0 ∧ S.size ≤ 20) → R = true := fun q => by rw [← HR.out]; exact (ValV.may_iff _).2 q
  have hno : ¬ ((k = 0 ∧ n = 0 ∧ S.size = 0) ∨ (k = 1 ∧ S.size = 0) ∨ (k = 2 ∧ n = 0 ∧ S.size ≤ 20)) → R = false := fun q => by rw [← HR.out]; exact Bool.eq_false_iff.2 (fun z => q ((ValV.may_iff _).1 z))
  clear HR
  by_cases h0 : k = 0
  · subst h0
    by_cases hn : n = 0
    · subst hn
      rcases hs with ⟨e, s0⟩ | ⟨e, s0⟩
      · obtain rfl := hyes (by omega)
        clear hyes hno
        go_enter Tryd.func15, Tryd.ntmps15
        go_wp2
        go_ret
        exact ⟨kret_bool (by first | rfl | assumption | exact decide_eq_true (by omega) | exact decide_eq_false (by omega)), bel⟩
      · obtain rfl := hno (by omega)
        clear hyes hno
        go_enter Tryd.func15, Tryd.ntmps15
        go_wp2
        go_ret
        exact ⟨kret_bool (by first | rfl | assumption | exact decide_eq_true (by omega) | exact decide_eq_false (by omega)), bel⟩
    · obtain rfl := hno (by omega)
      have hn' : (n == 0) = false := by rw [beq_eq_false_iff_ne]; exact hn
      clear hyes hno
      go_enter Tryd.func15, Tryd.ntmps15
      go_wp2
      go_ret
      exact ⟨kret_bool (by first | rfl | assumption | exact decide_eq_true (by omega) | exact decide_eq_false (by omega)), bel⟩
  · have e0 : (k == 0) = false := by rw [beq_eq_false_iff_ne]; exact h0
    by_cases h1 : k = 1
    · subst h1
      rcases hs with ⟨e, s0⟩ | ⟨e, s0⟩
      · obtain rfl := hyes (by omega)
        clear hyes hno
        go_enter Tryd.func15, Tryd.ntmps15
        go_wp2
        go_ret
        exact ⟨kret_bool (by first | rfl | assumption | exact decide_eq_true (by omega) | exact decide_eq_false (by omega)), bel⟩
      · obtain rfl := hno (by omega)
        clear hyes hno
        go_enter Tryd.func15, Tryd.ntmps15
        go_wp2
        go_ret
        exact ⟨kret_bool (by first | rfl | assumption | exact decide_eq_true (by omega) | exact decide_eq_false (by omega)), bel⟩
    · have e1 : (k == 1) = false := by rw [beq_eq_false_iff_ne]; exact h1
      by_cases h2 : k = 2
      · subst h2
        by_cases hn : n = 0
        · subst hn
          by_cases hl : S.size ≤ 20
          · obtain rfl := hyes (by omega)
            clear hyes hno
            go_enter Tryd.func15, Tryd.ntmps15
            go_wp2
            go_ret
            exact ⟨kret_bool (by first | rfl | assumption | exact decide_eq_true (by omega) | exact decide_eq_false (by omega)), bel⟩
          · obtain rfl := hno (by omega)
            clear hyes hno
            go_enter Tryd.func15, Tryd.ntmps15
            go_wp2
            go_ret
            exact ⟨kret_bool (by first | rfl | assumption | exact decide_eq_true (by omega) | exact decide_eq_false (by omega)), bel⟩
        · obtain rfl := hno (by omega)
          have hn' : (n == 0) = false := by rw [beq_eq_false_iff_ne]; exact hn
          clear hyes hno
          go_enter Tryd.func15, Tryd.ntmps15
          go_wp2
          go_ret
          exact ⟨kret_bool (by first | rfl | assumption | exact decide_eq_true (by omega) | exact decide_eq_false (by omega)), bel⟩
      · have e2 : (k == 2) = false := by rw [beq_eq_false_iff_ne]; exact h2
        obtain rfl := hno (by omega)
        clear hyes hno
        go_enter Tryd.func15, Tryd.ntmps15
        go_wp2
        go_ret
        exact ⟨kret_bool (by first | rfl | assumption | exact decide_eq_true (by omega) | exact decide_eq_false (by omega)), bel⟩

/-- The first error of values. -/
def chkAll (L : List ValV) : Int := if L.all ValV.may then 0 else 110

theorem chkAll_ok {L : List ValV} (h : chkAll L = 0) : ∀ v ∈ L, v.may = true := by
  unfold chkAll at h
  by_cases c : L.all ValV.may = true
  · exact fun v hv => List.all_eq_true.1 c v hv
  · rw [if_neg c] at h; omega

theorem take_all {L : List ValV} {k : Nat} (hk : k < L.length) : (L.take (k + 1)).all ValV.may = ((L.take k).all ValV.may && L[k].may) := by
  rw [List.take_succ_eq_append_getElem hk, List.all_append]; simp

set_option maxHeartbeats 1600000 in
theorem checkAll_any (a : Option Addr) (c : Nat) (L : List ValV) (w : World) (hL : ValsAt w a L) (hl : L.length ≤ 9223372036854775807) (hS : ∀ v ∈ L, v.S.size ≤ 9223372036854775807) :
    Calls Tryd.prog 19 #[.slice a L.length c] w fun e w' =>
      e = .returned (.int .i64 (chkAll L)) ∧ Below w.heap.size w w' := by
  go_enter Tryd.func19, Tryd.ntmps19
  go_wp2_with fail
  go_loopw [8] (fun i wr => ∃ k : Nat, k ≤ L.length ∧ i = .int .i64 k ∧ Hid ((L.take k).all ValV.may = true) ∧ Hid (Below w.heap.size w wr)) (fun i _ => L.length - (intOf i).toNat)
  case atStart => exact ⟨0, by omega, rfl, rfl, Below.refl _ _⟩
  case round =>
    obtain ⟨k, hk, rfl, HT, HB⟩ := hrel
    by_cases hlt : k < L.length
    · have hL' := hL.below HB.out
      rcases hL' with hL' | ⟨b, o, rfl, hb, g⟩
      · rw [hL'] at hlt; simp at hlt
      have g := g k hlt
      have hSk := hS L[k] (List.getElem_mem hlt)
      have HT1 := hidk (take_all hlt)
      have hi0 : (0 : Int) ≤ (k : Int) := by omega
      have hi1 : (k : Int) < (L.length : Int) := by omega
      have Hbad : Hid (L[k].may = false → chkAll L = 110) := fun q => by
        unfold chkAll
        rw [if_neg]
        intro z
        rw [List.all_eq_true.1 z L[k] (List.getElem_mem hlt)] at q
        cases q
      obtain ⟨v, Hv⟩ : ∃ v, Hid (L[k] = v) := ⟨L[k], rfl⟩
      rw [Hv.out] at g hSk HT1 Hbad
      obtain ⟨c0, c1, c2⟩ := g
      have hz : w.heap.size ≤ wr.heap.size := HB.out.size
      have HB1 : Hid (Below w.heap.size w (wr.alloc (.cells #[.int .i64 v.kind, .int .i64 v.n, .string v.S] 35))) := HB.out.alloc hz _
      by_cases hm : v.may = true
      · have HC : Hid (∀ w1, Calls Tryd.prog 18 #[.agg #[.int .i64 v.kind, .int .i64 v.n, .string v.S]] w1 fun e w' => e = .returned (.int .i64 0) ∧ Below w1.heap.size w1 w') := fun w1 => by have := check_any v w1 hSk; rw [chk_ok hm] at this; exact this
        go_wp2_with fail
        refine (HC.out _).mono ?_
        rintro e w2 ⟨rfl, b2⟩
        go_wp2
        go_roundw
        case rel => exact ⟨k + 1, by omega, by go_num, by show _ = true; rw [HT1.out, HT.out, hm]; rfl, below_chain HB1.out b2⟩
        case measure => simp [intOf]; omega
      · have hm' : v.may = false := by simpa using hm
        have HC : Hid (∀ w1, Calls Tryd.prog 18 #[.agg #[.int .i64 v.kind, .int .i64 v.n, .string v.S]] w1 fun e w' => e = .returned (.int .i64 110) ∧ Below w1.heap.size w1 w') := fun w1 => by have := check_any v w1 hSk; rw [chk_no hm'] at this; exact this
        go_wp2_with fail
        refine (HC.out _).mono ?_
        rintro e w2 ⟨rfl, b2⟩
        go_wp2
        go_ret
        exact ⟨kret_int (Hbad.out hm').symm, below_chain HB1.out b2⟩
    · have hkl : k = L.length := by omega
      have hE : chkAll L = 0 := by have := HT.out; rw [hkl, List.take_length] at this; unfold chkAll; rw [if_pos this]
      have HE := hidk hE
      clear hE hkl
      go_wp2
      go_ret
      exact ⟨kret_int HE.out.symm, HB.out⟩

end Go.Proofs.YtgammhmgdafpkaaDoor
