/-
  The walks of key.Text, key.read and key.Parse.
-/
import Derived.Test.YtgammhmgdafpkaaDoorKeyRParse
import Derived.Test.YtgammhmgdafpkaaDoorClone
import Derived.Test.YtgammhmgdafpkaaDoorShCut
import Derived.Test.YtgammhmgdafpkaaDoorShFormat
import Derived.Test.YtgammhmgdafpkaaDoorShParse
import Derived.Lib.SmallJoins
import Derived.Lib.AppendIntMem
namespace Go.Proofs.YtgammhmgdafpkaaDoor
open Go.RowKit Go.Sort
set_option linter.unusedVariables false
set_option linter.unusedSimpArgs false

/-- What a world must hold for numbers to be told and read: the table of the powers of ten, and the two errors of strconv. -/
structure NumW (w : World) : Prop where
  tab : Lib.TabIs Tryd.prog w "internal/strconv.uint64pow10" .u64 Lib.pow10Tab
  range : ∃ tp p, w.var? Tryd.prog "strconv.ErrRange" = some #[.iface tp p]
  synt : ∃ tp p, w.var? Tryd.prog "strconv.ErrSyntax" = some #[.iface tp p]

theorem NumW.below {w w' : World} (h : NumW w) (b : Below w.heap.size w w') : NumW w' := by
  obtain ⟨t, ⟨a, c, r⟩, ⟨d, e, s⟩⟩ := h
  exact ⟨Joins.tab_stays parseLays.m17 t b (Nat.le_refl _),
    ⟨a, c, Joins.var_stays parseLays.m16 r b (Nat.le_refl _)⟩,
    ⟨d, e, Joins.var_stays parseLays.m15 s b (Nat.le_refl _)⟩⟩

theorem format_any (n : Int) (h : In64 n) (w : World) (hw : NumW w) :
    Calls Tryd.prog 42 #[.int .i64 n, .int .i64 10] w fun e w' => e = .returned (.string ⟨(Lib.itoa n).toArray⟩) ∧ Below w.heap.size w w' := by
  refine (Any.strconv_FormatInt_10 formatLays n h.1 h.2 w hw.tab).mono ?_
  rintro e w' ⟨rfl, k, os, rfl⟩
  exact ⟨rfl, Lib.below_grow _ w (Nat.le_refl _) k os⟩

theorem parseInt_any (s : ByteArray) (hs : s.size ≤ 281474976710655) (w : World) (hw : NumW w) :
    Calls Tryd.prog 58 #[.string s, .int .i64 10, .int .i64 64] w fun e w' => (∃ x, e = .returned (.tuple #[.int .i64 (numP s.data.toList), x])) ∧ Below w.heap.size w w' := by
  obtain ⟨t, ⟨a, c, r⟩, ⟨d, f, y⟩⟩ := hw
  cases h : Lib.parseIntB 64 s.data.toList with
  | ok v =>
    have hn : numP s.data.toList = v := by unfold numP; rw [h]
    rw [hn]
    refine (Any.strconv_ParseInt_10_at64_ok parseLays s (by omega) v h w).mono ?_
    rintro e w' ⟨rfl, rfl | ⟨t, rfl⟩⟩
    · exact ⟨⟨_, rfl⟩, Below.refl _ _⟩
    · exact ⟨⟨_, rfl⟩, Lib.bytesWorld_below _ _ _⟩
  | «syntax» =>
    have hn : numP s.data.toList = 0 := by unfold numP; rw [h]
    rw [hn]
    refine (Any.strconv_ParseInt_10_at64_syntax_var parseLays s (by omega) h d f w y).mono ?_
    rintro e w' ⟨N, rfl, _, _, b⟩
    exact ⟨⟨_, rfl⟩, b⟩
  | range =>
    have hn : numP s.data.toList = Lib.intSat 64 s.data.toList := by unfold numP; rw [h]
    rw [hn]
    refine (Any.strconv_ParseInt_10_at64_range_var parseLays s (by omega) h a c w r).mono ?_
    rintro e w' ⟨N, rfl, _, _, b⟩
    exact ⟨⟨_, rfl⟩, b⟩

set_option maxHeartbeats 1600000 in
theorem text_any (v : ValV) (w : World) (hn : In64 v.n) (hS : v.S.size ≤ 281474976710655) (hw : NumW w) :
    Calls Tryd.prog 14 #[.agg #[.int .i64 v.kind, .int .i64 v.n, .string v.S]] w fun e w' => e = .returned (.string (textV v)) ∧ Below w.heap.size w w' := by
  obtain ⟨k, n, S⟩ := v
  simp only at hn hS ⊢
  have bel : Below w.heap.size w (w.alloc (.cells #[.int .i64 k, .int .i64 n, .string S] 35)) := (Below.refl _ _).alloc (Nat.le_refl _) _
  have HD : Hid (Calls Tryd.prog 42 #[.int .i64 n, .int .i64 10] (w.alloc (.cells #[.int .i64 k, .int .i64 n, .string S] 35)) fun e w' => e = .returned (.string ⟨(Lib.itoa n).toArray⟩) ∧ Below (w.alloc (.cells #[.int .i64 k, .int .i64 n, .string S] 35)).heap.size (w.alloc (.cells #[.int .i64 k, .int .i64 n, .string S] 35)) w') := format_any n hn _ (hw.below bel)
  by_cases h1 : k = 1
  · subst h1
    rw [textV, if_pos (by rfl)]
    go_enter Tryd.func14, Tryd.ntmps14
    go_wp2_with fail
    refine (HD.out).mono ?_
    rintro e w2 ⟨rfl, b2⟩
    go_wp2
    go_ret
    exact ⟨rfl, below_chain bel b2⟩
  · have e1 : (k == 1) = false := by rw [beq_eq_false_iff_ne]; exact h1
    by_cases h2 : k = 2
    · subst h2
      rw [textV, if_neg (by simp), if_pos (by rfl)]
      have s2 : (⟨#[39]⟩ : ByteArray).size ≤ 1 := by decide
      go_enter Tryd.func14, Tryd.ntmps14
      go_wp2
      go_ret
      exact ⟨rfl, bel⟩
    · have e2 : (k == 2) = false := by rw [beq_eq_false_iff_ne]; exact h2
      rw [textV, if_neg h1, if_neg h2]
      go_enter Tryd.func14, Tryd.ntmps14
      go_wp2
      go_ret
      exact ⟨rfl, bel⟩

/-- The one value whose text s may be. -/
def toldV (s : ByteArray) : ValV :=
  if s.data.toList = [45] then val0
  else if s.data.toList.head? = some 39 then ⟨2, 0, ⟨s.data.toList.tail.toArray⟩⟩
  else ⟨1, numP s.data.toList, ⟨#[]⟩⟩

theorem told_in (s : ByteArray) : In64 (toldV s).n := by
  unfold toldV
  split
  · exact ⟨by decide, by decide⟩
  · split
    · exact ⟨by simp, by simp⟩
    · exact numP_in _

theorem told_size (s : ByteArray) : (toldV s).S.size ≤ s.size := by
  unfold toldV
  split
  · exact Nat.zero_le _
  · split
    · simp only [bytes_size, List.length_tail]
      have : s.data.toList.length = s.size := by simp
      omega
    · exact Nat.zero_le _

theorem told_parse (s : ByteArray) : parseV s = if (toldV s).chk = 0 ∧ textV (toldV s) = s then (toldV s, 0) else (val0, 110) := by
  have hsl : s.data.toList.length = s.size := by simp
  unfold parseV toldV
  by_cases h45 : s.data.toList = [45]
  · have hs : s = ⟨#[45]⟩ := by apply ByteArray.ext; apply Array.toList_inj.1; rw [h45]
    rw [if_pos h45, if_pos h45, if_pos ⟨by rfl, by rw [hs]; rfl⟩]
  · rw [if_neg h45, if_neg h45]
    by_cases h39 : s.data.toList.head? = some 39
    · rw [if_pos h39, if_pos h39]
      have hts : (⟨s.data.toList.tail.toArray⟩ : ByteArray).size = s.size - 1 := by rw [bytes_size, List.length_tail, hsl]
      have htx : textV ⟨2, 0, ⟨s.data.toList.tail.toArray⟩⟩ = s := by
        rw [textV, if_neg (by simp), if_pos (by rfl)]
        apply ByteArray.ext
        apply Array.toList_inj.1
        cases hl : s.data.toList with
        | nil => rw [hl] at h39; cases h39
        | cons c r =>
          rw [hl, List.head?_cons] at h39
          obtain rfl := Option.some.inj h39
          simp
      by_cases h21 : s.size ≤ 21
      · rw [if_pos h21, if_pos ⟨chk_ok ((ValV.may_iff _).2 (Or.inr (Or.inr ⟨rfl, rfl, by show (⟨s.data.toList.tail.toArray⟩ : ByteArray).size ≤ 20; omega⟩))), htx⟩]
      · rw [if_neg h21, if_neg (fun q => by
          have := q.1
          rw [chk_no (by
            rw [Bool.eq_false_iff]
            intro z
            rcases (ValV.may_iff _).1 z with c | c | c <;> simp only at c <;> omega)] at this
          exact absurd this (by decide))]
    · rw [if_neg h39, if_neg h39]
      unfold pNum
      have hc : (ValV.mk 1 (numP s.data.toList) ⟨#[]⟩).chk = 0 := chk_ok ((ValV.may_iff _).2 (Or.inr (Or.inl ⟨rfl, rfl⟩)))
      have ht : textV ⟨1, numP s.data.toList, ⟨#[]⟩⟩ = ⟨(Lib.itoa (numP s.data.toList)).toArray⟩ := by rw [textV, if_pos (by rfl)]
      rw [hc, ht]
      by_cases h : Lib.itoa (numP s.data.toList) = s.data.toList
      · rw [if_pos h, if_pos ⟨rfl, by rw [h]⟩]; rfl
      · rw [if_neg h, if_neg (fun q => h (congrArg (fun b : ByteArray => b.data.toList) q.2))]

theorem hasQ (l : List UInt8) : Lib.hasPrefix l [39] = decide (l.head? = some 39) := by
  cases l with
  | nil => rfl
  | cons c r =>
    unfold Lib.hasPrefix
    simp only [List.isPrefixOf, List.head?_cons, Option.some.injEq, Bool.and_true]
    by_cases h : c = 39
    · subst h; rfl
    · rw [decide_eq_false h]
      exact beq_eq_false_iff_ne.2 (fun q => h q.symm)

set_option maxHeartbeats 1600000 in
theorem read_any (s : ByteArray) (w : World) (hS : s.size ≤ 281474976710655) (hw : NumW w) :
    Calls Tryd.prog 40 #[.string s] w fun e w' => e = .returned (.agg #[.int .i64 (toldV s).kind, .int .i64 (toldV s).n, .string (toldV s).S]) ∧ Below w.heap.size w w' := by
  obtain ⟨W1, HW1⟩ : ∃ W1, Hid (W1 = w.alloc (.cells #[.int .i64 0, .int .i64 0, .string ⟨#[]⟩] 35)) := ⟨_, rfl⟩
  have bel : Below w.heap.size w W1 := by rw [HW1.out]; exact (Below.refl _ _).alloc (Nat.le_refl _) _
  have hlt1 : w.heap.size < W1.heap.size := by rw [HW1.out]; simp
  have HX0 : Hid (W1.heap[w.heap.size]? = some (.cells #[.int .i64 0, .int .i64 0, .string ⟨#[]⟩] 35 (0, 0))) := by show _ = _; rw [HW1.out]; exact heap_alloc_new _ _
  by_cases h45 : s.data.toList = [45]
  · have hs : s = ⟨#[45]⟩ := by apply ByteArray.ext; apply Array.toList_inj.1; rw [h45]
    have HT : Hid (toldV s = val0) := by show _ = _; rw [toldV, if_pos h45]
    clear h45
    have hq : (s.toList == (⟨#[45]⟩ : ByteArray).toList) = true := kstr_eq hs
    go_enter Tryd.func40, Tryd.ntmps40
    go_wp2
    refine bodyPost_ret (v := .agg #[.int .i64 0, .int .i64 0, .string ⟨#[]⟩]) (by simp [results, Tryd.results40, go_sem]) rfl ⟨?_, ?_⟩
    · rw [HT.out]; rfl
    · exact (Below.refl _ _).alloc (Nat.le_refl _) _
  have hne : (s.toList == [45]) = false := by
    have := kstr_ne (a := s) (b := ⟨#[45]⟩) (fun e => h45 (by rw [e]))
    rw [show (⟨#[45]⟩ : ByteArray).toList = [45] by rw [ByteArray.toList_eq]] at this
    exact this
  by_cases h39 : s.data.toList.head? = some 39
  · have HT : Hid (toldV s = ⟨2, 0, ⟨s.data.toList.tail.toArray⟩⟩) := by show _ = _; rw [toldV, if_neg h45, if_pos h39]
    obtain ⟨T, HTl⟩ : ∃ T : ByteArray, Hid ((⟨s.data.toList.tail.toArray⟩ : ByteArray) = T) := ⟨_, rfl⟩
    rw [HTl.out] at HT
    have hts : T.size ≤ 281474976710655 := by
      rw [← HTl.out, bytes_size, List.length_tail]
      have : s.data.toList.length = s.size := by simp
      omega
    have HC : Hid (Calls Tryd.prog 56 #[.string s, .string ⟨#[39]⟩] W1 fun e w' => e = .returned (.tuple #[.string T, .bool true]) ∧ w' = W1) := by
      have := Any.strings_CutPrefix cutLays s ⟨#[39]⟩ W1
      have e1 : Lib.hasPrefix s.data.toList (⟨#[39]⟩ : ByteArray).data.toList = true := by
        show Lib.hasPrefix s.data.toList [39] = true
        rw [hasQ, decide_eq_true h39]
      have e2 : (⟨(Lib.trimPrefix s.data.toList (⟨#[39]⟩ : ByteArray).data.toList).toArray⟩ : ByteArray) = T := by
        rw [Lib.trimPrefix, if_pos e1, ← HTl.out]
        congr 1
        show (List.drop 1 _).toArray = _
        rw [List.drop_one]
      rw [e1, e2] at this
      exact this
    have HK : Hid (∀ w1, Calls Tryd.prog 57 #[.string T] w1 fun e w' => e = .returned (.string T) ∧ Below w1.heap.size w1 w') := fun w1 => clone_any T w1 (by omega)
    clear h45 h39
    go_enter Tryd.func40, Tryd.ntmps40
    go_wp2_with fail
    rw [← HW1.out]
    refine HC.out.mono ?_
    rintro e w' ⟨rfl, rfl⟩
    clear HW1
    go_wp2_with fail
    refine (HK.out _).mono ?_
    rintro e w2 ⟨rfl, b2⟩
    have HX2 := hidk ((b2.block _ hlt1).trans HX0.out)
    have z0 : w2.cell? ⟨w.heap.size, 0, none⟩ = some (.int .i64 0) := by unfold World.cell?; simp [HX2.out]
    have z1 : w2.cell? ⟨w.heap.size, 1, none⟩ = some (.int .i64 0) := by unfold World.cell?; simp [HX2.out]
    have z2 : w2.cell? ⟨w.heap.size, 2, none⟩ = some (.string ⟨#[]⟩) := by unfold World.cell?; simp [HX2.out]
    have g0 : w2.frozen? ⟨w.heap.size, 0, none⟩ = false := by unfold World.frozen?; simp [HX2.out]
    have g1 : w2.frozen? ⟨w.heap.size, 1, none⟩ = false := by unfold World.frozen?; simp [HX2.out]
    have g2 : w2.frozen? ⟨w.heap.size, 2, none⟩ = false := by unfold World.frozen?; simp [HX2.out]
    have HB2 := hidk (below_chain bel b2)
    go_wp2
    refine bodyPost_ret (v := .agg #[.int .i64 2, .int .i64 0, .string T]) (by simp [results, Tryd.results40, go_sem, z0, z1, z2]) rfl ⟨?_, ?_⟩
    · rw [HT.out]
    · exact ((HB2.out.setCell (by exact Nat.le_refl _) _).setCell (by exact Nat.le_refl _) _).setCell (by exact Nat.le_refl _) _
  · have HT : Hid (toldV s = ⟨1, numP s.data.toList, ⟨#[]⟩⟩) := by show _ = _; rw [toldV, if_neg h45, if_neg h39]
    have HP := hidk (parseInt_any s hS W1 (hw.below bel))
    generalize numP s.data.toList = N at HT HP
    obtain ⟨T, HC⟩ : ∃ T : ByteArray, Hid (Calls Tryd.prog 56 #[.string s, .string ⟨#[39]⟩] W1 fun e w' => e = .returned (.tuple #[.string T, .bool false]) ∧ w' = W1) := by
      have := Any.strings_CutPrefix cutLays s ⟨#[39]⟩ W1
      have e1 : Lib.hasPrefix s.data.toList (⟨#[39]⟩ : ByteArray).data.toList = false := by
        show Lib.hasPrefix s.data.toList [39] = false
        rw [hasQ, decide_eq_false h39]
      rw [e1] at this
      exact ⟨_, this⟩
    clear h45 h39
    go_enter Tryd.func40, Tryd.ntmps40
    go_wp2_with fail
    rw [← HW1.out]
    refine HC.out.mono ?_
    rintro e w' ⟨rfl, rfl⟩
    clear HW1
    go_wp2_with fail
    refine HP.out.mono ?_
    rintro e w2 ⟨⟨x, rfl⟩, b2⟩
    have HX2 := hidk ((b2.block _ hlt1).trans HX0.out)
    have z0 : w2.cell? ⟨w.heap.size, 0, none⟩ = some (.int .i64 0) := by unfold World.cell?; simp [HX2.out]
    have z1 : w2.cell? ⟨w.heap.size, 1, none⟩ = some (.int .i64 0) := by unfold World.cell?; simp [HX2.out]
    have z2 : w2.cell? ⟨w.heap.size, 2, none⟩ = some (.string ⟨#[]⟩) := by unfold World.cell?; simp [HX2.out]
    have g0 : w2.frozen? ⟨w.heap.size, 0, none⟩ = false := by unfold World.frozen?; simp [HX2.out]
    have g1 : w2.frozen? ⟨w.heap.size, 1, none⟩ = false := by unfold World.frozen?; simp [HX2.out]
    have g2 : w2.frozen? ⟨w.heap.size, 2, none⟩ = false := by unfold World.frozen?; simp [HX2.out]
    have HB2 := hidk (below_chain bel b2)
    go_wp2
    refine bodyPost_ret (v := .agg #[.int .i64 1, .int .i64 N, .string ⟨#[]⟩]) (by simp [results, Tryd.results40, go_sem, z0, z1, z2]) rfl ⟨?_, ?_⟩
    · rw [HT.out]
    · exact ((HB2.out.setCell (by exact Nat.le_refl _) _).setCell (by exact Nat.le_refl _) _).setCell (by exact Nat.le_refl _) _

set_option maxHeartbeats 1600000 in
theorem parse_any (s : ByteArray) (w : World) (hS : s.size ≤ 281474976710655) (hw : NumW w) :
    Calls Tryd.prog 12 #[.string s] w fun e w' =>
      e = .returned (.tuple #[.agg #[.int .i64 (parseV s).1.kind, .int .i64 (parseV s).1.n, .string (parseV s).1.S], .int .i64 (parseV s).2]) ∧ Below w.heap.size w w' := by
  have HR : Hid (∀ w1, NumW w1 → Calls Tryd.prog 40 #[.string s] w1 fun e w' => e = .returned (.agg #[.int .i64 (toldV s).kind, .int .i64 (toldV s).n, .string (toldV s).S]) ∧ Below w1.heap.size w1 w') := fun w1 h => read_any s w1 hS h
  have hts := told_size s
  have HP := hidk (told_parse s)
  have hin := told_in s
  generalize toldV s = t at HR HP hts hin
  have HC : Hid (∀ w1, Calls Tryd.prog 18 #[.agg #[.int .i64 t.kind, .int .i64 t.n, .string t.S]] w1 fun e w' => e = .returned (.int .i64 t.chk) ∧ Below w1.heap.size w1 w') := fun w1 => check_any t w1 (by omega)
  have HT : Hid (∀ w1, NumW w1 → Calls Tryd.prog 14 #[.agg #[.int .i64 t.kind, .int .i64 t.n, .string t.S]] w1 fun e w' => e = .returned (.string (textV t)) ∧ Below w1.heap.size w1 w') := fun w1 h => text_any t w1 hin (by omega) h
  have hc0 : t.chk = 0 ∨ t.chk = 110 := by unfold ValV.chk; split <;> simp
  generalize t.chk = C at *
  generalize textV t = X at *
  obtain ⟨k, n, S⟩ := t
  simp only at *
  obtain ⟨W1, HW1⟩ : ∃ W1, Hid (W1 = w.alloc (.cells #[.int .i64 0, .int .i64 0, .string ⟨#[]⟩] 35)) := ⟨_, rfl⟩
  have bel : Below w.heap.size w W1 := by rw [HW1.out]; exact (Below.refl _ _).alloc (Nat.le_refl _) _
  have hlt1 : w.heap.size < W1.heap.size := by rw [HW1.out]; simp
  have HX0 : Hid (W1.heap[w.heap.size]? = some (.cells #[.int .i64 0, .int .i64 0, .string ⟨#[]⟩] 35 (0, 0))) := by show _ = _; rw [HW1.out]; exact heap_alloc_new _ _
  go_enter Tryd.func12, Tryd.ntmps12
  go_wp2_with fail
  rw [← HW1.out]
  refine (HR.out _ (hw.below bel)).mono ?_
  rintro e w2 ⟨rfl, b2⟩
  clear HW1
  obtain ⟨W3, HW3⟩ : ∃ W3, Hid (W3 = w2.alloc (.cells #[.int .i64 k, .int .i64 n, .string S] 35)) := ⟨_, rfl⟩
  have b3 : Below w2.heap.size w2 W3 := by rw [HW3.out]; exact (Below.refl _ _).alloc (Nat.le_refl _) _
  have hlt3 : w2.heap.size < W3.heap.size := by rw [HW3.out]; simp
  have HX3 : Hid (W3.heap[w2.heap.size]? = some (.cells #[.int .i64 k, .int .i64 n, .string S] 35 (0, 0))) := by show _ = _; rw [HW3.out]; exact heap_alloc_new _ _
  have y0 : W3.cell? ⟨w2.heap.size, 0, none⟩ = some (.int .i64 k) := by unfold World.cell?; simp [HX3.out]
  have y1 : W3.cell? ⟨w2.heap.size, 1, none⟩ = some (.int .i64 n) := by unfold World.cell?; simp [HX3.out]
  have y2 : W3.cell? ⟨w2.heap.size, 2, none⟩ = some (.string S) := by unfold World.cell?; simp [HX3.out]
  have hlt2 : w.heap.size < w2.heap.size := Nat.lt_of_lt_of_le hlt1 b2.size
  have HD3 := hidk ((b3.block _ hlt2).trans ((b2.block _ hlt1).trans HX0.out))
  have bel3 := hidk (below_chain (below_chain bel b2) b3)
  go_wp2_with fail
  rw [← HW3.out]
  clear HW3
  refine (HC.out _).mono ?_
  rintro e w4 ⟨rfl, b4⟩
  have HX4 := hidk ((b4.block _ hlt3).trans HX3.out)
  have HD4 := hidk ((b4.block _ (Nat.lt_trans hlt2 hlt3)).trans HD3.out)
  have hlt4 := Nat.lt_of_lt_of_le hlt3 b4.size
  have HB4 := hidk (below_chain bel3.out b4)
  have u0 : w4.cell? ⟨w2.heap.size, 0, none⟩ = some (.int .i64 k) := by unfold World.cell?; simp [HX4.out]
  have u1 : w4.cell? ⟨w2.heap.size, 1, none⟩ = some (.int .i64 n) := by unfold World.cell?; simp [HX4.out]
  have u2 : w4.cell? ⟨w2.heap.size, 2, none⟩ = some (.string S) := by unfold World.cell?; simp [HX4.out]
  clear y0 y1 y2
  rcases hc0 with rfl | rfl
  rotate_left
  · have HPv : Hid (parseV s = (val0, 110)) := by show _ = _; rw [HP.out, if_neg (fun q => by simp at q)]
    have z0 : w4.cell? ⟨w.heap.size, 0, none⟩ = some (.int .i64 0) := by unfold World.cell?; simp [HD4.out]
    have z1 : w4.cell? ⟨w.heap.size, 1, none⟩ = some (.int .i64 0) := by unfold World.cell?; simp [HD4.out]
    have z2 : w4.cell? ⟨w.heap.size, 2, none⟩ = some (.string ⟨#[]⟩) := by unfold World.cell?; simp [HD4.out]
    have g0 : w4.frozen? ⟨w.heap.size, 0, none⟩ = false := by unfold World.frozen?; simp [HD4.out]
    have g1 : w4.frozen? ⟨w.heap.size, 1, none⟩ = false := by unfold World.frozen?; simp [HD4.out]
    have g2 : w4.frozen? ⟨w.heap.size, 2, none⟩ = false := by unfold World.frozen?; simp [HD4.out]
    clear HP
    go_wp2
    refine bodyPost_ret (v := .tuple #[.agg #[.int .i64 0, .int .i64 0, .string ⟨#[]⟩], .int .i64 110]) (by simp [results, Tryd.results12, go_sem, z0, z1, z2]) rfl ⟨?_, ?_⟩
    · rw [HPv.out]; rfl
    · exact ((HB4.out.setCell (by exact Nat.le_refl _) _).setCell (by exact Nat.le_refl _) _).setCell (by exact Nat.le_refl _) _
  · have hw4 : NumW w4 := hw.below HB4.out
    go_wp2_with fail
    refine (HT.out _ hw4).mono ?_
    rintro e w5 ⟨rfl, b5⟩
    have HD5 := hidk ((b5.block _ (Nat.lt_trans hlt2 hlt4)).trans HD4.out)
    have HX5 := hidk ((b5.block _ hlt4).trans HX4.out)
    have HB5 := hidk (below_chain HB4.out b5)
    have z0 : w5.cell? ⟨w.heap.size, 0, none⟩ = some (.int .i64 0) := by unfold World.cell?; simp [HD5.out]
    have z1 : w5.cell? ⟨w.heap.size, 1, none⟩ = some (.int .i64 0) := by unfold World.cell?; simp [HD5.out]
    have z2 : w5.cell? ⟨w.heap.size, 2, none⟩ = some (.string ⟨#[]⟩) := by unfold World.cell?; simp [HD5.out]
    have g0 : w5.frozen? ⟨w.heap.size, 0, none⟩ = false := by unfold World.frozen?; simp [HD5.out]
    have g1 : w5.frozen? ⟨w.heap.size, 1, none⟩ = false := by unfold World.frozen?; simp [HD5.out]
    have g2 : w5.frozen? ⟨w.heap.size, 2, none⟩ = false := by unfold World.frozen?; simp [HD5.out]
    clear u0 u1 u2
    by_cases hX : X = s
    · have HPv : Hid (parseV s = (⟨k, n, S⟩, 0)) := by show _ = _; rw [HP.out, if_pos ⟨by trivial, hX⟩]
      have hq : (X.toList == s.toList) = true := kstr_eq hX
      have u0 : w5.cell? ⟨w2.heap.size, 0, none⟩ = some (.int .i64 k) := by unfold World.cell?; simp [HX5.out]
      have u1 : w5.cell? ⟨w2.heap.size, 1, none⟩ = some (.int .i64 n) := by unfold World.cell?; simp [HX5.out]
      have u2 : w5.cell? ⟨w2.heap.size, 2, none⟩ = some (.string S) := by unfold World.cell?; simp [HX5.out]
      clear HP hX
      go_wp2
      refine bodyPost_ret (v := .tuple #[.agg #[.int .i64 k, .int .i64 n, .string S], .int .i64 0]) (by simp [results, Tryd.results12, go_sem, z0, z1, z2]) rfl ⟨?_, ?_⟩
      · rw [HPv.out]
      · exact ((HB5.out.setCell (by exact Nat.le_refl _) _).setCell (by exact Nat.le_refl _) _).setCell (by exact Nat.le_refl _) _
    · have HPv : Hid (parseV s = (val0, 110)) := by show _ = _; rw [HP.out, if_neg (fun q => hX q.2)]
      have hq : (X.toList == s.toList) = false := kstr_ne hX
      clear HP hX
      go_wp2
      refine bodyPost_ret (v := .tuple #[.agg #[.int .i64 0, .int .i64 0, .string ⟨#[]⟩], .int .i64 110]) (by simp [results, Tryd.results12, go_sem, z0, z1, z2]) rfl ⟨?_, ?_⟩
      · rw [HPv.out]; rfl
      · exact ((HB5.out.setCell (by exact Nat.le_refl _) _).setCell (by exact Nat.le_refl _) _).setCell (by exact Nat.le_refl _) _

end Go.Proofs.YtgammhmgdafpkaaDoor
