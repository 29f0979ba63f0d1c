/-
  What a page and its twin are read as behind a fall.
  The disk behind a fall in writeOut: a page and its twin.
  pool.Write on a disk with a plan of one fall.
  What PoolFalls keeps, as plain data.
  A slice of texts as an argument.
  The calls of PoolFalls, where it stands.
-/
import Derived.Test.YtgmfgkdecpldeaaGreatBase10C
import Derived.Test.YtgmfgkdecpldeaaGreatBase11C
import Derived.Test.YtgmfgkdecpldeaaGreatProg
import Derived.WalkKit
import Derived.WalkSpells
import Derived.SliceStrings
import Derived.ChangeOld
import Derived.SizedLaws
import Derived.Test.YtgmfgkdecpldeaaGreatBase8C
namespace Go.Proofs.YtgmfgkdecpldeaaGreat
open Go.RowKit Go.Sort Go.Shelf
set_option linter.unusedVariables false
set_option linter.unusedSimpArgs false

/-- Bytes that are read as one of two pages, or not at all. -/
def Rc (n : Nat) (X O : SheetV) (s : ByteArray) : Prop := (rdB n s = true ∧ (rdP n s = X ∨ rdP n s = O)) ∨ rdB n s = false

theorem ch_two {n : Nat} {X O : SheetV} {s t : ByteArray} (hs : Rc n X O s) (ht : Rc n X O t) (h : rdB n s = true ∨ rdB n t = true) : chE n s t = 0 ∧ (chX n s t = X ∨ chX n s t = O) := by
  have two : ∀ u, Rc n X O u → rdB n u = true → rdP n u = X ∨ rdP n u = O := fun u hu hb => by
    rcases hu with ⟨_, x⟩ | x
    · exact x
    · rw [hb] at x; cases x
  unfold chE chX
  by_cases hp : chP n s t = true
  · rw [if_pos hp, if_pos hp]
    have hb : rdB n s = true := by
      unfold chP at hp
      simp only [Bool.and_eq_true] at hp
      exact hp.1
    exact ⟨rfl, two s hs hb⟩
  · rw [if_neg hp, if_neg hp]
    have hb : rdB n t = true := by
      rcases h with h | h
      · apply Classical.byContradiction
        intro hb
        have hb' : rdB n t = false := by simpa using hb
        apply hp
        unfold chP
        rw [h, hb']
        rfl
      · exact h
    rw [if_pos hb, if_pos hb]
    exact ⟨rfl, two t ht hb⟩

/-- A page's bytes are read as it. -/
theorem rd_enc {n : Nat} {Y : SheetV} (h : Y.Fits) (hn : Y.num = n) : rdB n ⟨(encL Y).toArray⟩ = true ∧ rdP n ⟨(encL Y).toArray⟩ = Y := by
  obtain ⟨h1, h2⟩ := dec_enc Y h
  have hb : rdB n ⟨(encL Y).toArray⟩ = true := by unfold rdB; rw [h1, h2]; exact decide_eq_true ⟨rfl, .inl hn⟩
  refine ⟨hb, ?_⟩
  unfold rdP
  rw [if_pos hb, h2, ← hn]

def blankN (n : Nat) : SheetV := ⟨n, 0, 0, ⟨#[]⟩, []⟩

theorem rd_blank {n : Nat} {s : ByteArray} (h1 : decE s = 0) (h2 : decP s = sheet0) : rdB n s = true ∧ rdP n s = blankN n := by
  have hb : rdB n s = true := by unfold rdB; rw [h1, h2]; exact decide_eq_true ⟨rfl, .inr rfl⟩
  refine ⟨hb, ?_⟩
  unfold rdP
  rw [if_pos hb, h2]
  rfl

theorem mix_data (k : Nat) (s t : ByteArray) (hs : s.size = 512) (ht : t.size = 512) (hk : k ≤ 512) : (mix k s t).data.toList = s.data.toList.take k ++ t.data.toList.drop k := by
  unfold mix
  rw [ByteArray.data_append]
  simp only [Array.toList_append]
  rw [ext_list, ext_list, ht]
  simp
  apply List.take_of_length_le
  simp
  omega

/-- A page torn over another one. -/
theorem torn_rc {n k : Nat} {X Y : SheetV} (hX : X.Fits) (hY : Y.Fits) (nX : X.num = n) (nY : Y.num = n) (hne : Y.lsn ≠ X.lsn) (hx0 : X.lsn ≠ 0) (hy0 : Y.lsn ≠ 0) (hk : k ≤ 512) : Rc n X Y (mix k ⟨(encL X).toArray⟩ ⟨(encL Y).toArray⟩) := by
  have hd := mix_data k ⟨(encL X).toArray⟩ ⟨(encL Y).toArray⟩ (enc_size X hX) (enc_size Y hY) hk
  have hd' : (mix k ⟨(encL X).toArray⟩ ⟨(encL Y).toArray⟩).data.toList = (encL X).take k ++ (encL Y).drop k := by rw [hd]
  generalize mix k ⟨(encL X).toArray⟩ ⟨(encL Y).toArray⟩ = M at *
  by_cases e1 : M.data.toList = encL Y
  · have : M = ⟨(encL Y).toArray⟩ := bytes_ext (by rw [e1])
    rw [this]
    obtain ⟨a, b⟩ := rd_enc hY nY
    exact .inl ⟨a, .inr b⟩
  · by_cases e2 : M.data.toList = encL X
    · have : M = ⟨(encL X).toArray⟩ := bytes_ext (by rw [e2])
      rw [this]
      obtain ⟨a, b⟩ := rd_enc hX nX
      exact .inl ⟨a, .inl b⟩
    · have := torn_math Y X hY hX hne hy0 hx0 k hk M hd' e1 e2
      refine .inr ?_
      unfold rdB
      rw [decide_eq_false]
      rintro ⟨h, _⟩
      exact this h

/-- A page of zeros, read as it stands. -/
theorem part_zeros (a n : Nat) (h : a + n ≤ 500) : part ⟨(List.replicate 500 0).toArray⟩ a n = List.replicate n 0 := by
  unfold part
  simp only [List.drop_replicate, List.take_replicate]
  congr 1
  omega

theorem parsed_zeros : parsed ⟨(List.replicate 500 0).toArray⟩ = sheet0 := by
  have h0 : pHn ⟨(List.replicate 500 0).toArray⟩ = 0 := by
    unfold pHn
    rw [part_zeros _ _ (by omega)]
    rfl
  have h1 : pN ⟨(List.replicate 500 0).toArray⟩ = 0 := by
    unfold pN
    rw [h0, part_zeros _ _ (by omega)]
    rfl
  unfold parsed
  rw [h0, h1, part_zeros _ _ (by omega), part_zeros _ _ (by omega), part_zeros _ _ (by omega), part_zeros _ _ (by omega)]
  rfl

/-- A page torn over a blank one. -/
theorem torn_rc0 {n k : Nat} {X : SheetV} (hX : X.Fits) (nX : X.num = n) (hx0 : X.lsn ≠ 0) (hk : k ≤ 512) : Rc n X (blankN n) (mix k ⟨(encL X).toArray⟩ zerosS) := by
  have hd := mix_data k ⟨(encL X).toArray⟩ zerosS (enc_size X hX) zerosS_size hk
  have hd' : (mix k ⟨(encL X).toArray⟩ zerosS).data.toList = (encL X).take k ++ List.replicate (512 - k) 0 := by
    rw [hd]
    congr 1
    show dzerosL.drop k = _
    unfold dzerosL
    rw [List.drop_replicate]
  generalize mix k ⟨(encL X).toArray⟩ zerosS = M at *
  have hL : (encL X).length = 512 := encL_length X hX.fits
  have hlen : M.data.toList.length = 512 := by rw [hd']; simp [hL]; omega
  have hzero : M.data.toList = List.replicate 512 0 → Rc n X (blankN n) M := fun e => by
    have : M = zerosS := bytes_ext (by rw [e]; rfl)
    rw [this]
    obtain ⟨a, b⟩ := rd_blank (n := n) dec_zeros.1 dec_zeros.2
    exact .inl ⟨a, .inr b⟩
  by_cases hz : zerosB M.data.toList = true
  · exact hzero (by rw [(zerosB_iff _).1 hz, hlen])
  · by_cases hE : decE M = 0
    · have hz' : zerosB M.data.toList = false := by simpa using hz
      obtain ⟨hs, ht, _⟩ := decE_zero hE hz'
      have hlsn := hX.lsn
      by_cases c1 : 504 < k
      · have e2 : M.data.toList = encL X := by
          have h1 : M.data.toList.take 504 = (encL X).take 504 := by
            rw [hd', List.take_append_of_le_length (by simp [hL]; omega), List.take_take]
            congr 1
            omega
          have h2 : (M.data.toList.drop 4).take 8 = putL X.lsn 8 := by
            rw [← encL_lsn X, hd', List.drop_append_of_le_length (by simp [hL]; omega), List.take_append_of_le_length (by simp [hL]; omega), List.drop_take, List.take_take]
            congr 1
            omega
          rw [← List.take_append_drop 504 M.data.toList, h1, ht, h2, ← encL_tail X hX, List.take_append_drop]
        have : M = ⟨(encL X).toArray⟩ := bytes_ext (by rw [e2])
        rw [this]
        obtain ⟨a, b⟩ := rd_enc hX nX
        exact .inl ⟨a, .inl b⟩
      · have htail : M.data.toList.drop 504 = List.replicate 8 0 := by
          rw [hd', List.drop_append, List.drop_of_length_le (by simp [hL]; omega), List.nil_append, List.drop_replicate]
          congr 1
          simp [hL]
          omega
        by_cases c2 : 12 ≤ k
        · exfalso
          have h2 : (M.data.toList.drop 4).take 8 = putL X.lsn 8 := by
            rw [← encL_lsn X, hd', List.drop_append_of_le_length (by simp [hL]; omega), List.take_append_of_le_length (by simp [hL]; omega), List.drop_take, List.take_take]
            congr 1
            omega
          have := lsn_zeros hlsn hx0
          rw [← h2, ← ht, htail] at this
          revert this
          decide
        · have h12 : M.data.toList.drop 12 = List.replicate 500 0 := by
            rw [hd', List.drop_append, List.drop_of_length_le (by simp [hL]; omega), List.nil_append, List.drop_replicate]
            congr 1
            simp [hL]
            omega
          have h4 : M.data.toList.drop 4 = List.replicate 508 0 := by
            rw [← List.take_append_drop 8 (M.data.toList.drop 4), ← ht, htail, List.drop_drop]
            show List.replicate 8 0 ++ M.data.toList.drop 12 = _
            rw [h12]
            rfl
          have hcut : cutB M = ⟨(List.replicate 500 0).toArray⟩ := by
            apply bytes_ext
            unfold cutB
            rw [ext_list, h4, List.take_replicate]
            rfl
          have hP : decP M = sheet0 := by
            unfold decP
            rw [if_pos ⟨hE, hz'⟩, hcut]
            exact parsed_zeros
          obtain ⟨a, b⟩ := rd_blank (n := n) hE hP
          exact .inl ⟨a, .inr b⟩
    · refine .inr ?_
      unfold rdB
      rw [decide_eq_false]
      rintro ⟨h, _⟩
      exact hE h

end Go.Proofs.YtgmfgkdecpldeaaGreat

namespace Go.Proofs.YtgmfgkdecpldeaaGreat
open Go.RowKit Go.Sort Go.Shelf
set_option linter.unusedVariables false
set_option linter.unusedSimpArgs false

/-- What stands at a place ahead of the write of X. -/
structure Old (n : Nat) (X O : SheetV) (s : ByteArray) : Prop where
  rd : rdB n s = true
  rp : rdP n s = O
  mx : ∀ k, k ≤ 512 → Rc n X O (mix k ⟨(encL X).toArray⟩ s)

theorem Old.rc {n : Nat} {X O : SheetV} {s : ByteArray} (h : Old n X O s) : Rc n X O s := .inl ⟨h.rd, .inr h.rp⟩

theorem old_enc {n : Nat} {X Y : SheetV} (hX : X.Fits) (hY : Y.Fits) (nX : X.num = n) (nY : Y.num = n) (hne : Y.lsn ≠ X.lsn) (hx0 : X.lsn ≠ 0) (hy0 : Y.lsn ≠ 0) : Old n X Y ⟨(encL Y).toArray⟩ :=
  ⟨(rd_enc hY nY).1, (rd_enc hY nY).2, fun k hk => torn_rc hX hY nX nY hne hx0 hy0 hk⟩

theorem old_zeros {n : Nat} {X : SheetV} (hX : X.Fits) (nX : X.num = n) (hx0 : X.lsn ≠ 0) : Old n X (blankN n) zerosS :=
  ⟨(rd_blank dec_zeros.1 dec_zeros.2).1, (rd_blank dec_zeros.1 dec_zeros.2).2, fun k hk => torn_rc0 hX nX hx0 hk⟩

theorem fail_none {f : FG} {d : DG} (h : d.loose = []) : (failD f { d with plan := [] }).sure = d.sure := by
  show (failTo f d.loose (d.sure, d.sm) d.loose.length).1 = d.sure
  rw [h]
  rfl

theorem fail_one {f : FG} {d : DG} (h : d.loose = []) {q : Nat} (hq : 1 ≤ q) (s : ByteArray) :
    (∀ r, r ≠ q → (failD f { wrD d q s with plan := [] }).sure r = d.sure r) ∧
    ((failD f { wrD d q s with plan := [] }).sure q = s ∨ (failD f { wrD d q s with plan := [] }).sure q = d.sure q ∨ ∃ k, k ≤ 512 ∧ (failD f { wrD d q s with plan := [] }).sure q = mix k s (d.sure q)) := by
  have e : (failD f { wrD d q s with plan := [] }).sure = (failStep f 0 ⟨q, s, 0⟩ (d.sure, d.sm)).1 := by
    show (failTo f (d.loose ++ [(⟨q, s, 0⟩ : LW)]) (d.sure, d.sm) (d.loose ++ [(⟨q, s, 0⟩ : LW)]).length).1 = _
    rw [h]
    rfl
  rw [e]
  unfold failStep
  have hq0 : q ≠ 0 := by omega
  split
  · unfold keepPartF
    simp only [if_neg hq0]
    exact ⟨fun r hr => if_neg hr, .inr (.inr ⟨tornN f.bytes, tornN_le _, by simp⟩)⟩
  · split
    · unfold keepF
      simp only [if_neg hq0]
      exact ⟨fun r hr => if_neg hr, .inl (by simp)⟩
    · exact ⟨fun r hr => rfl, .inr (.inl rfl)⟩

/-- The page and its twin behind the fall. -/
theorem fell_two {l : LG} {d dd : DG} {f : FG} {N n : Nat} {X O : SheetV} (hd : DFk d f N) (hX : X.Fits) (nX : X.num = n) (h1 : 1 ≤ n) (hE : encS X = ⟨(encL X).toArray⟩)
    (o1 : Old n X O (d.sure n)) (o2 : Old n X O (d.sure (n + 2048))) (h : FallSt l d X dd) :
    chE n ((failD f { dd with plan := [] }).sure n) ((failD f { dd with plan := [] }).sure (n + 2048)) = 0 ∧
      (chX n ((failD f { dd with plan := [] }).sure n) ((failD f { dd with plan := [] }).sure (n + 2048)) = X ∨ chX n ((failD f { dd with plan := [] }).sure n) ((failD f { dd with plan := [] }).sure (n + 2048)) = O) := by
  have rX := rd_enc hX nX
  have cX : Rc n X O ⟨(encL X).toArray⟩ := .inl ⟨rX.1, .inl rX.2⟩
  have key : ∀ u : Nat → ByteArray, (∀ r, r = n ∨ r = n + 2048 → Rc n X O (u r)) → (rdB n (u n) = true ∨ rdB n (u (n + 2048)) = true) → chE n (u n) (u (n + 2048)) = 0 ∧ (chX n (u n) (u (n + 2048)) = X ∨ chX n (u n) (u (n + 2048)) = O) := fun u a b => ch_two (a n (.inl rfl)) (a _ (.inr rfl)) b
  have oo : ∀ r, r = n ∨ r = n + 2048 → Old n X O (d.sure r) := by rintro r (rfl | rfl); exact o1; exact o2
  have hs : ∀ r, (wsD (flushD l d) (ord1 d X.num) (encS X)).sure r = if r = ord1 d X.num then encS X else d.sure r := fun r => by
    have := wsD_keep (d := flushD l d) hd.no (q := ord1 d X.num) (by unfold ord1; split <;> omega) (encS X)
    show (keepTo _ _ _).1 r = _
    rw [this]
    rfl
  have hor : (ord1 d X.num = n ∧ ord2 d X.num = n + 2048) ∨ (ord1 d X.num = n + 2048 ∧ ord2 d X.num = n) := by
    unfold ord1 ord2
    rw [nX]
    split
    · exact .inl ⟨rfl, rfl⟩
    · exact .inr ⟨rfl, rfl⟩
  have same : ∀ dd : DG, dd.loose = [] → dd.sure = d.sure → _ := fun dd a b => key (failD f { dd with plan := [] }).sure (fun r hr => by rw [fail_none a, b]; exact (oo r hr).rc) (.inl (by rw [fail_none a, b]; exact o1.rd))
  have hsx := fun r => hs r
  rcases h with rfl | rfl | rfl | rfl | rfl | rfl
  · exact same _ hd.no rfl
  · exact same _ hd.no rfl
  · exact same _ hd.no rfl
  · obtain ⟨g1, g2⟩ := fail_one (f := f) (d := flushD l d) hd.no (q := ord1 d X.num) (by omega) (encS X)
    have hR : Rc n X O ((failD f { wrD (flushD l d) (ord1 d X.num) (encS X) with plan := [] }).sure (ord1 d X.num)) := by
      have ho := oo (ord1 d X.num) (by omega)
      rcases g2 with e | e | ⟨k, hk, e⟩
      · rw [e, hE]; exact cX
      · rw [e]; exact ho.rc
      · rw [e, hE]; exact ho.mx k hk
    refine key _ (fun r hr => ?_) ?_
    · by_cases e : r = ord1 d X.num
      · rw [e]; exact hR
      · rw [g1 r e]; exact (oo r hr).rc
    · rcases hor with ⟨a, b⟩ | ⟨a, b⟩
      · exact .inr (by rw [g1 (n + 2048) (by omega)]; exact o2.rd)
      · exact .inl (by rw [g1 n (by omega)]; exact o1.rd)
  · refine key _ (fun r hr => ?_) ?_
    · rw [fail_none rfl, hs]
      split
      · rw [hE]; exact cX
      · exact (oo r hr).rc
    · rw [fail_none rfl, hs, hs]
      rcases hor with ⟨a, b⟩ | ⟨a, b⟩
      · exact .inl (by rw [if_pos a.symm, hE]; exact rX.1)
      · exact .inr (by rw [if_pos a.symm, hE]; exact rX.1)
  · obtain ⟨g1, g2⟩ := fail_one (f := f) (d := wsD (flushD l d) (ord1 d X.num) (encS X)) rfl (q := ord2 d X.num) (by omega) (encS X)
    have hn2 : (wsD (flushD l d) (ord1 d X.num) (encS X)).sure (ord2 d X.num) = d.sure (ord2 d X.num) := by rw [hs, if_neg (by omega)]
    have hR : Rc n X O ((failD f { wrD (wsD (flushD l d) (ord1 d X.num) (encS X)) (ord2 d X.num) (encS X) with plan := [] }).sure (ord2 d X.num)) := by
      have ho := oo (ord2 d X.num) (by omega)
      rw [hn2] at g2
      rcases g2 with e | e | ⟨k, hk, e⟩
      · rw [e, hE]; exact cX
      · rw [e]; exact ho.rc
      · rw [e, hE]; exact ho.mx k hk
    have g3 : (failD f { wrD (wsD (flushD l d) (ord1 d X.num) (encS X)) (ord2 d X.num) (encS X) with plan := [] }).sure (ord1 d X.num) = ⟨(encL X).toArray⟩ := by
      rw [g1 _ (by omega), hs, if_pos rfl, hE]
    refine key _ (fun r hr => ?_) ?_
    · by_cases e : r = ord2 d X.num
      · rw [e]; exact hR
      · have : r = ord1 d X.num := by omega
        rw [this, g3]; exact cX
    · rcases hor with ⟨a, b⟩ | ⟨a, b⟩
      · exact .inl (by have := g3; generalize (failD f { wrD (wsD (flushD l d) (ord1 d X.num) (encS X)) (ord2 d X.num) (encS X) with plan := [] }).sure = u at *; rw [a] at this; rw [this]; exact rX.1)
      · exact .inr (by have := g3; generalize (failD f { wrD (wsD (flushD l d) (ord1 d X.num) (encS X)) (ord2 d X.num) (encS X) with plan := [] }).sure = u at *; rw [a] at this; rw [this]; exact rX.1)

end Go.Proofs.YtgmfgkdecpldeaaGreat

namespace Go.Proofs.YtgmfgkdecpldeaaGreat
open Go.RowKit Go.Sort Go.Shelf
set_option linter.unusedVariables false
set_option linter.unusedSimpArgs false

/-- What Write leaves, with a plan. -/
def WrOut (w : World) (p : Nat) (S B : Nat → Prop) (P : PG) (l : LG) (d : DG) (fl : FG) (n : Nat) (f : FrV) (e : Ending) (w' : World) : Prop :=
  (e = .returned (.int .i64 0) ∧ (d.calls : Int) + 6 ≤ fl.call ∧ ∃ B', DevS w' p S B' (wrP P n f) { l with flushed := l.bytes.length } (outF l d f.sh) ∧ Moves (fun k => S k ∨ B k) (fun k => S k ∨ B' k) w w') ∨
  (e = .returned (.int .i64 7) ∧ fl.call ≤ (d.calls : Int) + 5 ∧ ∃ dd, Fell w w' P.dp B fl dd ∧ FallSt l d f.sh dd)

set_option maxHeartbeats 1600000 in
set_option maxRecDepth 8000 in
theorem write_fall {w : World} {p : Nat} {S B : Nat → Prop} {P : PG} {l : LG} {d : DG} {fl : FG} {N : Nat} (hS : DevS w p S B P l d) (hd : DFk d fl N) (hN : N ≤ 80000) (hl : LOk l d) (n : Nat) (h1 : 1 ≤ n) (h2 : n ≤ 2048) {f : FrV} (hf : P.F n = some f) (hs : f.since ≠ 0) (hc : checkE d.room n = 0) (hz : P.z ≤ 1000000) (hw : P.written ≤ 1000000) (hb : l.flushed < l.bytes.length) (hu : l.flushed + 1 ≤ f.sh.lsn) :
    Calls Tryz.prog 16 #[.pointer (some ⟨p, 0, none⟩), .int .u32 n] w fun e w' => WrOut w p S B P l d fl n f e w' := by
  have HS := hid hS
  obtain ⟨fb, pv, M, hP⟩ := hS.pool
  obtain ⟨g, ga, gc, hlook, hold, h64, hyes⟩ := hP.since (n := n) (by omega)
  obtain ⟨rfl, hst⟩ := hyes f hf
  have hfr := (hP.frs.yes n g (by omega) hf).2
  have hfit := hfr.fits
  have hnum := hfr.num
  have k1 := hlook w (Below.refl _ _)
  have c3 := hP.cells.c3
  have hpl := hP.lt p hP.sp
  have hs' : ¬ (g.since : Int) = 0 := by omega
  have nS : ∀ k, w.heap.size ≤ k → ¬ S k ∧ ¬ B k := fun k hk => ⟨fun x => by have := hS.pool.lt x; omega, fun x => by have := hS.lt k x; omega⟩
  obtain ⟨W0, HW0⟩ : ∃ W0, Hid (W0 = w.alloc (.cells #[.int .u32 g.sh.num, .int .u64 g.sh.lsn, .int .i64 g.sh.kind, .string g.sh.head, .slice ga g.sh.slots.length gc, .int .u64 g.since] 108)) := ⟨_, rfl⟩
  have b0 : Below w.heap.size w W0 := by rw [HW0.out]; exact (Below.refl _ _).alloc (Nat.le_refl _) _
  have kf : Blk W0 w.heap.size (frArr g ga gc) 108 := by rw [HW0.out]; exact Blk.made w _ _
  have hS0 := hS.below b0
  have hst0 := hst.same (w' := W0) (fun k hk => b0.block k (hS.pool.lt hk)) b0.size
  have HWO := hid (writeOut_fall hS0 hd hN hl g.sh ga gc hfit hst0.at (by omega) (by omega) (by rw [hnum]; exact hc) hb hu)
  have HV : Hid (g.sh.val ga gc = .agg #[.int .u32 g.sh.num, .int .u64 g.sh.lsn, .int .i64 g.sh.kind, .string g.sh.head, .slice ga g.sh.slots.length gc]) := rfl
  rw [HV.out] at HWO
  have y0 : W0.cell? ⟨w.heap.size, 0, none⟩ = some (.int .u32 g.sh.num) := kf.cell 0
  have y1 : W0.cell? ⟨w.heap.size, 1, none⟩ = some (.int .u64 g.sh.lsn) := kf.cell 1
  have y2 : W0.cell? ⟨w.heap.size, 2, none⟩ = some (.int .i64 g.sh.kind) := kf.cell 2
  have y3 : W0.cell? ⟨w.heap.size, 3, none⟩ = some (.string g.sh.head) := kf.cell 3
  have y4 : W0.cell? ⟨w.heap.size, 4, none⟩ = some (.slice ga g.sh.slots.length gc) := kf.cell 4
  have y5 : W0.cell? ⟨w.heap.size, 5, none⟩ = some (.int .u64 g.since) := kf.cell 5
  have HWR : Hid (∀ e w', WrOut w p S B P l d fl n g e w' ↔ ((e = .returned (.int .i64 0) ∧ (d.calls : Int) + 6 ≤ fl.call ∧ ∃ B', DevS w' p S B' (wrP P n g) { l with flushed := l.bytes.length } (outF l d g.sh) ∧ Moves (fun k => S k ∨ B k) (fun k => S k ∨ B' k) w w') ∨ (e = .returned (.int .i64 7) ∧ fl.call ≤ (d.calls : Int) + 5 ∧ ∃ dd, Fell w w' P.dp B fl dd ∧ FallSt l d g.sh dd))) := fun e w' => Iff.rfl
  have HMB : Hid (Moves B B w W0) := Moves.of_kept (Kept.of_below b0)
  unfold WoOut at HWO
  generalize outF l d g.sh = D0 at *
  have HF := hid hf
  have HNUM := hid hnum
  clear hP hlook hold hfr hS hd hl hf hnum hyes
  go_enter Tryz.func16, Tryz.ntmps16
  go_upto_region 4 with fail
  rw [← HW0.out]
  go_wp2_with fail
  refine HWO.out.mono ?_
  rintro e w1 (⟨rfl, hfc, B1, hS1, hm1⟩ | ⟨rfl, hfc, dd, hfe, hfs⟩)
  case inr =>
    have HFE := hid (Fell.trans HMB.out hfe)
    have HFS := hid hfs
    go_wp2
    go_ret
    exact (HWR.out _ _).2 (.inr ⟨rfl, hfc, dd, HFE.out, HFS.out⟩)
  have m1 := hm1.off (r := w.heap.size) kf.lt (nS _ (Nat.le_refl _)).2
  have kf1 := kf.same m1.1
  have hst1 := hst0.same (w' := w1) (hS0.still hm1) hm1.1.size
  obtain ⟨W2, HW2⟩ : ∃ W2, Hid (W2 = w1.setCell ⟨w.heap.size, 5, none⟩ (.int .u64 0)) := ⟨_, rfl⟩
  have k2 : ∀ k, k ≠ w.heap.size → W2.heap[k]? = w1.heap[k]? := fun k hk => by rw [HW2.out]; exact Below.heap_setCell _ _ _ _ hk
  have s2 : w1.heap.size = W2.heap.size := by rw [HW2.out]; simp
  have hSx : ∀ k, S k → k ≠ w.heap.size := fun k x e => (nS k (by omega)).1 x
  have hBx : ∀ k, B1 k → k ≠ w.heap.size := fun k x e => m1.2 (e ▸ x)
  have hS2 := hS1.same (w' := W2) (fun k x => k2 k (hSx k x)) (fun k x => k2 k (hBx k x)) (by omega)
  have hst2 := hst1.same (w' := W2) (fun k x => k2 k (hSx k x)) (by omega)
  have kf2 : Blk W2 w.heap.size (frArr ⟨g.sh, 0⟩ ga gc) 108 := by rw [HW2.out]; exact kf1.set 5 _
  obtain ⟨fb2, u, hc3, hrun, hS3, hk3, hfb⟩ := hS2.reFr h1 h2 HF.out ga gc 0 hst2 (by omega) hz
  have z0 : W2.cell? ⟨w.heap.size, 0, none⟩ = some (.int .u32 g.sh.num) := kf2.cell 0
  have z1 : W2.cell? ⟨w.heap.size, 1, none⟩ = some (.int .u64 g.sh.lsn) := kf2.cell 1
  have z2 : W2.cell? ⟨w.heap.size, 2, none⟩ = some (.int .i64 g.sh.kind) := kf2.cell 2
  have z3 : W2.cell? ⟨w.heap.size, 3, none⟩ = some (.string g.sh.head) := kf2.cell 3
  have z4 : W2.cell? ⟨w.heap.size, 4, none⟩ = some (.slice ga g.sh.slots.length gc) := kf2.cell 4
  have z5 : W2.cell? ⟨w.heap.size, 5, none⟩ = some (.int .u64 0) := kf2.cell 5
  unfold frArr at hrun
  simp only at hrun
  rw [show ((0 : Nat) : Int) = 0 from rfl] at hrun
  obtain ⟨w3, HW3⟩ : ∃ w3, Hid (w3 = u W2.drew) := ⟨_, rfl⟩
  rw [← HW3.out] at hS3 hk3 hrun
  have hc6 : w3.cell? ⟨p, 6, none⟩ = some (.int .i64 P.written) := by
    obtain ⟨_, _, hC⟩ := hS3.pcells
    exact hC.c6
  have hf6 : w3.frozen? ⟨p, 6, none⟩ = false := by
    obtain ⟨_, _, hC⟩ := hS3.pcells
    exact hC.fr 6
  have hcl := hS3.cell (P' := wrP P n g) 6 (.int .i64 ((P.written + 1 : Nat) : Int)) (fun fb pv => by unfold wrP pvals; rfl) rfl rfl rfl rfl rfl
  obtain ⟨hS4, hSp⟩ := hcl
  have hin : ((P.written + 1 : Nat) : Int) = (P.written : Int) + 1 := by omega
  rw [hin] at hS4
  have f5 := kf1.frozen 5
  have w5 : w1.cell? ⟨w.heap.size, 5, none⟩ = some (.int .u64 g.since) := kf1.cell 5
  have HS4 := hid hS4
  have HK4 : Hid (Kept (fun k => k = w.heap.size ∨ S k) w1 (w3.setCell ⟨p, 6, none⟩ (.int .i64 ((P.written : Int) + 1)))) := by
    have a1 : Kept (fun k => k = w.heap.size ∨ S k) w1 W2 := by rw [HW2.out]; exact Kept.setCell _ _ _ _ _ (.inl rfl)
    exact (a1.trans (hk3.mono fun k e => by subst e; exact .inr hfb)).trans (Kept.setCell _ _ _ _ _ (.inr hSp))
  have HM1 := hid hm1
  clear y0 y1 y2 y3 y4 y5 hS1 hS2 hS3 hS4 hm1 HWO hS0 hst0 hst1 hst2 kf kf1 kf2 hin HW0
  go_upto_region 10 with fail
  rw [← HW2.out]
  clear f5 w5
  go_region
  go_wp2
  go_ret
  refine (HWR.out _ _).2 (.inl ⟨rfl, hfc, B1, HS4.out, ?_⟩)
  have hm := HM1.out
  have hk := HK4.out
  refine ⟨⟨hk.os.trans (hm.1.os.trans b0.os), hk.tape.trans (hm.1.tape.trans b0.tape), hk.output.trans (hm.1.output.trans b0.output), Nat.le_trans b0.size (Nat.le_trans hm.1.size hk.size), fun k hk1 hk2 => ?_⟩, ?_⟩
  · have e1 := b0.block k hk1
    have e2 := hm.off (r := k) (by have := b0.size; omega) fun x => hk2 (.inr x)
    refine (hk.block k (by have := b0.size; have := hm.1.size; omega) ?_).trans (e2.1.trans e1)
    rintro (x | x)
    · omega
    · exact hk2 (.inl x)
  · rintro k (x | x)
    · exact .inl (.inl x)
    · rcases hm.2 k x with y | y
      · exact .inl (.inr y)
      · exact .inr (by have := b0.size; omega)

end Go.Proofs.YtgmfgkdecpldeaaGreat

namespace Go.Proofs.YtgmfgkdecpldeaaGreat
open Go.RowKit Go.Sort Go.Shelf
set_option linter.unusedVariables false
set_option linter.unusedSimpArgs false

def noS : ByteArray := ⟨#[]⟩

/-- The page 2 and its twin: nothing was written, or the page that holds last. -/
def OldD (d : DG) (last : ByteArray) (lim : Nat) : Prop :=
  (last = noS ∧ d.sure 2 = zerosS ∧ d.sure 2050 = zerosS) ∨ ∃ Y : SheetV, Y.Fits ∧ Y.num = 2 ∧ Y.lsn ≠ 0 ∧ Y.lsn ≤ lim ∧ Y.slots = [last] ∧ d.sure 2 = ⟨(encL Y).toArray⟩ ∧ d.sure 2050 = ⟨(encL Y).toArray⟩

structure FI (P : PG) (l : LG) (d : DG) (f : FG) (last : ByteArray) (K : Nat) : Prop where
  most : P.most = 4
  z : P.z ≤ 1
  wr : P.written ≤ K
  z0 : P.F 2 = none → P.z = 0
  dfk : DFk d f (10 * K)
  room : d.room = 8
  lok : LOk l d
  fl : l.flushed = l.bytes.length
  kept : l.kept = 0
  len : l.bytes.length ≤ 100 * K
  st : l.starts.length ≤ K
  old : OldD d last l.bytes.length

/-- A disk from which the page 2 is read as it was put last, or as it was to be put. -/
structure GoodD (d : DG) (last next : ByteArray) : Prop where
  ch : chE 2 (d.sure 2) (d.sure 2050) = 0
  sl : (last = noS ∧ (chX 2 (d.sure 2) (d.sure 2050)).slots = []) ∨ (chX 2 (d.sure 2) (d.sure 2050)).slots = [last] ∨ (chX 2 (d.sure 2) (d.sure 2050)).slots = [next]
  fr : ∀ q, d.fresh q = none
  sz : ∀ q, (d.sure q).size = 512
  room : d.room = 8
  log : d.log.length ≤ 4194304
  calls : d.calls ≤ 50000

theorem fail_size {f : FG} {d : DG} (h : ∀ x ∈ d.loose, x.page ≠ 0 → x.s.size = 512) (hs : ∀ q, (d.sure q).size = 512) (q : Nat) : ((failD f d).sure q).size = 512 := by
  have : ∀ n, ∀ q, ((failTo f d.loose (d.sure, d.sm) n).1 q).size = 512 := by
    intro n
    induction n with
    | zero => exact hs
    | succ n ih =>
      intro q
      cases e : d.loose[n]? with
      | none => simp only [failTo, e]; exact ih q
      | some x =>
        rw [failTo_succ e]
        have hx := h x (List.mem_of_getElem? e)
        unfold failStep
        split
        · unfold keepPartF
          split
          · exact ih q
          · rename_i h0
            show (if q = x.page then _ else _ : ByteArray).size = 512
            split
            · exact mix_size (tornN_le _) (hx h0) (ih _)
            · exact ih q
        · split
          · unfold keepF
            split
            · exact ih q
            · rename_i h0
              show (if q = x.page then _ else _ : ByteArray).size = 512
              split
              · exact hx h0
              · exact ih q
          · exact ih q
  exact this _ q

theorem OldD.two {d : DG} {last : ByteArray} {lim : Nat} (h : OldD d last lim) {X : SheetV} (hX : X.Fits) (nX : X.num = 2) (hl : lim < X.lsn) : ∃ O, Old 2 X O (d.sure 2) ∧ Old 2 X O (d.sure (2 + 2048)) ∧ ((last = noS ∧ O.slots = []) ∨ O.slots = [last]) := by
  rcases h with ⟨e, a, b⟩ | ⟨Y, y1, y2, y3, y4, y5, a, b⟩
  · refine ⟨blankN 2, ?_, ?_, .inl ⟨e, rfl⟩⟩
    · rw [a]; exact old_zeros hX nX (by omega)
    · rw [b]; exact old_zeros hX nX (by omega)
  · refine ⟨Y, ?_, ?_, .inr y5⟩
    · rw [a]; exact old_enc hX y1 nX y2 (by omega) (by omega) y3
    · rw [b]; exact old_enc hX y1 nX y2 (by omega) (by omega) y3

theorem OldD.now {d : DG} {last : ByteArray} {lim : Nat} (h : OldD d last lim) : chE 2 (d.sure 2) (d.sure 2050) = 0 ∧ ((last = noS ∧ (chX 2 (d.sure 2) (d.sure 2050)).slots = []) ∨ (chX 2 (d.sure 2) (d.sure 2050)).slots = [last]) := by
  rcases h with ⟨e, a, b⟩ | ⟨Y, y1, y2, y3, y4, y5, a, b⟩
  · obtain ⟨r1, r2⟩ := rd_blank (n := 2) dec_zeros.1 dec_zeros.2
    obtain ⟨c1, c2⟩ := ch_two (n := 2) (X := blankN 2) (O := blankN 2) (s := zerosS) (t := zerosS) (.inl ⟨r1, .inl r2⟩) (.inl ⟨r1, .inl r2⟩) (.inl r1)
    rw [a, b]
    refine ⟨c1, .inl ⟨e, ?_⟩⟩
    rcases c2 with c2 | c2 <;> (rw [c2]; rfl)
  · obtain ⟨r1, r2⟩ := rd_enc y1 y2
    obtain ⟨c1, c2⟩ := ch_two (n := 2) (X := Y) (O := Y) (s := ⟨(encL Y).toArray⟩) (t := ⟨(encL Y).toArray⟩) (.inl ⟨r1, .inl r2⟩) (.inl ⟨r1, .inl r2⟩) (.inl r1)
    rw [a, b]
    refine ⟨c1, .inr ?_⟩
    rcases c2 with c2 | c2 <;> (rw [c2]; exact y5)

section
variable {P : PG} {l : LG} {d dd : DG} {f : FG} {last : ByteArray} {K : Nat}

theorem FI.lok' (h : FI P l d f last K) (hK : K ≤ 100) : LOk (putG l recT) d := by
  have h1 := h.len
  have h2 := putG_len l
  have h3 := h.lok
  have h4 := h.lok.fl
  exact ⟨h3.half, by rw [h2]; show l.flushed ≤ _; omega, by rw [h2]; omega, h3.at'⟩

/-- The page that is put. -/
def newX (l : LG) (s : ByteArray) : SheetV := ⟨2, l.bytes.length + 1, 2, ⟨#[]⟩, [s]⟩

theorem newX_fits (h : FI P l d f last K) (hK : K ≤ 100) {s : ByteArray} (hs : s.size ≤ 201) : (newX l s).Fits := by
  have h1 := h.len
  exact ⟨by show 2 < _; omega, by show l.bytes.length + 1 < _; omega, by show (0 : Int) ≤ 2; omega, by show (2 : Int) ≤ 255; omega, by show 0 ≤ 32; omega, by show 1 ≤ 64; omega, by show 0 + (2 + s.size + 0) ≤ 485; omega⟩

theorem FI.good (h : FI P l d f last K) (hK : K ≤ 100) (g : FG) (next : ByteArray) : GoodD (failD g { d with plan := [] }) last next := by
  have hs := fail_none (f := g) h.dfk.no
  obtain ⟨c1, c2⟩ := h.old.now
  have h1 := h.len
  have h2 := h.lok.at'
  have h3 := h.dfk.calls
  refine ⟨by rw [hs]; exact c1, ?_, fun _ => rfl, fun q => by rw [hs]; exact h.dfk.ok.sure q, h.room, ?_, by show d.calls ≤ _; omega⟩
  · rw [hs]
    rcases c2 with c2 | c2
    · exact .inl c2
    · exact .inr (.inl c2)
  · show (d.log.take _).length ≤ _
    rw [List.length_take]
    have := h.fl
    omega

theorem FI.fell (h : FI P l d f last K) (hK : K ≤ 100) {s : ByteArray} (hs : s.size ≤ 201) (hd : FallSt (putG l recT) d (newX l s) dd) : GoodD (failD f { dd with plan := [] }) last s := by
  have hF := newX_fits h hK hs
  obtain ⟨O, o1, o2, o3⟩ := h.old.two hF rfl (Nat.lt_succ_self _)
  have hE := encS_of hF
  obtain ⟨c1, c2⟩ := fell_two (n := 2) h.dfk hF rfl (by omega) hE o1 o2 hd
  rw [show 2 + 2048 = 2050 from rfl] at c1 c2
  have h1 := h.len
  have h2 := h.lok.at'
  have h3 := h.dfk.calls
  have h4 := h.fl
  have h5 := putG_len l
  have h512 : (encS (newX l s)).size = 512 := by rw [hE]; exact enc_size _ hF
  have ht : (d.log ++ (tailB (putG l recT)).data.toList).length = l.bytes.length + 18 := by
    unfold tailB
    simp only [List.length_append, List.length_drop]
    rw [h5, h2]
    show l.flushed + (l.bytes.length + 18 - l.flushed) = _
    omega
  have hlog : dd.log.length ≤ 4194304 ∧ dd.calls ≤ 50000 ∧ dd.room = 8 ∧ (∀ x ∈ dd.loose, x.page ≠ 0 → x.s.size = 512) ∧ ∀ q, (dd.sure q).size = 512 := by
    have hn := h.dfk.no
    have hsu := h.dfk.ok.sure
    have hws : ∀ r, (wsD (flushD (putG l recT) d) (ord1 d 2) (encS (newX l s))).sure r = if r = ord1 d 2 then encS (newX l s) else d.sure r := fun r => by
      have := wsD_keep (d := flushD (putG l recT) d) hn (q := ord1 d 2) (by unfold ord1; split <;> omega) (encS (newX l s))
      show (keepTo _ _ _).1 r = _
      rw [this]
      rfl
    have hwz : ∀ r, ((wsD (flushD (putG l recT) d) (ord1 d 2) (encS (newX l s))).sure r).size = 512 := fun r => by
      rw [hws]
      split
      · exact h512
      · exact hsu r
    have hno : ∀ x ∈ d.loose, x.page ≠ 0 → x.s.size = 512 := by rw [hn]; intro x hx; cases hx
    rcases hd with rfl | rfl | rfl | rfl | rfl | rfl
    · exact ⟨by omega, by omega, h.room, hno, hsu⟩
    · exact ⟨by show (d.log ++ (tailB (putG l recT)).data.toList).length ≤ _; omega, by show d.calls + 1 ≤ _; omega, h.room, hno, hsu⟩
    · exact ⟨by show (d.log ++ (tailB (putG l recT)).data.toList).length ≤ _; omega, by show d.calls + 1 + 1 ≤ _; omega, h.room, hno, hsu⟩
    · refine ⟨by show (d.log ++ (tailB (putG l recT)).data.toList).length ≤ _; omega, by show d.calls + 1 + 1 + 1 ≤ _; omega, h.room, ?_, hsu⟩
      intro x hx _
      have hx' : x ∈ d.loose ++ [(⟨ord1 d 2, encS (newX l s), 0⟩ : LW)] := hx
      rw [hn] at hx'
      simp at hx'
      rw [hx']
      exact h512
    · exact ⟨by show (d.log ++ (tailB (putG l recT)).data.toList).length ≤ _; omega, by show d.calls + 1 + 1 + 1 + 1 ≤ _; omega, h.room, (by intro x hx; cases hx), hwz⟩
    · refine ⟨by show (d.log ++ (tailB (putG l recT)).data.toList).length ≤ _; omega, by show d.calls + 1 + 1 + 1 + 1 + 1 ≤ _; omega, h.room, ?_, hwz⟩
      intro x hx _
      have hx' : x ∈ ([] : List LW) ++ [(⟨ord2 d 2, encS (newX l s), 0⟩ : LW)] := hx
      simp at hx'
      rw [hx']
      exact h512
  obtain ⟨g1, g2, g3, g4, g5⟩ := hlog
  refine ⟨c1, ?_, fun _ => rfl, fun q => fail_size g4 g5 q, g3, ?_, g2⟩
  · rcases c2 with c2 | c2
    · exact .inr (.inr (by rw [c2]; rfl))
    · rcases o3 with ⟨a, b⟩ | a
      · exact .inl ⟨a, by rw [c2]; exact b⟩
      · exact .inr (.inl (by rw [c2]; exact a))
  · show (dd.log.take _).length ≤ _
    rw [List.length_take]
    omega

/-- Behind Write, the power still on. -/
theorem FI.next (h : FI P l d f last K) (hK : K ≤ 100) {s : ByteArray} (hs : s.size ≤ 201) (hc : (d.calls : Int) + 6 ≤ f.call) {fr : FrV} :
    FI (wrP (putP P (newX l s)) 2 fr) { putG l recT with flushed := (putG l recT).bytes.length } (outF (putG l recT) d (newX l s)) f s (K + 1) := by
  have hF := newX_fits h hK hs
  have hE := encS_of hF
  have h1 := h.len
  have h2 := h.lok.at'
  have h3 := h.dfk.calls
  have h4 := h.fl
  have h5 := putG_len l
  have h6 := h.st
  have h7 := h.wr
  have h8 := h.z
  have h512 : (encS (newX l s)).size = 512 := by rw [hE]; exact enc_size _ hF
  have ht : (d.log ++ (tailB (putG l recT)).data.toList).length = l.bytes.length + 18 := by
    unfold tailB
    simp only [List.length_append, List.length_drop]
    rw [h5, h2]
    show l.flushed + (l.bytes.length + 18 - l.flushed) = _
    omega
  have hlo := h.lok' hK
  obtain ⟨k1, k2, k3⟩ := h.dfk.flush hlo (by omega)
  obtain ⟨or1, or2⟩ := ord_range (d := d) (n := 2) (by omega) (by omega)
  have hcc : ((flushD (putG l recT) d).calls : Int) = (d.calls : Int) + 2 := by show ((d.calls + 1 + 1 : Nat) : Int) = _; omega
  obtain ⟨k4, k5⟩ := k1.ws (by omega) or1.1 h512 (by rw [hcc]; omega)
  have hc2 : ((wsD (flushD (putG l recT) d) (ord1 d 2) (encS (newX l s))).calls : Int) = (d.calls : Int) + 4 := by show (((flushD (putG l recT) d).calls + 1 + 1 : Nat) : Int) = _; omega
  obtain ⟨k6, k7⟩ := k4.ws (by omega) or2.1 h512 (by rw [hc2]; omega)
  have hO : (ord1 d 2 = 2 ∧ ord2 d 2 = 2050) ∨ (ord1 d 2 = 2050 ∧ ord2 d 2 = 2) := by
    unfold ord1 ord2
    split
    · exact .inl ⟨rfl, rfl⟩
    · exact .inr ⟨rfl, rfl⟩
  have hsu : ∀ r, (outF (putG l recT) d (newX l s)).sure r = if r = ord2 d 2 then encS (newX l s) else if r = ord1 d 2 then encS (newX l s) else readD (flushD (putG l recT) d) r := fun r => by
    have a := k7 r
    rw [k5 r] at a
    have b := k6.read r
    exact b.symm.trans a
  refine ⟨h.most, ?_, by show P.written + 1 ≤ _; omega, fun x => ?_, ⟨k6.up, k6.np, k6.due, k6.kp, k6.ok, k6.no, k6.fr, k6.nf, by have := k6.calls; exact Nat.le_trans this (by omega), by have := k6.ns; exact Nat.le_trans this (by omega)⟩, h.room, ⟨hlo.half, Nat.le_refl _, hlo.most, ?_⟩, rfl, h.kept, by show (putG l recT).bytes.length ≤ _; omega, ?_, ?_⟩
  · show (if (P.F 2).isSome = true then P.z else P.z + 1) ≤ 1
    split
    · exact h8
    · rename_i hx
      have : P.F 2 = none := by simpa using hx
      have := h.z0 this
      omega
  · exfalso
    have : (wrP (putP P (newX l s)) 2 fr).F 2 = some ⟨fr.sh, 0⟩ := by unfold wrP setFr; simp
    rw [this] at x
    cases x
  · show (d.log ++ (tailB (putG l recT)).data.toList).length = (putG l recT).bytes.length
    omega
  · show (l.starts ++ [_]).length ≤ K + 1
    rw [List.length_append, List.length_singleton]
    omega
  · refine .inr ⟨newX l s, hF, rfl, Nat.succ_ne_zero _, by show l.bytes.length + 1 ≤ (putG l recT).bytes.length; omega, rfl, ?_, ?_⟩
    · rw [hsu, ← hE]
      rcases hO with ⟨a, b⟩ | ⟨a, b⟩
      · rw [a, b, if_neg (by omega), if_pos rfl]
      · rw [a, b, if_pos rfl]
    · rw [hsu, ← hE]
      rcases hO with ⟨a, b⟩ | ⟨a, b⟩
      · rw [a, b, if_pos rfl]
      · rw [a, b, if_neg (by omega), if_pos rfl]

end

end Go.Proofs.YtgmfgkdecpldeaaGreat

namespace Go.Proofs.YtgmfgkdecpldeaaGreat
open Go.RowKit
set_option linter.unusedVariables false

/-- A slice of len texts, that of place i is A i. -/
def IsStrs (w : World) (a : Option Addr) (len : Nat) (A : Nat → ByteArray) : Prop :=
  len ≤ maxLen ∧ (len = 0 ∨ ∃ b o, a = some ⟨b, o, none⟩ ∧ b < w.heap.size ∧ ∀ i, i < len → w.cell? ⟨b, o + i, none⟩ = some (.string (A i)) ∧ (A i).size ≤ maxLen)

theorem cellsStr : Tryz.prog.cellsOf 9 = 1 := by kernel_rfl

theorem open_strs {H : Type} {enc : TypeId × Value → H} {w : World} {base : Nat} {spare : Nat → Bool} {held : Bool} {a : Option Addr} {len cap : Nat} {d : DataW H} {pl : List MemPlace}
    (h : DataW.Trod enc Tryz.prog w base spare held 43 (.slice a len cap) d pl) : ∃ A : Nat → ByteArray, IsStrs w a len A := by
  obtain ⟨fuel, hf⟩ := h
  rcases Go.ChangeShapes.open_strings Tryz.underlying43 Tryz.underlying9 cellsStr hf with ⟨hcs, _⟩ | ⟨a', len', cap', ss, hcs, _, hl, hm, hss, _, hc, hz⟩
  · simp [Value.cells] at hcs
    obtain ⟨rfl, rfl, rfl⟩ := hcs
    exact ⟨fun _ => ByteArray.empty, by unfold maxLen; omega, .inl rfl⟩
  · simp [Value.cells] at hcs
    obtain ⟨rfl, rfl, rfl⟩ := hcs
    have hlm : len ≤ ss.length := by rw [hss]; split <;> omega
    refine ⟨fun i => ss.getD i ByteArray.empty, by omega, ?_⟩
    by_cases h0 : len = 0
    · exact .inl h0
    · right
      have hc0 := hc 0 (by omega)
      obtain ⟨b, o, sp⟩ := a'
      cases sp with
      | some z => simp [Addr.add, World.cell?] at hc0; split at hc0 <;> simp_all
      | none =>
        refine ⟨b, o, rfl, World.block_lt_of_cell? w _ hc0, fun i hi => ⟨?_, ?_⟩⟩
        · have := hc i (by omega)
          rw [Addr.add_lit] at this
          exact this
        · apply hz
          show ss.getD i ByteArray.empty ∈ ss
          rw [List.getD_eq_getElem?_getD, List.getElem?_eq_getElem (by omega)]
          exact List.getElem_mem _

end Go.Proofs.YtgmfgkdecpldeaaGreat

namespace Go.Proofs.YtgmfgkdecpldeaaGreat
open Go.RowKit Go.Sort Go.Shelf
set_option linter.unusedVariables false
set_option linter.unusedSimpArgs false

theorem bel_kept {w W W' : World} {S : Nat → Prop} (h : Below w.heap.size w W) (k : Kept S W W') (hs : ∀ i, S i → w.heap.size ≤ i) : Below w.heap.size w W' :=
  ⟨k.os.trans h.os, k.tape.trans h.tape, k.output.trans h.output, Nat.le_trans h.size k.size, fun i hi => (k.block i (by have := h.size; omega) fun x => by have := hs i x; omega).trans (h.block i hi)⟩

/-- Where PoolFalls stands, the power on. -/
structure FpM (w W : World) (p dp lp : Nat) (A : Nat → Prop) (P : PG) (l : LG) (d : DG) (f : FG) : Prop where
  sys : Sys W p A P l d
  dp' : P.dp = dp
  lp' : P.lp = lp
  new : ∀ k, A k → w.heap.size < k
  bel : Below w.heap.size w W
  box : Blk W w.heap.size (fcells f).toArray 38

/-- The disk alone. -/
structure FpE (w W : World) (dp : Nat) (D : Nat → Prop) (d : DG) (f : FG) : Prop where
  disk : IsDisk W dp D d
  plan : d.plan = []
  new : ∀ k, D k → w.heap.size < k
  bel : Below w.heap.size w W
  box : Blk W w.heap.size (fcells f).toArray 38

section
variable {w W W' : World} {p dp lp K : Nat} {A D : Nat → Prop} {P : PG} {l : LG} {d : DG} {f : FG} {last next s : ByteArray}

theorem FpM.below (h : FpM w W p dp lp A P l d f) (b : Below W.heap.size W W') : FpM w W' p dp lp A P l d f :=
  ⟨h.sys.below b, h.dp', h.lp', h.new, below_chain h.bel b, h.box.same (b.block _ h.box.lt)⟩

theorem FpE.below (h : FpE w W dp D d f) (b : Below W.heap.size W W') : FpE w W' dp D d f :=
  ⟨h.disk.below b, h.plan, h.new, below_chain h.bel b, h.box.same (b.block _ h.box.lt)⟩

theorem FpM.moved (h : FpM w W p dp lp A P l d f) {A' : Nat → Prop} {P' : PG} {l' : LG} {d' : DG} (hs : Sys W' p A' P' l' d') (hm : Moves A A' W W') (e1 : P'.dp = P.dp) (e2 : P'.lp = P.lp) : FpM w W' p dp lp A' P' l' d' f := by
  have hz := h.box.lt
  refine ⟨hs, e1.trans h.dp', e2.trans h.lp', fun k x => ?_, bel_kept h.bel hm.1 fun i x => Nat.le_of_lt (h.new i x), h.box.same (hm.1.block _ hz fun x => by have := h.new _ x; omega)⟩
  rcases hm.2 k x with y | y
  · exact h.new k y
  · omega

theorem FpE.moved (h : FpE w W dp D d f) {D' : Nat → Prop} {d' : DG} (hd : IsDisk W' dp D' d') (hp : d'.plan = []) (hm : Moves D D' W W') : FpE w W' dp D' d' f := by
  have hz := h.box.lt
  refine ⟨hd, hp, fun k x => ?_, bel_kept h.bel hm.1 fun i x => Nat.le_of_lt (h.new i x), h.box.same (hm.1.block _ hz fun x => by have := h.new _ x; omega)⟩
  rcases hm.2 k x with y | y
  · exact h.new k y
  · omega

theorem fp_calls (h : FpM w W p dp lp A P l d f) : Calls Tryz.prog 12 #[.pointer (some ⟨dp, 0, none⟩)] W fun x w' => x = .returned (.int .i64 d.calls) ∧ w' = W := by
  obtain ⟨D, hD, _⟩ := h.sys.disk
  rw [h.dp'] at hD
  obtain ⟨m, hM, _⟩ := hD
  exact calls_any hM.blk.cells

theorem FpM.set (h : FpM w W p dp lp A P l d f) (v : Int) : FpM w (W.setCell ⟨w.heap.size, 0, none⟩ (.int .i64 v)) p dp lp A P l d { f with call := v } := by
  have hk : ∀ k, w.heap.size < k → (W.setCell ⟨w.heap.size, 0, none⟩ (.int .i64 v)).heap[k]? = W.heap[k]? := fun k x => Below.heap_setCell _ _ _ _ (by show k ≠ w.heap.size; omega)
  refine ⟨h.sys.same (fun k x => hk k (h.new k x)) (by simp), h.dp', h.lp', h.new, ?_, ?_⟩
  · exact bel_kept h.bel (Kept.setCell (fun k => k = w.heap.size) _ _ _ _ rfl) (fun i x => by omega)
  · have := h.box.set 0 (.int .i64 v)
    exact this

/-- The plan is laid. -/
theorem fp_plan1 (h : FpM w W p dp lp A P l d f) (hc : (d.calls : Int) ≤ f.call) {V : World} (hV : V = W.alloc (.cells (fcells f).toArray 38)) :
    Calls Tryz.prog 13 #[.pointer (some ⟨dp, 0, none⟩), .slice (some ⟨W.heap.size, 0, none⟩) 1 1] V fun e w' => e = .returned (.tuple #[]) ∧
      ∃ A', FpM w w' p dp lp A' P l { d with plan := [f] } f := by
  subst hV
  have b : Below W.heap.size W (W.alloc (.cells (fcells f).toArray 38)) := (Below.refl _ _).alloc (Nat.le_refl _) _
  have h' := h.below b
  obtain ⟨D, hD, hDA, hst⟩ := h'.sys.disk
  rw [h.dp'] at hD hst
  refine (plan_one hD f hc (g := W.heap.size) (o := 0) (c := 1) (fun j u hj => ?_) (by simp) (fun x => by have := h.sys.lt _ (hDA _ x); omega)).mono ?_
  · have := (Blk.made W (fcells f).toArray 38).cell j
    rw [Nat.zero_add, this]
    simpa using hj
  · rintro e w' ⟨rfl, D', hd', hm⟩
    obtain ⟨A', hs, hmA⟩ := hst w' D' _ hd' hm
    exact ⟨rfl, A', h'.moved hs hmA rfl rfl⟩

theorem fi_start (dp lp : Nat) (f : FG) (h0 : 0 ≤ f.call) (hk : f.keep < 18446744073709551616) : FI (pool0 dp lp 4) (log0 dp) { newD 8 with plan := [f] } f noS 0 :=
  ⟨rfl, by show 0 ≤ 1; omega, Nat.le_refl _, fun _ => rfl, ⟨rfl, rfl, h0, hk, ⟨(fun x hx => by cases hx), (fun q => zerosS_size), by show 0 + 0 ≤ _; omega, by show 0 ≤ _; omega, Nat.le_refl _⟩, rfl, (fun q => rfl), by show 0 ≤ 10; omega, Nat.le_refl _, Nat.le_refl _⟩, rfl, ⟨rfl, Nat.le_refl _, by show 0 ≤ _; omega, rfl⟩, rfl, rfl, Nat.le_refl _, Nat.le_refl _, .inl ⟨rfl, rfl, rfl⟩⟩

theorem fp_append (h : FpM w W p dp lp A P l d f) (hi : FI P l d f last K) (hK : K ≤ 100) :
    Calls Tryz.prog 14 #[.pointer (some ⟨lp, 0, none⟩), .string ⟨#[114, 101, 99, 111, 114, 100]⟩] W fun e w' => e = .returned (.tuple #[.int .u64 ((l.bytes.length + 1 : Nat) : Int), .int .i64 0]) ∧ ∃ A', FpM w w' p dp lp A' P (putG l recT) d f := by
  have h1 := hi.len
  have h2 := hi.st
  have h3 := hi.kept
  have hsz : recT.size = 6 := rfl
  have := sys_append h.sys (by omega) (by omega) (by omega) recT (by omega) (by omega) (by omega)
  rw [h.lp'] at this
  refine this.mono ?_
  rintro e w' ⟨rfl, A', hs, hm⟩
  exact ⟨rfl, A', h.moved hs hm rfl rfl⟩

theorem fp_put (h : FpM w W p dp lp A P (putG l recT) d f) (hi : FI P l d f last K) (hK : K ≤ 100) (hs : s.size ≤ 201) {b : Nat} (hb : StrsAt W (some ⟨b, 0, none⟩) [s]) (hA : ¬ A b) (c : Nat) :
    Calls Tryz.prog 15 #[.pointer (some ⟨p, 0, none⟩), (newX l s).val (some ⟨b, 0, none⟩) c] W fun e w' => e = .returned (.int .i64 0) ∧ ∃ A', FpM w w' p dp lp A' (putP P (newX l s)) (putG l recT) d f := by
  have hF := newX_fits hi hK hs
  have hz := hi.z
  have hmo := hi.most
  refine (poolPut_any (P1 := P) (l1 := putG l recT) (d1 := d) h.sys (newX l s) (some ⟨b, 0, none⟩) c (hF.ok hb) (fun b' o e => by cases e; exact hA) (by show 1 ≤ 2; omega) (by show 2 ≤ 2048; omega) (encE_of hF) (fun x => ⟨room_roomy (by omega) (by omega), x⟩) (fun _ => ⟨rfl, rfl, rfl⟩) (by omega)).mono ?_
  rintro e w' ⟨rfl, A', hs', hm⟩
  exact ⟨rfl, A', h.moved hs' hm rfl rfl⟩

/-- What Write leaves. -/
def FwOut (w : World) (p dp lp K : Nat) (f : FG) (last s : ByteArray) (e : Ending) (w' : World) : Prop :=
  (e = .returned (.int .i64 0) ∧ ∃ A P l d, FpM w w' p dp lp A P l d f ∧ FI P l d f s (K + 1)) ∨
  (e = .returned (.int .i64 7) ∧ ∃ D d, FpE w w' dp D d f ∧ d.dead = true ∧ GoodD d last s)

theorem fp_write (h : FpM w W p dp lp A (putP P (newX l s)) (putG l recT) d f) (hi : FI P l d f last K) (hK : K ≤ 100) (hs : s.size ≤ 201) :
    Calls Tryz.prog 16 #[.pointer (some ⟨p, 0, none⟩), .int .u32 2] W (FwOut w p dp lp K f last s) := by
  obtain ⟨S, B, hS, hSB⟩ := h.sys.dev
  have hF := newX_fits hi hK hs
  have hz := hi.z
  have hw := hi.wr
  have h4 := hi.fl
  have h5 := putG_len l
  have hlen := hi.len
  have hf : (putP P (newX l s)).F 2 = some ⟨newX l s, sinceF (oldS P 2) (l.bytes.length + 1)⟩ := by unfold putP setFr; simp [newX]
  have hsn : sinceF (oldS P 2) (l.bytes.length + 1) ≠ 0 := by
    unfold sinceF
    split
    · omega
    · assumption
  have hzz : (putP P (newX l s)).z ≤ 1000000 := by
    show (if (P.F 2).isSome = true then P.z else P.z + 1) ≤ _
    split <;> omega
  have hz' := h.box.lt
  refine (write_fall hS hi.dfk (by omega) (hi.lok' hK) 2 (by omega) (by omega) hf hsn (by rw [hi.room]; rfl) hzz (by show P.written ≤ _; omega) (by rw [h5]; show l.flushed < _; omega) (by show l.flushed + 1 ≤ l.bytes.length + 1; omega)).mono ?_
  rintro e w' (⟨rfl, hfc, B', hS', hm⟩ | ⟨rfl, hfc, dd, hfe, hfs⟩)
  · have hm' : Moves A (fun k => S k ∨ B' k) W w' := ⟨hm.1.mono hSB, fun k x => by
      rcases hm.2 k x with y | y
      · exact .inl (hSB k y)
      · exact .inr y⟩
    exact .inl ⟨rfl, _, _, _, _, h.moved hS'.sys hm' rfl rfl, hi.next hK hs hfc⟩
  · obtain ⟨⟨D, hD, hDn⟩, hk⟩ := hfe
    have hdp : (putP P (newX l s)).dp = dp := h.dp'
    rw [hdp] at hD
    refine .inr ⟨rfl, D, _, ⟨hD, rfl, fun k x => ?_, bel_kept h.bel hk fun i x => Nat.le_of_lt (h.new i (hSB i (.inr x))), h.box.same (hk.block _ hz' fun x => by have := h.new _ (hSB _ (.inr x)); omega)⟩, rfl, hi.fell hK hs hfs⟩
    rcases hDn k x with y | y
    · exact h.new k (hSB k (.inr y))
    · omega

/-- Behind the loop. -/
def FpL (w W : World) (p dp lp : Nat) (f : FG) (last next : ByteArray) : Prop :=
  (∃ A P l d K, K ≤ 100 ∧ FpM w W p dp lp A P l d f ∧ FI P l d f last K) ∨ (∃ D d, FpE w W dp D d f ∧ d.dead = true ∧ GoodD d last next)

/-- Behind Plan(nil). -/
def FpN (w W : World) (dp : Nat) (f : FG) (last next : ByteArray) : Prop :=
  ∃ D d, FpE w W dp D d f ∧ ((d.dead = true ∧ GoodD d last next) ∨ (d.dead = false ∧ d.ok ∧ ∀ g, GoodD (failD g d) last next))

theorem fp_plan0 (h : FpL w W p dp lp f last next) :
    Calls Tryz.prog 13 #[.pointer (some ⟨dp, 0, none⟩), .slice none 0 0] W fun e w' => e = .returned (.tuple #[]) ∧ FpN w w' dp f last next := by
  rcases h with ⟨A, P, l, d, K, hK, h, hi⟩ | ⟨D, d, h, hd, hg⟩
  · obtain ⟨D, hD, hDA, hst⟩ := h.sys.disk
    rw [h.dp'] at hD
    have hz := h.box.lt
    refine (plan_nil hD).mono ?_
    rintro e w' ⟨rfl, D', hd', hm⟩
    refine ⟨rfl, D', _, ⟨hd', rfl, fun k x => ?_, bel_kept h.bel hm.1 fun i x => Nat.le_of_lt (h.new i (hDA i x)), h.box.same (hm.1.block _ hz fun x => by have := h.new _ (hDA _ x); omega)⟩, .inr ⟨hi.dfk.up, ⟨hi.dfk.ok.loose, hi.dfk.ok.sure, hi.dfk.ok.n, hi.dfk.ok.log, hi.dfk.ok.sl⟩, fun g => hi.good hK g next⟩⟩
    rcases hm.2 k x with y | y
    · exact h.new k (hDA k y)
    · omega
  · refine (plan_nil h.disk).mono ?_
    rintro e w' ⟨rfl, D', hd', hm⟩
    exact ⟨rfl, D', _, h.moved hd' rfl hm, .inl ⟨hd, ⟨hg.ch, hg.sl, hg.fr, hg.sz, hg.room, hg.log, hg.calls⟩⟩⟩

theorem fp_crash (h : FpN w W dp f last next) (hk : f.keep < 18446744073709551616) :
    Calls Tryz.prog 17 #[.pointer (some ⟨dp, 0, none⟩), .agg #[.int .i64 0, .int .u64 f.keep, .int .i64 f.torn, .int .i64 f.bytes, .int .i64 0]] W fun e w' => e = .returned (.tuple #[]) ∧ ∃ D d, FpE w w' dp D d f ∧ GoodD d last next := by
  have e0 : (Value.agg #[.int .i64 0, .int .u64 f.keep, .int .i64 f.torn, .int .i64 f.bytes, .int .i64 0]) = .agg (fcells ⟨0, f.keep, f.torn, f.bytes, 0⟩).toArray := rfl
  rw [e0]
  obtain ⟨D, d, h, ⟨hd, hg⟩ | ⟨hd, hok, hg⟩⟩ := h
  · refine (crash_deadF h.disk hd ⟨0, f.keep, f.torn, f.bytes, 0⟩).mono ?_
    rintro e w' ⟨rfl, b⟩
    exact ⟨rfl, D, d, h.below b, hg⟩
  · refine (crash_out h.disk hd hok ⟨0, f.keep, f.torn, f.bytes, 0⟩ hk).mono ?_
    rintro e w' ⟨rfl, D', hd', hm⟩
    exact ⟨rfl, D', _, h.moved hd' h.plan hm, hg _⟩

theorem fp_up (h : FpE w W dp D d f) (hg : GoodD d last next) : Calls Tryz.prog 18 #[.pointer (some ⟨dp, 0, none⟩)] W fun e w' => (∃ b, e = .returned (.bool b)) ∧ ∃ D' d', FpE w w' dp D' d' f ∧ GoodD d' last next ∧ d'.dead = false := by
  refine (up_out h.disk).mono ?_
  rintro e w' ⟨rfl, D', hd', hm⟩
  exact ⟨⟨_, rfl⟩, D', _, h.moved hd' h.plan hm, ⟨hg.ch, hg.sl, hg.fr, hg.sz, hg.room, hg.log, hg.calls⟩, rfl⟩

/-- A log opened on the disk. -/
structure FpO (w W : World) (dp q : Nat) (last next : ByteArray) : Prop where
  ex : ∃ L l D d, IsLog W q L l ∧ l.dp = dp ∧ IsDisk W dp D d ∧ (∀ k, L k → ¬ D k) ∧ d.dead = false ∧ (∀ r, (readD d r).size ≤ 1000000) ∧ feE d 2 = 0 ∧ ((last = noS ∧ (feX d 2).slots = []) ∨ (feX d 2).slots = [last] ∨ (feX d 2).slots = [next]) ∧ ∀ k, L k ∨ D k → w.heap.size ≤ k
  bel : Below w.heap.size w W

theorem GoodD.fe {e : DG} (hg : GoodD d last next) (h1 : e.sure = d.sure) (h2 : e.fresh = d.fresh) (h3 : e.room = d.room) : (∀ r, (readD e r).size ≤ 1000000) ∧ feE e 2 = 0 ∧ ((last = noS ∧ (feX e 2).slots = []) ∨ (feX e 2).slots = [last] ∨ (feX e 2).slots = [next]) := by
  have hr : ∀ r, readD e r = d.sure r := fun r => by unfold readD; rw [h2, hg.fr r, h1]; rfl
  have hc : checkE e.room 2 = 0 := by rw [h3, hg.room]; rfl
  refine ⟨fun r => by rw [hr, hg.sz]; omega, ?_, ?_⟩
  · unfold feE
    rw [if_pos hc, hr, hr]
    exact hg.ch
  · unfold feX
    rw [if_pos hc, hr, hr]
    exact hg.sl

theorem fp_open (h : FpE w W dp D d f) (hg : GoodD d last next) (hd : d.dead = false) : Calls Tryz.prog 19 #[.pointer (some ⟨dp, 0, none⟩)] W fun e w' => ∃ q t, e = .returned (.tuple #[.pointer (some ⟨q, 0, none⟩), .int .i64 t, .int .i64 0]) ∧ FpO w w' dp q last next := by
  have hz := h.bel.size
  by_cases ht : (scan ⟨d.log.toArray⟩ (d.log.length + 1) 0).2 = d.log.length
  · refine (open_out h.disk hd hg.log ht).mono ?_
    rintro e w' ⟨q, rfl, ⟨L, hL, hLn⟩, b⟩
    obtain ⟨g1, g2, g3⟩ := hg.fe (e := d) rfl rfl rfl
    refine ⟨q, _, rfl, ⟨L, _, D, d, hL, rfl, h.disk.below b, fun k x y => ?_, hd, g1, g2, g3, ?_⟩, below_chain h.bel b⟩
    · have := hLn k x
      have := h.disk.lt y
      omega
    · rintro k (x | x)
      · have := hLn k x; omega
      · exact Nat.le_of_lt (h.new k x)
  · have hle : (scan ⟨d.log.toArray⟩ (d.log.length + 1) 0).2 ≤ d.log.length := by
      have := scan_le ⟨d.log.toArray⟩ (d.log.length + 1) 0
      rw [bytes_size] at this
      exact (this (Nat.zero_le _)).2
    have hc := hg.calls
    refine (open_torn h.disk hd h.plan (by omega) hg.log _ rfl (by omega)).mono ?_
    rintro e w' ⟨q, rfl, L, D', hL, hD', hLn, hLD, hm⟩
    obtain ⟨g1, g2, g3⟩ := hg.fe (e := tornD d (scan ⟨d.log.toArray⟩ (d.log.length + 1) 0).2) rfl rfl rfl
    refine ⟨q, _, rfl, ⟨L, _, D', _, hL, rfl, hD', hLD, hd, g1, g2, g3, ?_⟩, bel_kept h.bel hm.1 fun i x => Nat.le_of_lt (h.new i x)⟩
    rintro k (x | x)
    · have := hLn k x; omega
    · rcases hm.2 k x with y | y
      · exact Nat.le_of_lt (h.new k y)
      · omega

/-- A pool made on it. -/
def FpQ (w W : World) (dp q r : Nat) (last next : ByteArray) : Prop :=
  ∃ A l d, Sys W r A (pool0 dp q 4) l d ∧ d.dead = false ∧ (∀ r, (readD d r).size ≤ 1000000) ∧ feE d 2 = 0 ∧ ((last = noS ∧ (feX d 2).slots = []) ∨ (feX d 2).slots = [last] ∨ (feX d 2).slots = [next]) ∧ (∀ k, A k → w.heap.size ≤ k) ∧ Below w.heap.size w W

theorem fp_new {q : Nat} (h : FpO w W dp q last next) : Calls Tryz.prog 20 #[.pointer (some ⟨dp, 0, none⟩), .pointer (some ⟨q, 0, none⟩), .int .i64 4] W fun e w' => ∃ r, e = .returned (.tuple #[.pointer (some ⟨r, 0, none⟩), .int .i64 0]) ∧ FpQ w w' dp q r last next := by
  obtain ⟨⟨L, l, D, d, hL, hl, hD, hLD, hd, g1, g2, g3, hn⟩, hb⟩ := h
  have hz := hb.size
  refine (pnew_ok W dp q 4 (by omega) (by omega)).mono ?_
  rintro e w' ⟨r, S, rfl, hP, hSn, b⟩
  refine ⟨r, rfl, fun k => S k ∨ L k ∨ D k, l, d, ⟨⟨S, L, D, hP, hL.below b, hD.below b, fun k x y => ?_, fun k x y => ?_, hLD, fun _ x => x⟩, hl, ?_⟩, hd, g1, g2, g3, ?_, below_chain hb b⟩
  · have := hSn k x; have := hL.lt y; omega
  · have := hSn k x; have := hD.lt y; omega
  · rintro k (x | x | x)
    · exact hP.lt x
    · exact (hL.below b).lt x
    · exact (hD.below b).lt x
  · rintro k (x | x | x)
    · have := hSn k x; omega
    · exact hn k (.inl x)
    · exact hn k (.inr x)

theorem fp_get {q r : Nat} (h : FpQ w W dp q r last next) : Calls Tryz.prog 21 #[.pointer (some ⟨r, 0, none⟩), .int .u32 2] W fun e w' => ∃ (X : SheetV) (a : Option Addr) (c : Nat), e = .returned (.tuple #[X.val a c, .int .i64 0]) ∧ StrsAt w' a X.slots ∧ ((last = noS ∧ X.slots = []) ∨ X.slots = [last] ∨ X.slots = [next]) ∧ Below w.heap.size w w' := by
  obtain ⟨A, l, d, hS, hd, g1, g2, g3, hn, hb⟩ := h
  refine (get_new hS 2 (by omega) (by omega) rfl hd g1 g2 (room_roomy (by show 0 < 4; omega) (by show 4 ≤ _; omega)) rfl (by show 0 ≤ _; omega) (by show 0 ≤ _; omega)).mono ?_
  rintro e w' ⟨a, c, A', rfl, hst, _, hm, _⟩
  exact ⟨_, a, c, rfl, hst.at, g3, bel_kept hb hm.1 hn⟩

end

end Go.Proofs.YtgmfgkdecpldeaaGreat
