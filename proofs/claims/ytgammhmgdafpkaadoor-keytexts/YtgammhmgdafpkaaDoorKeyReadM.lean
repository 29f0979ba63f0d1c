/-
  Plain mathematics of reading a row's bytes: what is read of a row is the row, and what is read without an error is a row's bytes. No Go program is named here but for the readers' plain functions.
-/
import Derived.Test.YtgammhmgdafpkaaDoorKeyValues
namespace Go.Proofs.YtgammhmgdafpkaaDoor
set_option linter.unusedVariables false
set_option linter.unusedSimpArgs false

theorem drop_size {s : ByteArray} {p : Nat} {x y : List UInt8} (hp : p ≤ s.size) (h : s.data.toList.drop p = x ++ y) : p + x.length + y.length = s.size := by
  have h1 := congrArg List.length h
  simp at h1
  omega

theorem drop_next {s : ByteArray} {p : Nat} {x y : List UInt8} (h : s.data.toList.drop p = x ++ y) : s.data.toList.drop (p + x.length) = y := by
  rw [← List.drop_drop, h, List.drop_left]

theorem part_at {s : ByteArray} {p : Nat} {x y : List UInt8} (h : s.data.toList.drop p = x ++ y) : part s p x.length = x := by
  unfold part; rw [h, List.take_left]

theorem num_at {s : ByteArray} {p : Nat} {x n : Nat} {y : List UInt8} (hn : n ≤ 8) (hp : p ≤ s.size) (h : s.data.toList.drop p = putL x n ++ y) : numF s p 0 (n : Int) = (p + n, 0, x % 2 ^ (8 * n)) := by
  have hs := drop_size hp h
  have hq := part_at h
  rw [putL_length] at hs hq
  rw [numF_ok n hn (by omega), hq, le_putL]

theorem bytes_at {s : ByteArray} {p : Nat} {t y : List UInt8} (hp : p ≤ s.size) (h : s.data.toList.drop p = t ++ y) : bytesF s p 0 (t.length : Int) = (p + t.length, 0, t) := by
  have hs := drop_size hp h
  rw [bytesF_ok t.length (by omega), part_at h]

theorem sgn_u64 {n : Int} (h0 : -9223372036854775808 ≤ n) (h1 : n ≤ 9223372036854775807) : sgn (toU n) = n := by
  unfold sgn toU; split <;> omega

theorem u64_sgn {x : Nat} (h : x < 18446744073709551616) : toU (sgn x) = x := by
  unfold sgn toU; split <;> omega

/-- A value that may be is taken as it was put. -/
theorem take_at {s : ByteArray} {p : Nat} {v : ValV} {y : List UInt8} (hp : p ≤ s.size) (hm : v.may = true) (hi : v.In) (h : s.data.toList.drop p = v.rowL ++ y) : takeF s p 0 = (p + v.rowL.length, 0, v) := by
  rcases v.may_iff.1 hm with c | c | c
  · rw [rowL_none c.1] at h ⊢
    have hn := num_at (n := 1) (by omega) hp h
    rw [show (((1 : Nat) : Int)) = 1 from rfl, show 0 % 2 ^ (8 * 1) = 0 from rfl] at hn
    unfold takeF
    rw [hn, if_neg (by simp), if_neg (by simp), putL_length]
    obtain ⟨k, n, S⟩ := v
    simp only at c
    obtain ⟨rfl, rfl, c3⟩ := c
    rw [ksize0 c3]
    rfl
  · rw [rowL_num c.1] at h ⊢
    rw [List.append_assoc] at h
    have hn := num_at (n := 1) (by omega) hp h
    rw [show (((1 : Nat) : Int)) = 1 from rfl, show 1 % 2 ^ (8 * 1) = 1 from rfl] at hn
    have hs := drop_size hp h
    have h2 := drop_next h
    rw [putL_length] at hs h2
    have hn2 := num_at (n := 8) (by omega) (by omega) h2
    rw [show (((8 : Nat) : Int)) = 8 from rfl, Nat.mod_eq_of_lt (u64_lt _)] at hn2
    unfold takeF
    rw [hn, if_pos rfl, hn2]
    simp only
    rw [sgn_u64 hi.n0 hi.n1, List.length_append, putL_length, putL_length]
    obtain ⟨k, n, S⟩ := v
    simp only at c
    obtain ⟨rfl, c3⟩ := c
    rw [ksize0 c3]
    rfl
  · rw [rowL_text c.1] at h ⊢
    rw [List.append_assoc, List.append_assoc] at h
    have hn := num_at (n := 1) (by omega) hp h
    rw [show (((1 : Nat) : Int)) = 1 from rfl, show 2 % 2 ^ (8 * 1) = 2 from rfl] at hn
    have hs := drop_size hp h
    have h2 := drop_next h
    rw [putL_length] at hs h2
    have hn2 := num_at (n := 1) (by omega) (by omega) h2
    rw [show (((1 : Nat) : Int)) = 1 from rfl, Nat.mod_eq_of_lt (by show v.S.size < 256; omega)] at hn2
    have hs2 := drop_size (by omega) h2
    have h3 := drop_next h2
    rw [putL_length] at hs2 h3
    have hb := bytes_at (by omega) h3
    have hl : v.S.data.toList.length = v.S.size := by simp
    rw [hl] at hb
    unfold takeF
    rw [hn, if_neg (by simp), if_pos rfl, hn2]
    simp only
    rw [hb, List.length_append, List.length_append, putL_length, putL_length, hl]
    obtain ⟨k, n, S⟩ := v
    simp only at c
    obtain ⟨rfl, rfl, c3⟩ := c
    simp only [Prod.mk.injEq]
    exact ⟨by omega, by trivial⟩

theorem takes_at {s : ByteArray} {p : Nat} {y : List UInt8} : ∀ (L : List ValV), p ≤ s.size → (∀ v ∈ L, v.may = true ∧ v.In) → s.data.toList.drop p = rowsL L ++ y → ∀ k, k ≤ L.length → takesK s p 0 k = (p + (rowsL (L.take k)).length, 0, L.take k)
  | L, hp, hm, h, 0, _ => by simp [takesK, rowsL_nil]
  | L, hp, hm, h, k + 1, hk => by
    have ih := takes_at L hp hm h k (by omega)
    have hlt : k < L.length := by omega
    obtain ⟨m1, m2⟩ := hm L[k] (List.getElem_mem hlt)
    have hsplit : rowsL L = rowsL (L.take k) ++ (L[k].rowL ++ rowsL (L.drop (k + 1))) := by
      rw [← rowsL_cons, ← rowsL_append, ← List.drop_eq_getElem_cons hlt, List.take_append_drop]
    rw [hsplit, List.append_assoc] at h
    have h1 := drop_next h
    have hs := drop_size hp h
    rw [List.append_assoc] at h1
    have ht := take_at (by omega) m1 m2 h1
    simp only [takesK]
    rw [ih]
    simp only
    rw [ht, List.take_succ_eq_append_getElem hlt, rowsL_snoc, List.length_append]
    simp only [Prod.mk.injEq]
    exact ⟨by omega, by trivial⟩

/-- What is read of a row's bytes is the row. -/
theorem read_row {L : List ValV} (hE : rowE L = 0) (hi : ∀ v ∈ L, v.In) : valsB ⟨(rowR L).toArray⟩ = true ∧ (readV ⟨(rowR L).toArray⟩).2.2 = L := by
  have hor : ¬ (L.length < 1 ∨ 4 < L.length) := fun q => by rw [rowE_len q] at hE; omega
  have hm : L.all ValV.may = true := by
    by_cases k : L.all ValV.may = true
    · exact k
    · rw [rowE_val hor (by simpa using k)] at hE; omega
  have hm' : ∀ v ∈ L, v.may = true ∧ v.In := fun v hv => ⟨List.all_eq_true.1 hm v hv, hi v hv⟩
  obtain ⟨s, hs⟩ : ∃ s : ByteArray, s = ⟨(rowR L).toArray⟩ := ⟨_, rfl⟩
  rw [← hs]
  have hd : s.data.toList.drop 0 = putL L.length 1 ++ rowsL L := by rw [hs]; simp [rowR]
  have hn := num_at (n := 1) (by omega) (Nat.zero_le _) hd
  rw [show (((1 : Nat) : Int)) = 1 from rfl, Nat.mod_eq_of_lt (by show L.length < 256; omega)] at hn
  have h1 := drop_next hd
  have hz := drop_size (Nat.zero_le _) hd
  rw [putL_length] at h1 hz
  have ht := takes_at L (p := 0 + 1) (s := s) (y := []) (by omega) hm' (by rw [List.append_nil]; exact h1) L.length (Nat.le_refl _)
  rw [List.take_length] at ht
  have hr : readV s = (s.size, 0, L) := by
    unfold readV
    rw [hn]
    simp only
    rw [ht]
    simp only [Prod.mk.injEq]
    exact ⟨by omega, by trivial⟩
  refine ⟨?_, by rw [hr]⟩
  unfold valsB
  rw [hr]
  simp only
  rw [hE]
  unfold endE
  rw [if_neg (by omega)]
  rfl

/-! ### What is read without an error -/

theorem num_err {s : ByteArray} {p : Nat} {e : Int} {n : Nat} (hn : n ≤ 8) (hp : p ≤ s.size) (h : (numF s p e (n : Int)).2.1 = 0) : e = 0 ∧ (numF s p e (n : Int)).1 = p + n ∧ p + n ≤ s.size ∧ s.data.toList.drop p = putL (numF s p e (n : Int)).2.2 n ++ s.data.toList.drop (p + n) := by
  by_cases he : e = 0
  · subst he
    by_cases hc : s.size < p + n
    · rw [numF_cut n hn hc] at h; simp at h
    · have hok := numF_ok (s := s) (p := p) n hn (by omega)
      rw [hok]
      refine ⟨rfl, rfl, by omega, ?_⟩
      have hl : (part s p n).length = n := part_length (by omega)
      have hp' : putL (le (part s p n)) n = part s p n := by
        apply le_inj
        · rw [putL_length, hl]
        · rw [le_putL, Nat.mod_eq_of_lt (le_lt_of (by omega))]
      rw [hp']
      unfold part
      rw [← List.drop_drop, List.take_append_drop]
  · rw [numF_err he] at h; exact absurd h he

theorem bytes_err {s : ByteArray} {p : Nat} {e : Int} {n : Nat} (hp : p ≤ s.size) (h : (bytesF s p e (n : Int)).2.1 = 0) : e = 0 ∧ (bytesF s p e (n : Int)).1 = p + n ∧ p + n ≤ s.size ∧ (bytesF s p e (n : Int)).2.2.length = n ∧ s.data.toList.drop p = (bytesF s p e (n : Int)).2.2 ++ s.data.toList.drop (p + n) := by
  by_cases he : e = 0
  · subst he
    by_cases hc : s.size < p + n
    · rw [bytesF_cut n hc] at h; simp at h
    · have hok := bytesF_ok (s := s) (p := p) n (by omega)
      rw [hok]
      refine ⟨rfl, rfl, by omega, part_length (by omega), ?_⟩
      unfold part
      rw [← List.drop_drop, List.take_append_drop]
  · rw [bytesF_err he] at h; exact absurd h he

theorem take_err {s : ByteArray} {p : Nat} {e : Int} (hp : p ≤ s.size) (h : (takeF s p e).2.1 = 0) : e = 0 ∧ (takeF s p e).1 ≤ s.size ∧ (takeF s p e).2.2.In ∧ s.data.toList.drop p = (takeF s p e).2.2.rowL ++ s.data.toList.drop (takeF s p e).1 := by
  unfold takeF at h ⊢
  have hk := knumF_lt s p e 1
  have h1 := num_err (s := s) (p := p) (e := e) (n := 1) (by omega) hp
  rw [show (((1 : Nat) : Int)) = 1 from rfl] at hk h1
  generalize numF s p e 1 = N1 at *
  obtain ⟨p1, e1, k⟩ := N1
  simp only at h hk h1 ⊢
  have hk' : k < 256 := hk
  by_cases c1 : k = 1
  · subst c1
    simp only [if_pos] at h ⊢
    by_cases hp1 : e1 = 0
    · obtain ⟨rfl, rfl, hz, hd⟩ := h1 hp1
      have hx := knumF_lt s (p + 1) e1 8
      have h8 := num_err (s := s) (p := p + 1) (e := e1) (n := 8) (by omega) hz
      rw [show (((8 : Nat) : Int)) = 8 from rfl] at hx h8
      generalize numF s (p + 1) e1 8 = N2 at *
      obtain ⟨p2, e2, x⟩ := N2
      simp only at h hx h8 ⊢
      obtain ⟨_, rfl, hz2, hd2⟩ := h8 h
      have hx' : x < 18446744073709551616 := hx
      refine ⟨by trivial, hz2, ⟨by simp only; omega, by simp only; omega, ?_, ?_⟩, ?_⟩
      · simp only; unfold sgn; split <;> omega
      · simp only; unfold sgn; split <;> omega
      · rw [rowL_num rfl]
        simp only
        rw [u64_sgn hx', hd, hd2, List.append_assoc]
    · exfalso
      rw [numF_err hp1] at h
      exact hp1 h
  · simp only [if_neg c1] at h ⊢
    by_cases c2 : k = 2
    · subst c2
      simp only [if_pos] at h ⊢
      by_cases hp1 : e1 = 0
      · obtain ⟨rfl, rfl, hz, hd⟩ := h1 hp1
        have hx := knumF_lt s (p + 1) e1 1
        have h8 := num_err (s := s) (p := p + 1) (e := e1) (n := 1) (by omega) hz
        rw [show (((1 : Nat) : Int)) = 1 from rfl] at hx h8
        generalize numF s (p + 1) e1 1 = N2 at *
        obtain ⟨p2, e2, x⟩ := N2
        simp only at h hx h8 ⊢
        by_cases hp2 : e2 = 0
        · obtain ⟨_, rfl, hz2, hd2⟩ := h8 hp2
          have hb := bytes_err (s := s) (p := p + 1 + 1) (e := e2) (n := x) hz2
          generalize bytesF s (p + 1 + 1) e2 (x : Int) = N3 at *
          obtain ⟨p3, e3, t⟩ := N3
          simp only at h hb ⊢
          obtain ⟨_, rfl, hz3, hl, hd3⟩ := hb h
          refine ⟨by trivial, hz3, ⟨by simp only; omega, by simp only; omega, by simp only; omega, by simp only; omega⟩, ?_⟩
          rw [rowL_text rfl]
          simp only
          rw [bytes_size, hl, hd, hd2, hd3, List.append_assoc, List.append_assoc]
        · exfalso
          rw [bytesF_err hp2] at h
          exact hp2 h
      · exfalso
        rw [numF_err hp1] at h
        simp only at h
        rw [bytesF_err hp1] at h
        exact hp1 h
    · simp only [if_neg c2] at h ⊢
      obtain ⟨rfl, rfl, hz, hd⟩ := h1 h
      refine ⟨by trivial, hz, ⟨by simp only; omega, by simp only; omega, by simp only; omega, by simp only; omega⟩, ?_⟩
      unfold ValV.rowL
      simp only
      rw [if_neg (by omega), if_neg (by omega), List.append_nil, show toU (k : Int) = k by unfold toU; omega]
      exact hd

theorem takes_err {s : ByteArray} {p : Nat} {e : Int} (hp : p ≤ s.size) : ∀ k, (takesK s p e k).2.1 = 0 → e = 0 ∧ (takesK s p e k).1 ≤ s.size ∧ (∀ v ∈ (takesK s p e k).2.2, v.In) ∧ s.data.toList.drop p = rowsL (takesK s p e k).2.2 ++ s.data.toList.drop (takesK s p e k).1
  | 0, h => ⟨h, hp, by intro v hv; simp [takesK] at hv, by simp [takesK, rowsL_nil]⟩
  | k + 1, h => by
    simp only [takesK] at h ⊢
    by_cases hk : (takesK s p e k).2.1 = 0
    · obtain ⟨he, hz, hv, hd⟩ := takes_err hp k hk
      obtain ⟨_, hz2, hv2, hd2⟩ := take_err hz h
      refine ⟨he, hz2, ?_, ?_⟩
      · intro v hm
        rcases List.mem_append.1 hm with hm | hm
        · exact hv v hm
        · rw [List.mem_singleton.1 hm]; exact hv2
      · rw [rowsL_snoc, List.append_assoc, ← hd2]; exact hd
    · exfalso
      -- (an error stays)
      have : (takeF s (takesK s p e k).1 (takesK s p e k).2.1).2.1 = (takesK s p e k).2.1 := by
        unfold takeF
        rw [numF_err hk]
        simp
      rw [this] at h
      exact hk h

/-- An error stays. -/
theorem takes_stays {s : ByteArray} {p : Nat} {e : Int} {k : Nat} (h : (takesK s p e k).2.1 ≠ 0) : ∀ m, (takesK s p e (k + m)).2.1 ≠ 0
  | 0 => h
  | m + 1 => by
    have ih := takes_stays h m
    show (takeF s (takesK s p e (k + m)).1 (takesK s p e (k + m)).2.1).2.1 ≠ 0
    have : (takeF s (takesK s p e (k + m)).1 (takesK s p e (k + m)).2.1).2.1 = (takesK s p e (k + m)).2.1 := by
      unfold takeF
      rw [numF_err ih]
      simp
    rw [this]
    exact ih

/-- What is read without an error, up to the end, is a row's bytes. -/
theorem read_back {s : ByteArray} (h : endE s (readV s).1 (readV s).2.1 = 0) : (∀ v ∈ (readV s).2.2, v.In) ∧ rowR (readV s).2.2 = s.data.toList ∧ (readV s).1 = s.size ∧ (readV s).2.1 = 0 := by
  have hE : (readV s).2.1 = 0 := by
    unfold endE at h
    split at h
    · omega
    · exact h
  have hlen : (readV s).2.2.length = (numF s 0 0 1).2.2 := takesK_length _ _ _ _
  have hk := knumF_lt s 0 0 1
  have h1 := num_err (s := s) (p := 0) (e := 0) (n := 1) (by omega) (Nat.zero_le _)
  rw [show (((1 : Nat) : Int)) = 1 from rfl] at hk h1
  have hR : readV s = takesK s (numF s 0 0 1).1 (numF s 0 0 1).2.1 (numF s 0 0 1).2.2 := rfl
  generalize numF s 0 0 1 = N at *
  obtain ⟨p0, e0, n⟩ := N
  simp only at hlen hk h1 hR
  have he0 : e0 = 0 := by
    by_cases q : e0 = 0
    · exact q
    · exfalso
      have := takes_stays (s := s) (p := p0) (e := e0) (k := 0) q n
      rw [Nat.zero_add, ← hR] at this
      exact this hE
  obtain ⟨_, rfl, hz, hd⟩ := h1 he0
  have ht := takes_err (s := s) (p := 0 + 1) (e := e0) hz n (by rw [← hR]; exact hE)
  rw [← hR] at ht
  obtain ⟨_, hz2, hv, hd2⟩ := ht
  have hend : (readV s).1 = s.size := by
    unfold endE at h
    rw [hE] at h
    split at h
    · omega
    · rename_i q; omega
  refine ⟨hv, ?_, hend, hE⟩
  unfold rowR
  rw [hlen]
  rw [List.drop_zero] at hd
  rw [hd, hd2, hend, List.drop_eq_nil_of_le (by simp), List.append_nil]

end Go.Proofs.YtgammhmgdafpkaaDoor
