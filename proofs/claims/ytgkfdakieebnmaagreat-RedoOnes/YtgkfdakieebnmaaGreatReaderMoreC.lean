/-
  The walks of raw.Reader's Bytes, Text, Bool and End.
-/
import Derived.Test.YtgkfdakieebnmaaGreatReaderTakesC
set_option linter.unusedVariables false
set_option linter.unusedSimpArgs false
namespace Go.Proofs.YtgkfdakieebnmaaGreat
open Go.RowKit

section
variable {w : World} {b : Nat} {s : ByteArray} {p : Nat} {e : Int}

theorem stopped_no (h : IsReader w b s p 0) :
    Calls Tryz.prog 122 #[.pointer (some ⟨b, 0, none⟩)] w fun x w' => x = .returned (.bool false) ∧ w' = w := stopped_any h

theorem stopped_yes (h : IsReader w b s p e) (he : e ≠ 0) :
    Calls Tryz.prog 122 #[.pointer (some ⟨b, 0, none⟩)] w fun x w' => x = .returned (.bool true) ∧ w' = w := by
  have h1 := stopped_any h
  rw [show (e != 0) = true from by rw [bne_iff_ne]; exact he] at h1
  exact h1

theorem bytesF_err (h : e ≠ 0) (n : Int) : bytesF s p e n = (p, e, []) := by unfold bytesF; rw [if_pos h]
theorem bytesF_arg (n : Int) (h : n < 0) : bytesF s p 0 n = (p, 1, []) := by unfold bytesF; rw [if_neg (by simp), if_pos h]
theorem bytesF_cut (n : Nat) (hc : s.size < p + n) : bytesF s p 0 n = (p, 4, []) := by
  unfold bytesF; rw [if_neg (by simp), if_neg (by omega), if_pos (by simpa using hc)]
theorem bytesF_ok (n : Nat) (hc : p + n ≤ s.size) : bytesF s p 0 n = (p + n, 0, part s p n) := by
  unfold bytesF; rw [if_neg (by simp), if_neg (by omega), if_neg (by simp; omega), Int.toNat_natCast]

set_option maxHeartbeats 400000 in
set_option maxRecDepth 60000 in
theorem bytes_any (h : IsReader w b s p e) (n : Int) (hi : n ≤ 9223372036854775807) :
    Calls Tryz.prog 228 #[.pointer (some ⟨b, 0, none⟩), .int .i64 n] w fun x w' =>
      x = .returned (.string ⟨(bytesF s p e n).2.2.toArray⟩) ∧ IsReader w' b s (bytesF s p e n).1 (bytesF s p e n).2.1 ∧ Only b w w' := by
  have hsz := h.sz
  have hle := h.le
  by_cases he : e = 0
  · subst he
    by_cases hn : n < 0
    · rw [bytesF_arg n hn]
      go_enter Tryz.func228, Tryz.ntmps228
      go_wp2_with fail
      refine (stopped_no h).mono ?_
      rintro x w1 ⟨rfl, rfl⟩
      go_wp2_with fail
      refine (fail_any h 1).mono ?_
      rintro x w2 ⟨rfl, h2, o2⟩
      go_wp2
      go_ret
      exact ⟨rfl, h2, o2⟩
    · obtain ⟨n, rfl⟩ := Int.eq_ofNat_of_zero_le (show 0 ≤ n by omega)
      by_cases hc : s.size < p + n
      · rw [bytesF_cut n hc]
        go_enter Tryz.func228, Tryz.ntmps228
        go_wp2_with fail
        refine (stopped_no h).mono ?_
        rintro x w1 ⟨rfl, rfl⟩
        go_wp2_with fail
        refine (take_cut h 0 n (by omega) (by omega) (by omega)).mono ?_
        rintro x w2 ⟨rfl, h2, o2⟩
        go_wp2
        go_ret
        exact ⟨rfl, h2, o2⟩
      · rw [bytesF_ok n (by omega)]
        go_enter Tryz.func228, Tryz.ntmps228
        go_wp2_with fail
        refine (stopped_no h).mono ?_
        rintro x w1 ⟨rfl, rfl⟩
        go_wp2_with fail
        refine (take_ok h 0 n (by omega)).mono ?_
        rintro x w2 ⟨rfl, h2, o2⟩
        go_wp2
        go_ret
        exact ⟨rfl, h2, o2⟩
  · rw [bytesF_err he]
    go_enter Tryz.func228, Tryz.ntmps228
    go_wp2_with fail
    refine (stopped_yes h he).mono ?_
    rintro x w1 ⟨rfl, rfl⟩
    go_wp2
    go_ret
    exact ⟨rfl, h, Only.refl _ _⟩

theorem textF_err (h : e ≠ 0) (m : Int) : textF s p e m = (p, e, []) := by unfold textF; rw [if_pos h]
theorem textF_cut (m : Int) (hc : s.size < p + 2) : textF s p 0 m = (p, 4, []) := by unfold textF; rw [if_neg (by simp), if_pos hc]
theorem textF_more (m : Int) (hc : p + 2 ≤ s.size) (hm : m < (le (part s p 2) : Int)) : textF s p 0 m = (p, 5, []) := by
  unfold textF; rw [if_neg (by simp), if_neg (by omega), if_pos hm]
theorem textF_cut2 (m : Int) (hc : p + 2 ≤ s.size) (hm : (le (part s p 2) : Int) ≤ m) (hd : s.size < p + 2 + le (part s p 2)) : textF s p 0 m = (p, 4, []) := by
  unfold textF; rw [if_neg (by simp), if_neg (by omega), if_neg (by omega), if_pos hd]
theorem textF_ok (m : Int) (hm : (le (part s p 2) : Int) ≤ m) (hd : p + 2 + le (part s p 2) ≤ s.size) : textF s p 0 m = (p + 2 + le (part s p 2), 0, part s (p + 2) (le (part s p 2))) := by
  unfold textF; rw [if_neg (by simp), if_neg (by omega), if_neg (by omega), if_neg (by omega)]

set_option maxHeartbeats 400000 in
set_option maxRecDepth 60000 in
theorem rtext_any (h : IsReader w b s p e) (m : Int) :
    Calls Tryz.prog 125 #[.pointer (some ⟨b, 0, none⟩), .int .i64 m] w fun x w' =>
      x = .returned (.string ⟨(textF s p e m).2.2.toArray⟩) ∧ IsReader w' b s (textF s p e m).1 (textF s p e m).2.1 ∧ Only b w w' := by
  have hsz := h.sz
  have hle := h.le
  have hsm : s.size ≤ maxLen := by unfold maxLen; omega
  by_cases he : e = 0
  · subst he
    have c0 := h.c0
    have c1 := h.c1
    by_cases hc : s.size < p + 2
    · rw [textF_cut m hc]
      go_enter Tryz.func125, Tryz.ntmps125
      go_wp2_with fail
      refine (stopped_no h).mono ?_
      rintro x w1 ⟨rfl, rfl⟩
      go_wp2_with fail
      go_quiet ((go_at_call 123; exact Calls.quiet_of_same (get_cut s p 2 _ (by omega) (by omega) hc hsm)))
      go_wp2_with fail
      refine (fail_any (h.drewN _) 4).mono ?_
      rintro x w2 ⟨rfl, h2, o2⟩
      go_wp2
      go_ret
      exact ⟨rfl, h2, ((Only.refl b w1).drewN _).trans o2⟩
    · have hL := le_lt_of (l := part s p 2) (n := 2) (by rw [part_length (by omega)]; omega)
      have HG : Hid (∀ wx, Calls Tryz.prog 123 #[.string s, .int .i64 p, .int .i64 (2 : Nat)] wx fun e w' => e = .returned (.tuple #[.int .u64 (le (part s p 2)), .int .i64 0]) ∧ w' = wx) := fun wx => get_ok s p 2 wx (by omega) (by omega) hsm
      by_cases hm : m < (le (part s p 2) : Int)
      · rw [textF_more m (by omega) hm]
        generalize le (part s p 2) = L at *
        go_enter Tryz.func125, Tryz.ntmps125
        go_wp2_with fail
        refine (stopped_no h).mono ?_
        rintro x w1 ⟨rfl, rfl⟩
        go_wp2_with fail
        go_quiet ((go_at_call 123; exact Calls.quiet_of_same (HG.out _)))
        go_wp2_with fail
        refine (fail_any (h.drewN _) 5).mono ?_
        rintro x w2 ⟨rfl, h2, o2⟩
        go_wp2
        go_ret
        exact ⟨rfl, h2, ((Only.refl b w1).drewN _).trans o2⟩
      · by_cases hd : s.size < p + 2 + le (part s p 2)
        · rw [textF_cut2 m (by omega) (by omega) hd]
          generalize le (part s p 2) = L at *
          go_enter Tryz.func125, Tryz.ntmps125
          go_wp2_with fail
          refine (stopped_no h).mono ?_
          rintro x w1 ⟨rfl, rfl⟩
          go_wp2_with fail
          go_quiet ((go_at_call 123; exact Calls.quiet_of_same (HG.out _)))
          go_wp2_with fail
          refine (take_cut (h.drewN _) 2 L (by omega) (by omega) (by omega)).mono ?_
          rintro x w2 ⟨rfl, h2, o2⟩
          go_wp2
          go_ret
          exact ⟨rfl, h2, ((Only.refl b w1).drewN _).trans o2⟩
        · rw [textF_ok m (by omega) (by omega)]
          generalize le (part s p 2) = L at *
          go_enter Tryz.func125, Tryz.ntmps125
          go_wp2_with fail
          refine (stopped_no h).mono ?_
          rintro x w1 ⟨rfl, rfl⟩
          go_wp2_with fail
          go_quiet ((go_at_call 123; exact Calls.quiet_of_same (HG.out _)))
          go_wp2_with fail
          refine (take_ok (h.drewN _) 2 L (by omega)).mono ?_
          rintro x w2 ⟨rfl, h2, o2⟩
          go_wp2
          go_ret
          exact ⟨rfl, h2, ((Only.refl b w1).drewN _).trans o2⟩
  · rw [textF_err he]
    go_enter Tryz.func125, Tryz.ntmps125
    go_wp2_with fail
    refine (stopped_yes h he).mono ?_
    rintro x w1 ⟨rfl, rfl⟩
    go_wp2
    go_ret
    exact ⟨rfl, h, Only.refl _ _⟩

theorem boolF_err (h : e ≠ 0) : boolF s p e = (p, e, false) := by unfold boolF; rw [if_pos h]
theorem boolF_cut (hc : s.size < p + 1) : boolF s p 0 = (p, 4, false) := by unfold boolF; rw [if_neg (by simp), if_pos hc]
theorem boolF_form (hc : p + 1 ≤ s.size) (hb : 1 < le (part s p 1)) : boolF s p 0 = (p, 6, false) := by unfold boolF; rw [if_neg (by simp), if_neg (by omega), if_pos hb]
theorem boolF_ok (hc : p + 1 ≤ s.size) (hb : le (part s p 1) ≤ 1) : boolF s p 0 = (p + 1, 0, le (part s p 1) == 1) := by unfold boolF; rw [if_neg (by simp), if_neg (by omega), if_neg (by omega)]

set_option maxHeartbeats 400000 in
set_option maxRecDepth 60000 in
theorem bool_any (h : IsReader w b s p e) :
    Calls Tryz.prog 126 #[.pointer (some ⟨b, 0, none⟩)] w fun x w' =>
      x = .returned (.bool (boolF s p e).2.2) ∧ IsReader w' b s (boolF s p e).1 (boolF s p e).2.1 ∧ Only b w w' := by
  have hsz := h.sz
  have hle := h.le
  have hsm : s.size ≤ maxLen := by unfold maxLen; omega
  by_cases he : e = 0
  · subst he
    have c0 := h.c0
    have c1 := h.c1
    by_cases hc : s.size < p + 1
    · rw [boolF_cut hc]
      go_enter Tryz.func126, Tryz.ntmps126
      go_wp2_with fail
      refine (stopped_no h).mono ?_
      rintro x w1 ⟨rfl, rfl⟩
      go_wp2_with fail
      go_quiet ((go_at_call 123; exact Calls.quiet_of_same (get_cut s p 1 _ (by omega) (by omega) hc hsm)))
      go_wp2_with fail
      refine (fail_any (h.drewN _) 4).mono ?_
      rintro x w2 ⟨rfl, h2, o2⟩
      go_wp2
      go_ret
      exact ⟨rfl, h2, ((Only.refl b w1).drewN _).trans o2⟩
    · have hL := le_lt_of (l := part s p 1) (n := 1) (by rw [part_length (by omega)]; omega)
      have HG : Hid (∀ wx, Calls Tryz.prog 123 #[.string s, .int .i64 p, .int .i64 (1 : Nat)] wx fun e w' => e = .returned (.tuple #[.int .u64 (le (part s p 1)), .int .i64 0]) ∧ w' = wx) := fun wx => get_ok s p 1 wx (by omega) (by omega) hsm
      by_cases hm : 1 < le (part s p 1)
      · rw [boolF_form (by omega) hm]
        generalize le (part s p 1) = L at *
        go_enter Tryz.func126, Tryz.ntmps126
        go_wp2_with fail
        refine (stopped_no h).mono ?_
        rintro x w1 ⟨rfl, rfl⟩
        go_wp2_with fail
        go_quiet ((go_at_call 123; exact Calls.quiet_of_same (HG.out _)))
        go_wp2_with fail
        refine (fail_any (h.drewN _) 6).mono ?_
        rintro x w2 ⟨rfl, h2, o2⟩
        go_wp2
        go_ret
        exact ⟨rfl, h2, ((Only.refl b w1).drewN _).trans o2⟩
      · rw [boolF_ok (by omega) (by omega)]
        generalize le (part s p 1) = L at *
        have f1 := h.f1
        have hbe : ((L : Int) == 1) = (L == 1) := by rw [Bool.eq_iff_iff]; simp; omega
        go_enter Tryz.func126, Tryz.ntmps126
        go_wp2_with fail
        refine (stopped_no h).mono ?_
        rintro x w1 ⟨rfl, rfl⟩
        go_wp2_with fail
        go_quiet ((go_at_call 123; exact Calls.quiet_of_same (HG.out _)))
        go_wp2
        go_ret
        refine ⟨rfl, ?_, ((Only.refl b w1).drewN _).setCell 1 _⟩
        have h2 := (h.drewN nq).setAt (p + 1) (by omega)
        rw [show ((p + 1 : Nat) : Int) = (p : Int) + 1 from by omega] at h2
        exact h2
  · rw [boolF_err he]
    go_enter Tryz.func126, Tryz.ntmps126
    go_wp2_with fail
    refine (stopped_yes h he).mono ?_
    rintro x w1 ⟨rfl, rfl⟩
    go_wp2
    go_ret
    exact ⟨rfl, h, Only.refl _ _⟩

set_option maxHeartbeats 400000 in
set_option maxRecDepth 60000 in
theorem end_any (h : IsReader w b s p e) :
    Calls Tryz.prog 68 #[.pointer (some ⟨b, 0, none⟩)] w fun x w' => x = .returned (.int .i64 (endE s p e)) ∧ IsReader w' b s p (endE s p e) ∧ Only b w w' := by
  have hsz := h.sz
  have hle := h.le
  by_cases hp : p < s.size
  · have hE : failE e 5 = endE s p e := by unfold failE endE; by_cases he : e = 0 <;> simp [he, hp]
    go_enter Tryz.func68, Tryz.ntmps68
    go_wp2_with fail
    refine (left_any h).mono ?_
    rintro x w1 ⟨rfl, m, rfl⟩
    have h1 := h.drewN m
    go_wp2_with fail
    refine (fail_any h1 5).mono ?_
    rintro x w2 ⟨rfl, h2, o2⟩
    go_wp2_with fail
    refine (err_any h2).mono ?_
    rintro x w3 ⟨rfl, rfl⟩
    go_wp2
    go_ret
    exact ⟨by rw [← hE]; rfl, by rw [← hE]; exact h2, ((Only.refl b w).drewN m).trans o2⟩
  · have hE : e = endE s p e := by unfold endE; rw [if_neg (by omega)]
    have HE : Hid (e = endE s p e) := hE
    clear hE
    go_enter Tryz.func68, Tryz.ntmps68
    go_wp2_with fail
    refine (left_any h).mono ?_
    rintro x w1 ⟨rfl, m, rfl⟩
    have h1 := h.drewN m
    go_wp2_with fail
    refine (err_any h1).mono ?_
    rintro x w3 ⟨rfl, rfl⟩
    go_wp2
    go_ret
    exact ⟨by rw [← HE.out]; rfl, by rw [← HE.out]; exact h1, (Only.refl b w).drewN m⟩

end
end Go.Proofs.YtgkfdakieebnmaaGreat
