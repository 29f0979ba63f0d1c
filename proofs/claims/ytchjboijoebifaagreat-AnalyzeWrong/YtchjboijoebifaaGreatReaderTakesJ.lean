/-
  The walks of raw.Reader's taking methods: Number, Bytes, Text, Bool, End, over a reader that lies in memory; each is told by a plain function of the text, the place and the error.
-/
import Derived.Test.YtchjboijoebifaaGreatCrcJ
import Derived.Deep.RegionHeld3
import Derived.Test.YtchjboijoebifaaGreatProg
import Derived.Shelf.Lays
import Derived.Shelf.Strings.Repeat
import Derived.WalkKit
import Derived.WalkSpells
set_option linter.unusedVariables false
set_option linter.unusedSimpArgs false
namespace Go.Proofs.YtchjboijoebifaaGreat
open Go.RowKit

def numF (s : ByteArray) (p : Nat) (e n : Int) : Nat × Int × Nat :=
  if e ≠ 0 then (p, e, 0) else if n < 0 ∨ 8 < n then (p, 1, 0) else if s.size < p + n.toNat then (p, 4, 0) else (p + n.toNat, 0, le (part s p n.toNat))

def textF (s : ByteArray) (p : Nat) (e m : Int) : Nat × Int × List UInt8 :=
  if e ≠ 0 then (p, e, []) else if s.size < p + 2 then (p, 4, []) else if m < (le (part s p 2) : Int) then (p, 5, []) else
    if s.size < p + 2 + le (part s p 2) then (p, 4, []) else (p + 2 + le (part s p 2), 0, part s (p + 2) (le (part s p 2)))

def boolF (s : ByteArray) (p : Nat) (e : Int) : Nat × Int × Bool :=
  if e ≠ 0 then (p, e, false) else if s.size < p + 1 then (p, 4, false) else if 1 < le (part s p 1) then (p, 6, false) else (p + 1, 0, le (part s p 1) == 1)

def endE (s : ByteArray) (p : Nat) (e : Int) : Int := if e = 0 ∧ p < s.size then 5 else e

section
variable {w : World} {b : Nat} {s : ByteArray} {p : Nat} {e : Int}

set_option maxHeartbeats 400000 in
set_option maxRecDepth 60000 in
theorem take_cut (h : IsReader w b s p 0) (a n : Nat) (ha : p + a ≤ s.size) (hn : s.size < p + a + n) (hm : n ≤ 9223372036854775807) :
    Calls Tryz.prog 110 #[.pointer (some ⟨b, 0, none⟩), .int .i64 a, .int .i64 n] w fun x w' => x = .returned (.string ⟨#[]⟩) ∧ IsReader w' b s p 4 ∧ Only b w w' := by
  have hsz := h.sz
  have hle := h.le
  go_enter Tryz.func110, Tryz.ntmps110
  go_wp2_with fail
  refine (left_any h).mono ?_
  rintro x w1 ⟨rfl, m, rfl⟩
  have h1 := h.drewN m
  go_wp2_with fail
  refine (fail_any h1 4).mono ?_
  rintro x w2 ⟨rfl, h2, o2⟩
  go_wp2
  go_ret
  exact ⟨rfl, h2, ((Only.refl b w).drewN m).trans o2⟩

set_option maxHeartbeats 400000 in
set_option maxRecDepth 60000 in
theorem take_ok (h : IsReader w b s p 0) (a n : Nat) (hn : p + a + n ≤ s.size) :
    Calls Tryz.prog 110 #[.pointer (some ⟨b, 0, none⟩), .int .i64 a, .int .i64 n] w fun x w' => x = .returned (.string ⟨(part s (p + a) n).toArray⟩) ∧ IsReader w' b s (p + a + n) 0 ∧ Only b w w' := by
  have hsz := h.sz
  have hle := h.le
  go_enter Tryz.func110, Tryz.ntmps110
  go_wp2_with fail
  refine (left_any h).mono ?_
  rintro x w1 ⟨rfl, m, rfl⟩
  have h1 := h.drewN m
  have c1 := h1.c1
  have f1 := h1.f1
  go_wp2_with fail
  have h2 := h1.setAt (p + a + n) hn
  rw [show ((p + a + n : Nat) : Int) = (p : Int) + (a : Int) + (n : Int) from by omega] at h2
  have o2 : Only b w ((w.drewN m).setCell ⟨b, 1, none⟩ (.int .i64 ((p : Int) + (a : Int) + (n : Int)))) := ((Only.refl b w).drewN m).setCell 1 _
  have d0 := h2.c0
  have d1 := h2.c1
  rw [show ((p + a + n : Nat) : Int) = (p : Int) + (a : Int) + (n : Int) from by omega] at d1
  generalize (w.drewN m).setCell ⟨b, 1, none⟩ (.int .i64 ((p : Int) + (a : Int) + (n : Int))) = W2 at *
  clear h1 c1 f1
  have hsl := fun wx => run_slice_string (P := Tryz.prog) wx 9 s .i64 .i64 ((p : Int) + (a : Int)) ((p : Int) + (a : Int) + (n : Int)) Tryz.underlying9 (by omega) (by omega) (by omega)
  rw [show ((p : Int) + (a : Int)).toNat = p + a from by omega, show ((p : Int) + (a : Int) + (n : Int)).toNat = p + a + n from by omega] at hsl
  have hcl : (s.extract (p + a) (p + a + n)).size ≤ 281474976710656 := by simp; omega
  have hex : (⟨(part s (p + a) n).toArray⟩ : ByteArray) = s.extract (p + a) (p + a + n) := by
    have := Lib.extract_data s (p + a) (p + a + n)
    rw [show p + a + n - (p + a) = n from by omega] at this
    rw [part, ← this, bytes_self]
  have Hex : Hid ((⟨(part s (p + a) n).toArray⟩ : ByteArray) = s.extract (p + a) (p + a + n)) := hex
  clear hex
  go_region_held3 (fun w' => w'.cell? ⟨b, 0, none⟩ = some (.string s) ∧ w'.cell? ⟨b, 1, none⟩ = some (.int .i64 ((p : Int) + (a : Int) + (n : Int)))) (first | go_keep | exact ⟨(b3.cell (p := ⟨b, 0, none⟩) h2.lt).trans d0, (b3.cell (p := ⟨b, 1, none⟩) h2.lt).trans d1⟩)
    (first | (go_at_call 138; refine (clone_any _ _ hcl).mono ?_; rintro x w3 ⟨rfl, b3⟩))
  go_wp2
  go_ret
  refine ⟨?_, (h2.drewN 1).below b3, o2.trans (((Only.refl b W2).drewN 1).trans (Only.of_below b3))⟩
  rw [Hex.out]; rfl

theorem numF_err (h : e ≠ 0) (n : Int) : numF s p e n = (p, e, 0) := by unfold numF; rw [if_pos h]
theorem numF_arg (n : Int) (h : n < 0 ∨ 8 < n) : numF s p 0 n = (p, 1, 0) := by unfold numF; rw [if_neg (by simp), if_pos h]
theorem numF_cut (n : Nat) (h : n ≤ 8) (hc : s.size < p + n) : numF s p 0 n = (p, 4, 0) := by
  unfold numF; rw [if_neg (by simp), if_neg (by omega), if_pos (by simpa using hc)]
theorem numF_ok (n : Nat) (h : n ≤ 8) (hc : p + n ≤ s.size) : numF s p 0 n = (p + n, 0, le (part s p n)) := by
  unfold numF; rw [if_neg (by simp), if_neg (by omega), if_neg (by simp; omega), Int.toNat_natCast]

set_option maxHeartbeats 400000 in
set_option maxRecDepth 60000 in
theorem number_any (h : IsReader w b s p e) (n : Int) :
    Calls Tryz.prog 31 #[.pointer (some ⟨b, 0, none⟩), .int .i64 n] w fun x w' =>
      x = .returned (.int .u64 (numF s p e n).2.2) ∧ IsReader w' b s (numF s p e n).1 (numF s p e n).2.1 ∧ Only b w w' := by
  have hsz := h.sz
  have hle := h.le
  have hsm : s.size ≤ maxLen := by unfold maxLen; omega
  by_cases he : e = 0
  · subst he
    have hst := stopped_any h
    rw [show ((0 : Int) != 0) = false from rfl] at hst
    have HST : Hid (Calls Tryz.prog 75 #[.pointer (some ⟨b, 0, none⟩)] w fun x w' => x = .returned (.bool false) ∧ w' = w) := hst
    clear hst
    have c0 := h.c0
    have c1 := h.c1
    by_cases hn : n < 0 ∨ 8 < n
    · rw [numF_arg n hn]
      go_enter Tryz.func31, Tryz.ntmps31
      go_wp2_with fail
      refine HST.out.mono ?_
      rintro x w1 ⟨rfl, rfl⟩
      go_wp2_with fail
      go_quiet ((go_at_call 76; exact Calls.quiet_of_same (get_arg s p n _ (by omega) hsm)))
      go_wp2_with fail
      refine (fail_any (h.drewN _) 1).mono ?_
      rintro x w2 ⟨rfl, h2, o2⟩
      go_wp2
      go_ret
      exact ⟨rfl, h2, ((Only.refl b w1).drewN _).trans o2⟩
    · obtain ⟨n, rfl⟩ := Int.eq_ofNat_of_zero_le (show 0 ≤ n by omega)
      by_cases hc : s.size < p + n
      · rw [numF_cut n (by omega) hc]
        go_enter Tryz.func31, Tryz.ntmps31
        go_wp2_with fail
        refine HST.out.mono ?_
        rintro x w1 ⟨rfl, rfl⟩
        go_wp2_with fail
        go_quiet ((go_at_call 76; exact Calls.quiet_of_same (get_cut s p n _ (by omega) (by omega) hc hsm)))
        go_wp2_with fail
        refine (fail_any (h.drewN _) 4).mono ?_
        rintro x w2 ⟨rfl, h2, o2⟩
        go_wp2
        go_ret
        exact ⟨rfl, h2, ((Only.refl b w1).drewN _).trans o2⟩
      · rw [numF_ok n (by omega) (by omega)]
        have f1 := h.f1
        go_enter Tryz.func31, Tryz.ntmps31
        go_wp2_with fail
        refine HST.out.mono ?_
        rintro x w1 ⟨rfl, rfl⟩
        go_wp2_with fail
        go_quiet ((go_at_call 76; exact Calls.quiet_of_same (get_ok s p n _ (by omega) (by omega) hsm)))
        go_wp2
        go_ret
        refine ⟨rfl, ?_, ((Only.refl b w1).drewN _).setCell 1 _⟩
        have h2 := (h.drewN nq).setAt (p + n) (by omega)
        rw [show ((p + n : Nat) : Int) = (p : Int) + (n : Int) from by omega] at h2
        exact h2
  · rw [numF_err he]
    have hst := stopped_any h
    rw [show (e != 0) = true from by rw [bne_iff_ne]; exact he] at hst
    have HST : Hid (Calls Tryz.prog 75 #[.pointer (some ⟨b, 0, none⟩)] w fun x w' => x = .returned (.bool true) ∧ w' = w) := hst
    clear hst
    go_enter Tryz.func31, Tryz.ntmps31
    go_wp2_with fail
    refine HST.out.mono ?_
    rintro x w1 ⟨rfl, rfl⟩
    go_wp2
    go_ret
    exact ⟨rfl, h, Only.refl _ _⟩

end
end Go.Proofs.YtchjboijoebifaaGreat

namespace Go.Proofs.YtchjboijoebifaaGreat
open Go.RowKit

section
variable {w : World} {b : Nat} {s : ByteArray} {p : Nat} {e : Int}

theorem stopped_no (h : IsReader w b s p 0) :
    Calls Tryz.prog 75 #[.pointer (some ⟨b, 0, none⟩)] w fun x w' => x = .returned (.bool false) ∧ w' = w := stopped_any h

theorem stopped_yes (h : IsReader w b s p e) (he : e ≠ 0) :
    Calls Tryz.prog 75 #[.pointer (some ⟨b, 0, none⟩)] w fun x w' => x = .returned (.bool true) ∧ w' = w := by
  have h1 := stopped_any h
  rw [show (e != 0) = true from by rw [bne_iff_ne]; exact he] at h1
  exact h1

theorem textF_err (h : e ≠ 0) (m : Int) : textF s p e m = (p, e, []) := by unfold textF; rw [if_pos h]
theorem textF_cut (m : Int) (hc : s.size < p + 2) : textF s p 0 m = (p, 4, []) := by unfold textF; rw [if_neg (by simp), if_pos hc]
theorem textF_more (m : Int) (hc : p + 2 ≤ s.size) (hm : m < (le (part s p 2) : Int)) : textF s p 0 m = (p, 5, []) := by
  unfold textF; rw [if_neg (by simp), if_neg (by omega), if_pos hm]
theorem textF_cut2 (m : Int) (hc : p + 2 ≤ s.size) (hm : (le (part s p 2) : Int) ≤ m) (hd : s.size < p + 2 + le (part s p 2)) : textF s p 0 m = (p, 4, []) := by
  unfold textF; rw [if_neg (by simp), if_neg (by omega), if_neg (by omega), if_pos hd]
theorem textF_ok (m : Int) (hm : (le (part s p 2) : Int) ≤ m) (hd : p + 2 + le (part s p 2) ≤ s.size) : textF s p 0 m = (p + 2 + le (part s p 2), 0, part s (p + 2) (le (part s p 2))) := by
  unfold textF; rw [if_neg (by simp), if_neg (by omega), if_neg (by omega), if_neg (by omega)]

set_option maxHeartbeats 400000 in
set_option maxRecDepth 60000 in
theorem rtext_any (h : IsReader w b s p e) (m : Int) :
    Calls Tryz.prog 78 #[.pointer (some ⟨b, 0, none⟩), .int .i64 m] w fun x w' =>
      x = .returned (.string ⟨(textF s p e m).2.2.toArray⟩) ∧ IsReader w' b s (textF s p e m).1 (textF s p e m).2.1 ∧ Only b w w' := by
  have hsz := h.sz
  have hle := h.le
  have hsm : s.size ≤ maxLen := by unfold maxLen; omega
  by_cases he : e = 0
  · subst he
    have c0 := h.c0
    have c1 := h.c1
    by_cases hc : s.size < p + 2
    · rw [textF_cut m hc]
      go_enter Tryz.func78, Tryz.ntmps78
      go_wp2_with fail
      refine (stopped_no h).mono ?_
      rintro x w1 ⟨rfl, rfl⟩
      go_wp2_with fail
      go_quiet ((go_at_call 76; exact Calls.quiet_of_same (get_cut s p 2 _ (by omega) (by omega) hc hsm)))
      go_wp2_with fail
      refine (fail_any (h.drewN _) 4).mono ?_
      rintro x w2 ⟨rfl, h2, o2⟩
      go_wp2
      go_ret
      exact ⟨rfl, h2, ((Only.refl b w1).drewN _).trans o2⟩
    · have hL := le_lt_of (l := part s p 2) (n := 2) (by rw [part_length (by omega)]; omega)
      have HG : Hid (∀ wx, Calls Tryz.prog 76 #[.string s, .int .i64 p, .int .i64 (2 : Nat)] wx fun e w' => e = .returned (.tuple #[.int .u64 (le (part s p 2)), .int .i64 0]) ∧ w' = wx) := fun wx => get_ok s p 2 wx (by omega) (by omega) hsm
      by_cases hm : m < (le (part s p 2) : Int)
      · rw [textF_more m (by omega) hm]
        generalize le (part s p 2) = L at *
        go_enter Tryz.func78, Tryz.ntmps78
        go_wp2_with fail
        refine (stopped_no h).mono ?_
        rintro x w1 ⟨rfl, rfl⟩
        go_wp2_with fail
        go_quiet ((go_at_call 76; exact Calls.quiet_of_same (HG.out _)))
        go_wp2_with fail
        refine (fail_any (h.drewN _) 5).mono ?_
        rintro x w2 ⟨rfl, h2, o2⟩
        go_wp2
        go_ret
        exact ⟨rfl, h2, ((Only.refl b w1).drewN _).trans o2⟩
      · by_cases hd : s.size < p + 2 + le (part s p 2)
        · rw [textF_cut2 m (by omega) (by omega) hd]
          generalize le (part s p 2) = L at *
          go_enter Tryz.func78, Tryz.ntmps78
          go_wp2_with fail
          refine (stopped_no h).mono ?_
          rintro x w1 ⟨rfl, rfl⟩
          go_wp2_with fail
          go_quiet ((go_at_call 76; exact Calls.quiet_of_same (HG.out _)))
          go_wp2_with fail
          refine (take_cut (h.drewN _) 2 L (by omega) (by omega) (by omega)).mono ?_
          rintro x w2 ⟨rfl, h2, o2⟩
          go_wp2
          go_ret
          exact ⟨rfl, h2, ((Only.refl b w1).drewN _).trans o2⟩
        · rw [textF_ok m (by omega) (by omega)]
          generalize le (part s p 2) = L at *
          go_enter Tryz.func78, Tryz.ntmps78
          go_wp2_with fail
          refine (stopped_no h).mono ?_
          rintro x w1 ⟨rfl, rfl⟩
          go_wp2_with fail
          go_quiet ((go_at_call 76; exact Calls.quiet_of_same (HG.out _)))
          go_wp2_with fail
          refine (take_ok (h.drewN _) 2 L (by omega)).mono ?_
          rintro x w2 ⟨rfl, h2, o2⟩
          go_wp2
          go_ret
          exact ⟨rfl, h2, ((Only.refl b w1).drewN _).trans o2⟩
  · rw [textF_err he]
    go_enter Tryz.func78, Tryz.ntmps78
    go_wp2_with fail
    refine (stopped_yes h he).mono ?_
    rintro x w1 ⟨rfl, rfl⟩
    go_wp2
    go_ret
    exact ⟨rfl, h, Only.refl _ _⟩

theorem boolF_err (h : e ≠ 0) : boolF s p e = (p, e, false) := by unfold boolF; rw [if_pos h]
theorem boolF_cut (hc : s.size < p + 1) : boolF s p 0 = (p, 4, false) := by unfold boolF; rw [if_neg (by simp), if_pos hc]
theorem boolF_form (hc : p + 1 ≤ s.size) (hb : 1 < le (part s p 1)) : boolF s p 0 = (p, 6, false) := by unfold boolF; rw [if_neg (by simp), if_neg (by omega), if_pos hb]
theorem boolF_ok (hc : p + 1 ≤ s.size) (hb : le (part s p 1) ≤ 1) : boolF s p 0 = (p + 1, 0, le (part s p 1) == 1) := by unfold boolF; rw [if_neg (by simp), if_neg (by omega), if_neg (by omega)]

set_option maxHeartbeats 400000 in
set_option maxRecDepth 60000 in
theorem bool_any (h : IsReader w b s p e) :
    Calls Tryz.prog 79 #[.pointer (some ⟨b, 0, none⟩)] w fun x w' =>
      x = .returned (.bool (boolF s p e).2.2) ∧ IsReader w' b s (boolF s p e).1 (boolF s p e).2.1 ∧ Only b w w' := by
  have hsz := h.sz
  have hle := h.le
  have hsm : s.size ≤ maxLen := by unfold maxLen; omega
  by_cases he : e = 0
  · subst he
    have c0 := h.c0
    have c1 := h.c1
    by_cases hc : s.size < p + 1
    · rw [boolF_cut hc]
      go_enter Tryz.func79, Tryz.ntmps79
      go_wp2_with fail
      refine (stopped_no h).mono ?_
      rintro x w1 ⟨rfl, rfl⟩
      go_wp2_with fail
      go_quiet ((go_at_call 76; exact Calls.quiet_of_same (get_cut s p 1 _ (by omega) (by omega) hc hsm)))
      go_wp2_with fail
      refine (fail_any (h.drewN _) 4).mono ?_
      rintro x w2 ⟨rfl, h2, o2⟩
      go_wp2
      go_ret
      exact ⟨rfl, h2, ((Only.refl b w1).drewN _).trans o2⟩
    · have hL := le_lt_of (l := part s p 1) (n := 1) (by rw [part_length (by omega)]; omega)
      have HG : Hid (∀ wx, Calls Tryz.prog 76 #[.string s, .int .i64 p, .int .i64 (1 : Nat)] wx fun e w' => e = .returned (.tuple #[.int .u64 (le (part s p 1)), .int .i64 0]) ∧ w' = wx) := fun wx => get_ok s p 1 wx (by omega) (by omega) hsm
      by_cases hm : 1 < le (part s p 1)
      · rw [boolF_form (by omega) hm]
        generalize le (part s p 1) = L at *
        go_enter Tryz.func79, Tryz.ntmps79
        go_wp2_with fail
        refine (stopped_no h).mono ?_
        rintro x w1 ⟨rfl, rfl⟩
        go_wp2_with fail
        go_quiet ((go_at_call 76; exact Calls.quiet_of_same (HG.out _)))
        go_wp2_with fail
        refine (fail_any (h.drewN _) 6).mono ?_
        rintro x w2 ⟨rfl, h2, o2⟩
        go_wp2
        go_ret
        exact ⟨rfl, h2, ((Only.refl b w1).drewN _).trans o2⟩
      · rw [boolF_ok (by omega) (by omega)]
        generalize le (part s p 1) = L at *
        have f1 := h.f1
        have hbe : ((L : Int) == 1) = (L == 1) := by rw [Bool.eq_iff_iff]; simp; omega
        go_enter Tryz.func79, Tryz.ntmps79
        go_wp2_with fail
        refine (stopped_no h).mono ?_
        rintro x w1 ⟨rfl, rfl⟩
        go_wp2_with fail
        go_quiet ((go_at_call 76; exact Calls.quiet_of_same (HG.out _)))
        go_wp2
        go_ret
        refine ⟨rfl, ?_, ((Only.refl b w1).drewN _).setCell 1 _⟩
        have h2 := (h.drewN nq).setAt (p + 1) (by omega)
        rw [show ((p + 1 : Nat) : Int) = (p : Int) + 1 from by omega] at h2
        exact h2
  · rw [boolF_err he]
    go_enter Tryz.func79, Tryz.ntmps79
    go_wp2_with fail
    refine (stopped_yes h he).mono ?_
    rintro x w1 ⟨rfl, rfl⟩
    go_wp2
    go_ret
    exact ⟨rfl, h, Only.refl _ _⟩

set_option maxHeartbeats 400000 in
set_option maxRecDepth 60000 in
theorem end_any (h : IsReader w b s p e) :
    Calls Tryz.prog 40 #[.pointer (some ⟨b, 0, none⟩)] w fun x w' => x = .returned (.int .i64 (endE s p e)) ∧ IsReader w' b s p (endE s p e) ∧ Only b w w' := by
  have hsz := h.sz
  have hle := h.le
  by_cases hp : p < s.size
  · have hE : failE e 5 = endE s p e := by unfold failE endE; by_cases he : e = 0 <;> simp [he, hp]
    go_enter Tryz.func40, Tryz.ntmps40
    go_wp2_with fail
    refine (left_any h).mono ?_
    rintro x w1 ⟨rfl, m, rfl⟩
    have h1 := h.drewN m
    go_wp2_with fail
    refine (fail_any h1 5).mono ?_
    rintro x w2 ⟨rfl, h2, o2⟩
    go_wp2_with fail
    refine (err_any h2).mono ?_
    rintro x w3 ⟨rfl, rfl⟩
    go_wp2
    go_ret
    exact ⟨by rw [← hE]; rfl, by rw [← hE]; exact h2, ((Only.refl b w).drewN m).trans o2⟩
  · have hE : e = endE s p e := by unfold endE; rw [if_neg (by omega)]
    have HE : Hid (e = endE s p e) := hE
    clear hE
    go_enter Tryz.func40, Tryz.ntmps40
    go_wp2_with fail
    refine (left_any h).mono ?_
    rintro x w1 ⟨rfl, m, rfl⟩
    have h1 := h.drewN m
    go_wp2_with fail
    refine (err_any h1).mono ?_
    rintro x w3 ⟨rfl, rfl⟩
    go_wp2
    go_ret
    exact ⟨by rw [← HE.out]; rfl, by rw [← HE.out]; exact h1, (Only.refl b w).drewN m⟩

end
end Go.Proofs.YtchjboijoebifaaGreat

namespace Go.Proofs.YtchjboijoebifaaGreat
open Go.RowKit

set_option maxHeartbeats 400000 in
set_option maxRecDepth 60000 in
theorem new_reader (s : ByteArray) (w : World) :
    Calls Tryz.prog 30 #[.string s] w fun x w' => x = .returned (.pointer (some ⟨w.heap.size, 0, none⟩)) ∧ w' = w.alloc (.cells #[.string s, .int .i64 0, .int .i64 0] 143) := by
  go_enter Tryz.func30, Tryz.ntmps30
  go_wp2
  go_ret
  exact ⟨rfl, rfl⟩

theorem reader_new {s : ByteArray} {w w1 : World} {t : TypeId} (hs : s.size ≤ 281474976710656) (hb : Below (w.alloc (.cells #[.string s, .int .i64 0, .int .i64 0] t)).heap.size (w.alloc (.cells #[.string s, .int .i64 0, .int .i64 0] t)) w1) :
    IsReader w1 w.heap.size s 0 0 := by
  have h : IsReader (w.alloc (.cells #[.string s, .int .i64 0, .int .i64 0] t)) w.heap.size s 0 0 := ⟨by simp, by simp, by simp, by simp, by simp, by omega, hs, by simp⟩
  exact h.below hb

end Go.Proofs.YtchjboijoebifaaGreat

namespace Go.Proofs.YtchjboijoebifaaGreat
open Go.RowKit

def RowV (w : World) (b N : Nat) (f : Nat → Value) : Prop :=
  ∀ j, j < N → w.cell? ⟨b, j, none⟩ = some (f j) ∧ w.frozen? ⟨b, j, none⟩ = false

theorem RowV.congr {w : World} {b N : Nat} {f g : Nat → Value} (h : RowV w b N f) (e : ∀ j, j < N → f j = g j) : RowV w b N g :=
  fun j hj => by rw [← e j hj]; exact h j hj

theorem RowV.set {w : World} {b N : Nat} {f : Nat → Value} (h : RowV w b N f) {k : Nat} (hk : k < N) (v : Value) :
    RowV (w.setCell ⟨b, k, none⟩ v) b N (fun j => if j = k then v else f j) := by
  intro j hj
  refine ⟨?_, by rw [World.frozen?_setCell]; exact (h j hj).2⟩
  by_cases e : j = k
  · subst e; simp only [if_pos]; exact World.cell?_setCell_same _ _ _ (h j hj).1
  · simp only [if_neg e]; rw [World.cell?_setCell_other _ _ _ _ (by intro q; exact e (by simpa using q.symm))]; exact (h j hj).1

theorem RowV.set_other {w : World} {b N : Nat} {f : Nat → Value} (h : RowV w b N f) {b' k : Nat} (hk : b' ≠ b) (v : Value) : RowV (w.setCell ⟨b', k, none⟩ v) b N f := by
  intro j hj
  refine ⟨?_, by rw [World.frozen?_setCell]; exact (h j hj).2⟩
  rw [World.cell?_setCell_other _ _ _ _ (by intro q; exact hk (by simpa using congrArg Addr.block q))]; exact (h j hj).1

theorem RowV.below {w w' : World} {b N : Nat} {f : Nat → Value} (h : RowV w b N f) {B : Nat} (k : Below B w w') (hb : b < B) : RowV w' b N f :=
  fun j hj => ⟨(k.cell (p := ⟨b, j, none⟩) hb).trans (h j hj).1, (k.frozen (p := ⟨b, j, none⟩) hb).trans (h j hj).2⟩

theorem Only.frozen {b : Nat} {w w' : World} (h : Only b w w') {p : Addr} (hp : p.block < w.heap.size) (hb : p.block ≠ b) : w'.frozen? p = w.frozen? p := World.frozen?_of_block (w := w) (h.block p.block hp hb)

theorem RowV.only {w w' : World} {b N : Nat} {f : Nat → Value} (h : RowV w b N f) {r : Nat} (k : Only r w w') (hb : b < w.heap.size) (hr : b ≠ r) : RowV w' b N f :=
  fun j hj => ⟨(k.cell (p := ⟨b, j, none⟩) hb hr).trans (h j hj).1, (k.frozen (p := ⟨b, j, none⟩) hb hr).trans (h j hj).2⟩

theorem Only.setNew {b : Nat} {w w' : World} (h : Only b w w') {k : Nat} (hk : w.heap.size ≤ k) (i : Nat) (v : Value) : Only b w (w'.setCell ⟨k, i, none⟩ v) :=
  ⟨h.os, h.tape, h.output, by simpa using h.size, fun j hj hb => (Below.heap_setCell _ _ _ _ (by simp; omega)).trans (h.block j hj hb)⟩

theorem IsReader.setOther {w : World} {b : Nat} {s : ByteArray} {p : Nat} {e : Int} (h : IsReader w b s p e) {k i : Nat} (hk : k ≠ b) (v : Value) : IsReader (w.setCell ⟨k, i, none⟩ v) b s p e := by
  have ne : ∀ o, (⟨k, i, none⟩ : Addr) ≠ ⟨b, o, none⟩ := fun o q => hk (congrArg Addr.block q)
  exact ⟨by rw [World.cell?_setCell_other _ _ _ _ (ne 0)]; exact h.c0, by rw [World.cell?_setCell_other _ _ _ _ (ne 1)]; exact h.c1, by rw [World.cell?_setCell_other _ _ _ _ (ne 2)]; exact h.c2,
    by rw [World.frozen?_setCell]; exact h.f1, by rw [World.frozen?_setCell]; exact h.f2, h.le, h.sz, by simpa using h.lt⟩

section
variable {w : World} {b : Nat} {s : ByteArray} {p : Nat} {e : Int}

end
end Go.Proofs.YtchjboijoebifaaGreat

namespace Go.Proofs.YtchjboijoebifaaGreat
open Go.RowKit

section
variable {w : World} {b : Nat} {s : ByteArray} {p : Nat} {e : Int}

theorem IsReader.alloc {w : World} (h : IsReader w b s p e) (o : Obj) : IsReader (w.alloc o) b s p e := h.below ((Below.refl _ _).alloc (Nat.le_refl _) _)

end
end Go.Proofs.YtchjboijoebifaaGreat
