/-
  The walks of raw.Reader's taking methods: Number, Bytes, Text, Bool, End, over a reader that lies in memory; each is told by a plain function of the text, the place and the error.
-/
import Derived.Test.YtgkfdakieebnmaaGreatPageMemJ
import Derived.Deep.RegionHeld3
set_option linter.unusedVariables false
set_option linter.unusedSimpArgs false
namespace Go.Proofs.YtgkfdakieebnmaaGreat
open Go.RowKit

def numF (s : ByteArray) (p : Nat) (e n : Int) : Nat × Int × Nat :=
  if e ≠ 0 then (p, e, 0) else if n < 0 ∨ 8 < n then (p, 1, 0) else if s.size < p + n.toNat then (p, 4, 0) else (p + n.toNat, 0, le (part s p n.toNat))

def bytesF (s : ByteArray) (p : Nat) (e n : Int) : Nat × Int × List UInt8 :=
  if e ≠ 0 then (p, e, []) else if n < 0 then (p, 1, []) else if s.size < p + n.toNat then (p, 4, []) else (p + n.toNat, 0, part s p n.toNat)

def textF (s : ByteArray) (p : Nat) (e m : Int) : Nat × Int × List UInt8 :=
  if e ≠ 0 then (p, e, []) else if s.size < p + 2 then (p, 4, []) else if m < (le (part s p 2) : Int) then (p, 5, []) else
    if s.size < p + 2 + le (part s p 2) then (p, 4, []) else (p + 2 + le (part s p 2), 0, part s (p + 2) (le (part s p 2)))

def boolF (s : ByteArray) (p : Nat) (e : Int) : Nat × Int × Bool :=
  if e ≠ 0 then (p, e, false) else if s.size < p + 1 then (p, 4, false) else if 1 < le (part s p 1) then (p, 6, false) else (p + 1, 0, le (part s p 1) == 1)

def endE (s : ByteArray) (p : Nat) (e : Int) : Int := if e = 0 ∧ p < s.size then 5 else e

section
variable {w : World} {b : Nat} {s : ByteArray} {p : Nat} {e : Int}

set_option maxHeartbeats 400000 in
set_option maxRecDepth 60000 in
theorem take_cut (h : IsReader w b s p 0) (a n : Nat) (ha : p + a ≤ s.size) (hn : s.size < p + a + n) (hm : n ≤ 9223372036854775807) :
    Calls Tryz.prog 170 #[.pointer (some ⟨b, 0, none⟩), .int .i64 a, .int .i64 n] w fun x w' => x = .returned (.string ⟨#[]⟩) ∧ IsReader w' b s p 4 ∧ Only b w w' := by
  have hsz := h.sz
  have hle := h.le
  go_enter Tryz.func170, Tryz.ntmps170
  go_wp2_with fail
  refine (left_any h).mono ?_
  rintro x w1 ⟨rfl, m, rfl⟩
  have h1 := h.drewN m
  go_wp2_with fail
  refine (fail_any h1 4).mono ?_
  rintro x w2 ⟨rfl, h2, o2⟩
  go_wp2
  go_ret
  exact ⟨rfl, h2, ((Only.refl b w).drewN m).trans o2⟩

set_option maxHeartbeats 400000 in
set_option maxRecDepth 60000 in
theorem take_ok (h : IsReader w b s p 0) (a n : Nat) (hn : p + a + n ≤ s.size) :
    Calls Tryz.prog 170 #[.pointer (some ⟨b, 0, none⟩), .int .i64 a, .int .i64 n] w fun x w' => x = .returned (.string ⟨(part s (p + a) n).toArray⟩) ∧ IsReader w' b s (p + a + n) 0 ∧ Only b w w' := by
  have hsz := h.sz
  have hle := h.le
  go_enter Tryz.func170, Tryz.ntmps170
  go_wp2_with fail
  refine (left_any h).mono ?_
  rintro x w1 ⟨rfl, m, rfl⟩
  have h1 := h.drewN m
  have c1 := h1.c1
  have f1 := h1.f1
  go_wp2_with fail
  have h2 := h1.setAt (p + a + n) hn
  rw [show ((p + a + n : Nat) : Int) = (p : Int) + (a : Int) + (n : Int) from by omega] at h2
  have o2 : Only b w ((w.drewN m).setCell ⟨b, 1, none⟩ (.int .i64 ((p : Int) + (a : Int) + (n : Int)))) := ((Only.refl b w).drewN m).setCell 1 _
  have d0 := h2.c0
  have d1 := h2.c1
  rw [show ((p + a + n : Nat) : Int) = (p : Int) + (a : Int) + (n : Int) from by omega] at d1
  generalize (w.drewN m).setCell ⟨b, 1, none⟩ (.int .i64 ((p : Int) + (a : Int) + (n : Int))) = W2 at *
  clear h1 c1 f1
  have hsl := fun wx => run_slice_string (P := Tryz.prog) wx 9 s .i64 .i64 ((p : Int) + (a : Int)) ((p : Int) + (a : Int) + (n : Int)) Tryz.underlying9 (by omega) (by omega) (by omega)
  rw [show ((p : Int) + (a : Int)).toNat = p + a from by omega, show ((p : Int) + (a : Int) + (n : Int)).toNat = p + a + n from by omega] at hsl
  have hcl : (s.extract (p + a) (p + a + n)).size ≤ 281474976710656 := by simp; omega
  have hex : (⟨(part s (p + a) n).toArray⟩ : ByteArray) = s.extract (p + a) (p + a + n) := by
    have := Lib.extract_data s (p + a) (p + a + n)
    rw [show p + a + n - (p + a) = n from by omega] at this
    rw [part, ← this, bytes_self]
  have Hex : Hid ((⟨(part s (p + a) n).toArray⟩ : ByteArray) = s.extract (p + a) (p + a + n)) := hex
  clear hex
  go_region_held3 (fun w' => w'.cell? ⟨b, 0, none⟩ = some (.string s) ∧ w'.cell? ⟨b, 1, none⟩ = some (.int .i64 ((p : Int) + (a : Int) + (n : Int)))) (first | go_keep | exact ⟨(b3.cell (p := ⟨b, 0, none⟩) h2.lt).trans d0, (b3.cell (p := ⟨b, 1, none⟩) h2.lt).trans d1⟩)
    (first | (go_at_call 101; refine (clone_any _ _ hcl).mono ?_; rintro x w3 ⟨rfl, b3⟩))
  go_wp2
  go_ret
  refine ⟨?_, (h2.drewN 1).below b3, o2.trans (((Only.refl b W2).drewN 1).trans (Only.of_below b3))⟩
  rw [Hex.out]; rfl

theorem numF_err (h : e ≠ 0) (n : Int) : numF s p e n = (p, e, 0) := by unfold numF; rw [if_pos h]
theorem numF_arg (n : Int) (h : n < 0 ∨ 8 < n) : numF s p 0 n = (p, 1, 0) := by unfold numF; rw [if_neg (by simp), if_pos h]
theorem numF_cut (n : Nat) (h : n ≤ 8) (hc : s.size < p + n) : numF s p 0 n = (p, 4, 0) := by
  unfold numF; rw [if_neg (by simp), if_neg (by omega), if_pos (by simpa using hc)]
theorem numF_ok (n : Nat) (h : n ≤ 8) (hc : p + n ≤ s.size) : numF s p 0 n = (p + n, 0, le (part s p n)) := by
  unfold numF; rw [if_neg (by simp), if_neg (by omega), if_neg (by simp; omega), Int.toNat_natCast]

set_option maxHeartbeats 400000 in
set_option maxRecDepth 60000 in
theorem number_any (h : IsReader w b s p e) (n : Int) :
    Calls Tryz.prog 59 #[.pointer (some ⟨b, 0, none⟩), .int .i64 n] w fun x w' =>
      x = .returned (.int .u64 (numF s p e n).2.2) ∧ IsReader w' b s (numF s p e n).1 (numF s p e n).2.1 ∧ Only b w w' := by
  have hsz := h.sz
  have hle := h.le
  have hsm : s.size ≤ maxLen := by unfold maxLen; omega
  by_cases he : e = 0
  · subst he
    have hst := stopped_any h
    rw [show ((0 : Int) != 0) = false from rfl] at hst
    have HST : Hid (Calls Tryz.prog 122 #[.pointer (some ⟨b, 0, none⟩)] w fun x w' => x = .returned (.bool false) ∧ w' = w) := hst
    clear hst
    have c0 := h.c0
    have c1 := h.c1
    by_cases hn : n < 0 ∨ 8 < n
    · rw [numF_arg n hn]
      go_enter Tryz.func59, Tryz.ntmps59
      go_wp2_with fail
      refine HST.out.mono ?_
      rintro x w1 ⟨rfl, rfl⟩
      go_wp2_with fail
      go_quiet ((go_at_call 123; exact Calls.quiet_of_same (get_arg s p n _ (by omega) hsm)))
      go_wp2_with fail
      refine (fail_any (h.drewN _) 1).mono ?_
      rintro x w2 ⟨rfl, h2, o2⟩
      go_wp2
      go_ret
      exact ⟨rfl, h2, ((Only.refl b w1).drewN _).trans o2⟩
    · obtain ⟨n, rfl⟩ := Int.eq_ofNat_of_zero_le (show 0 ≤ n by omega)
      by_cases hc : s.size < p + n
      · rw [numF_cut n (by omega) hc]
        go_enter Tryz.func59, Tryz.ntmps59
        go_wp2_with fail
        refine HST.out.mono ?_
        rintro x w1 ⟨rfl, rfl⟩
        go_wp2_with fail
        go_quiet ((go_at_call 123; exact Calls.quiet_of_same (get_cut s p n _ (by omega) (by omega) hc hsm)))
        go_wp2_with fail
        refine (fail_any (h.drewN _) 4).mono ?_
        rintro x w2 ⟨rfl, h2, o2⟩
        go_wp2
        go_ret
        exact ⟨rfl, h2, ((Only.refl b w1).drewN _).trans o2⟩
      · rw [numF_ok n (by omega) (by omega)]
        have f1 := h.f1
        go_enter Tryz.func59, Tryz.ntmps59
        go_wp2_with fail
        refine HST.out.mono ?_
        rintro x w1 ⟨rfl, rfl⟩
        go_wp2_with fail
        go_quiet ((go_at_call 123; exact Calls.quiet_of_same (get_ok s p n _ (by omega) (by omega) hsm)))
        go_wp2
        go_ret
        refine ⟨rfl, ?_, ((Only.refl b w1).drewN _).setCell 1 _⟩
        have h2 := (h.drewN nq).setAt (p + n) (by omega)
        rw [show ((p + n : Nat) : Int) = (p : Int) + (n : Int) from by omega] at h2
        exact h2
  · rw [numF_err he]
    have hst := stopped_any h
    rw [show (e != 0) = true from by rw [bne_iff_ne]; exact he] at hst
    have HST : Hid (Calls Tryz.prog 122 #[.pointer (some ⟨b, 0, none⟩)] w fun x w' => x = .returned (.bool true) ∧ w' = w) := hst
    clear hst
    go_enter Tryz.func59, Tryz.ntmps59
    go_wp2_with fail
    refine HST.out.mono ?_
    rintro x w1 ⟨rfl, rfl⟩
    go_wp2
    go_ret
    exact ⟨rfl, h, Only.refl _ _⟩

end
end Go.Proofs.YtgkfdakieebnmaaGreat
