/-
  The walk of page.takeSlots.
-/
import Derived.Test.YtgmfgkdecpldeaaGreatPageRowsC
namespace Go.Proofs.YtgmfgkdecpldeaaGreat
open Go.RowKit
set_option linter.unusedVariables false

/-- The length of slot j, whose lengths stand at q. -/
def longAt (s : ByteArray) (q j : Nat) : Nat := le (part s (q + 2 * j) 2)

/-- Where slot k begins. -/
def offAt (s : ByteArray) (q n : Nat) : Nat → Nat
  | 0 => q + 2 * n
  | k + 1 => offAt s q n k + longAt s q k

theorem offAt_mono (s : ByteArray) (q n : Nat) {k m : Nat} (h : k ≤ m) : offAt s q n k ≤ offAt s q n m := by
  induction m with
  | zero => rw [show k = 0 from by omega]; exact Nat.le_refl _
  | succ m ih =>
    by_cases e : k = m + 1
    · rw [e]; exact Nat.le_refl _
    · have := ih (by omega); simp only [offAt]; omega

/-- The slots. -/
def slotAt (s : ByteArray) (q n j : Nat) : ByteArray := ⟨(part s (offAt s q n j) (longAt s q j)).toArray⟩
def slotsAt (s : ByteArray) (q n : Nat) : List ByteArray := (List.range n).map (slotAt s q n)

theorem slotsAt_length (s : ByteArray) (q n : Nat) : (slotsAt s q n).length = n := by simp [slotsAt]

theorem longAt_lt (s : ByteArray) (q j : Nat) (h : q + 2 * j + 2 ≤ s.size) : longAt s q j < 65536 := by
  have := le_lt_of (l := part s (q + 2 * j) 2) (n := 2) (by rw [part_length (by omega)]; omega)
  exact this

section
variable {w : World} {b : Nat} {s : ByteArray} {p : Nat} {e : Int}

theorem IsReader.alloc {w : World} (h : IsReader w b s p e) (o : Obj) : IsReader (w.alloc o) b s p e := h.below ((Below.refl _ _).alloc (Nat.le_refl _) _)

set_option maxHeartbeats 1600000 in
set_option maxRecDepth 60000 in
theorem takeSlots_gen (h : IsReader w b s p e) (q n : Nat) (e0 : Int) (hn : n ≤ 64) (h0 : n = 0 ∨ e0 = 0 ∧ q + 2 * n ≤ s.size)
    (hc : Calls Tryz.prog 98 #[.pointer (some ⟨b, 0, none⟩), .int .i64 1, .int .i64 (64 : Nat)] w fun x w' => x = .returned (.int .i64 n) ∧ IsReader w' b s q e0 ∧ Only b w w') :
    Calls Tryz.prog 99 #[.pointer (some ⟨b, 0, none⟩)] w fun x w' => ∃ a c p' e', x = .returned (.slice a n c) ∧ IsReader w' b s p' e' ∧ Only b w w' ∧
      (e0 = 0 → offAt s q n n ≤ s.size → p' = offAt s q n n ∧ e' = 0 ∧ ∃ bs, a = some ⟨bs, 0, none⟩ ∧ w.heap.size ≤ bs ∧ bs < w'.heap.size ∧ RowV w' bs n (fun j => .string (slotAt s q n j))) ∧ (e0 ≠ 0 ∨ s.size < offAt s q n n → e' ≠ 0) := by
  have HC := hc
  have hlt := h.lt
  have hsz := h.sz
  have hmk := run_make_row' (P := Tryz.prog) 31 3 (.int .i64 0) 8 Tryz.underlying31 infoInt rfl .i64 .i64 n (by omega) (by omega)
  have hmk2 := run_make_row' (P := Tryz.prog) 43 9 (.string ⟨#[]⟩) 16 Tryz.underlying43 infoStr rfl .i64 .i64 n (by omega) (by omega)
  clear hc h
  go_enter Tryz.func99, Tryz.ntmps99
  go_wp2_with fail
  refine HC.mono ?_
  rintro x w1 ⟨rfl, h1, o1⟩
  have z1 := o1.size
  go_wp2_with fail
  go_loopw [13] (fun i wr => ∃ k : Nat, k ≤ n ∧ i = .int .i64 k ∧ IsReader wr b s (q + 2 * k) e0 ∧ RowV wr w1.heap.size n (fun j => if j < k then .int .i64 (longAt s q j) else .int .i64 0) ∧ Only b w wr ∧ w1.heap.size < wr.heap.size) (fun i _ => n - (intOf i).toNat)
  case atStart => exact ⟨0, by omega, rfl, h1.alloc _, (RowV.made w1 n (.int .i64 0) rfl _).congr (fun j _ => by simp), o1.trans (Only.of_below ((Below.refl _ _).alloc (Nat.le_refl _) _)), by simp⟩
  case round =>
    obtain ⟨k, hk, rfl, hr, hrow, ho, hz⟩ := hrel
    by_cases hlt' : k < n
    · obtain ⟨rfl, hq⟩ : e0 = 0 ∧ q + 2 * n ≤ s.size := by omega
      have HN : Hid (Calls Tryz.prog 96 #[.pointer (some ⟨b, 0, none⟩), .int .i64 2] wr fun x w' => x = .returned (.int .u64 (longAt s q k)) ∧ IsReader w' b s (q + 2 * k + 2) 0 ∧ Only b wr w') := number_ok hr 2 (by omega) (by omega)
      have hL := longAt_lt s q k (by omega)
      have hLk : Hid (longAt s q k = longAt s q k) := rfl
      obtain ⟨N, HNk⟩ : ∃ N, Hid (longAt s q k = N) := ⟨_, rfl⟩
      rw [HNk.out] at HN hL
      go_wp2_with fail
      refine HN.out.mono ?_
      rintro x w2 ⟨rfl, h2, o2⟩
      have hrow2 := hrow.only o2 hz (by omega)
      have hck := (hrow2 k hlt').1
      have hfk := (hrow2 k hlt').2
      go_wp2
      go_roundw
      case rel =>
        refine ⟨k + 1, by omega, by go_num, h2.setOther (by omega) _, (hrow2.set hlt' _).congr (fun j hj => ?_), (ho.trans o2).setNew (by omega) _ _, by have := o2.size; simp; omega⟩
        by_cases e : j = k
        · subst e; rw [if_pos rfl, if_pos (by omega), HNk.out]
        · rw [if_neg e]; by_cases h : j < k
          · rw [if_pos h, if_pos (by omega)]
          · rw [if_neg h, if_neg (by omega)]
      case measure => simp [intOf]; omega
    · obtain rfl : k = n := by omega
      obtain ⟨wA, rfl⟩ : ∃ wA, wA = wr := ⟨_, rfl⟩
      have hrowL : RowV wA w1.heap.size k (fun j => .int .i64 (longAt s q j)) := hrow.congr (fun j hj => by rw [if_pos hj])
      clear hrow
      go_wp2_with fail
      go_loopw [28] (fun i wr => ∃ (m : Nat) (f : Nat → Value) (p' : Nat) (e' : Int), m ≤ k ∧ i = .int .i64 m ∧ IsReader wr b s p' e' ∧ RowV wr w1.heap.size k (fun j => .int .i64 (longAt s q j)) ∧ RowV wr wA.heap.size k f ∧ Only b w wr ∧ wA.heap.size < wr.heap.size ∧
        Hid ((∀ j, j < m → offAt s q k (j + 1) ≤ s.size → f j = .string (slotAt s q k j)) ∧ (e0 = 0 → offAt s q k m ≤ s.size → p' = offAt s q k m ∧ e' = 0) ∧ (e0 ≠ 0 ∨ s.size < offAt s q k m → e' ≠ 0))) (fun i _ => k - (intOf i).toNat)
      case atStart =>
        refine ⟨0, fun _ => .string ⟨#[]⟩, q + 2 * k, e0, by omega, rfl, hr.alloc _, hrowL.below ((Below.refl _ _).alloc (Nat.le_refl _) _) hz, RowV.made wA k (.string ⟨#[]⟩) rfl _, ho.trans (Only.of_below ((Below.refl _ _).alloc (Nat.le_refl _) _)), by simp, ?_⟩
        refine ⟨fun j hj => by omega, fun h1 _ => ⟨rfl, h1⟩, fun h1 => ?_⟩
        rcases h1 with h1 | h1
        · exact h1
        · have : offAt s q k 0 = q + 2 * k := rfl
          rcases h0 with h0 | ⟨_, h0⟩
          · have := hr.le; omega
          · omega
      case round =>
        obtain ⟨m, f, p', e', hm, rfl, hr3, hrl3, hrs3, ho3, hz3, HF⟩ := hrel
        by_cases hlt3 : m < k
        · obtain ⟨rfl, hq⟩ : e0 = 0 ∧ q + 2 * k ≤ s.size := by omega
          have hlc := (hrl3 m hlt3).1
          have hL := longAt_lt s q m (by omega)
          have hoff : Hid (offAt s q k (m + 1) = offAt s q k m + longAt s q m) := rfl
          have hslot : Hid (slotAt s q k m = ⟨(part s (offAt s q k m) (longAt s q m)).toArray⟩) := rfl
          obtain ⟨N, HNk⟩ : ∃ N, Hid (longAt s q m = N) := ⟨_, rfl⟩
          simp only [HNk.out] at hlc
          rw [HNk.out] at hL hoff hslot
          -- what Bytes does here
          have HB : ∃ (t : ByteArray) (p2 : Nat) (e2 : Int), (Calls Tryz.prog 97 #[.pointer (some ⟨b, 0, none⟩), .int .i64 N] wr fun x w' => x = .returned (.string t) ∧ IsReader w' b s p2 e2 ∧ Only b wr w') ∧
              Hid ((offAt s q k (m + 1) ≤ s.size → p2 = offAt s q k (m + 1) ∧ e2 = 0 ∧ t = slotAt s q k m) ∧ (s.size < offAt s q k (m + 1) → e2 ≠ 0)) := by
            have F := HF.out
            have hO := hoff.out
            by_cases hfit : offAt s q k m ≤ s.size
            · obtain ⟨rfl, rfl⟩ := F.2.1 rfl hfit
              by_cases hfit2 : offAt s q k (m + 1) ≤ s.size
              · exact ⟨_, _, _, bytes_ok hr3 N (by omega), fun _ => ⟨by omega, rfl, hslot.out.symm⟩, fun h => by omega⟩
              · exact ⟨_, _, _, bytes_cut hr3 N (by omega) (by omega), fun h => by omega, fun _ => by decide⟩
            · have he := F.2.2 (.inr (by omega))
              exact ⟨_, _, _, bytes_err hr3 he N (by omega), fun h => by omega, fun _ => he⟩
          obtain ⟨t, p2, e2, HB, HF2⟩ := HB
          go_wp2_with fail
          refine HB.mono ?_
          rintro x w2 ⟨rfl, h2, o2⟩
          have hrl2 := hrl3.only o2 (by omega) (by omega)
          have hrs2 := hrs3.only o2 hz3 (by omega)
          have hck := (hrs2 m hlt3).1
          have hfk := (hrs2 m hlt3).2
          go_wp2
          go_roundw
          case rel =>
            refine ⟨m + 1, _, p2, e2, by omega, by go_num, h2.setOther (by omega) _, hrl2.set_other (by omega) _, hrs2.set hlt3 _, (ho3.trans o2).setNew (by omega) _ _, by have := o2.size; simp; omega, ?_⟩
            refine ⟨fun j hj hf => ?_, fun _ hf => ⟨(HF2.out.1 hf).1, (HF2.out.1 hf).2.1⟩, fun hf => HF2.out.2 (by omega)⟩
            by_cases e : j = m
            · subst e; simp only [if_pos]; rw [(HF2.out.1 hf).2.2]
            · simp only [if_neg e]; exact HF.out.1 j (by omega) hf
          case measure => simp [intOf]; omega
        · obtain rfl : m = k := by omega
          go_wp2
          go_ret
          refine ⟨_, _, p', e', rfl, hr3, ho3, fun h1 h2 => ⟨(HF.out.2.1 h1 h2).1, (HF.out.2.1 h1 h2).2, ?_⟩, HF.out.2.2⟩
          refine ⟨wA.heap.size, rfl, by omega, hz3, hrs3.congr fun j hj => ?_⟩
          exact HF.out.1 j hj (Nat.le_trans (offAt_mono s q m (by omega)) h2)

end
end Go.Proofs.YtgmfgkdecpldeaaGreat
