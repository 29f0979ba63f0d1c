/-
  slices.BinarySearch at []api.LSN, and the walks of (*wal.Log).find, Get, Back, Last.
-/
import Derived.Test.YthmhigjdjclckaaWalOpenC
import Derived.Deep.LoopGhost
import Derived.Deep.Draws
namespace Go.Proofs.Ythmhigjdjclckaa
open Go.RowKit
set_option linter.unusedVariables false

theorem nan1_any (x : Int) (w : World) : Calls Try.prog 74 #[.int .u64 x] w fun e w' => e = .returned (.bool false) ∧ w' = w := by
  go_enter Try.func74, Try.ntmps74
  go_wp2
  go_ret
  exact ⟨by simp, rfl⟩

theorem nan2_any (x : Int) (w : World) : Calls Try.prog 70 #[.int .u64 x] w fun e w' => e = .returned (.bool false) ∧ w' = w := by
  go_enter Try.func70, Try.ntmps70
  go_wp2
  go_ret
  exact ⟨by simp, rfl⟩

theorem less_any (x y : Int) (w : World) : Calls Try.prog 69 #[.int .u64 x, .int .u64 y] w fun e w' => e = .returned (.bool (decide (x < y))) ∧ w' = w := by
  go_enter Try.func69, Try.ntmps69
  go_wp2_with (go_at_call 74; refine (nan1_any _ _).mono ?_; rintro e w' ⟨rfl, rfl⟩)
  go_ret
  exact ⟨rfl, rfl⟩

/-- Of a row that does not fall: how many stand ahead of a place, and whether it stands there. -/
def Found (L : List Nat) (x i : Nat) (b : Bool) : Prop :=
  i ≤ L.length ∧ (∀ t, t < i → L.getD t 0 < x) ∧ (∀ t, i ≤ t → t < L.length → x ≤ L.getD t 0) ∧ b = decide (i < L.length ∧ L.getD i 0 = x)

set_option maxHeartbeats 2000000 in
set_option maxRecDepth 100000 in
theorem search_row (L : List Nat) (x : Nat) (g cap : Nat) (w : World) (hc : ∀ j, j < L.length → w.cell? ⟨g, j, none⟩ = some (.int .u64 (L.getD j 0 : Nat))) (hn : L.length ≤ 10000000) (hs : ∀ a b, a ≤ b → b < L.length → L.getD a 0 ≤ L.getD b 0) :
    Calls Try.prog 60 #[.slice (some ⟨g, 0, none⟩) L.length cap, .int .u64 x] w fun e w' => (∃ i b, e = .returned (.tuple #[.int .i64 (i : Nat), .bool b]) ∧ Found L x i b) ∧ ∃ q, w' = w.drewN q := by
  have S := hid hs
  clear hs
  obtain ⟨n, hnn⟩ : ∃ n, L.length = n := ⟨_, rfl⟩
  unfold Found
  rw [hnn] at hc S hn ⊢
  clear hnn
  go_enter Try.func60, Try.ntmps60
  go_wp2
  go_loopg [7, 8] n (fun m s7 s8 wr => ∃ lo hi q : Nat, s7 = .int .i64 lo ∧ s8 = .int .i64 hi ∧ lo ≤ hi ∧ hi ≤ n ∧ hi - lo ≤ m ∧ wr = w.drewN q ∧ Hid ((∀ t, t < lo → L.getD t 0 < x) ∧ (∀ t, hi ≤ t → t < n → x ≤ L.getD t 0)))
  case atStart => exact ⟨0, n, 0, rfl, rfl, Nat.zero_le _, Nat.le_refl _, by omega, rfl, (⟨fun t ht => absurd ht (Nat.not_lt_zero _), fun t h1 h2 => by omega⟩ : (∀ t, t < 0 → L.getD t 0 < x) ∧ (∀ t, n ≤ t → t < n → x ≤ L.getD t 0))⟩
  case round =>
    obtain ⟨lo, hi, q, rfl, rfl, hlh, hin, hg, rfl, I⟩ := hrel
    by_cases hlt : lo < hi
    · have cm : w.cell? ⟨g, (lo + hi) / 2, none⟩ = some (.int .u64 (L.getD ((lo + hi) / 2) 0 : Nat)) := hc _ (by omega)
      clear hc
      have Y : Hid (∃ y, L.getD ((lo + hi) / 2) 0 = y) := ⟨_, rfl⟩
      obtain ⟨y, hy⟩ := Y.out
      rw [hy] at cm
      have Y : Hid (L.getD ((lo + hi) / 2) 0 = y) := hy
      clear hy
      by_cases hyx : y < x
      · go_wp2_with (first | (go_at_call 69; refine (less_any _ _ _).mono ?_; rintro e w' ⟨rfl, rfl⟩) | (go_at_call 70; refine (nan2_any _ _).mono ?_; rintro e w' ⟨rfl, rfl⟩))
        go_roundg (hi - ((lo + hi) / 2 + 1))
        case measure => omega
        case rel =>
          refine ⟨(lo + hi) / 2 + 1, hi, _, by rw [show ((lo : Int) + (hi : Int)) / 2 + 1 = (((lo + hi) / 2 + 1 : Nat) : Int) by omega], rfl, by omega, hin, Nat.le_refl _, rfl, ?_⟩
          refine ⟨fun t ht => ?_, I.out.2⟩
          have := S.out t ((lo + hi) / 2) (by omega) (by omega)
          rw [Y.out] at this
          omega
      · go_wp2_with (first | (go_at_call 69; refine (less_any _ _ _).mono ?_; rintro e w' ⟨rfl, rfl⟩) | (go_at_call 70; refine (nan2_any _ _).mono ?_; rintro e w' ⟨rfl, rfl⟩))
        go_roundg ((lo + hi) / 2 - lo)
        case measure => omega
        case rel =>
          refine ⟨lo, (lo + hi) / 2, _, rfl, by rw [show ((lo : Int) + (hi : Int)) / 2 = (((lo + hi) / 2 : Nat) : Int) by omega], by omega, by omega, Nat.le_refl _, rfl, ?_⟩
          refine ⟨I.out.1, fun t ht htn => ?_⟩
          have := S.out ((lo + hi) / 2) t ht htn
          rw [Y.out] at this
          omega
    · have : hi = lo := by omega
      subst this
      by_cases hn' : hi < n
      · have cl : w.cell? ⟨g, hi, none⟩ = some (.int .u64 (L.getD hi 0 : Nat)) := hc _ (by omega)
        clear hc
        have Y : Hid (∃ y, L.getD hi 0 = y) := ⟨_, rfl⟩
        obtain ⟨y, hy⟩ := Y.out
        rw [hy] at cl
        have Y : Hid (L.getD hi 0 = y) := hy
        clear hy
        by_cases hyx : y = x
        · have hyx' : ((y : Int) == (x : Int)) = true := by simp [hyx]
          have HE := hid hyx
          clear hyx
          go_wp2_with (first | (go_at_call 69; refine (less_any _ _ _).mono ?_; rintro e w' ⟨rfl, rfl⟩) | (go_at_call 70; refine (nan2_any _ _).mono ?_; rintro e w' ⟨rfl, rfl⟩))
          go_ret2
          exact ⟨⟨hi, true, rfl, hin, I.out.1, I.out.2, (decide_eq_true ⟨hn', Y.out.trans HE.out⟩).symm⟩, _, rfl⟩
        · have hyx' : ((y : Int) == (x : Int)) = false := by rw [beq_eq_false_iff_ne]; omega
          have HE := hid hyx
          clear hyx
          go_wp2_with (first | (go_at_call 69; refine (less_any _ _ _).mono ?_; rintro e w' ⟨rfl, rfl⟩) | (go_at_call 70; refine (nan2_any _ _).mono ?_; rintro e w' ⟨rfl, rfl⟩))
          go_ret2
          exact ⟨⟨hi, false, rfl, hin, I.out.1, I.out.2, (decide_eq_false fun h => HE.out (Y.out.symm.trans h.2)).symm⟩, _, rfl⟩
      · clear hc
        go_wp2_with (first | (go_at_call 69; refine (less_any _ _ _).mono ?_; rintro e w' ⟨rfl, rfl⟩) | (go_at_call 70; refine (nan2_any _ _).mono ?_; rintro e w' ⟨rfl, rfl⟩))
        go_ret2
        exact ⟨⟨hi, false, rfl, hin, I.out.1, I.out.2, (decide_eq_false fun h => hn' h.1).symm⟩, _, rfl⟩

theorem search_nil (x : Nat) (w : World) :
    Calls Try.prog 60 #[.slice none 0 0, .int .u64 x] w fun e w' => (∃ i b, e = .returned (.tuple #[.int .i64 (i : Nat), .bool b]) ∧ Found [] x i b) ∧ ∃ q, w' = w.drewN q := by
  go_enter Try.func60, Try.ntmps60
  go_wp2
  go_loopg [7, 8] 0 (fun m s7 s8 wr => s7 = .int .i64 0 ∧ s8 = .int .i64 0 ∧ wr = w)
  case atStart => exact ⟨rfl, rfl, rfl⟩
  case round =>
    obtain ⟨rfl, rfl, rfl⟩ := hrel
    go_wp2_with (first | (go_at_call 69; refine (less_any _ _ _).mono ?_; rintro e w' ⟨rfl, rfl⟩) | (go_at_call 70; refine (nan2_any _ _).mono ?_; rintro e w' ⟨rfl, rfl⟩))
    go_ret2
    exact ⟨⟨0, false, rfl, Nat.le_refl _, fun t h => absurd h (Nat.not_lt_zero _), fun t _ h => absurd h (Nat.not_lt_zero _), by simp⟩, 0, rfl⟩

/-- The starts rise. -/
def Rising (L : List Nat) : Prop := ∀ a b, a < b → b < L.length → L.getD a 0 < L.getD b 0

section
variable {w : World} {p : Nat} {S : Nat → Prop} {l : LG}

theorem find_out (h : IsLog w p S l) (hr : Rising l.starts) (hn : l.starts.length ≤ 10000000) (x : Nat) :
    Calls Try.prog 46 #[.pointer (some ⟨p, 0, none⟩), .int .u64 x] w fun e w' => (∃ i b, e = .returned (.tuple #[.int .i64 (i : Nat), .bool b]) ∧ Found l.starts x i b) ∧ ∃ q, w' = w.drewN q := by
  obtain ⟨bv, sv, hL, _⟩ := h
  have c2 := hL.cells.c2
  have HC : Hid (Calls Try.prog 60 #[sv, .int .u64 x] w fun e w' => (∃ i b, e = .returned (.tuple #[.int .i64 (i : Nat), .bool b]) ∧ Found l.starts x i b) ∧ ∃ q, w' = w.drewN q) := by
    have ho := hL.starts
    rcases ho.2 with ⟨e1, e2⟩ | ⟨g, cap, cur, e1, _⟩
    · rw [e1, List.eq_nil_of_length_eq_zero e2]
      exact search_nil x w
    · rw [e1]
      refine search_row l.starts x g cap w (fun j hj => ?_) hn (fun a b hab hb => ?_)
      · rw [e1] at ho
        have := owns_cells ho j (.int .u64 (l.starts.getD j 0 : Nat)) (by simp [lsnCells, hj])
        simpa [Addr.add_lit] using this
      · rcases Nat.eq_or_lt_of_le hab with rfl | k
        · exact Nat.le_refl _
        · exact Nat.le_of_lt (hr a b k hb)
  obtain ⟨a, c, rfl⟩ := owns_slice hL.starts
  clear hL
  go_enter Try.func46, Try.ntmps46
  go_wp2_with fail
  refine HC.out.mono ?_
  rintro e w1 ⟨⟨i, b, rfl, hf⟩, q, rfl⟩
  have HF := hid hf
  clear hf HC
  go_wp2
  go_ret2
  exact ⟨⟨i, b, rfl, HF.out⟩, q, rfl⟩

theorem Found.here {L : List Nat} {x i j : Nat} {b : Bool} (h : Found L x i b) (hr : Rising L) (hj : j < L.length) (hx : L.getD j 0 = x) : i = j ∧ b = true := by
  obtain ⟨h1, h2, h3, h4⟩ := h
  have e1 : ¬ j < i := fun k => by have := h2 j k; omega
  have e2 : ¬ i < j := fun k => by have a := hr i j k hj; have b := h3 i (Nat.le_refl _) (by omega); omega
  have e : i = j := by omega
  exact ⟨e, by rw [h4, e]; exact decide_eq_true ⟨hj, hx⟩⟩

theorem ByteRow.text {w : World} {g n cap : Nat} {l : List UInt8} (h : ByteRow w (.slice (some ⟨g, 0, none⟩) n cap) l) (a k c : Nat) (hk : a + k ≤ l.length) :
    (convert 57 9 (.slice (some ⟨g, a, none⟩) k c)).run Try.prog w = .ok (.string ⟨((l.drop a).take k).toArray⟩) w := by
  have hl : ((l.drop a).take k).length = k := by simp; omega
  have := run_convert_bytes_back (P := Try.prog) w 57 9 5 ⟨g, a, none⟩ c ((l.drop a).take k) Try.underlying57 Try.underlying5 Try.underlying9 (fun j hj => by
    rw [hl] at hj
    have e := h.cell (a + j) (by omega)
    simp only [List.getElem_take, List.getElem_drop]
    simpa [Addr.add_lit] using e)
  rw [hl] at this
  exact this

/-- The record between two places. -/
def recB (l : LG) (x B : Nat) : ByteArray := ⟨((l.bytes.drop (x + 7)).take (B - x - 12)).toArray⟩

set_option maxHeartbeats 400000 in
set_option maxRecDepth 8000 in
theorem get_last (h : IsLog w p S l) (hr : Rising l.starts) (hn : l.starts.length ≤ 10000000) (hb : l.bytes.length ≤ 4194304) (i x B : Nat) (hi : i + 1 = l.starts.length) (hx : l.starts.getD i 0 = x) (h1 : 1 ≤ x) (h2 : x + 12 ≤ B) (h3 : B = l.bytes.length + 1) :
    Calls Try.prog 18 #[.pointer (some ⟨p, 0, none⟩), .int .u64 x] w fun e w' => e = .returned (.tuple #[.string (recB l x B), .int .u64 (B : Nat), .bool true]) ∧ ∃ q, w' = w.drewN q := by
  go_enter Try.func18, Try.ntmps18
  go_wp2_with fail
  refine (find_out h hr hn x).mono ?_
  rintro e w1 ⟨⟨i', b, rfl, hf⟩, q, rfl⟩
  obtain ⟨rfl, rfl⟩ := hf.here hr (by omega) hx
  have hD : IsLog (w.drewN q) p S l := h.same (fun _ _ => rfl) (Nat.le_refl _)
  go_wp2_with fail
  refine (end_out hD hb).mono ?_
  rintro e w1 ⟨rfl, rfl⟩
  have HD := hid hD
  obtain ⟨bv, sv, hL, _⟩ := h
  have c1 := hL.cells.c1
  have c2 := hL.cells.c2
  obtain ⟨sa, sc, rfl⟩ := owns_slice hL.starts
  rcases hL.bytes with ⟨e1, e2⟩ | ⟨g, cap, cur, fz, e1, hg, hfz, hlc, hcm, hcs, htk⟩
  · exfalso
    rw [e2] at h3
    simp at h3
    omega
  have hrow := hL.bytes
  rw [e1] at hrow c1
  clear hL
  have k1 : ((i' : Int) + 1 < (l.starts.length : Int)) ↔ False := by simp; omega
  have hcv := ByteRow.text (w := w.drewN q) (hrow.same fun _ _ => rfl) (x - 1 + 8) (l.bytes.length - (x - 1) - 4 - 8) (cap - (x - 1) - 8) (by omega)
  have HE : Hid (ByteArray.mk ((l.bytes.drop (x - 1 + 8)).take (l.bytes.length - (x - 1) - 4 - 8)).toArray = recB l x B) := by
    unfold recB
    rw [show x - 1 + 8 = x + 7 by omega, show l.bytes.length - (x - 1) - 4 - 8 = B - x - 12 by omega]
    exact rfl
  rw [HE.out] at hcv
  clear hrow
  go_wp2
  go_ret3
  exact ⟨by rw [h3]; rfl, q, rfl⟩

end

end Go.Proofs.Ythmhigjdjclckaa
