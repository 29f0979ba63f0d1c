/-
  The walk of girderlaw05.WalFull.
-/
import Derived.Test.YtnhgmegjfnpiiaaWalRoom
namespace Go.Proofs.Ytnhgmegjfnpiiaa
open Go.RowKit
set_option linter.unusedVariables false

/-- A log of the call's own. -/
def At (w W : World) (q : Nat) (l : LG) : Prop := ∃ S, IsLog W q S l ∧ (∀ k, S k → w.heap.size ≤ k) ∧ Below w.heap.size w W

theorem At.moves {w W W' : World} {q : Nat} {l' : LG} {S S' : Nat → Prop} (hn : ∀ k, S k → w.heap.size ≤ k) (hb : Below w.heap.size w W) (hl : IsLog W' q S' l') (hm : Moves S S' W W') : At w W' q l' :=
  ⟨S', hl, fun k x => (hm.2 k x).elim (hn k) (fun y => Nat.le_trans hb.size y), below_kept hb hm.1 hn⟩

theorem At.below {w W W' : World} {q : Nat} {l : LG} (h : At w W q l) (b : Below W.heap.size W W') : At w W' q l := by
  obtain ⟨S, h1, h2, h3⟩ := h
  exact ⟨S, h1.below b, h2, below_chain h3 b⟩

theorem At.bel {w W : World} {q : Nat} {l : LG} (h : At w W q l) : Below w.heap.size w W := by
  obtain ⟨S, h1, h2, h3⟩ := h
  exact h3

theorem At.drew {w W : World} {q : Nat} {l : LG} (h : At w W q l) : At w W.drew q l := h.below ((Below.refl _ _).drew)

section
variable {w W : World} {q : Nat} {l : LG}

theorem append_at (h : At w W q l) (hn : l.starts.length ≤ 10000000) (s : ByteArray) (h1 : 1 ≤ s.size) (h2 : s.size ≤ 8192) (hm : s.size + 12 + l.kept + l.bytes.length ≤ 4194304) :
    Calls Try.prog 23 #[.pointer (some ⟨q, 0, none⟩), .string s] W fun e w' => e = .returned (.tuple #[.int .u64 ((l.bytes.length + 1 : Nat) : Int), .int .i64 0]) ∧ At w w' q (putG l s) := by
  obtain ⟨S, k1, k2, k3⟩ := h
  refine (append_out k1 (by omega) hn (by omega) s h1 h2 hm).mono ?_
  rintro e w' ⟨rfl, S', a, b⟩
  exact ⟨rfl, At.moves k2 k3 a b⟩

theorem append_at_full (h : At w W q l) (hb : l.bytes.length ≤ 4194304) (hk : l.kept ≤ 4194304) (s : ByteArray) (h1 : 1 ≤ s.size) (h2 : s.size ≤ 8192) (hm : 4194304 < s.size + 12 + l.kept + l.bytes.length) :
    Calls Try.prog 23 #[.pointer (some ⟨q, 0, none⟩), .string s] W fun e w' => e = .returned (.tuple #[.int .u64 0, .int .i64 50]) ∧ At w w' q l := by
  have h' := h
  obtain ⟨S, k1, k2, k3⟩ := h
  refine (append_full k1 hb hk s h1 h2 hm).mono ?_
  rintro e w' ⟨rfl, b⟩
  exact ⟨rfl, h'.below b⟩

theorem spend_at (h : At w W q l) (hn : l.starts.length ≤ 10000000) (hk : l.kept ≤ 4194304) (s : ByteArray) (h1 : 1 ≤ s.size) (h2 : s.size ≤ 8192) (hm : s.size + 12 + l.bytes.length ≤ 4194304) :
    Calls Try.prog 24 #[.pointer (some ⟨q, 0, none⟩), .string s] W fun e w' => e = .returned (.tuple #[.int .u64 ((l.bytes.length + 1 : Nat) : Int), .int .i64 0]) ∧ At w w' q { putG l s with kept := l.kept - (s.size + 12) } := by
  obtain ⟨S, k1, k2, k3⟩ := h
  refine (spend_out k1 (by omega) hn hk s h1 h2 hm).mono ?_
  rintro e w' ⟨rfl, S', a, b⟩
  exact ⟨rfl, At.moves k2 k3 a b⟩

theorem keep_at (h : At w W q l) (hb : l.bytes.length ≤ 4194304) (hk : l.kept ≤ 4194304) (n : Nat) (hn : n ≤ 1000000000) (hm : (n : Int) ≤ (4194304 : Int) - l.bytes.length - l.kept) :
    Calls Try.prog 21 #[.pointer (some ⟨q, 0, none⟩), .int .i64 n] W fun e w' => e = .returned (.int .i64 0) ∧ At w w' q { l with kept := l.kept + n } := by
  obtain ⟨S, k1, k2, k3⟩ := h
  refine (keep_ok k1 hb hk n hn hm).mono ?_
  rintro e w' ⟨rfl, a, b⟩
  exact ⟨rfl, At.moves k2 k3 a b⟩

theorem keep_at_full (h : At w W q l) (hb : l.bytes.length ≤ 4194304) (hk : l.kept ≤ 4194304) (n : Nat) (hn : n ≤ 1000000000) (hm : (4194304 : Int) - l.bytes.length - l.kept < n) :
    Calls Try.prog 21 #[.pointer (some ⟨q, 0, none⟩), .int .i64 n] W fun e w' => e = .returned (.int .i64 50) ∧ At w w' q l := by
  have h' := h
  obtain ⟨S, k1, k2, k3⟩ := h
  refine (keep_full k1 hb hk n hn hm).mono ?_
  rintro e w' ⟨rfl, rfl⟩
  exact ⟨rfl, h'.drew⟩

theorem room_at (h : At w W q l) (hl : l.bytes.length ≤ 4194304) :
    Calls Try.prog 22 #[.pointer (some ⟨q, 0, none⟩)] W fun e w' => e = .returned (.int .i64 ((4194304 : Int) - (l.bytes.length : Int))) ∧ w' = W := by
  obtain ⟨S, k1, k2, k3⟩ := h
  exact room_out k1 hl

theorem kept_at (h : At w W q l) :
    Calls Try.prog 25 #[.pointer (some ⟨q, 0, none⟩)] W fun e w' => e = .returned (.int .i64 l.kept) ∧ w' = W := by
  obtain ⟨S, k1, k2, k3⟩ := h
  exact kept_out k1

end

theorem open_at (w : World) : Calls Try.prog 12 #[.int .i64 8] w fun e w' => ∃ p, e = .returned (.tuple #[.pointer (some ⟨p, 0, none⟩), .int .i64 0]) ∧
    Calls Try.prog 13 #[.pointer (some ⟨p, 0, none⟩)] w' fun e w'' => ∃ q, e = .returned (.tuple #[.pointer (some ⟨q, 0, none⟩), .int .i64 0, .int .i64 0]) ∧ At w w'' q (log0 p) := by
  refine (wnew_out w 8 (by omega) (by omega)).mono ?_
  rintro e w1 ⟨p, rfl, ⟨D1, hd1, hn1⟩, b1⟩
  refine ⟨p, rfl, ?_⟩
  refine (open_out hd1 rfl (by show 0 ≤ _; omega) (by show (scan ⟨#[]⟩ (0 + 1) 0).2 = 0; rw [scan_none])).mono ?_
  rintro e w2 ⟨q, rfl, ⟨S2, hl2, hn2⟩, b2⟩
  rw [openL_new] at hl2
  exact ⟨q, rfl, S2, hl2, fun k x => Nat.le_trans b1.size (hn2 k x), b1.trans (b2.mono b1.size)⟩

theorem putG_len (l : LG) (s : ByteArray) : (putG l s).bytes.length = l.bytes.length + (s.size + 12) ∧ (putG l s).starts.length = l.starts.length + 1 ∧ (putG l s).kept = l.kept := by
  refine ⟨?_, ?_, rfl⟩
  · show (l.bytes ++ frameL _ _).length = _
    rw [List.length_append, frameL_length]
    simp
  · show (l.starts ++ [_]).length = _
    simp

/-- A log of the call's own, by its sizes alone. -/
def Full (w W : World) (q b s k : Nat) : Prop := ∃ l, At w W q l ∧ l.bytes.length = b ∧ l.starts.length = s ∧ l.kept = k

section
variable {w W : World} {q b s k : Nat}

theorem Full.below {W' : World} (h : Full w W q b s k) (x : Below W.heap.size W W') : Full w W' q b s k := by
  obtain ⟨l, h1, h2⟩ := h
  exact ⟨l, h1.below x, h2⟩

theorem Full.bel (h : Full w W q b s k) : Below w.heap.size w W := by
  obtain ⟨l, h1, h2⟩ := h
  exact h1.bel

theorem append_f (h : Full w W q b s k) (hn : s ≤ 10000000) (x : ByteArray) (h1 : 1 ≤ x.size) (h2 : x.size ≤ 8192) (hm : x.size + 12 + k + b ≤ 4194304) (b' s' : Nat) (hb : b + (x.size + 12) = b') (hs : s + 1 = s') :
    Calls Try.prog 23 #[.pointer (some ⟨q, 0, none⟩), .string x] W fun e w' => e = .returned (.tuple #[.int .u64 ((b + 1 : Nat) : Int), .int .i64 0]) ∧ Full w w' q b' s' k := by
  obtain ⟨l, h0, rfl, rfl, rfl⟩ := h
  refine (append_at h0 hn x h1 h2 hm).mono ?_
  rintro e w' ⟨rfl, a⟩
  obtain ⟨g1, g2, g3⟩ := putG_len l x
  exact ⟨rfl, _, a, by omega, by omega, g3⟩

theorem append_f_full (h : Full w W q b s k) (hb : b ≤ 4194304) (hk : k ≤ 4194304) (x : ByteArray) (h1 : 1 ≤ x.size) (h2 : x.size ≤ 8192) (hm : 4194304 < x.size + 12 + k + b) :
    Calls Try.prog 23 #[.pointer (some ⟨q, 0, none⟩), .string x] W fun e w' => e = .returned (.tuple #[.int .u64 0, .int .i64 50]) ∧ Full w w' q b s k := by
  obtain ⟨l, h0, rfl, rfl, rfl⟩ := h
  refine (append_at_full h0 hb hk x h1 h2 hm).mono ?_
  rintro e w' ⟨rfl, a⟩
  exact ⟨rfl, _, a, rfl, rfl, rfl⟩

theorem spend_f (h : Full w W q b s k) (hn : s ≤ 10000000) (hk : k ≤ 4194304) (x : ByteArray) (h1 : 1 ≤ x.size) (h2 : x.size ≤ 8192) (hm : x.size + 12 + b ≤ 4194304) (b' s' k' : Nat) (hb : b + (x.size + 12) = b') (hs : s + 1 = s') (hk' : k - (x.size + 12) = k') :
    Calls Try.prog 24 #[.pointer (some ⟨q, 0, none⟩), .string x] W fun e w' => e = .returned (.tuple #[.int .u64 ((b + 1 : Nat) : Int), .int .i64 0]) ∧ Full w w' q b' s' k' := by
  obtain ⟨l, h0, rfl, rfl, rfl⟩ := h
  refine (spend_at h0 hn hk x h1 h2 hm).mono ?_
  rintro e w' ⟨rfl, a⟩
  obtain ⟨g1, g2, g3⟩ := putG_len l x
  exact ⟨rfl, _, a, g1.trans hb, g2.trans hs, hk'⟩

theorem keep_f (h : Full w W q b s k) (hb : b ≤ 4194304) (hk : k ≤ 4194304) (n : Nat) (hn : n ≤ 1000000000) (hm : (n : Int) ≤ (4194304 : Int) - b - k) (k' : Nat) (hk' : k + n = k') :
    Calls Try.prog 21 #[.pointer (some ⟨q, 0, none⟩), .int .i64 n] W fun e w' => e = .returned (.int .i64 0) ∧ Full w w' q b s k' := by
  obtain ⟨l, h0, rfl, rfl, rfl⟩ := h
  refine (keep_at h0 hb hk n hn hm).mono ?_
  rintro e w' ⟨rfl, a⟩
  exact ⟨rfl, _, a, rfl, rfl, hk'⟩

theorem keep_f_full (h : Full w W q b s k) (hb : b ≤ 4194304) (hk : k ≤ 4194304) (n : Nat) (hn : n ≤ 1000000000) (hm : (4194304 : Int) - b - k < n) :
    Calls Try.prog 21 #[.pointer (some ⟨q, 0, none⟩), .int .i64 n] W fun e w' => e = .returned (.int .i64 50) ∧ Full w w' q b s k := by
  obtain ⟨l, h0, rfl, rfl, rfl⟩ := h
  refine (keep_at_full h0 hb hk n hn hm).mono ?_
  rintro e w' ⟨rfl, a⟩
  exact ⟨rfl, _, a, rfl, rfl, rfl⟩

theorem room_f (h : Full w W q b s k) (hl : b ≤ 4194304) (r : Nat) (hr : b + r = 4194304) :
    Calls Try.prog 22 #[.pointer (some ⟨q, 0, none⟩)] W fun e w' => e = .returned (.int .i64 r) ∧ w' = W := by
  obtain ⟨l, h0, rfl, rfl, rfl⟩ := h
  have e : (4194304 : Int) - (l.bytes.length : Int) = (r : Int) := by omega
  rw [← e]
  exact room_at h0 hl

theorem kept_f (h : Full w W q b s k) :
    Calls Try.prog 25 #[.pointer (some ⟨q, 0, none⟩)] W fun e w' => e = .returned (.int .i64 k) ∧ w' = W := by
  obtain ⟨l, h0, rfl, rfl, rfl⟩ := h
  exact kept_at h0

end

def zerosW : List UInt8 := List.replicate 8192 0

set_option maxHeartbeats 1600000 in
set_option maxRecDepth 8000 in
theorem walFull_other (n : Int) (h3 : n ≠ 3) (w : World) : Calls Try.prog 6 #[.int .i64 n] w fun e w' => e = .returned (.bool true) ∧ Below w.heap.size w w' := by
  have hmk := run_make_row' (P := Try.prog) 57 5 (.int .u8 0) 1 Try.underlying57 infoB rfl .i64 .i64 8192 (by omega) (by omega)
  rw [show ((8192 : Nat) : Int) = 8192 from rfl] at hmk
  have hlen : zerosW.length = 8192 := List.length_replicate
  have hget : ∀ j (hj : j < zerosW.length), zerosW[j] = 0 := fun j hj => List.getElem_replicate hj
  have HR : Hid (∀ W : World, (convert 57 9 (.slice (some ⟨W.heap.size, 0, none⟩) 8192 8192)).run Try.prog (W.alloc (.cells (madeCells #[.int .u8 0] 8192) 5)) = .ok (.string ⟨zerosW.toArray⟩) (W.alloc (.cells (madeCells #[.int .u8 0] 8192) 5))) := fun W =>
    (RowU.made W 8192 5).toString (P := Try.prog) (c := 8192) zerosW hlen (fun j hj => by rw [hget j hj]; rfl) 57 9 5 Try.underlying57 Try.underlying5 Try.underlying9
  have hzs : (ByteArray.mk zerosW.toArray).size = 8192 := by rw [bytes_size]; exact hlen
  generalize ByteArray.mk zerosW.toArray = Z at *
  clear hlen hget
  have hn3 : (n == 3) = false := by rw [beq_eq_false_iff_ne]; exact h3
  go_enter Try.func6, Try.ntmps6
  go_wp2_with fail
  refine (open_at w).mono ?_
  rintro e w1 ⟨p, rfl, ho⟩
  have HO := hid ho
  clear ho
  go_wp2_with fail
  refine HO.out.mono ?_
  rintro e w2 ⟨q, rfl, ha2⟩
  have HA2 := hid ha2
  clear ha2 HO
  go_wp2_with fail
  refine (awake_any _).mono ?_
  rintro e w3 ⟨rfl, b3⟩
  have HA3 := hid (HA2.out.below b3)
  clear HA2 b3
  go_wp2_with fail
  have HF3 : Hid (Full w w3 q 0 0 0) := ⟨_, HA3.out, rfl, rfl, rfl⟩
  clear HA3
  refine (keep_f HF3.out (by omega) (by omega) 1000 (by omega) (by omega) 1000 (by omega)).mono ?_
  rintro e w4 ⟨rfl, ha4⟩
  have hcv := HR.out w4
  have HF5 : Hid (Full w (w4.alloc (.cells (madeCells #[.int .u8 0] 8192) 5)) q 0 0 1000) := ha4.below ((Below.refl _ _).alloc (Nat.le_refl _) _)
  clear ha4 HF3 HR
  have hza : (⟨#[97]⟩ : ByteArray).size = 1 := rfl
  go_wp2_with fail
  generalize w4.alloc (.cells (madeCells #[.int .u8 0] 8192) 5) = w5 at *
  clear hcv hmk
  refine (room_f HF5.out (by omega) 4194304 (by omega)).mono ?_
  rintro e w6 ⟨rfl, rfl⟩
  go_wp2_with fail
  refine (keep_f HF5.out (by omega) (by omega) 4193304 (by omega) (by omega) 4194304 (by omega)).mono ?_
  rintro e w7 ⟨rfl, ha7⟩
  have HF7 := hid ha7
  clear ha7 HF5
  go_wp2_with fail
  refine (keep_f_full HF7.out (by omega) (by omega) 1 (by omega) (by omega)).mono ?_
  rintro e w8 ⟨rfl, ha8⟩
  have HF8 := hid ha8
  clear ha8 HF7
  go_wp2_with fail
  refine (append_f_full HF8.out (by omega) (by omega) ⟨#[97]⟩ (by omega) (by omega) (by omega)).mono ?_
  rintro e w9 ⟨rfl, ha9⟩
  have HF9 := hid ha9
  clear ha9 HF8
  go_wp2_with fail
  refine (spend_f HF9.out (by omega) (by omega) ⟨#[97]⟩ (by omega) (by omega) (by omega) 13 1 4194291 (by omega) (by omega) (by omega)).mono ?_
  rintro e w10 ⟨rfl, ha10⟩
  have HF10 := hid ha10
  clear ha10 HF9
  go_wp2_with fail
  refine (kept_f HF10.out).mono ?_
  rintro e w11 ⟨rfl, rfl⟩
  go_wp2_with fail
  refine (room_f HF10.out (by omega) 4194291 (by omega)).mono ?_
  rintro e w12 ⟨rfl, rfl⟩
  have HB := hid HF10.out.bel
  clear HF10
  go_wp2
  go_ret
  exact ⟨rfl, HB.out⟩

set_option maxHeartbeats 1600000 in
set_option maxRecDepth 8000 in
theorem walFull_three (w : World) : Calls Try.prog 6 #[.int .i64 3] w fun e w' => e = .returned (.bool true) ∧ Below w.heap.size w w' := by
  have hmk := run_make_row' (P := Try.prog) 57 5 (.int .u8 0) 1 Try.underlying57 infoB rfl .i64 .i64 8192 (by omega) (by omega)
  rw [show ((8192 : Nat) : Int) = 8192 from rfl] at hmk
  have hlen : zerosW.length = 8192 := List.length_replicate
  have hget : ∀ j (hj : j < zerosW.length), zerosW[j] = 0 := fun j hj => List.getElem_replicate hj
  have HR : Hid (∀ W : World, (convert 57 9 (.slice (some ⟨W.heap.size, 0, none⟩) 8192 8192)).run Try.prog (W.alloc (.cells (madeCells #[.int .u8 0] 8192) 5)) = .ok (.string ⟨zerosW.toArray⟩) (W.alloc (.cells (madeCells #[.int .u8 0] 8192) 5))) := fun W =>
    (RowU.made W 8192 5).toString (P := Try.prog) (c := 8192) zerosW hlen (fun j hj => by rw [hget j hj]; rfl) 57 9 5 Try.underlying57 Try.underlying5 Try.underlying9
  have hzs : (ByteArray.mk zerosW.toArray).size = 8192 := by rw [bytes_size]; exact hlen
  generalize ByteArray.mk zerosW.toArray = Z at *
  clear hlen hget
  go_enter Try.func6, Try.ntmps6
  go_wp2_with fail
  refine (open_at w).mono ?_
  rintro e w1 ⟨p, rfl, ho⟩
  have HO := hid ho
  clear ho
  go_wp2_with fail
  refine HO.out.mono ?_
  rintro e w2 ⟨q, rfl, ha2⟩
  have HA2 := hid ha2
  clear ha2 HO
  go_wp2_with fail
  refine (awake_any _).mono ?_
  rintro e w3 ⟨rfl, b3⟩
  have HA3 := hid (HA2.out.below b3)
  clear HA2 b3
  go_wp2_with fail
  have HF3 : Hid (Full w w3 q 0 0 0) := ⟨_, HA3.out, rfl, rfl, rfl⟩
  clear HA3
  refine (keep_f HF3.out (by omega) (by omega) 1000 (by omega) (by omega) 1000 (by omega)).mono ?_
  rintro e w4 ⟨rfl, ha4⟩
  have hcv := HR.out w4
  have HF5 : Hid (Full w (w4.alloc (.cells (madeCells #[.int .u8 0] 8192) 5)) q 0 0 1000) := ha4.below ((Below.refl _ _).alloc (Nat.le_refl _) _)
  clear ha4 HF3 HR
  have hza : (⟨#[97]⟩ : ByteArray).size = 1 := rfl
  go_wp2_with fail
  generalize w4.alloc (.cells (madeCells #[.int .u8 0] 8192) 5) = w5 at *
  clear hcv hmk
  go_loopg [] 600 (fun m wr => ∃ (k b : Nat), Hid (Full w wr q b k 1000) ∧ k + m = 600 ∧ b = 8204 * k ∧ b ≤ 4193304)
  case atStart => exact ⟨0, 0, HF5, rfl, rfl, Nat.zero_le _⟩
  case round =>
    obtain ⟨k, b, HF, hk, hb, hle⟩ := hrel
    clear HF5
    by_cases hr : 8204 * (k + 1) ≤ 4193304
    · go_wp2_with fail
      refine (append_f HF.out (by omega) Z (by omega) (by omega) (by omega) (8204 * (k + 1)) (k + 1) (by omega) rfl).mono ?_
      rintro e w6 ⟨rfl, ha6⟩
      have HF6 := hid ha6
      clear ha6 HF
      go_wp2_with fail
      go_roundg (600 - (k + 1))
      case measure => omega
      case rel => exact ⟨k + 1, 8204 * (k + 1), HF6, by omega, rfl, hr⟩
    · obtain rfl : k = 511 := by omega
      obtain rfl : b = 4192244 := by omega
      go_wp2_with fail
      refine (append_f_full HF.out (by omega) (by omega) Z (by omega) (by omega) (by omega)).mono ?_
      rintro e w6 ⟨rfl, ha6⟩
      have HF6 := hid ha6
      clear ha6 HF
      go_wp2_with fail
      refine (room_f HF6.out (by omega) 2060 (by omega)).mono ?_
      rintro e w7 ⟨rfl, rfl⟩
      go_wp2_with fail
      refine (kept_f HF6.out).mono ?_
      rintro e w8 ⟨rfl, rfl⟩
      have hx : (Z.extract 0 1048).size = 1048 := by rw [ByteArray.size_extract]; omega
      have hy : (Z.extract 0 500).size = 500 := by rw [ByteArray.size_extract]; omega
      go_wp2_with fail
      refine (append_f HF6.out (by omega) (Z.extract 0 1048) (by omega) (by omega) (by omega) 4193304 512 (by omega) rfl).mono ?_
      rintro e w9 ⟨rfl, ha9⟩
      have HF9 := hid ha9
      clear ha9 HF6
      go_wp2_with fail
      refine (append_f_full HF9.out (by omega) (by omega) ⟨#[97]⟩ (by omega) (by omega) (by omega)).mono ?_
      rintro e w10 ⟨rfl, ha10⟩
      have HF10 := hid ha10
      clear ha10 HF9
      go_wp2_with fail
      refine (spend_f HF10.out (by omega) (by omega) (Z.extract 0 500) (by omega) (by omega) (by omega) 4193816 513 488 (by omega) rfl (by omega)).mono ?_
      rintro e w11 ⟨rfl, ha11⟩
      have HF11 := hid ha11
      clear ha11 HF10
      go_wp2_with fail
      refine (kept_f HF11.out).mono ?_
      rintro e w12 ⟨rfl, rfl⟩
      go_wp2_with fail
      refine (room_f HF11.out (by omega) 488 (by omega)).mono ?_
      rintro e w13 ⟨rfl, rfl⟩
      go_wp2_with fail
      refine (kept_f HF11.out).mono ?_
      rintro e w14 ⟨rfl, rfl⟩
      have HB := hid HF11.out.bel
      clear HF11
      go_wp2
      go_ret
      exact ⟨rfl, HB.out⟩

theorem walFull_any (n : Int) (w : World) : Calls Try.prog 6 #[.int .i64 n] w fun e w' => e = .returned (.bool true) ∧ Below w.heap.size w w' := by
  by_cases h : n = 3
  · rw [h]; exact walFull_three w
  · exact walFull_other n h w

end Go.Proofs.Ytnhgmegjfnpiiaa
