/-
  The walks of wal.lsnBehind, wal.Frame, girderlaw05.frame and wal.frameAt: a record's frame, and the frame that stands at a place.
-/
import Derived.Test.YtjemeopafkafgaaGreatCrcWalksJ
import Derived.Test.YtjemeopafkafgaaGreatGetWalksC
import Derived.Deep.RegionHeld3
namespace Go.Proofs.YtjemeopafkafgaaGreat
open Go.RowKit
set_option linter.unusedVariables false

/-- A record's frame. -/
def frameL (a : Nat) (s : List UInt8) : List UInt8 := putL s.length 4 ++ putL (crcSum 0 (putL a 8 ++ s)) 4 ++ s ++ putL s.length 4

def frameB (a : Nat) (s : ByteArray) : ByteArray := ⟨(frameL a s.data.toList).toArray⟩

theorem frameL_length (a : Nat) (s : List UInt8) : (frameL a s).length = s.length + 12 := by
  simp [frameL, putL_length]
  omega

theorem frameB_size (a : Nat) (s : ByteArray) : (frameB a s).size = s.size + 12 := by
  unfold frameB
  rw [bytes_size, frameL_length]
  simp

theorem lsn_any (n : Nat) (w : World) (hn : n ≤ 4611686018427387904) :
    Calls Tryz.prog 35 #[.int .i64 n] w fun e w' => e = .returned (.int .u64 ((n + 1 : Nat) : Int)) ∧ w' = w := by
  go_enter Tryz.func35, Tryz.ntmps35
  go_wp2
  go_ret
  exact ⟨by go_num, rfl⟩

theorem frame_record (a : Nat) (s : ByteArray) (w : World) (h : s.size = 0 ∨ 8192 < s.size) (hs : s.size ≤ maxLen) :
    Calls Tryz.prog 151 #[.int .u64 a, .string s] w fun e w' => e = .returned (.tuple #[.string ⟨#[]⟩, .int .i64 51]) ∧ w' = w := by
  unfold maxLen at hs
  rcases h with h | h
  · have e0 : ((s.size : Int) == 0) = true := by rw [h]; rfl
    have d0 : (0 : Int) < s.size ↔ False := by rw [h]; simp
    go_enter Tryz.func151, Tryz.ntmps151
    go_wp2
    all_goals go_ret2
    all_goals exact ⟨rfl, rfl⟩
  · have e0 : ((s.size : Int) == 0) = false := by simp only [beq_eq_false_iff_ne]; omega
    go_enter Tryz.func151, Tryz.ntmps151
    go_wp2
    go_ret2
    exact ⟨rfl, rfl⟩

theorem put_size (n : Nat) (k : Nat) : (ByteArray.mk (putL n k).toArray).size = k := by rw [bytes_size, putL_length]

theorem frame_parts (a : Nat) (s : ByteArray) (x : Nat) (hx : x = crcSum 0 (putL a 8 ++ s.data.toList)) :
    ByteArray.mk (putL s.size 4).toArray ++ ByteArray.mk (putL x 4).toArray ++ s ++ ByteArray.mk (putL s.size 4).toArray = frameB a s := by
  have hs : s = ByteArray.mk s.data.toList.toArray := (bytes_self s).symm
  generalize s.data.toList = L at *
  subst hs
  rw [bytes_add, bytes_add, bytes_add, hx, bytes_size]
  rfl

set_option maxHeartbeats 800000 in
set_option maxRecDepth 60000 in
theorem frame_ok (a : Nat) (s : ByteArray) (w : World) (ha : 1 ≤ a) (ha' : a < 18446744073709551616) (h1 : 1 ≤ s.size) (h2 : s.size ≤ 8192) :
    Calls Tryz.prog 151 #[.int .u64 a, .string s] w fun e w' => e = .returned (.tuple #[.string (frameB a s), .int .i64 0]) ∧ Below w.heap.size w w' := by
  have hx1 : crcSum 0 (putL a 8) < 4294967296 := crcSum_lt _ _
  have hx2 : crcSum (crcSum 0 (putL a 8)) s.data.toList < 4294967296 := crcSum_lt _ _
  have HX : Hid (crcSum (crcSum 0 (putL a 8)) s.data.toList = crcSum 0 (putL a 8 ++ s.data.toList)) := crcSum_append (by omega) _ _
  have hz8 := put_size a 8
  have e0 : ((s.size : Int) == 0) = false := by simp only [beq_eq_false_iff_ne]; omega
  have e1 : ((a : Int) == 0) = false := by simp only [beq_eq_false_iff_ne]; omega
  have hz4 := put_size s.size 4
  go_enter Tryz.func151, Tryz.ntmps151
  go_wp2_with fail
  refine (put_any s.size 4 w (by omega)).mono ?_
  rintro e w1 ⟨rfl, b1⟩
  rw [show longOf 4 = 4 from rfl]
  go_wp2_with fail
  refine (put_any a 8 _ ha').mono ?_
  rintro e w2 ⟨rfl, b2⟩
  rw [show longOf 8 = 8 from rfl]
  go_wp2_with fail
  refine (sum_any _ _ (by rw [put_size]; decide)).mono ?_
  rintro e w3 ⟨rfl, rfl⟩
  go_wp2_with fail
  refine (more_any _ s _ hx1 (by unfold maxLen; omega)).mono ?_
  rintro e w3 ⟨rfl, rfl⟩
  generalize crcSum (crcSum 0 (putL a 8)) s.data.toList = x at *
  have hz5 := put_size x 4
  go_wp2_with fail
  refine (put_any x 4 _ (by omega)).mono ?_
  rintro e w4 ⟨rfl, b4⟩
  rw [show longOf 4 = 4 from rfl]
  have HB : Hid (Below w.heap.size w w4) := (b1.trans (b2.mono b1.size)).trans (b4.mono (b1.trans (b2.mono b1.size)).size)
  have HF := frame_parts a s x HX.out
  clear b1 b2 b4
  go_wp2
  go_ret2
  exact ⟨rfl, HB.out⟩

theorem ne_lists {a b : ByteArray} (h : a ≠ b) : (a.toList == b.toList) = false := by
  rw [beq_eq_false_iff_ne, ByteArray.toList_eq, ByteArray.toList_eq]
  exact fun e => h (Go.WideShapes.bytes_inj e)

/-- How many bytes the frame has that stands at a place; 0: none. -/
def frameN (all : ByteArray) (a : Nat) : Nat :=
  if a + 4 ≤ all.size ∧ le (part all a 4) ≤ 8192 ∧ le (part all a 4) + 12 ≤ all.size - a ∧ 1 ≤ le (part all a 4) ∧
    frameB (a + 1) ((all.extract a (a + (le (part all a 4) + 12))).extract 8 (le (part all a 4) + 8)) = all.extract a (a + (le (part all a 4) + 12)) then le (part all a 4) + 12 else 0

set_option maxHeartbeats 400000 in
set_option maxRecDepth 4000 in
theorem frameAt_any (all : ByteArray) (a : Nat) (w : World) (ha : a ≤ all.size) (hs : all.size ≤ 1000000000) :
    Calls Tryz.prog 131 #[.string all, .int .i64 a] w fun e w' => e = .returned (.int .i64 (frameN all a)) ∧ Below w.heap.size w w' := by
  by_cases h4 : all.size < a + 4
  · have e : frameN all a = 0 := if_neg fun h => by omega
    rw [e]
    go_enter Tryz.func131, Tryz.ntmps131
    go_wp2_with fail
    refine (get_cut all a 4 _ (by omega) ha (by omega) (by unfold maxLen; omega)).mono ?_
    rintro e w1 ⟨rfl, rfl⟩
    go_wp2
    go_ret
    exact ⟨rfl, Below.refl _ _⟩
  have h4 : a + 4 ≤ all.size := by omega
  have HG : Hid (∀ W : World, Calls Tryz.prog 95 #[.string all, .int .i64 a, .int .i64 4] W fun e w' => e = .returned (.tuple #[.int .u64 (le (part all a 4)), .int .i64 0]) ∧ w' = W) :=
    fun W => get_ok all a 4 W (by omega) h4 (by unfold maxLen; omega)
  have hn : le (part all a 4) < 4294967296 := le_lt_of (n := 4) (by rw [part_length h4]; omega)
  have HN : Hid (frameN all a = if a + 4 ≤ all.size ∧ le (part all a 4) ≤ 8192 ∧ le (part all a 4) + 12 ≤ all.size - a ∧ 1 ≤ le (part all a 4) ∧
    frameB (a + 1) ((all.extract a (a + (le (part all a 4) + 12))).extract 8 (le (part all a 4) + 8)) = all.extract a (a + (le (part all a 4) + 12)) then le (part all a 4) + 12 else 0) := rfl
  generalize le (part all a 4) = n at *
  generalize frameN all a = N at *
  by_cases h1 : 8192 < n
  · have e : N = 0 := by rw [HN.out]; exact if_neg fun h => by omega
    subst e
    have d1 : decide ((8192 : Int) < (n : Int)) = true := by simp; omega
    clear HN
    go_enter Tryz.func131, Tryz.ntmps131
    go_wp2_with fail
    refine (HG.out _).mono ?_
    rintro e w1 ⟨rfl, rfl⟩
    go_wp2
    go_ret
    exact ⟨rfl, Below.refl _ _⟩
  have d1 : decide ((8192 : Int) < (n : Int)) = false := by simp; omega
  by_cases h2 : all.size - a < n + 12
  · have e : N = 0 := by rw [HN.out]; exact if_neg fun h => by omega
    subst e
    have d2 : decide ((all.size : Int) - (a : Int) < (n : Int) + 12) = true := by simp; omega
    clear HN
    go_enter Tryz.func131, Tryz.ntmps131
    go_wp2_with fail
    refine (HG.out _).mono ?_
    rintro e w1 ⟨rfl, rfl⟩
    go_wp2
    go_ret
    exact ⟨rfl, Below.refl _ _⟩
  have d2 : decide ((all.size : Int) - (a : Int) < (n : Int) + 12) = false := by simp; omega
  have hX : (all.extract a (a + (n + 12))).size = n + 12 := by rw [ByteArray.size_extract]; omega
  by_cases h3 : n < 1
  · have e : N = 0 := by rw [HN.out]; exact if_neg fun h => by omega
    subst e
    obtain rfl : n = 0 := by omega
    clear HN
    have hX : (all.extract a (a + 12)).size = 12 := hX
    have HF : Hid (∀ (X : ByteArray) (W : World), X.size = 0 → Calls Tryz.prog 151 #[.int .u64 ((a + 1 : Nat) : Int), .string X] W fun e w' => e = .returned (.tuple #[.string ⟨#[]⟩, .int .i64 51]) ∧ w' = W) :=
      fun X W hR => frame_record (a + 1) _ W (.inl hR) (by rw [hR]; decide)
    have hw8 : IntKind.i64.wrap 8 = 8 := by decide
    have hR : ∀ X : ByteArray, (X.extract 8 8).size = 0 := fun X => by rw [ByteArray.size_extract]; omega
    go_enter Tryz.func131, Tryz.ntmps131
    go_wp2_with fail
    refine (HG.out _).mono ?_
    rintro e w1 ⟨rfl, rfl⟩
    go_wp2_with fail
    generalize all.extract a (a + 12) = X at *
    go_region_held3 (fun w' => True) (first | trivial | go_keep)
      (first | (go_at_call 35; refine (lsn_any a _ (by omega)).mono ?_; rintro x w3 ⟨rfl, rfl⟩) | (go_at_call 151; refine (HF.out _ _ (by first | exact hR _ | rfl | omega)).mono ?_; rintro x w4 ⟨rfl, rfl⟩))
    go_wp2
    go_ret
    exact ⟨rfl, (Below.refl _ _).drew⟩
  have e3 : (1 : Int) ≤ n := by omega
  have hw8 : IntKind.i64.wrap ((n : Int) + 12 - 4) = ((n + 8 : Nat) : Int) := by rw [IntKind.wrap_i64]; omega
  have b1 : (0 : Int) ≤ (n : Int) + 8 := by omega
  have b2 : (8 : Int) ≤ (n : Int) + 8 := by omega
  have b3 : (n : Int) + 8 ≤ (n : Int) + 12 := by omega
  have hR : ((all.extract a (a + (n + 12))).extract 8 (n + 8)).size = n := by rw [ByteArray.size_extract]; omega
  have HF : Hid (∀ (W : World), Calls Tryz.prog 151 #[.int .u64 ((a + 1 : Nat) : Int), .string ((all.extract a (a + (n + 12))).extract 8 (n + 8))] W fun e w' => e = .returned (.tuple #[.string (frameB (a + 1) ((all.extract a (a + (n + 12))).extract 8 (n + 8))), .int .i64 0]) ∧ Below W.heap.size W w') :=
    fun W => frame_ok (a + 1) _ W (by omega) (by omega) (by omega) (by omega)
  have HN : Hid (N = if frameB (a + 1) ((all.extract a (a + (n + 12))).extract 8 (n + 8)) = all.extract a (a + (n + 12)) then n + 12 else 0) := by
    show N = _
    rw [HN.out]
    by_cases e : frameB (a + 1) ((all.extract a (a + (n + 12))).extract 8 (n + 8)) = all.extract a (a + (n + 12))
    · rw [if_pos e, if_pos ⟨h4, by omega, by omega, by omega, e⟩]
    · rw [if_neg e, if_neg fun h => e h.2.2.2.2]
  have hX' : ((all.extract a (a + (n + 12))).size : Int) = (n : Int) + 12 := by rw [hX]; rfl
  go_enter Tryz.func131, Tryz.ntmps131
  go_wp2_with fail
  refine (HG.out _).mono ?_
  rintro e w1 ⟨rfl, rfl⟩
  go_wp2_with fail
  generalize all.extract a (a + (n + 12)) = X at *
  go_region_held3 (fun w' => True) (first | trivial | go_keep)
    (first | (go_at_call 35; refine (lsn_any a _ (by omega)).mono ?_; rintro x w3 ⟨rfl, rfl⟩) | (go_at_call 151; refine (HF.out _).mono ?_; rintro x w4 ⟨rfl, b4⟩))
  generalize frameB (a + 1) (X.extract 8 (n + 8)) = Y at *
  by_cases e : Y = X
  · subst e
    have eN : N = n + 12 := by rw [HN.out, if_pos rfl]
    subst eN
    clear HN
    go_wp2
    go_ret
    exact ⟨rfl, ((Below.refl _ _).drew).trans b4⟩
  · have eN : N = 0 := by rw [HN.out, if_neg e]
    have e' := ne_lists e
    subst eN
    clear HN
    go_wp2
    go_ret
    exact ⟨rfl, ((Below.refl _ _).drew).trans b4⟩

end Go.Proofs.YtjemeopafkafgaaGreat
