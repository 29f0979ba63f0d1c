/-
  Plain mathematics: what a writer puts for a list of acts, and what a reader finds at each place of it.
-/
import Derived.Test.YtjfjijgdjlkhkaaWriterWalks
import Derived.Test.YtjfjijgdjlkhkaaReaderMore
import Derived.Test.YtjfjijgdjlkhkaaActs
namespace Go.Proofs.Ytjfjijgdjlkhkaa

/-- The bytes of one act of RawBack. -/
def encB (v : ActV) : List UInt8 := if v.kind = 0 then putL v.x 8 else if v.kind = 1 then textB v.S else putL (v.x % 2) 1

/-- The bytes of the first k acts. -/
def encL (A : Nat → ActV) : Nat → List UInt8
  | 0 => []
  | k + 1 => encL A k ++ encB (A k)

/-- How many letters the first k acts' texts have. -/
def sumS (A : Nat → ActV) : Nat → Nat
  | 0 => 0
  | k + 1 => sumS A k + (A k).S.size

theorem sumS_mono (A : Nat → ActV) {k m : Nat} (h : k ≤ m) : sumS A k ≤ sumS A m := by
  induction m with
  | zero => rw [show k = 0 from by omega]; exact Nat.le_refl _
  | succ m ih =>
    by_cases hk : k = m + 1
    · rw [hk]; exact Nat.le_refl _
    · have := ih (by omega); simp only [sumS]; omega

theorem sumS_at (A : Nat → ActV) {k m : Nat} (h : k < m) : (A k).S.size ≤ sumS A m := by
  have := sumS_mono A (show k + 1 ≤ m from h)
  simp only [sumS] at this; omega

theorem textB_len (s : ByteArray) : (textB s).length ≤ s.size + 2 := by
  unfold textB
  split
  · simp [putL_length]; omega
  · simp

theorem encB_len (v : ActV) : (encB v).length ≤ 10 + v.S.size := by
  unfold encB
  split
  · rw [putL_length]; omega
  · split
    · have := textB_len v.S; omega
    · rw [putL_length]; omega

theorem encL_len (A : Nat → ActV) (k : Nat) : (encL A k).length ≤ 10 * k + sumS A k := by
  induction k with
  | zero => simp [encL]
  | succ k ih =>
    have := encB_len (A k)
    simp only [encL, sumS, List.length_append]; omega

/-- What stands behind the first k acts. -/
theorem encL_split (A : Nat → ActV) {k m : Nat} (h : k < m) : ∃ post, encL A m = encL A k ++ (encB (A k) ++ post) := by
  induction m with
  | zero => omega
  | succ m ih =>
    by_cases hk : k = m
    · subst hk; exact ⟨[], by simp [encL]⟩
    · obtain ⟨post, hp⟩ := ih (by omega)
      exact ⟨post ++ encB (A m), by simp only [encL, hp, List.append_assoc]⟩

theorem part_mid {s : ByteArray} {pre mid post : List UInt8} (h : s.data.toList = pre ++ (mid ++ post)) : part s pre.length mid.length = mid := by
  unfold part; rw [h]; simp

theorem size_mid {s : ByteArray} {l : List UInt8} (h : s.data.toList = l) : s.size = l.length := by
  rw [← h]; simp

/-- A number is found again. -/
theorem num_back {s : ByteArray} {pre post : List UInt8} {x : Nat} (h : s.data.toList = pre ++ (putL x 8 ++ post)) (hx : x < 18446744073709551616) :
    numF s pre.length 0 8 = (pre.length + 8, 0, x) := by
  have hs := size_mid h
  have hp := part_mid h
  rw [putL_length] at hp
  have := numF_ok (s := s) (p := pre.length) 8 (by omega) (by rw [hs]; simp [putL_length])
  rw [hp, le_putL] at this
  rw [show (8 : Int) = ((8 : Nat) : Int) from rfl, this, Nat.mod_eq_of_lt hx]

theorem text_back {s S : ByteArray} {pre post : List UInt8} (h : s.data.toList = pre ++ ((putL S.size 2 ++ S.data.toList) ++ post)) (hS : S.size ≤ 65535) :
    textF s pre.length 0 65535 = (pre.length + (2 + S.size), 0, S.data.toList) := by
  have hs := size_mid h
  have h1 : s.data.toList = pre ++ (putL S.size 2 ++ (S.data.toList ++ post)) := by rw [h]; simp
  have h2 : s.data.toList = (pre ++ putL S.size 2) ++ (S.data.toList ++ post) := by rw [h]; simp
  have p1 := part_mid h1
  have p2 := part_mid h2
  rw [putL_length] at p1
  rw [List.length_append, putL_length, show S.data.toList.length = S.size from by simp] at p2
  have hle : le (part s pre.length 2) = S.size := by rw [p1, le_putL]; exact Nat.mod_eq_of_lt (by omega)
  have := textF_ok (s := s) (p := pre.length) 65535 (by rw [hle]; omega) (by rw [hle, hs]; simp [putL_length]; omega)
  rw [hle, p2] at this
  rw [this, Nat.add_assoc]

theorem bool_back {s : ByteArray} {pre post : List UInt8} {x : Nat} (h : s.data.toList = pre ++ (putL (x % 2) 1 ++ post)) :
    boolF s pre.length 0 = (pre.length + 1, 0, x % 2 == 1) := by
  have hs := size_mid h
  have hp := part_mid h
  rw [putL_length] at hp
  have hle : le (part s pre.length 1) = x % 2 := by rw [hp, le_putL]; exact Nat.mod_eq_of_lt (by omega)
  have := boolF_ok (s := s) (p := pre.length) (by rw [hs]; simp [putL_length]) (by rw [hle]; omega)
  rw [hle] at this
  exact this

end Go.Proofs.Ytjfjijgdjlkhkaa
