/-
  The walks of wal.lsnBehind, wal.Frame, girderlaw05.frame and wal.frameAt: a record's frame, and the frame that stands at a place.
-/
import Derived.Test.YtchjboijoebifaaGreatCrcJ
import Derived.Deep.RegionHeld3
import Derived.Test.YtchjboijoebifaaGreatDiskPartsJ
import Derived.StillTailTactics
set_option linter.unusedVariables false
set_option linter.unusedSimpArgs false
namespace Go.Proofs.YtchjboijoebifaaGreat
open Go.RowKit

def frameL (a : Nat) (s : List UInt8) : List UInt8 := putL s.length 4 ++ putL (crcSum 0 (putL a 8 ++ s)) 4 ++ s ++ putL s.length 4

def frameB (a : Nat) (s : ByteArray) : ByteArray := ⟨(frameL a s.data.toList).toArray⟩

theorem frameL_length (a : Nat) (s : List UInt8) : (frameL a s).length = s.length + 12 := by
  simp [frameL, putL_length]
  omega

theorem frameB_size (a : Nat) (s : ByteArray) : (frameB a s).size = s.size + 12 := by
  unfold frameB
  rw [bytes_size, frameL_length]
  simp

theorem lsn_any (n : Nat) (w : World) (hn : n ≤ 4611686018427387904) :
    Calls Tryz.prog 27 #[.int .i64 n] w fun e w' => e = .returned (.int .u64 ((n + 1 : Nat) : Int)) ∧ w' = w := by
  go_enter Tryz.func27, Tryz.ntmps27
  go_wp2
  go_ret
  exact ⟨by go_num, rfl⟩

theorem frame_record (a : Nat) (s : ByteArray) (w : World) (h : s.size = 0 ∨ 8192 < s.size) (hs : s.size ≤ maxLen) :
    Calls Tryz.prog 74 #[.int .u64 a, .string s] w fun e w' => e = .returned (.tuple #[.string ⟨#[]⟩, .int .i64 51]) ∧ w' = w := by
  unfold maxLen at hs
  rcases h with h | h
  · have e0 : ((s.size : Int) == 0) = true := by rw [h]; rfl
    have d0 : (0 : Int) < s.size ↔ False := by rw [h]; simp
    go_enter Tryz.func74, Tryz.ntmps74
    go_wp2
    all_goals go_ret2
    all_goals exact ⟨rfl, rfl⟩
  · have e0 : ((s.size : Int) == 0) = false := by simp only [beq_eq_false_iff_ne]; omega
    go_enter Tryz.func74, Tryz.ntmps74
    go_wp2
    go_ret2
    exact ⟨rfl, rfl⟩

theorem put_size (n : Nat) (k : Nat) : (ByteArray.mk (putL n k).toArray).size = k := by rw [bytes_size, putL_length]

theorem frame_parts (a : Nat) (s : ByteArray) (x : Nat) (hx : x = crcSum 0 (putL a 8 ++ s.data.toList)) :
    ByteArray.mk (putL s.size 4).toArray ++ ByteArray.mk (putL x 4).toArray ++ s ++ ByteArray.mk (putL s.size 4).toArray = frameB a s := by
  have hs : s = ByteArray.mk s.data.toList.toArray := (bytes_self s).symm
  generalize s.data.toList = L at *
  subst hs
  rw [bytes_add, bytes_add, bytes_add, hx, bytes_size]
  rfl

set_option maxHeartbeats 800000 in
set_option maxRecDepth 60000 in
theorem frame_ok (a : Nat) (s : ByteArray) (w : World) (ha : 1 ≤ a) (ha' : a < 18446744073709551616) (h1 : 1 ≤ s.size) (h2 : s.size ≤ 8192) :
    Calls Tryz.prog 74 #[.int .u64 a, .string s] w fun e w' => e = .returned (.tuple #[.string (frameB a s), .int .i64 0]) ∧ Below w.heap.size w w' := by
  have hx1 : crcSum 0 (putL a 8) < 4294967296 := crcSum_lt _ _
  have hx2 : crcSum (crcSum 0 (putL a 8)) s.data.toList < 4294967296 := crcSum_lt _ _
  have HX : Hid (crcSum (crcSum 0 (putL a 8)) s.data.toList = crcSum 0 (putL a 8 ++ s.data.toList)) := crcSum_append (by omega) _ _
  have hz8 := put_size a 8
  have e0 : ((s.size : Int) == 0) = false := by simp only [beq_eq_false_iff_ne]; omega
  have e1 : ((a : Int) == 0) = false := by simp only [beq_eq_false_iff_ne]; omega
  have hz4 := put_size s.size 4
  go_enter Tryz.func74, Tryz.ntmps74
  go_wp2_with fail
  refine (put_any s.size 4 w (by omega)).mono ?_
  rintro e w1 ⟨rfl, b1⟩
  rw [show longOf 4 = 4 from rfl]
  go_wp2_with fail
  refine (put_any a 8 _ ha').mono ?_
  rintro e w2 ⟨rfl, b2⟩
  rw [show longOf 8 = 8 from rfl]
  go_wp2_with fail
  refine (sum_any _ _ (by rw [put_size]; decide)).mono ?_
  rintro e w3 ⟨rfl, rfl⟩
  go_wp2_with fail
  refine (more_any _ s _ hx1 (by unfold maxLen; omega)).mono ?_
  rintro e w3 ⟨rfl, rfl⟩
  generalize crcSum (crcSum 0 (putL a 8)) s.data.toList = x at *
  have hz5 := put_size x 4
  go_wp2_with fail
  refine (put_any x 4 _ (by omega)).mono ?_
  rintro e w4 ⟨rfl, b4⟩
  rw [show longOf 4 = 4 from rfl]
  have HB : Hid (Below w.heap.size w w4) := (b1.trans (b2.mono b1.size)).trans (b4.mono (b1.trans (b2.mono b1.size)).size)
  have HF := frame_parts a s x HX.out
  clear b1 b2 b4
  go_wp2
  go_ret2
  exact ⟨rfl, HB.out⟩

theorem ne_lists {a b : ByteArray} (h : a ≠ b) : (a.toList == b.toList) = false := by
  rw [beq_eq_false_iff_ne, ByteArray.toList_eq, ByteArray.toList_eq]
  exact fun e => h (Go.WideShapes.bytes_inj e)

def frameN (all : ByteArray) (a : Nat) : Nat :=
  if a + 4 ≤ all.size ∧ le (part all a 4) ≤ 8192 ∧ le (part all a 4) + 12 ≤ all.size - a ∧ 1 ≤ le (part all a 4) ∧
    frameB (a + 1) ((all.extract a (a + (le (part all a 4) + 12))).extract 8 (le (part all a 4) + 8)) = all.extract a (a + (le (part all a 4) + 12)) then le (part all a 4) + 12 else 0

set_option maxHeartbeats 400000 in
set_option maxRecDepth 4000 in
theorem frameAt_any (all : ByteArray) (a : Nat) (w : World) (ha : a ≤ all.size) (hs : all.size ≤ 1000000000) :
    Calls Tryz.prog 100 #[.string all, .int .i64 a] w fun e w' => e = .returned (.int .i64 (frameN all a)) ∧ Below w.heap.size w w' := by
  by_cases h4 : all.size < a + 4
  · have e : frameN all a = 0 := if_neg fun h => by omega
    rw [e]
    go_enter Tryz.func100, Tryz.ntmps100
    go_wp2_with fail
    refine (get_cut all a 4 _ (by omega) ha (by omega) (by unfold maxLen; omega)).mono ?_
    rintro e w1 ⟨rfl, rfl⟩
    go_wp2
    go_ret
    exact ⟨rfl, Below.refl _ _⟩
  have h4 : a + 4 ≤ all.size := by omega
  have HG : Hid (∀ W : World, Calls Tryz.prog 76 #[.string all, .int .i64 a, .int .i64 4] W fun e w' => e = .returned (.tuple #[.int .u64 (le (part all a 4)), .int .i64 0]) ∧ w' = W) :=
    fun W => get_ok all a 4 W (by omega) h4 (by unfold maxLen; omega)
  have hn : le (part all a 4) < 4294967296 := le_lt_of (n := 4) (by rw [part_length h4]; omega)
  have HN : Hid (frameN all a = if a + 4 ≤ all.size ∧ le (part all a 4) ≤ 8192 ∧ le (part all a 4) + 12 ≤ all.size - a ∧ 1 ≤ le (part all a 4) ∧
    frameB (a + 1) ((all.extract a (a + (le (part all a 4) + 12))).extract 8 (le (part all a 4) + 8)) = all.extract a (a + (le (part all a 4) + 12)) then le (part all a 4) + 12 else 0) := rfl
  generalize le (part all a 4) = n at *
  generalize frameN all a = N at *
  by_cases h1 : 8192 < n
  · have e : N = 0 := by rw [HN.out]; exact if_neg fun h => by omega
    subst e
    have d1 : decide ((8192 : Int) < (n : Int)) = true := by simp; omega
    clear HN
    go_enter Tryz.func100, Tryz.ntmps100
    go_wp2_with fail
    refine (HG.out _).mono ?_
    rintro e w1 ⟨rfl, rfl⟩
    go_wp2
    go_ret
    exact ⟨rfl, Below.refl _ _⟩
  have d1 : decide ((8192 : Int) < (n : Int)) = false := by simp; omega
  by_cases h2 : all.size - a < n + 12
  · have e : N = 0 := by rw [HN.out]; exact if_neg fun h => by omega
    subst e
    have d2 : decide ((all.size : Int) - (a : Int) < (n : Int) + 12) = true := by simp; omega
    clear HN
    go_enter Tryz.func100, Tryz.ntmps100
    go_wp2_with fail
    refine (HG.out _).mono ?_
    rintro e w1 ⟨rfl, rfl⟩
    go_wp2
    go_ret
    exact ⟨rfl, Below.refl _ _⟩
  have d2 : decide ((all.size : Int) - (a : Int) < (n : Int) + 12) = false := by simp; omega
  have hX : (all.extract a (a + (n + 12))).size = n + 12 := by rw [ByteArray.size_extract]; omega
  by_cases h3 : n < 1
  · have e : N = 0 := by rw [HN.out]; exact if_neg fun h => by omega
    subst e
    obtain rfl : n = 0 := by omega
    clear HN
    have hX : (all.extract a (a + 12)).size = 12 := hX
    have HF : Hid (∀ (X : ByteArray) (W : World), X.size = 0 → Calls Tryz.prog 74 #[.int .u64 ((a + 1 : Nat) : Int), .string X] W fun e w' => e = .returned (.tuple #[.string ⟨#[]⟩, .int .i64 51]) ∧ w' = W) :=
      fun X W hR => frame_record (a + 1) _ W (.inl hR) (by rw [hR]; decide)
    have hw8 : IntKind.i64.wrap 8 = 8 := by decide
    have hR : ∀ X : ByteArray, (X.extract 8 8).size = 0 := fun X => by rw [ByteArray.size_extract]; omega
    go_enter Tryz.func100, Tryz.ntmps100
    go_wp2_with fail
    refine (HG.out _).mono ?_
    rintro e w1 ⟨rfl, rfl⟩
    go_wp2_with fail
    generalize all.extract a (a + 12) = X at *
    go_region_held3 (fun w' => True) (first | trivial | go_keep)
      (first | (go_at_call 27; refine (lsn_any a _ (by omega)).mono ?_; rintro x w3 ⟨rfl, rfl⟩) | (go_at_call 74; refine (HF.out _ _ (by first | exact hR _ | rfl | omega)).mono ?_; rintro x w4 ⟨rfl, rfl⟩))
    go_wp2
    go_ret
    exact ⟨rfl, (Below.refl _ _).drew⟩
  have e3 : (1 : Int) ≤ n := by omega
  have hw8 : IntKind.i64.wrap ((n : Int) + 12 - 4) = ((n + 8 : Nat) : Int) := by rw [IntKind.wrap_i64]; omega
  have b1 : (0 : Int) ≤ (n : Int) + 8 := by omega
  have b2 : (8 : Int) ≤ (n : Int) + 8 := by omega
  have b3 : (n : Int) + 8 ≤ (n : Int) + 12 := by omega
  have hR : ((all.extract a (a + (n + 12))).extract 8 (n + 8)).size = n := by rw [ByteArray.size_extract]; omega
  have HF : Hid (∀ (W : World), Calls Tryz.prog 74 #[.int .u64 ((a + 1 : Nat) : Int), .string ((all.extract a (a + (n + 12))).extract 8 (n + 8))] W fun e w' => e = .returned (.tuple #[.string (frameB (a + 1) ((all.extract a (a + (n + 12))).extract 8 (n + 8))), .int .i64 0]) ∧ Below W.heap.size W w') :=
    fun W => frame_ok (a + 1) _ W (by omega) (by omega) (by omega) (by omega)
  have HN : Hid (N = if frameB (a + 1) ((all.extract a (a + (n + 12))).extract 8 (n + 8)) = all.extract a (a + (n + 12)) then n + 12 else 0) := by
    show N = _
    rw [HN.out]
    by_cases e : frameB (a + 1) ((all.extract a (a + (n + 12))).extract 8 (n + 8)) = all.extract a (a + (n + 12))
    · rw [if_pos e, if_pos ⟨h4, by omega, by omega, by omega, e⟩]
    · rw [if_neg e, if_neg fun h => e h.2.2.2.2]
  have hX' : ((all.extract a (a + (n + 12))).size : Int) = (n : Int) + 12 := by rw [hX]; rfl
  go_enter Tryz.func100, Tryz.ntmps100
  go_wp2_with fail
  refine (HG.out _).mono ?_
  rintro e w1 ⟨rfl, rfl⟩
  go_wp2_with fail
  generalize all.extract a (a + (n + 12)) = X at *
  go_region_held3 (fun w' => True) (first | trivial | go_keep)
    (first | (go_at_call 27; refine (lsn_any a _ (by omega)).mono ?_; rintro x w3 ⟨rfl, rfl⟩) | (go_at_call 74; refine (HF.out _).mono ?_; rintro x w4 ⟨rfl, b4⟩))
  generalize frameB (a + 1) (X.extract 8 (n + 8)) = Y at *
  by_cases e : Y = X
  · subst e
    have eN : N = n + 12 := by rw [HN.out, if_pos rfl]
    subst eN
    clear HN
    go_wp2
    go_ret
    exact ⟨rfl, ((Below.refl _ _).drew).trans b4⟩
  · have eN : N = 0 := by rw [HN.out, if_neg e]
    have e' := ne_lists e
    subst eN
    clear HN
    go_wp2
    go_ret
    exact ⟨rfl, ((Below.refl _ _).drew).trans b4⟩

end Go.Proofs.YtchjboijoebifaaGreat

namespace Go.Proofs.YtchjboijoebifaaGreat
open Go.RowKit

theorem DiskAt.below {w w' : World} {p : Nat} {m : Mem} {d : DG} (h : DiskAt w p m d) (k : Below w.heap.size w w') : DiskAt w' p m d :=
  ⟨h.blk.same (k.block p h.lt), h.parts.same fun i hi => k.block i (h.rest_lt hi)⟩

section
variable {w : World} {p : Nat} {m : Mem} {d : DG}

end

end Go.Proofs.YtchjboijoebifaaGreat

namespace Go.Proofs.YtchjboijoebifaaGreat
open Go.RowKit

def LW.ok (x : LW) : Prop := x.page < 4294967296 ∧ x.s.size ≤ 512 ∧ (x.page ≠ 0 → x.s.size = 512)

structure DG.ok (d : DG) : Prop where
  loose : ∀ x ∈ d.loose, x.ok
  sure : ∀ q, (d.sure q).size = 512
  n : d.nS + d.loose.length ≤ 1000000
  log : d.log.length ≤ 4194304
  sl : d.sl ≤ d.log.length

theorem wcells_get (l : List LW) (i : Nat) (x : LW) (h : l[i]? = some x) (j : Nat) (hj : j < 3) : (l.flatMap wcells)[i * 3 + j]? = (wcells x)[j]? := by
  induction l generalizing i with
  | nil => simp at h
  | cons a l ih =>
    cases i with
    | zero =>
      simp only [List.getElem?_cons_zero, Option.some.injEq] at h
      subst h
      simp only [List.flatMap_cons, Nat.zero_mul, Nat.zero_add]
      rw [List.getElem?_append_left (by simpa [wcells] using hj)]
    | succ i =>
      simp only [List.getElem?_cons_succ] at h
      simp only [List.flatMap_cons]
      rw [List.getElem?_append_right (by simp [wcells]; omega)]
      have : (i + 1) * 3 + j - (wcells a).length = i * 3 + j := by simp [wcells]; omega
      rw [this]
      exact ih i h

theorem owns_cells {w : World} {e : TypeId} {z n : Nat} {g cap : Nat} {xs : List Value} (h : w.ownsRow 0 e z (.slice (some ⟨g, 0, none⟩) n cap) n xs) (k : Nat) (u : Value) (hk : xs[k]? = some u) : w.cell? ⟨g, k, none⟩ = some u := by
  rcases h.2 with ⟨e, _⟩ | ⟨g', c', cur, e, h0, hb, h1, h2, h3, h4⟩
  · cases e
  · cases e
    have hb' : Blk w g cur e := hb
    rw [hb'.cell k]
    rw [← h4, List.getElem?_take] at hk
    split at hk
    · simpa using hk
    · cases hk

section
variable {w : World} {p : Nat} {m : Mem} {d : DG}

end

end Go.Proofs.YtchjboijoebifaaGreat

namespace Go.Proofs.YtchjboijoebifaaGreat
open Go.RowKit

section
variable {w : World} {p : Nat} {m : Mem} {d : DG}

theorem below_drewN' (w : World) (n : Nat) : Below w.heap.size w (w.drewN n) := ⟨rfl, rfl, rfl, Nat.le_refl _, fun _ _ => rfl⟩

theorem ticked (hD : DiskAt w p m d) (n : Nat) : DiskAt ((w.drewN n).setCell ⟨p, 2, none⟩ (.int .i64 ((d.calls : Int) + 1))) p m { d with calls := d.calls + 1 } := by
  have h := (hD.below (below_drewN' w n)).set 2 (.int .i64 ((d.calls : Int) + 1))
  refine ⟨?_, h.2.to rfl rfl rfl rfl rfl rfl rfl⟩
  have e : dvals m { d with calls := d.calls + 1 } = (dvals m d).setIfInBounds 2 (.int .i64 ((d.calls : Int) + 1)) := by
    unfold dvals
    simp
  rw [e]
  exact h.1

set_option maxHeartbeats 1600000 in
set_option maxRecDepth 8000 in
theorem powered_none (hD : DiskAt w p m d) (hl : d.plan = []) (hc : d.calls ≤ 1000000) :
    Calls Tryz.prog 94 #[.pointer (some ⟨p, 0, none⟩)] w fun e w' => e = .returned (.bool true) ∧
      DiskAt w' p m { d with calls := d.calls + 1 } ∧ Kept (fun k => k = p) w w' := by
  have c2 := hD.blk.cells.c2
  have f2 := hD.blk.cells.fr 2
  have c3 := hD.blk.cells.c3
  have HT : Hid (∀ n, DiskAt ((w.drewN n).setCell ⟨p, 2, none⟩ (.int .i64 ((d.calls : Int) + 1))) p m { d with calls := d.calls + 1 }) := ticked hD
  obtain ⟨a, cap, hv⟩ : ∃ a cap, m.planV = .slice a 0 cap := by
    rcases hD.parts.plan with ⟨e, _⟩ | ⟨g, o, cap, cur, e, _⟩
    · exact ⟨_, _, e⟩
    · rw [hl] at e; exact ⟨_, _, e⟩
  rw [hv] at c3
  clear hD hl
  have hg : decide ((0 : Int) < 0) = false := by decide
  go_enter Tryz.func94, Tryz.ntmps94
  go_wp2
  go_quiet (fail)
  go_wp2
  go_ret
  exact ⟨rfl, HT.out _, ((Kept.refl _ _).drewN _).trans (Kept.setCell _ _ _ _ _ rfl)⟩

end

end Go.Proofs.YtchjboijoebifaaGreat

namespace Go.Proofs.YtchjboijoebifaaGreat
open Go.RowKit

def newD (room : Nat) : DG := ⟨room, false, 0, [], fun _ => zerosS, 0, [], fun _ => none, 0, [], 0, 0, 0⟩

set_option maxHeartbeats 1600000 in
set_option maxRecDepth 8000 in
theorem new_any (w : World) (room : Nat) (h1 : 8 ≤ room) (h2 : room ≤ 2048) :
    Calls Tryz.prog 16 #[.int .i64 room] w fun e w' => ∃ p, e = .returned (.tuple #[.pointer (some ⟨p, 0, none⟩), .int .i64 0]) ∧ (∃ m, DiskAt w' p m (newD room) ∧ (∀ k, m.has p k → w.heap.size ≤ k)) ∧ Below w.heap.size w w' := by
  have hmm := @run_makeMap Tryz.prog
  have h1' : (8 : Int) ≤ room := by omega
  have h2' : (room : Int) ≤ 2048 := by omega
  go_enter Tryz.func16, Tryz.ntmps16
  go_wp2
  go_ret2
  refine ⟨w.heap.size + 1 + 1, rfl, ⟨⟨.slice none 0 0, .slice none 0 0, .slice none 0 0, w.heap.size, w.heap.size + 1⟩, ⟨?_, ⟨.inl ⟨rfl, rfl⟩, ⟨fun _ => none, ?_, fun q _ _ => rfl⟩, ?_, by show w.heap.size ≠ w.heap.size + 1; omega, World.ownsRow_nil _ _ _ _, World.ownsRow_nil _ _ _ _⟩⟩, ?_⟩, ?_⟩
  · have h := Blk.made ((w.alloc (.map #[] 0)).alloc (.map #[] 0)) (dvals ⟨.slice none 0 0, .slice none 0 0, .slice none 0 0, w.heap.size, w.heap.size + 1⟩ (newD room)) 123
    have e : ((w.alloc (.map #[] 0)).alloc (.map #[] 0)).heap.size = w.heap.size + 1 + 1 := by simp
    rw [e] at h
    exact h
  · exact (IsPages.made w).same ((heap_old _ _ (by simp; omega)).trans (heap_old _ _ (by simp)))
  · have h := IsPages.made (w.alloc (.map #[] 0))
    have e : (w.alloc (.map #[] 0)).heap.size = w.heap.size + 1 := by simp
    rw [e] at h
    exact h.same (heap_old _ _ (by simp))
  · rintro k (h | h | h | h | h | h)
    · omega
    · simp only at h; omega
    · simp only at h; omega
    · cases h
    · cases h
    · cases h
  · exact (((Below.refl _ _).alloc (Nat.le_refl _) _).alloc (by simp) _).alloc (by simp; omega) _

theorem moved {w w' : World} {p : Nat} {m m' : Mem} {d d' : DG} {S S0 : Nat → Prop} (h : DiskAt w p m d) (hS : ∀ k, m.has p k → S k) (h' : DiskAt w' p m' d') (hr : ∀ k, m'.rest k → m.rest k ∨ w.heap.size ≤ k) (hk : Kept S0 w w') (h0 : ∀ k, S0 k → m.has p k) :
    ∃ S', IsDisk w' p S' d' ∧ Moves S S' w w' := by
  refine ⟨m'.has p, ⟨m', h', fun _ x => x, ?_⟩, hk.mono fun k x => hS k (h0 k x), ?_⟩
  · rintro k (rfl | x)
    · exact h'.lt
    · exact h'.rest_lt x
  · rintro k (rfl | x)
    · exact .inl (hS k (.inl rfl))
    · rcases hr k x with y | y
      · exact .inl (hS k (.inr y))
      · exact .inr y

section
variable {w : World} {p : Nat} {S : Nat → Prop} {d : DG}

set_option maxHeartbeats 1600000 in
set_option maxRecDepth 8000 in
theorem readLog_out (h : IsDisk w p S d) (hd : d.dead = false) :
    Calls Tryz.prog 56 #[.pointer (some ⟨p, 0, none⟩)] w fun x w' => x = .returned (.tuple #[.string ⟨d.log.toArray⟩, .int .i64 0]) ∧ Below w.heap.size w w' := by
  obtain ⟨m, hD, _⟩ := h
  have c9 := hD.blk.cells.c9
  have hc : ∀ W : World, W.heap = w.heap → (convert 92 9 m.logV).run Tryz.prog W = .ok (.string ⟨d.log.toArray⟩) W := by
    intro W hW
    have hlog := owns_same (w' := W) hD.parts.log fun g _ => by rw [hW]
    rcases hlog.2 with ⟨e1, e2⟩ | ⟨g, cap, cur, e1, h0, hb, h1, h2, h3, h4⟩
    · have hl : d.log = [] := List.eq_nil_of_length_eq_zero e2
      rw [e1, hl]
      have := run_convert_bytes_string (P := Tryz.prog) W 92 9 5 none 0 0 Tryz.underlying92 Tryz.underlying5 Tryz.underlying9
      rw [this]
      rfl
    · rw [e1]
      refine run_convert_bytes_back W 92 9 5 ⟨g, 0, none⟩ cap d.log Tryz.underlying92 Tryz.underlying5 Tryz.underlying9 ?_
      intro j hj
      rw [e1] at hlog
      have := owns_cells hlog j (.int .u8 (d.log[j].toNat : Int)) (by simp [dcellsOf, hj])
      simpa [Addr.add_lit] using this
  have HD : Hid (DiskAt w p m d) := hD
  have hc0 := hc w rfl
  clear hD hc
  generalize m.logV = v at *
  go_enter Tryz.func56, Tryz.ntmps56
  go_wp2_with fail
  refine (dead_any HD.out.blk.cells).mono ?_
  rintro x w1 ⟨rfl, rfl⟩
  rw [hd]
  go_wp2
  go_ret2
  exact ⟨rfl, Below.refl _ _⟩

end

end Go.Proofs.YtchjboijoebifaaGreat
